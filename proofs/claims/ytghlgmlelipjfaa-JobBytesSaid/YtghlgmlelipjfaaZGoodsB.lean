/- The document's Norm. What Norm answers, in one word; the document's Size, Count, both, Add. The document's Same, of any two rows. The document's Check. -/
import Derived.Test.YtghlgmlelipjfaaZGoodsA
import Derived.Laws.StructEq
namespace Go.Proofs.Ytghlgmlelipjfaa.Goods
open Go.RowKit Go.Lib

theorem below_cat {B : Nat} {a b c : World} (h : Below B a b) (k : Below B b c) : Below B a c := ⟨k.os.trans h.os, k.tape.trans h.tape, k.output.trans h.output, Nat.le_trans h.size k.size, fun q hq => (k.block q hq).trans (h.block q hq)⟩
theorem nth_at {l : List St} {i : Nat} (h : i < l.length) : ∃ t, l[i]? = some t := ⟨l[i], List.getElem?_eq_getElem h⟩
set_option maxRecDepth 100000 in
set_option maxHeartbeats 8000000 in
theorem dnorm (a : Option Addr) (n c : Nat) (l : List St) (w : World) (hl : l.length = n) (hs : Sts w a l) (hn : n ≤ 4096) :
    Calls Try.prog 56 #[.slice a n c] w fun e w' => Below w.heap.size w w' ∧ ((¬ Fine l ∧ e = .returned (.tuple #[.slice none 0 0, .int .i64 1])) ∨ (Fine l ∧ Over l ∧ e = .returned (.tuple #[.slice none 0 0, .int .i64 5])) ∨
      (Fine l ∧ ¬ Over l ∧ ∃ v, e = .returned (.tuple #[v, .int .i64 0]) ∧ OwnS w' w.heap.size v (nl l))) := by
  have hn1 : (n : Int) ≤ 1048576 := by omega
  have HL := Lib.hid hl
  have HT : Hid (∀ W i, Below w.heap.size w W → i < n → ∃ g off t, a = some ⟨g, off, none⟩ ∧ Hid (l[i]? = some t) ∧ W.cell? ⟨g, off + i * 2, none⟩ = some (.int .i64 t.kind) ∧ W.cell? ⟨g, off + i * 2 + 1, none⟩ = some (.int .i64 t.qty)) := Lib.hid (fun W i hW hi => by
    obtain ⟨t, ht⟩ := nth_at (by omega : i < l.length)
    obtain ⟨g, off, e, _, k0, k1⟩ := (hs.under hW) i t ht
    exact ⟨g, off, t, e, Lib.hid ht, k0, k1⟩)
  have HA : Hid (∀ W s p k, Below w.heap.size w W → OwnS W w.heap.size s (upto l p) → upto l k = upto l p ++ [⟨k, cnt l k⟩] → ∀ m, cnt l k = m → ∃ v' w', (Builtin.append_ #[22, 22] 22 #[s, .slice (some ⟨W.heap.size, 0, none⟩) 1 1]).run Try.prog (W.alloc (.cells #[.int .i64 k, .int .i64 m] 74)) = .ok v' w' ∧
      Hid (OwnS w' w.heap.size v' (upto l k) ∧ Below w.heap.size w w')) := Lib.hid (fun W s p k hW ho hu m hm => by
    subst hm
    have hlen : (upto l p).length ≤ l.length := by
      have h1 : (upto l p).length ≤ (nl l).length := List.length_filter_le _ _
      have h2 : ∀ l : List St, (nl l).length ≤ l.length := fun l => by
        induction l with
        | nil => simp [nl]
        | cons x l ih =>
          have h3 : ∀ m : List St, (addS x m).length ≤ m.length + 1 := fun m => by
            induction m with
            | nil => unfold addS; split <;> simp
            | cons y m ihm =>
              unfold addS
              split
              · split <;> simp
              · split
                · simp
                · simp; omega
          have := h3 (nl l)
          simp [nl]
          omega
      have := h2 l
      omega
    have hal := hW.alloc hW.size (.cells #[.int .i64 k, .int .i64 (cnt l k)] 74)
    obtain ⟨v', w', hr, h2, h3⟩ := app_st (W.alloc (.cells #[.int .i64 k, .int .i64 (cnt l k)] 74)) w.heap.size s (upto l p) [⟨k, cnt l k⟩] (ho.alloc _) (some ⟨W.heap.size, 0, none⟩) 1 1 rfl (fun j u hj => ⟨_, rfl, by
      have hblk := heap_alloc_new W (.cells #[.int .i64 k, .int .i64 (cnt l k)] 74)
      rw [addr_add, Nat.zero_add]
      refine cell_block (j := j) hblk ?_
      rw [← Array.getElem?_toList]
      exact hj⟩) (by simp; omega) hal.size
    rw [← hu] at h2
    exact ⟨v', w', hr, Lib.hid ⟨h2, below_cat hal h3⟩⟩)
  have H0 : Hid (Fine l → OwnS w w.heap.size (.slice none 0 0) (upto l 0)) := Lib.hid (fun h => by rw [upto_low h]; exact World.ownsRow_nil _ _ _ _)
  clear hl hs hn
  go_enter Try.func56, Try.ntmps56
  go_wp2_with fail
  go_loopw [4] (fun t wr => ∃ i : Nat, t = .int .i64 i ∧ i ≤ n ∧ w = wr ∧ Hid (∀ s ∈ l.take i, 1 ≤ s.kind ∧ 0 ≤ s.qty)) (fun t _ => n - (RowKit.intOf t).toNat)
  case atStart => exact ⟨0, rfl, by omega, rfl, Lib.hid (fun s hs => by simp at hs)⟩
  case round =>
    obtain ⟨i, rfl, hi, rfl, HI⟩ := hrel
    have hi0 : (0 : Int) ≤ (i : Int) := by omega
    by_cases hlt : i < n
    · have hlt2 : (i : Int) < (n : Int) := by omega
      obtain ⟨g, off, t, rfl, ht, k0, k1⟩ := HT.out w i (Below.refl _ _) hlt
      by_cases c1 : t.kind < 1
      · have HE : Hid (¬ Fine l) := Lib.hid (fun h => by have := (h t (List.mem_of_getElem? ht.out)).1; omega)
        go_wp2_with fail
        go_ret2
        exact ⟨Below.refl _ _, .inl ⟨HE.out, rfl⟩⟩
      by_cases c2 : t.qty < 0
      · have HE : Hid (¬ Fine l) := Lib.hid (fun h => by have := (h t (List.mem_of_getElem? ht.out)).2; omega)
        go_wp2_with fail
        go_ret2
        exact ⟨Below.refl _ _, .inl ⟨HE.out, rfl⟩⟩
      have HI2 : Hid (∀ s ∈ l.take (i + 1), 1 ≤ s.kind ∧ 0 ≤ s.qty) := Lib.hid (fun s hs => by
        rcases (mem_take_succ ht.out).1 hs with hs | rfl
        · exact HI.out s hs
        · exact ⟨by omega, by omega⟩)
      go_wp2_with fail
      go_roundw
      case rel => exact ⟨i + 1, by go_num, by omega, by first | rfl | trivial, HI2⟩
      case measure => simp [RowKit.intOf]; omega
    · obtain rfl : i = n := by omega
      have HF : Hid (Fine l) := Lib.hid (fun s hs => HI.out s (by rw [List.take_of_length_le (by rw [HL.out]; exact Nat.le_refl _)]; exact hs))
      have HO := Lib.hid (H0.out HF.out)
      have HC0 : Hid (∀ k, k ≤ 0 → cnt l k ≤ mq) := Lib.hid (fun k hk => by
        rw [cnt_none fun s hs => by have := (HF.out s hs).1; omega]
        unfold mq
        omega)
      clear H0 HI hi0
      go_wp2_with fail
      go_loopw [5, 6] (fun s t wr => ∃ p : Int, t = .int .i64 p ∧ 0 ≤ p ∧ Hid (OwnS wr w.heap.size s (upto l p)) ∧ Hid (Below w.heap.size w wr) ∧ Hid (∀ k, k ≤ p → cnt l k ≤ mq)) (fun _ t _ => (l.filter fun x => decide (RowKit.intOf t < x.kind)).length)
      case atStart => exact ⟨0, rfl, Int.le_refl _, HO, Lib.hid (Below.refl _ _), HC0⟩
      case round =>
        clear HO HC0
        obtain ⟨p, rfl, hp, HO, HB, HC⟩ := hrel
        go_wp2_with fail
        go_loopw [7, 8] (fun s t wx => ∃ (k : Int) (j : Nat), s = .int .i64 k ∧ t = .int .i64 j ∧ j ≤ i ∧ wr = wx ∧ Hid (LeastK l p j k)) (fun _ t _ => i - (RowKit.intOf t).toNat)
        case atStart => exact ⟨0, 0, rfl, rfl, by omega, rfl, Lib.hid (least_zero l p)⟩
        case round =>
          obtain ⟨k, j, rfl, rfl, hj, rfl, HK⟩ := hrel
          have hj0 : (0 : Int) ≤ (j : Int) := by omega
          by_cases hlt : j < i
          · have hlt2 : (j : Int) < (i : Int) := by omega
            obtain ⟨g, off, t, rfl, ht, k0, k1⟩ := HT.out wr j HB.out hlt
            by_cases c1 : p < t.kind
            · by_cases c2 : k = 0
              · have HK2 := Lib.hid (least_new HK.out hp ht.out c1 (.inl c2))
                subst c2
                go_wp2_with fail
                go_roundw
                case rel => exact ⟨t.kind, j + 1, rfl, by go_num, by omega, by first | rfl | trivial, HK2⟩
                case measure => simp [RowKit.intOf]; omega
              · have c2' : (k == 0) = false := by simpa using c2
                by_cases c3 : t.kind < k
                · have HK2 := Lib.hid (least_new HK.out hp ht.out c1 (.inr c3))
                  clear c2
                  go_wp2_with fail
                  go_roundw
                  case rel => exact ⟨t.kind, j + 1, rfl, by go_num, by omega, by first | rfl | trivial, HK2⟩
                  case measure => simp [RowKit.intOf]; omega
                · have HK2 := Lib.hid (least_old HK.out ht.out (.inr ⟨c2, by omega⟩))
                  clear c2
                  go_wp2_with fail
                  go_roundw
                  case rel => exact ⟨k, j + 1, rfl, by go_num, by omega, by first | rfl | trivial, HK2⟩
                  case measure => simp [RowKit.intOf]; omega
            · have HK2 := Lib.hid (least_old HK.out ht.out (.inl c1))
              go_wp2_with fail
              go_roundw
              case rel => exact ⟨k, j + 1, rfl, by go_num, by omega, by first | rfl | trivial, HK2⟩
              case measure => simp [RowKit.intOf]; omega
          · obtain rfl : j = i := by omega
            have htk : l.take j = l := List.take_of_length_le (by rw [HL.out]; exact Nat.le_refl _)
            by_cases c0 : k = 0
            · subst c0
              have HE : Hid (¬ Over l ∧ upto l p = nl l) := Lib.hid (by
                have hall : ∀ s ∈ l, s.kind ≤ p := fun s hs => by
                  by_cases h : p < s.kind
                  · exact absurd rfl (HK.out.all s (by rw [htk]; exact hs) h).1
                  · omega
                refine ⟨fun ⟨k, hk⟩ => ?_, upto_all HF.out hall⟩
                by_cases h : k ≤ p
                · have := HC.out k h; omega
                · rw [cnt_none fun s hs => by have := hall s hs; omega] at hk
                  unfold mq at hk
                  omega)
              clear htk
              go_wp2_with fail
              go_ret2
              exact ⟨HB.out, .inr (.inr ⟨HF.out, HE.out.1, _, rfl, by rw [← HE.out.2]; exact HO.out⟩)⟩
            · have c0' : (k == 0) = false := by simpa using c0
              have HKK : Hid (p < k ∧ (∃ s ∈ l, s.kind = k) ∧ ∀ s ∈ l, p < s.kind → k ≤ s.kind) := Lib.hid (by
                rcases HK.out.is with h | ⟨h1, h2⟩
                · exact absurd h c0
                · rw [htk] at h2
                  exact ⟨h1, h2, fun s hs h3 => (HK.out.all s (by rw [htk]; exact hs) h3).2⟩)
              clear htk c0 HK
              go_wp2_with fail
              go_loopw [9, 10] (fun s t wx => ∃ (m : Int) (x : Nat), s = .int .i64 m ∧ t = .int .i64 x ∧ x ≤ j ∧ wr = wx ∧ 0 ≤ m ∧ m ≤ 2 ^ 50 ∧ Hid (cnt (l.take x) k = m)) (fun _ t _ => j - (RowKit.intOf t).toNat)
              case atStart => exact ⟨0, 0, rfl, rfl, by omega, rfl, Int.le_refl _, by omega, Lib.hid rfl⟩
              case round =>
                obtain ⟨m, x, rfl, rfl, hx, rfl, hm0, hm1, HM⟩ := hrel
                have hx0 : (0 : Int) ≤ (x : Int) := by omega
                by_cases hlt : x < j
                · have hlt2 : (x : Int) < (j : Int) := by omega
                  obtain ⟨g, off, t, rfl, ht, k0, k1⟩ := HT.out wr x HB.out hlt
                  by_cases c1 : t.kind = k
                  · have c1' : (t.kind == k) = true := by simpa using c1
                    have HS : Hid (cnt (l.take (x + 1)) k = m + t.qty) := Lib.hid (by rw [cnt_take_succ ht.out, HM.out, if_pos c1])
                    have HTQ : Hid (0 ≤ t.qty) := Lib.hid (HF.out t (List.mem_of_getElem? ht.out)).2
                    clear c1
                    by_cases c2 : 1125899906842624 - m < t.qty
                    · have HE : Hid (Over l) := Lib.hid ⟨k, by
                        have h1 := cnt_take_le HF.out (x + 1) k
                        have h2 := HS.out
                        unfold mq
                        omega⟩
                      go_wp2_with fail
                      go_ret2
                      exact ⟨HB.out, .inr (.inl ⟨HF.out, HE.out, rfl⟩)⟩
                    · have hq0 := HTQ.out
                      have hmq : m + t.qty ≤ 2 ^ 50 := by omega
                      have hmq0 : 0 ≤ m + t.qty := by omega
                      go_wp2_with fail
                      go_roundw
                      case rel => exact ⟨m + t.qty, x + 1, by go_num, by go_num, by omega, by first | rfl | trivial, hmq0, hmq, HS⟩
                      case measure => simp [RowKit.intOf]; omega
                  · have c1' : (t.kind == k) = false := by simpa using c1
                    have HS : Hid (cnt (l.take (x + 1)) k = m) := Lib.hid (by rw [cnt_take_succ ht.out, HM.out, if_neg c1]; omega)
                    clear c1
                    go_wp2_with fail
                    go_roundw
                    case rel => exact ⟨m, x + 1, rfl, by go_num, by omega, by first | rfl | trivial, hm0, hm1, HS⟩
                    case measure => simp [RowKit.intOf]; omega
                · obtain rfl : x = j := by omega
                  have HMM : Hid (cnt l k = m) := Lib.hid (by
                    have := HM.out
                    rw [List.take_of_length_le (by rw [HL.out]; exact Nat.le_refl _)] at this
                    exact this)
                  have HC2 : Hid (∀ z, z ≤ k → cnt l z ≤ mq) := Lib.hid (fun z hz => by
                    by_cases h : z ≤ p
                    · exact HC.out z h
                    · by_cases e : z = k
                      · rw [e, HMM.out]; unfold mq; omega
                      · rw [cnt_none fun s hs e2 => by have := HKK.out.2.2 s hs (by omega); omega]
                        unfold mq
                        omega)
                  have HME : Hid ((l.filter fun x => decide (k < x.kind)).length < (l.filter fun x => decide (p < x.kind)).length) := Lib.hid (by
                    obtain ⟨s, hs, e⟩ := HKK.out.2.1
                    exact left_less HKK.out.1 hs e)
                  have hk0 : 0 ≤ k := by have := HKK.out.1; omega
                  by_cases c2 : 0 < m
                  · have HU : Hid (upto l k = upto l p ++ [⟨k, cnt l k⟩]) := Lib.hid (upto_next HF.out HKK.out.1 HKK.out.2.2 (by have := HKK.out.1; omega) (by rw [HMM.out]; exact c2))
                    obtain ⟨v', w2, hr, HO2⟩ := HA.out wr _ p k HB.out HO.out HU.out m HMM.out
                    have HR := Lib.hid hr
                    have HO3 := Lib.hid HO2.out.1; have HB3 := Lib.hid HO2.out.2
                    clear hr
                    go_wp2_with (at_builtin; refine walk_run (v' := v') (w' := w2) rfl _ _ _ _ rfl _ _ rfl rfl ?_ ?_; exact HR.out)
                    go_roundw
                    case rel => exact ⟨k, rfl, hk0, HO3, HB3, HC2⟩
                    case measure => simp only [RowKit.intOf]; exact HME.out
                  · have HU : Hid (OwnS wr w.heap.size _ (upto l k)) := Lib.hid (by
                      rw [upto_none HF.out HKK.out.1 HKK.out.2.2 (by rw [HMM.out]; omega)]
                      exact HO.out)
                    go_wp2_with fail
                    go_roundw
                    case rel => exact ⟨k, rfl, hk0, HU, HB, HC2⟩
                    case measure => simp only [RowKit.intOf]; exact HME.out
end Go.Proofs.Ytghlgmlelipjfaa.Goods
namespace Go.Proofs.Ytghlgmlelipjfaa.Goods
open Go.RowKit Go.Lib

open Classical in
/-- The error that Norm tells. -/
noncomputable def errN (l : List St) : Int := if Fine l then (if Over l then 5 else 0) else 1
open Classical in
noncomputable def valN (l : List St) : List St := if errN l = 0 then nl l else []
theorem errN_bad {l : List St} (h : ¬ Fine l) : errN l = 1 := by unfold errN; rw [if_neg h]
theorem errN_over {l : List St} (h : Fine l) (h2 : Over l) : errN l = 5 := by unfold errN; rw [if_pos h, if_pos h2]
theorem errN_ok {l : List St} (h : Fine l) (h2 : ¬ Over l) : errN l = 0 := by unfold errN; rw [if_pos h, if_neg h2]
theorem valN_none {l : List St} (h : errN l ≠ 0) : valN l = [] := by unfold valN; rw [if_neg h]
theorem valN_ok {l : List St} (h : errN l = 0) : valN l = nl l := by unfold valN; rw [if_pos h]
theorem errN_zero {l : List St} (h : errN l = 0) : Fine l ∧ ¬ Over l := by
  unfold errN at h
  split at h
  · rename_i h1
    split at h
    · omega
    · rename_i h2
      exact ⟨h1, h2⟩
  · omega
theorem len_addS (s : St) : ∀ m : List St, (addS s m).length ≤ m.length + 1
  | [] => by unfold addS; split <;> simp
  | y :: m => by
    have ihm := len_addS s m
    unfold addS
    split
    · split <;> simp
    · split
      · simp
      · simp; omega
theorem len_nl : ∀ l : List St, (nl l).length ≤ l.length
  | [] => by simp [nl]
  | x :: l => by
    have h1 := len_addS x (nl l)
    have h2 := len_nl l
    simp [nl]
    omega
theorem len_valN (l : List St) : (valN l).length ≤ l.length := by
  unfold valN
  split
  · exact len_nl l
  · simp
theorem norm_valN (l : List St) : Norm (valN l) := by
  unfold valN
  split
  · rename_i h
    exact norm_nl (errN_zero h).1
  · exact ⟨.nil, fun _ h => by simp at h, fun _ h => by simp at h⟩
theorem valN_le (l : List St) : ∀ s ∈ valN l, s.qty ≤ mq := by
  unfold valN
  split
  · rename_i h
    obtain ⟨h1, h2⟩ := errN_zero h
    intro s hs
    have h3 := cnt_at (norm_nl h1).rise hs
    rw [cnt_nl] at h3
    have h4 : ¬ mq < cnt l s.kind := fun e => h2 ⟨s.kind, e⟩
    omega
  · intro s hs
    simp at hs
theorem tot_le : ∀ {l : List St}, (∀ s ∈ l, 0 ≤ s.qty ∧ s.qty ≤ mq) → 0 ≤ tot l ∧ tot l ≤ l.length * mq
  | [], _ => by simp [tot]
  | s :: l, h => by
    have h1 := h s (by simp)
    have h2 := tot_le fun x hx => h x (List.mem_cons_of_mem _ hx)
    rw [tot, List.length_cons]
    unfold mq at *
    constructor
    · omega
    · push_cast
      omega
theorem tot_take_succ {l : List St} {i : Nat} {t : St} (h : l[i]? = some t) : tot (l.take (i + 1)) = tot (l.take i) + t.qty := by
  rw [List.take_add_one, h, tot_append]
  simp [tot]
/-- The stacks of a row, wherever it lies. -/
theorem sts_at {w : World} {a : Option Addr} {l : List St} (h : Sts w a l) : Hid (∀ W i, Below w.heap.size w W → i < l.length → ∃ g off t, a = some ⟨g, off, none⟩ ∧ Hid (l[i]? = some t) ∧ W.cell? ⟨g, off + i * 2, none⟩ = some (.int .i64 t.kind) ∧ W.cell? ⟨g, off + i * 2 + 1, none⟩ = some (.int .i64 t.qty)) := Lib.hid (fun W i hW hi => by
  obtain ⟨t, ht⟩ := nth_at hi
  obtain ⟨g, off, e, _, k0, k1⟩ := (h.under hW) i t ht
  exact ⟨g, off, t, e, Lib.hid ht, k0, k1⟩)
theorem dnorm2 (a : Option Addr) (n c : Nat) (l : List St) (w : World) (hl : l.length = n) (hs : Sts w a l) (hn : n ≤ 4096) :
    Calls Try.prog 56 #[.slice a n c] w fun e w' => ∃ a' m c', e = .returned (.tuple #[.slice a' m c', .int .i64 (errN l)]) ∧ (errN l ≠ 0 → a' = none ∧ m = 0 ∧ c' = 0) ∧ Hid ((valN l).length = m ∧ Sts w' a' (valN l) ∧ OwnS w' w.heap.size (.slice a' m c') (valN l) ∧ Below w.heap.size w w') := by
  refine (dnorm a n c l w hl hs hn).mono ?_
  rintro e w' ⟨hb, h | h | h⟩
  · obtain ⟨h1, rfl⟩ := h
    have he := errN_bad h1
    have hv := valN_none (by rw [he]; decide : errN l ≠ 0)
    rw [he, hv]
    exact ⟨none, 0, 0, rfl, fun _ => ⟨rfl, rfl, rfl⟩, Lib.hid ⟨rfl, fun i t hi => by simp at hi, World.ownsRow_nil _ _ _ _, hb⟩⟩
  · obtain ⟨h1, h2, rfl⟩ := h
    have he := errN_over h1 h2
    have hv := valN_none (by rw [he]; decide : errN l ≠ 0)
    rw [he, hv]
    exact ⟨none, 0, 0, rfl, fun _ => ⟨rfl, rfl, rfl⟩, Lib.hid ⟨rfl, fun i t hi => by simp at hi, World.ownsRow_nil _ _ _ _, hb⟩⟩
  · obtain ⟨h1, h2, v, rfl, ho⟩ := h
    have he := errN_ok h1 h2
    have hv := valN_ok he
    rw [he, hv]
    obtain ⟨a', c', rfl, hst⟩ := sts_own ho
    exact ⟨a', _, c', rfl, fun h => absurd rfl h, Lib.hid ⟨rfl, hst, ho, hb⟩⟩
end Go.Proofs.Ytghlgmlelipjfaa.Goods
namespace Go.Proofs.Ytghlgmlelipjfaa.Goods
open Go.RowKit Go.Lib

theorem St.ext' {t u : St} (h1 : t.kind = u.kind) (h2 : t.qty = u.qty) : t = u := by cases t; cases u; simp at h1 h2; rw [h1, h2]
theorem take_ne {l k : List St} {i : Nat} {t u : St} (h1 : l[i]? = some t) (h2 : k[i]? = some u) (h : t ≠ u) : l ≠ k := fun e => h (by rw [e, h2] at h1; injection h1 with h1; exact h1.symm)
theorem take_both {l k : List St} {i : Nat} {t : St} (h1 : l[i]? = some t) (h2 : k[i]? = some t) (h : l.take i = k.take i) : l.take (i + 1) = k.take (i + 1) := by
  rw [List.take_add_one, List.take_add_one, h1, h2, h]
open Classical in
set_option maxRecDepth 100000 in
set_option maxHeartbeats 2000000 in
theorem dsame (a : Option Addr) (n c : Nat) (l : List St) (b : Option Addr) (m d : Nat) (k : List St) (w : World) (hl : l.length = n) (hs : Sts w a l) (hn : n ≤ 1048576) (hk : k.length = m) (ht : Sts w b k) (hm : m ≤ 1048576) :
    Calls Try.prog 28 #[.slice a n c, .slice b m d] w fun e w' => e = .returned (.bool (decide (l = k))) ∧ Below w.heap.size w w' := by
  by_cases hnm : n = m
  · subst hnm
    have HL := Lib.hid hl; have HK := Lib.hid hk
    have H1 := sts_at hs; have H2 := sts_at ht
    have hn1 : (n : Int) ≤ 1048576 := by omega
    have hee : ((n : Int) == (n : Int)) = true := by simp
    clear hl hs hn hk ht hm
    go_enter Try.func28, Try.ntmps28
    go_wp2_with fail
    go_loopw [5] (fun s wr => ∃ i : Nat, s = .int .i64 i ∧ i ≤ n ∧ Hid (Below w.heap.size w wr) ∧ Hid (l.take i = k.take i)) (fun s _ => n - (RowKit.intOf s).toNat)
    case atStart => exact ⟨0, rfl, by omega, Lib.hid (Below.refl _ _), Lib.hid rfl⟩
    case round =>
      obtain ⟨i, rfl, hi, HB, HI⟩ := hrel
      have hi0 : (0 : Int) ≤ (i : Int) := by omega
      by_cases hlt : i < n
      · have hlt2 : (i : Int) < (n : Int) := by omega
        obtain ⟨g, off, t, rfl, hti, q0, q1⟩ := H1.out _ i HB.out (by rw [HL.out]; exact hlt)
        obtain ⟨g', off', u, rfl, hui, r0, r1⟩ := H2.out _ i HB.out (by rw [HK.out]; exact hlt)
        by_cases c1 : t.kind = u.kind
        · by_cases c2 : t.qty = u.qty
          · obtain rfl := St.ext' c1 c2
            have HI2 : Hid (l.take (i + 1) = k.take (i + 1)) := Lib.hid (take_both hti.out hui.out HI.out)
            clear c1 c2
            go_wp2_with fail
            go_quiet (fail)
            go_wp2_with fail
            go_roundw
            case rel => exact ⟨i + 1, by go_num, by omega, Lib.hid (below_drewN HB.out _), HI2⟩
            case measure => simp [RowKit.intOf]; omega
          · have HF : Hid (l ≠ k) := Lib.hid (take_ne hti.out hui.out fun e => c2 (by rw [e]))
            have c1b : (t.kind == u.kind) = true := by simpa using c1
            have c2b : (t.qty == u.qty) = false := by simpa using c2
            go_wp2_with fail
            go_quiet (fail)
            go_wp2_with fail
            go_ret
            exact ⟨by rw [decide_eq_false HF.out]; rfl, below_drewN HB.out _⟩
        · have HF : Hid (l ≠ k) := Lib.hid (take_ne hti.out hui.out fun e => c1 (by rw [e]))
          have c1b : (t.kind == u.kind) = false := by simpa using c1
          go_wp2_with fail
          go_quiet (fail)
          go_wp2_with fail
          go_ret
          exact ⟨by rw [decide_eq_false HF.out]; rfl, below_drewN HB.out _⟩
      · obtain rfl : i = n := by omega
        have HF : Hid (l = k) := Lib.hid (by
          have := HI.out
          rw [List.take_of_length_le (by rw [HL.out]; exact Nat.le_refl _), List.take_of_length_le (by rw [HK.out]; exact Nat.le_refl _)] at this
          exact this)
        go_wp2_with fail
        go_ret
        exact ⟨by rw [decide_eq_true HF.out]; rfl, HB.out⟩
  · have hf : decide (l = k) = false := decide_eq_false fun e => hnm (by rw [← hl, ← hk, e])
    rw [hf]
    have hne : ((n : Int) == (m : Int)) = false := by simp; omega
    have hn2 : ¬ (n : Int) = (m : Int) := by omega
    clear hl hs hn hk ht hm hf
    go_enter Try.func28, Try.ntmps28
    go_wp2_with fail
    go_ret
    exact ⟨rfl, Below.refl _ _⟩
end Go.Proofs.Ytghlgmlelipjfaa.Goods
namespace Go.Proofs.Ytghlgmlelipjfaa.Goods
open Go.RowKit Go.Lib

/-- These may be the stacks of a list. -/
def Listed (l : List St) (types : Int) : Prop := l.length ≤ 8 ∧ errN l = 0 ∧ nl l = l ∧ ∀ s ∈ l, s.kind ≤ types
open Classical in
noncomputable def chk (l : List St) (types : Int) : Int := if Listed l types then 0 else 1
theorem chk_no {l : List St} {types : Int} (h : ¬ Listed l types) : chk l types = 1 := by unfold chk; rw [if_neg h]
theorem chk_yes {l : List St} {types : Int} (h : Listed l types) : chk l types = 0 := by unfold chk; rw [if_pos h]
theorem rise_last {l : List St} (h : l.Pairwise (fun s t => s.kind < t.kind)) {n : Nat} (hn : l.length = n) {t : St} (ht : l[n - 1]? = some t) : ∀ s ∈ l, s.kind ≤ t.kind := by
  intro s hs
  obtain ⟨i, hi, rfl⟩ := List.mem_iff_getElem.1 hs
  by_cases e : i = n - 1
  · subst e
    rw [List.getElem?_eq_getElem hi] at ht
    injection ht with ht
    rw [ht]
    omega
  · have hj : n - 1 < l.length := by omega
    have := List.pairwise_iff_getElem.1 h i (n - 1) hi hj (by omega)
    rw [List.getElem?_eq_getElem hj] at ht
    injection ht with ht
    rw [ht] at this
    omega
open Classical in
set_option maxRecDepth 100000 in
set_option maxHeartbeats 2000000 in
theorem dcheck (a : Option Addr) (n c : Nat) (l : List St) (ty : Int) (w : World) (hl : l.length = n) (hs : Sts w a l) (hn : n ≤ 4096) :
    Calls Try.prog 32 #[.slice a n c, .int .i64 ty] w fun e w' => e = .returned (.int .i64 (chk l ty)) ∧ Below w.heap.size w w' := by
  by_cases h8 : n ≤ 8
  · have HN := Lib.hid (dnorm2 a n c l w hl hs hn)
    have hi0 : (n : Int) ≤ 8 := by omega
    have hd8 : decide (8 < (n : Int)) = false := by simp; omega
    by_cases he : errN l = 0
    · have HS : Hid (∀ W a' m c', Below w.heap.size w W → (valN l).length = m → Sts W a' (valN l) → Calls Try.prog 28 #[.slice a' m c', .slice a n c] W fun e w' => e = .returned (.bool (decide (nl l = l))) ∧ Hid (Below w.heap.size w w')) := Lib.hid (fun W a' m c' hW hm hst => by
        have h1 := len_valN l
        have := dsame a' m c' (valN l) a n c l W hm hst (by omega) hl (hs.under hW) (by omega)
        rw [valN_ok he] at this
        exact this.mono fun _ _ ⟨e, hb⟩ => ⟨e, Lib.hid (below_then hW hb)⟩)
      rw [he] at HN
      by_cases hsm : nl l = l
      · have hq : (decide (nl l = l)) = true := decide_eq_true hsm
        rw [hq] at HS
        by_cases h0 : n = 0
        · have hc : chk l ty = 0 := chk_yes ⟨by omega, he, hsm, fun s h => by have : l = [] := List.length_eq_zero_iff.1 (by omega); rw [this] at h; simp at h⟩
          rw [hc]
          subst h0
          clear hl hs hn h8 he hsm hq hc
          go_enter Try.func32, Try.ntmps32
          go_wp2_with fail
          refine HN.out.mono ?_
          rintro e w1 ⟨a', m, c', rfl, _, HV⟩
          go_wp2_with fail
          refine (HS.out w1 a' m c' HV.out.2.2.2 HV.out.1 HV.out.2.1).mono ?_
          rintro e w2 ⟨rfl, HB⟩
          go_wp2_with fail
          go_ret
          exact ⟨rfl, HB.out⟩
        · have HT := sts_at hs
          have HL := Lib.hid hl
          have hr : l.Pairwise (fun s t => s.kind < t.kind) := by have := (norm_valN l).rise; rw [valN_ok he, hsm] at this; exact this
          have HC : Hid (∀ t, l[n - 1]? = some t → chk l ty = if ty < t.kind then 1 else 0) := Lib.hid (fun t ht => by
            by_cases h : ty < t.kind
            · rw [if_pos h]
              exact chk_no fun ⟨_, _, _, h4⟩ => by have := h4 t (List.mem_of_getElem? ht); omega
            · rw [if_neg h]
              exact chk_yes ⟨by omega, he, hsm, fun s h5 => by have := rise_last hr hl ht s h5; omega⟩)
          have hn0 : 0 < n := by omega
          have hn1 : decide (0 < (n : Int)) = true := by simp; omega
          obtain ⟨n1, hn2⟩ : ∃ n1, n = n1 + 1 := ⟨n - 1, by omega⟩
          subst hn2
          have hd9 : decide (8 < (n1 : Int) + 1) = false := by simp; omega
          have hw1 : IntKind.i64.wrap (((n1 + 1 : Nat) : Int) - 1) = (n1 : Int) := by rw [IntWalk.i64_in _ (by omega)]; omega
          clear hl hs hn h8 he hsm hq hr h0
          go_enter Try.func32, Try.ntmps32
          go_wp2_with fail
          refine HN.out.mono ?_
          rintro e w1 ⟨a', m, c', rfl, _, HV⟩
          go_wp2_with fail
          refine (HS.out w1 a' m c' HV.out.2.2.2 HV.out.1 HV.out.2.1).mono ?_
          rintro e w2 ⟨rfl, HB⟩
          obtain ⟨g, off, t, rfl, hti, q0, q1⟩ := HT.out w2 n1 HB.out (by rw [HL.out]; omega)
          have hc := HC.out t hti.out
          by_cases hlt : ty < t.kind
          · have HK : Hid (chk l ty = 1) := Lib.hid (by rw [hc, if_pos hlt])
            clear hc
            go_wp2_with fail
            go_ret
            exact ⟨by rw [HK.out]; rfl, HB.out⟩
          · have HK : Hid (chk l ty = 0) := Lib.hid (by rw [hc, if_neg hlt])
            clear hc
            go_wp2_with fail
            go_ret
            exact ⟨by rw [HK.out]; rfl, HB.out⟩
      · have hq : (decide (nl l = l)) = false := decide_eq_false hsm
        rw [hq] at HS
        have hc : chk l ty = 1 := chk_no fun ⟨_, _, h3, _⟩ => hsm h3
        rw [hc]
        clear hl hs hn h8 he hsm hq hc
        go_enter Try.func32, Try.ntmps32
        go_wp2_with fail
        refine HN.out.mono ?_
        rintro e w1 ⟨a', m, c', rfl, _, HV⟩
        go_wp2_with fail
        refine (HS.out w1 a' m c' HV.out.2.2.2 HV.out.1 HV.out.2.1).mono ?_
        rintro e w2 ⟨rfl, HB⟩
        go_wp2_with fail
        go_ret
        exact ⟨rfl, HB.out⟩
    · have hc : chk l ty = 1 := chk_no fun ⟨_, h2, _, _⟩ => he h2
      rw [hc]
      obtain ⟨er, her⟩ : ∃ er, errN l = er := ⟨_, rfl⟩
      rw [her] at HN he
      have hne : (er == 0) = false := by simpa using he
      have hne2 : ¬ er = 0 := he
      clear hl hs hn h8 her he hc
      go_enter Try.func32, Try.ntmps32
      go_wp2_with fail
      refine HN.out.mono ?_
      rintro e w1 ⟨a', m, c', rfl, _, HV⟩
      go_wp2_with fail
      go_ret
      exact ⟨rfl, HV.out.2.2.2⟩
  · have hc : chk l ty = 1 := chk_no fun ⟨h1, _⟩ => h8 (by omega)
    rw [hc]
    have hd8 : decide (8 < (n : Int)) = true := by simp; omega
    have hd9 : (8 : Int) < (n : Int) := by omega
    clear hl hs hn h8 hc
    go_enter Try.func32, Try.ntmps32
    go_wp2_with fail
    go_ret
    exact ⟨rfl, Below.refl _ _⟩
end Go.Proofs.Ytghlgmlelipjfaa.Goods
