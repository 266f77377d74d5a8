/- The document's Norm. -/
import Derived.Test.YtghlgmlelipjfaaGoodsA
import Derived.Test.YtghlgmlelipjfaaGoodsNorm
namespace Go.Proofs.Ytghlgmlelipjfaa.Goods
open Go.RowKit Go.Lib

theorem below_cat {B : Nat} {a b c : World} (h : Below B a b) (k : Below B b c) : Below B a c := ⟨k.os.trans h.os, k.tape.trans h.tape, k.output.trans h.output, Nat.le_trans h.size k.size, fun q hq => (k.block q hq).trans (h.block q hq)⟩
theorem nth_at {l : List St} {i : Nat} (h : i < l.length) : ∃ t, l[i]? = some t := ⟨l[i], List.getElem?_eq_getElem h⟩
set_option maxRecDepth 100000 in
set_option maxHeartbeats 8000000 in
theorem dnorm (a : Option Addr) (n c : Nat) (l : List St) (w : World) (hl : l.length = n) (hs : Sts w a l) (hn : n ≤ 4096) :
    Calls Try.prog 56 #[.slice a n c] w fun e w' => Below w.heap.size w w' ∧ ((¬ Fine l ∧ e = .returned (.tuple #[.slice none 0 0, .int .i64 1])) ∨ (Fine l ∧ Over l ∧ e = .returned (.tuple #[.slice none 0 0, .int .i64 5])) ∨
      (Fine l ∧ ¬ Over l ∧ ∃ v, e = .returned (.tuple #[v, .int .i64 0]) ∧ OwnS w' w.heap.size v (nl l))) := by
  have hn1 : (n : Int) ≤ 1048576 := by omega
  have HL := Lib.hid hl
  have HT : Hid (∀ W i, Below w.heap.size w W → i < n → ∃ g off t, a = some ⟨g, off, none⟩ ∧ Hid (l[i]? = some t) ∧ W.cell? ⟨g, off + i * 2, none⟩ = some (.int .i64 t.kind) ∧ W.cell? ⟨g, off + i * 2 + 1, none⟩ = some (.int .i64 t.qty)) := Lib.hid (fun W i hW hi => by
    obtain ⟨t, ht⟩ := nth_at (by omega : i < l.length)
    obtain ⟨g, off, e, _, k0, k1⟩ := (hs.under hW) i t ht
    exact ⟨g, off, t, e, Lib.hid ht, k0, k1⟩)
  have HA : Hid (∀ W s p k, Below w.heap.size w W → OwnS W w.heap.size s (upto l p) → upto l k = upto l p ++ [⟨k, cnt l k⟩] → ∀ m, cnt l k = m → ∃ v' w', (Builtin.append_ #[22, 22] 22 #[s, .slice (some ⟨W.heap.size, 0, none⟩) 1 1]).run Try.prog (W.alloc (.cells #[.int .i64 k, .int .i64 m] 74)) = .ok v' w' ∧
      Hid (OwnS w' w.heap.size v' (upto l k) ∧ Below w.heap.size w w')) := Lib.hid (fun W s p k hW ho hu m hm => by
    subst hm
    have hlen : (upto l p).length ≤ l.length := by
      have h1 : (upto l p).length ≤ (nl l).length := List.length_filter_le _ _
      have h2 : ∀ l : List St, (nl l).length ≤ l.length := fun l => by
        induction l with
        | nil => simp [nl]
        | cons x l ih =>
          have h3 : ∀ m : List St, (addS x m).length ≤ m.length + 1 := fun m => by
            induction m with
            | nil => unfold addS; split <;> simp
            | cons y m ihm =>
              unfold addS
              split
              · split <;> simp
              · split
                · simp
                · simp; omega
          have := h3 (nl l)
          simp [nl]
          omega
      have := h2 l
      omega
    have hal := hW.alloc hW.size (.cells #[.int .i64 k, .int .i64 (cnt l k)] 74)
    obtain ⟨v', w', hr, h2, h3⟩ := app_st (W.alloc (.cells #[.int .i64 k, .int .i64 (cnt l k)] 74)) w.heap.size s (upto l p) [⟨k, cnt l k⟩] (ho.alloc _) (some ⟨W.heap.size, 0, none⟩) 1 1 rfl (fun j u hj => ⟨_, rfl, by
      have hblk := heap_alloc_new W (.cells #[.int .i64 k, .int .i64 (cnt l k)] 74)
      rw [addr_add, Nat.zero_add]
      refine cell_block (j := j) hblk ?_
      rw [← Array.getElem?_toList]
      exact hj⟩) (by simp; omega) hal.size
    rw [← hu] at h2
    exact ⟨v', w', hr, Lib.hid ⟨h2, below_cat hal h3⟩⟩)
  have H0 : Hid (Fine l → OwnS w w.heap.size (.slice none 0 0) (upto l 0)) := Lib.hid (fun h => by rw [upto_low h]; exact World.ownsRow_nil _ _ _ _)
  clear hl hs hn
  go_enter Try.func56, Try.ntmps56
  go_wp2_with fail
  go_loopw [4] (fun t wr => ∃ i : Nat, t = .int .i64 i ∧ i ≤ n ∧ w = wr ∧ Hid (∀ s ∈ l.take i, 1 ≤ s.kind ∧ 0 ≤ s.qty)) (fun t _ => n - (RowKit.intOf t).toNat)
  case atStart => exact ⟨0, rfl, by omega, rfl, Lib.hid (fun s hs => by simp at hs)⟩
  case round =>
    obtain ⟨i, rfl, hi, rfl, HI⟩ := hrel
    have hi0 : (0 : Int) ≤ (i : Int) := by omega
    by_cases hlt : i < n
    · have hlt2 : (i : Int) < (n : Int) := by omega
      obtain ⟨g, off, t, rfl, ht, k0, k1⟩ := HT.out w i (Below.refl _ _) hlt
      by_cases c1 : t.kind < 1
      · have HE : Hid (¬ Fine l) := Lib.hid (fun h => by have := (h t (List.mem_of_getElem? ht.out)).1; omega)
        go_wp2_with fail
        go_ret2
        exact ⟨Below.refl _ _, .inl ⟨HE.out, rfl⟩⟩
      by_cases c2 : t.qty < 0
      · have HE : Hid (¬ Fine l) := Lib.hid (fun h => by have := (h t (List.mem_of_getElem? ht.out)).2; omega)
        go_wp2_with fail
        go_ret2
        exact ⟨Below.refl _ _, .inl ⟨HE.out, rfl⟩⟩
      have HI2 : Hid (∀ s ∈ l.take (i + 1), 1 ≤ s.kind ∧ 0 ≤ s.qty) := Lib.hid (fun s hs => by
        rcases (mem_take_succ ht.out).1 hs with hs | rfl
        · exact HI.out s hs
        · exact ⟨by omega, by omega⟩)
      go_wp2_with fail
      go_roundw
      case rel => exact ⟨i + 1, by go_num, by omega, by first | rfl | trivial, HI2⟩
      case measure => simp [RowKit.intOf]; omega
    · obtain rfl : i = n := by omega
      have HF : Hid (Fine l) := Lib.hid (fun s hs => HI.out s (by rw [List.take_of_length_le (by rw [HL.out]; exact Nat.le_refl _)]; exact hs))
      have HO := Lib.hid (H0.out HF.out)
      have HC0 : Hid (∀ k, k ≤ 0 → cnt l k ≤ mq) := Lib.hid (fun k hk => by
        rw [cnt_none fun s hs => by have := (HF.out s hs).1; omega]
        unfold mq
        omega)
      clear H0 HI hi0
      go_wp2_with fail
      go_loopw [5, 6] (fun s t wr => ∃ p : Int, t = .int .i64 p ∧ 0 ≤ p ∧ Hid (OwnS wr w.heap.size s (upto l p)) ∧ Hid (Below w.heap.size w wr) ∧ Hid (∀ k, k ≤ p → cnt l k ≤ mq)) (fun _ t _ => (l.filter fun x => decide (RowKit.intOf t < x.kind)).length)
      case atStart => exact ⟨0, rfl, Int.le_refl _, HO, Lib.hid (Below.refl _ _), HC0⟩
      case round =>
        clear HO HC0
        obtain ⟨p, rfl, hp, HO, HB, HC⟩ := hrel
        go_wp2_with fail
        go_loopw [7, 8] (fun s t wx => ∃ (k : Int) (j : Nat), s = .int .i64 k ∧ t = .int .i64 j ∧ j ≤ i ∧ wr = wx ∧ Hid (LeastK l p j k)) (fun _ t _ => i - (RowKit.intOf t).toNat)
        case atStart => exact ⟨0, 0, rfl, rfl, by omega, rfl, Lib.hid (least_zero l p)⟩
        case round =>
          obtain ⟨k, j, rfl, rfl, hj, rfl, HK⟩ := hrel
          have hj0 : (0 : Int) ≤ (j : Int) := by omega
          by_cases hlt : j < i
          · have hlt2 : (j : Int) < (i : Int) := by omega
            obtain ⟨g, off, t, rfl, ht, k0, k1⟩ := HT.out wr j HB.out hlt
            by_cases c1 : p < t.kind
            · by_cases c2 : k = 0
              · have HK2 := Lib.hid (least_new HK.out hp ht.out c1 (.inl c2))
                subst c2
                go_wp2_with fail
                go_roundw
                case rel => exact ⟨t.kind, j + 1, rfl, by go_num, by omega, by first | rfl | trivial, HK2⟩
                case measure => simp [RowKit.intOf]; omega
              · have c2' : (k == 0) = false := by simpa using c2
                by_cases c3 : t.kind < k
                · have HK2 := Lib.hid (least_new HK.out hp ht.out c1 (.inr c3))
                  clear c2
                  go_wp2_with fail
                  go_roundw
                  case rel => exact ⟨t.kind, j + 1, rfl, by go_num, by omega, by first | rfl | trivial, HK2⟩
                  case measure => simp [RowKit.intOf]; omega
                · have HK2 := Lib.hid (least_old HK.out ht.out (.inr ⟨c2, by omega⟩))
                  clear c2
                  go_wp2_with fail
                  go_roundw
                  case rel => exact ⟨k, j + 1, rfl, by go_num, by omega, by first | rfl | trivial, HK2⟩
                  case measure => simp [RowKit.intOf]; omega
            · have HK2 := Lib.hid (least_old HK.out ht.out (.inl c1))
              go_wp2_with fail
              go_roundw
              case rel => exact ⟨k, j + 1, rfl, by go_num, by omega, by first | rfl | trivial, HK2⟩
              case measure => simp [RowKit.intOf]; omega
          · obtain rfl : j = i := by omega
            have htk : l.take j = l := List.take_of_length_le (by rw [HL.out]; exact Nat.le_refl _)
            by_cases c0 : k = 0
            · subst c0
              have HE : Hid (¬ Over l ∧ upto l p = nl l) := Lib.hid (by
                have hall : ∀ s ∈ l, s.kind ≤ p := fun s hs => by
                  by_cases h : p < s.kind
                  · exact absurd rfl (HK.out.all s (by rw [htk]; exact hs) h).1
                  · omega
                refine ⟨fun ⟨k, hk⟩ => ?_, upto_all HF.out hall⟩
                by_cases h : k ≤ p
                · have := HC.out k h; omega
                · rw [cnt_none fun s hs => by have := hall s hs; omega] at hk
                  unfold mq at hk
                  omega)
              clear htk
              go_wp2_with fail
              go_ret2
              exact ⟨HB.out, .inr (.inr ⟨HF.out, HE.out.1, _, rfl, by rw [← HE.out.2]; exact HO.out⟩)⟩
            · have c0' : (k == 0) = false := by simpa using c0
              have HKK : Hid (p < k ∧ (∃ s ∈ l, s.kind = k) ∧ ∀ s ∈ l, p < s.kind → k ≤ s.kind) := Lib.hid (by
                rcases HK.out.is with h | ⟨h1, h2⟩
                · exact absurd h c0
                · rw [htk] at h2
                  exact ⟨h1, h2, fun s hs h3 => (HK.out.all s (by rw [htk]; exact hs) h3).2⟩)
              clear htk c0 HK
              go_wp2_with fail
              go_loopw [9, 10] (fun s t wx => ∃ (m : Int) (x : Nat), s = .int .i64 m ∧ t = .int .i64 x ∧ x ≤ j ∧ wr = wx ∧ 0 ≤ m ∧ m ≤ 2 ^ 50 ∧ Hid (cnt (l.take x) k = m)) (fun _ t _ => j - (RowKit.intOf t).toNat)
              case atStart => exact ⟨0, 0, rfl, rfl, by omega, rfl, Int.le_refl _, by omega, Lib.hid rfl⟩
              case round =>
                obtain ⟨m, x, rfl, rfl, hx, rfl, hm0, hm1, HM⟩ := hrel
                have hx0 : (0 : Int) ≤ (x : Int) := by omega
                by_cases hlt : x < j
                · have hlt2 : (x : Int) < (j : Int) := by omega
                  obtain ⟨g, off, t, rfl, ht, k0, k1⟩ := HT.out wr x HB.out hlt
                  by_cases c1 : t.kind = k
                  · have c1' : (t.kind == k) = true := by simpa using c1
                    have HS : Hid (cnt (l.take (x + 1)) k = m + t.qty) := Lib.hid (by rw [cnt_take_succ ht.out, HM.out, if_pos c1])
                    have HTQ : Hid (0 ≤ t.qty) := Lib.hid (HF.out t (List.mem_of_getElem? ht.out)).2
                    clear c1
                    by_cases c2 : 1125899906842624 - m < t.qty
                    · have HE : Hid (Over l) := Lib.hid ⟨k, by
                        have h1 := cnt_take_le HF.out (x + 1) k
                        have h2 := HS.out
                        unfold mq
                        omega⟩
                      go_wp2_with fail
                      go_ret2
                      exact ⟨HB.out, .inr (.inl ⟨HF.out, HE.out, rfl⟩)⟩
                    · have hq0 := HTQ.out
                      have hmq : m + t.qty ≤ 2 ^ 50 := by omega
                      have hmq0 : 0 ≤ m + t.qty := by omega
                      go_wp2_with fail
                      go_roundw
                      case rel => exact ⟨m + t.qty, x + 1, by go_num, by go_num, by omega, by first | rfl | trivial, hmq0, hmq, HS⟩
                      case measure => simp [RowKit.intOf]; omega
                  · have c1' : (t.kind == k) = false := by simpa using c1
                    have HS : Hid (cnt (l.take (x + 1)) k = m) := Lib.hid (by rw [cnt_take_succ ht.out, HM.out, if_neg c1]; omega)
                    clear c1
                    go_wp2_with fail
                    go_roundw
                    case rel => exact ⟨m, x + 1, rfl, by go_num, by omega, by first | rfl | trivial, hm0, hm1, HS⟩
                    case measure => simp [RowKit.intOf]; omega
                · obtain rfl : x = j := by omega
                  have HMM : Hid (cnt l k = m) := Lib.hid (by
                    have := HM.out
                    rw [List.take_of_length_le (by rw [HL.out]; exact Nat.le_refl _)] at this
                    exact this)
                  have HC2 : Hid (∀ z, z ≤ k → cnt l z ≤ mq) := Lib.hid (fun z hz => by
                    by_cases h : z ≤ p
                    · exact HC.out z h
                    · by_cases e : z = k
                      · rw [e, HMM.out]; unfold mq; omega
                      · rw [cnt_none fun s hs e2 => by have := HKK.out.2.2 s hs (by omega); omega]
                        unfold mq
                        omega)
                  have HME : Hid ((l.filter fun x => decide (k < x.kind)).length < (l.filter fun x => decide (p < x.kind)).length) := Lib.hid (by
                    obtain ⟨s, hs, e⟩ := HKK.out.2.1
                    exact left_less HKK.out.1 hs e)
                  have hk0 : 0 ≤ k := by have := HKK.out.1; omega
                  by_cases c2 : 0 < m
                  · have HU : Hid (upto l k = upto l p ++ [⟨k, cnt l k⟩]) := Lib.hid (upto_next HF.out HKK.out.1 HKK.out.2.2 (by have := HKK.out.1; omega) (by rw [HMM.out]; exact c2))
                    obtain ⟨v', w2, hr, HO2⟩ := HA.out wr _ p k HB.out HO.out HU.out m HMM.out
                    have HR := Lib.hid hr
                    have HO3 := Lib.hid HO2.out.1; have HB3 := Lib.hid HO2.out.2
                    clear hr
                    go_wp2_with (at_builtin; refine walk_run (v' := v') (w' := w2) rfl _ _ _ _ rfl _ _ rfl rfl ?_ ?_; exact HR.out)
                    go_roundw
                    case rel => exact ⟨k, rfl, hk0, HO3, HB3, HC2⟩
                    case measure => simp only [RowKit.intOf]; exact HME.out
                  · have HU : Hid (OwnS wr w.heap.size _ (upto l k)) := Lib.hid (by
                      rw [upto_none HF.out HKK.out.1 HKK.out.2.2 (by rw [HMM.out]; omega)]
                      exact HO.out)
                    go_wp2_with fail
                    go_roundw
                    case rel => exact ⟨k, rfl, hk0, HU, HB, HC2⟩
                    case measure => simp only [RowKit.intOf]; exact HME.out
end Go.Proofs.Ytghlgmlelipjfaa.Goods
