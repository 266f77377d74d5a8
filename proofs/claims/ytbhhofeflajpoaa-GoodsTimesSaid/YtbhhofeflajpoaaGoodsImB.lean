/- The program's count, countBoth. -/
import Derived.Test.YtbhhofeflajpoaaGoodsImA
namespace Go.Proofs.Ytbhhofeflajpoaa.Goods.Im
open Go.RowKit Go.Lib

/-- The first j stacks of a list are counted. -/
def Counted (w wx : World) (b j : Nat) (l : List St) : Prop :=
  Below w.heap.size w wx ∧ w.heap.size ≤ b ∧ ∃ m q, m ≤ j ∧ CM wx b m q ∧ ∀ k, at0 q k = cnt (l.take j) k
theorem Counted.under {w wx wy : World} {b j : Nat} {l : List St} (h : Counted w wx b j l) (hb : Below wx.heap.size wx wy) : Counted w wy b j l := by
  obtain ⟨h1, h2, m, q, h3, h4, h5⟩ := h
  exact ⟨below_then h1 hb, h2, m, q, h3, h4.under hb, h5⟩
theorem counted_yes {w W : World} {b j : Nat} {l : List St} {t : St} (h : Counted w W b j l) (ht : l[j]? = some t) (hF : Fine l) (hk : Ints.I64 t.kind) (hq : Ints.I64 t.qty) (hj : j ≤ 4096) (hle : cnt (l.take (j + 1)) t.kind ≤ mq) :
    Calls Try.prog 27 #[.map (some b), .int .i64 t.kind, .int .i64 t.qty] W fun e w' => e = .returned (.int .i64 0) ∧ Hid (Counted w w' b (j + 1) l) := by
  obtain ⟨h1, h2, m, q, h3, h4, h5⟩ := h
  have hf := hF t (List.mem_of_getElem? ht)
  have hs := cnt_take_succ ht
  have h6 : at0 q t.kind + t.qty ≤ mq := by rw [h5]; have := hs t.kind; rw [if_pos rfl] at this; omega
  refine (add_im b m q t.kind t.qty W h4 (by omega) hf.1 hk hf.2 (by unfold Ints.I64 at hq; omega) h6).mono ?_
  rintro e w' ⟨rfl, n', hn', hc, hg, _⟩
  refine ⟨rfl, Lib.hid ⟨below_of_only h1 h2 hg, h2, n', _, by omega, hc, fun k => ?_⟩⟩
  rw [at0_put, hs k]
  by_cases e : k = t.kind
  · rw [if_pos e, if_pos e.symm, e, h5]
  · rw [if_neg e, if_neg (fun h => e h.symm), h5]
    omega
theorem counted_no {w W : World} {b j : Nat} {l : List St} {t : St} (h : Counted w W b j l) (ht : l[j]? = some t) (hF : Fine l) (hk : Ints.I64 t.kind) (hq : Ints.I64 t.qty) (hlt : mq < cnt (l.take (j + 1)) t.kind) :
    Calls Try.prog 27 #[.map (some b), .int .i64 t.kind, .int .i64 t.qty] W fun e w' => e = .returned (.int .i64 5) ∧ Hid (Below w.heap.size w w') := by
  obtain ⟨h1, h2, m, q, h3, h4, h5⟩ := h
  have hf := hF t (List.mem_of_getElem? ht)
  have hs := cnt_take_succ ht t.kind
  rw [if_pos rfl] at hs
  refine (add_no b m q t.kind t.qty W h4 hk hf.2 (by unfold Ints.I64 at hq; omega) (by rw [h5]; omega)).mono ?_
  rintro e w' ⟨rfl, hb⟩
  exact ⟨rfl, Lib.hid (below_then h1 hb)⟩
/-- What count tells of stacks. -/
def CountIs (w w' : World) (l : List St) (mp : Option Nat) : Prop :=
  Below w.heap.size w w' ∧ (errN l ≠ 0 → mp = none) ∧ (errN l = 0 → ∃ b n q, mp = some b ∧ w.heap.size ≤ b ∧ n ≤ l.length ∧ CM w' b n q ∧ ∀ k, at0 q k = cnt l k)
theorem count_bad {w w' : World} {l : List St} (h : ¬ Fine l) (hb : Below w.heap.size w w') : errN l = 1 ∧ CountIs w w' l none := by
  have h1 := errN_bad h
  exact ⟨h1, hb, fun _ => rfl, fun h2 => by rw [h1] at h2; omega⟩
theorem count_over {w w' : World} {l : List St} {j : Nat} {k : Int} (h : Fine l) (hk : mq < cnt (l.take j) k) (hb : Below w.heap.size w w') : errN l = 5 ∧ CountIs w w' l none := by
  have h1 := errN_over h ⟨k, by have := cnt_take_le h j k; omega⟩
  exact ⟨h1, hb, fun _ => rfl, fun h2 => by rw [h1] at h2; omega⟩
theorem count_ok {w w' : World} {l : List St} {b j : Nat} (h : Fine l) (hj : l.length = j) (hc : Counted w w' b j l) : errN l = 0 ∧ CountIs w w' l (some b) := by
  obtain ⟨h1, h2, m, q, h3, h4, h5⟩ := hc
  rw [List.take_of_length_le (by omega)] at h5
  have h6 : errN l = 0 := errN_ok h fun ⟨k, hk⟩ => by
    have h7 := (h4.good.bound k).2
    rw [h5] at h7
    omega
  exact ⟨h6, h1, fun h7 => absurd h6 h7, fun _ => ⟨b, m, q, rfl, h2, by omega, h4, h5⟩⟩
set_option maxRecDepth 100000 in
set_option maxHeartbeats 4000000 in
theorem count_im (a : Option Addr) (n c : Nat) (l : List St) (w : World) (hl : l.length = n) (hs : Sts w a l) (hn : n ≤ 1024) (hI : In64 l) :
    Calls Try.prog 23 #[.slice a n c] w fun e w' => ∃ mp, e = .returned (.tuple #[.map mp, .int .i64 (errN l)]) ∧ Hid (CountIs w w' l mp) := by
  have HT := sts_at hs
  have HL := Lib.hid hl
  have HI : Hid (∀ (i : Nat) (t : St), l[i]? = some t → t ∈ l ∧ Ints.I64 t.kind ∧ Ints.I64 t.qty) := Lib.hid (fun i t ht => ⟨List.mem_of_getElem? ht, hI t (List.mem_of_getElem? ht)⟩)
  have hmk := fun W : World => run_makeMap (P := Try.prog) 41 W
  have hn1 : (n : Int) ≤ 1048576 := by omega
  have HNN := Lib.hid hn
  clear hs hn hl hI
  go_enter Try.func23, Try.ntmps23
  go_wp2_with fail
  go_loopw [12] (fun t wr => ∃ i : Nat, t = .int .i64 i ∧ i ≤ n ∧ Hid (Below w.heap.size w wr) ∧ Hid (∀ s ∈ l.take i, 1 ≤ s.kind ∧ 0 ≤ s.qty)) (fun t _ => n - (RowKit.intOf t).toNat)
  case atStart => exact ⟨0, rfl, by omega, Lib.hid (Below.refl _ _), Lib.hid (fun s hs => by simp at hs)⟩
  case round =>
    obtain ⟨i, rfl, hi, HB, HF⟩ := hrel
    have hi0 : (0 : Int) ≤ (i : Int) := by omega
    by_cases hlt : i < n
    · have hlt2 : (i : Int) < (n : Int) := by omega
      obtain ⟨g, off, t, rfl, ht, k0, k1⟩ := HT.out wr i HB.out (by rw [HL.out]; exact hlt)
      obtain ⟨V, hV⟩ : ∃ V, wr.heap.size = V := ⟨_, rfl⟩
      obtain ⟨Y, hY⟩ : ∃ Y, wr.alloc (.cells #[.int .i64 t.kind, .int .i64 t.qty] 39) = Y := ⟨_, rfl⟩
      have hbY : Below wr.heap.size wr Y := by rw [← hY]; exact (Below.refl _ wr).alloc (Nat.le_refl _) _
      have hVY : Y.heap[V]? = some (.cells t.cells 39 (0, 0)) := by rw [← hY, ← hV]; exact heap_alloc_new wr _
      have v0 : Y.cell? ⟨V, 0, none⟩ = some (.int .i64 t.kind) := cell_block (j := 0) hVY rfl
      have v1 : Y.cell? ⟨V, 1, none⟩ = some (.int .i64 t.qty) := cell_block (j := 1) hVY rfl
      have HBY := Lib.hid (below_then HB.out hbY)
      clear hbY hVY
      by_cases c1 : t.kind < 1
      · have d1 : decide (t.kind < 1) = true := decide_eq_true c1
        have HE : Hid (¬ Fine l) := Lib.hid (fun h => by have := (h t (List.mem_of_getElem? ht.out)).1; omega)
        clear c1
        go_wp2_with fail
        clear hY hV k0 k1
        go_ret2
        obtain ⟨he, hc⟩ := count_bad HE.out HBY.out
        exact ⟨none, by rw [he]; rfl, Lib.hid hc⟩
      have d1 : decide (t.kind < 1) = false := decide_eq_false c1
      by_cases c2 : t.qty < 0
      · have d2 : decide (t.qty < 0) = true := decide_eq_true c2
        have HE : Hid (¬ Fine l) := Lib.hid (fun h => by have := (h t (List.mem_of_getElem? ht.out)).2; omega)
        clear c1 c2
        go_wp2_with fail
        clear hY hV k0 k1
        go_ret2
        obtain ⟨he, hc⟩ := count_bad HE.out HBY.out
        exact ⟨none, by rw [he]; rfl, Lib.hid hc⟩
      have d2 : decide (t.qty < 0) = false := decide_eq_false c2
      have HF2 : Hid (∀ s ∈ l.take (i + 1), 1 ≤ s.kind ∧ 0 ≤ s.qty) := Lib.hid (fun s hs => by
        rcases (mem_take_succ ht.out).1 hs with hs | rfl
        · exact HF.out s hs
        · exact ⟨by omega, by omega⟩)
      clear c1 c2
      go_wp2_with fail
      clear hY hV k0 k1
      go_roundw
      case rel => exact ⟨i + 1, by go_num, by omega, HBY, HF2⟩
      case measure => simp [RowKit.intOf]; omega
    · obtain rfl : i = n := by omega
      have HFF : Hid (Fine l) := Lib.hid (fun s hs => HF.out s (by rw [List.take_of_length_le (by rw [HL.out]; exact Nat.le_refl _)]; exact hs))
      obtain ⟨B, hB⟩ : ∃ B, wr.heap.size = B := ⟨_, rfl⟩
      obtain ⟨X, hX⟩ : ∃ X, wr.alloc (.map #[] 0) = X := ⟨_, rfl⟩
      have H0 : Hid (Counted w X B 0 l) := Lib.hid (by
        rw [← hX, ← hB]
        exact ⟨HB.out.alloc HB.out.size _, HB.out.size, 0, _, Nat.le_refl _, made_counts wr, fun k => rfl⟩)
      clear HF HB
      go_wp2_with fail
      clear hX hB
      go_loopw [28] (fun t wx => ∃ j : Nat, t = .int .i64 j ∧ j ≤ i ∧ Hid (Counted w wx B j l)) (fun t _ => i - (RowKit.intOf t).toNat)
      case atStart => exact ⟨0, rfl, by omega, H0⟩
      case round =>
        clear H0
        obtain ⟨j, rfl, hj, HC⟩ := hrel
        have hj0 : (0 : Int) ≤ (j : Int) := by omega
        by_cases hlt : j < i
        · have hlt2 : (j : Int) < (i : Int) := by omega
          obtain ⟨g, off, t, rfl, ht, k0, k1⟩ := HT.out wr j HC.out.1 (by rw [HL.out]; exact hlt)
          obtain ⟨V, hV⟩ : ∃ V, wr.heap.size = V := ⟨_, rfl⟩
          obtain ⟨Y, hY⟩ : ∃ Y, wr.alloc (.cells #[.int .i64 t.kind, .int .i64 t.qty] 39) = Y := ⟨_, rfl⟩
          have hbY : Below wr.heap.size wr Y := by rw [← hY]; exact (Below.refl _ wr).alloc (Nat.le_refl _) _
          have hVY : Y.heap[V]? = some (.cells t.cells 39 (0, 0)) := by rw [← hY, ← hV]; exact heap_alloc_new wr _
          have v0 : Y.cell? ⟨V, 0, none⟩ = some (.int .i64 t.kind) := cell_block (j := 0) hVY rfl
          have v1 : Y.cell? ⟨V, 1, none⟩ = some (.int .i64 t.qty) := cell_block (j := 1) hVY rfl
          have HCY := Lib.hid (HC.out.under hbY)
          have hj4 : j ≤ 4096 := by have := HNN.out; omega
          obtain ⟨_, i1, i2⟩ := HI.out j t ht.out
          clear hbY hVY
          by_cases c1 : cnt (l.take (j + 1)) t.kind ≤ mq
          · have HA : Hid (∀ W, Below Y.heap.size Y W → Calls Try.prog 27 #[.map (some B), .int .i64 t.kind, .int .i64 t.qty] W fun e w' => e = .returned (.int .i64 0) ∧ Hid (Counted w w' B (j + 1) l)) := Lib.hid (fun W hW => counted_yes (HCY.out.under hW) ht.out HFF.out i1 i2 hj4 c1)
            clear c1 i1 i2 hj4
            go_wp2_with fail
            clear hY hV k0 k1
            refine (HA.out _ (Below.refl _ _)).mono ?_
            rintro e w2 ⟨rfl, H2⟩
            go_wp2_with fail
            go_roundw
            case rel => exact ⟨j + 1, by go_num, by omega, H2⟩
            case measure => simp [RowKit.intOf]; omega
          · have HA : Hid (∀ W, Below Y.heap.size Y W → Calls Try.prog 27 #[.map (some B), .int .i64 t.kind, .int .i64 t.qty] W fun e w' => e = .returned (.int .i64 5) ∧ Hid (Below w.heap.size w w')) := Lib.hid (fun W hW => counted_no (HCY.out.under hW) ht.out HFF.out i1 i2 (by omega))
            have HO : Hid (mq < cnt (l.take (j + 1)) t.kind) := Lib.hid (by omega)
            clear c1 i1 i2 hj4
            go_wp2_with fail
            clear hY hV k0 k1
            refine (HA.out _ (Below.refl _ _)).mono ?_
            rintro e w2 ⟨rfl, H2⟩
            go_wp2_with fail
            go_ret2
            obtain ⟨he, hc⟩ := count_over HFF.out HO.out H2.out
            exact ⟨none, by rw [he]; rfl, Lib.hid hc⟩
        · obtain rfl : j = i := by omega
          have HE := Lib.hid (count_ok HFF.out HL.out HC.out)
          go_wp2_with fail
          go_ret2
          obtain ⟨he, hc⟩ := HE.out
          exact ⟨some B, by rw [he]; rfl, Lib.hid hc⟩
end Go.Proofs.Ytbhhofeflajpoaa.Goods.Im
