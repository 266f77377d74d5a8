/- FeeTakes and FeeSplits, for any fees that keep their contracts. -/
import Derived.Test.YtaffdddleegfcaaFeeG
import Derived.Deep.RegionHeld3
namespace Go.Proofs.Ytaffdddleegfcaa.Fee
open Go.RowKit Go.Lib IRows

theorem awake_at (I : Impl) (w : World) : Hid (∀ W, Below w.heap.size w W → Calls Try.prog 14 #[] W fun e w' => e = .returned (.bool true) ∧ Hid (Below w.heap.size w w')) := Lib.hid (fun W hW => (awake_in I W).mono fun _ _ ⟨e, h⟩ => ⟨e, Lib.hid (below_then hW h)⟩)
set_option maxRecDepth 100000 in
set_option maxHeartbeats 4000000 in
theorem feeTakes_in (I : Impl) (f : FS) (x r : Int) (w : World) (hf : InF f) (hx : I64 x) (hr : I64 r) :
    Calls Try.prog 3 #[f.v, .int .i64 x, .int .i64 r] w fun e w' => e = .returned (.bool true) ∧ Below w.heap.size w w' := by
  obtain ⟨b, l, s⟩ := f
  obtain ⟨V, hV⟩ : ∃ V, w.heap.size = V := ⟨_, rfl⟩
  obtain ⟨Y, hY⟩ : ∃ Y, w.alloc (.cells #[.int .i64 b, .int .i64 l, .int .i64 s] 23) = Y := ⟨_, rfl⟩
  have hbY : Below w.heap.size w Y := by rw [← hY]; exact (Below.refl _ w).alloc (Nat.le_refl _) _
  have hVY : Y.heap[V]? = some (.cells #[.int .i64 b, .int .i64 l, .int .i64 s] 23 (0, 0)) := by rw [← hY, ← hV]; exact heap_alloc_new w _
  have HF : Hid (∀ W, Below Y.heap.size Y W → W.cell? ⟨V, 0, none⟩ = some (.int .i64 b) ∧ W.cell? ⟨V, 1, none⟩ = some (.int .i64 l) ∧ W.cell? ⟨V, 2, none⟩ = some (.int .i64 s)) := Lib.hid (fun W hW => by
    have h1 := (hW.block V (Array.getElem?_eq_some_iff.1 hVY).1).trans hVY
    exact ⟨cell_block (j := 0) h1 rfl, cell_block (j := 1) h1 rfl, cell_block (j := 2) h1 rfl⟩)
  have HBY := Lib.hid hbY
  have HAW := awake_at I Y
  obtain ⟨q1, h1⟩ : ∃ q, brokV ⟨b, l, s⟩ x = q := ⟨_, rfl⟩
  obtain ⟨q2, h2⟩ : ∃ q, feeE ⟨b, l, s⟩ x = q := ⟨_, rfl⟩
  obtain ⟨q3, h3⟩ : ∃ q, saleV ⟨b, l, s⟩ x = q := ⟨_, rfl⟩
  obtain ⟨q4, h4⟩ : ∃ q, bayV r x = q := ⟨_, rfl⟩
  obtain ⟨q5, h5⟩ : ∃ q, bayE r x = q := ⟨_, rfl⟩
  obtain ⟨q6, h6⟩ : ∃ q, chkF ⟨b, l, s⟩ = q := ⟨_, rfl⟩
  have H1 : Hid (∀ W, Below Y.heap.size Y W → Calls Try.prog 6 #[.agg #[.int .i64 b, .int .i64 l, .int .i64 s], .int .i64 x] W fun e w' => e = .returned (.tuple #[.int .i64 q1, .int .i64 q2]) ∧ Hid (Below Y.heap.size Y w')) := Lib.hid (fun W hW => by
    rw [← h1, ← h2]
    exact (I.broker ⟨b, l, s⟩ x W hf hx).mono fun _ _ ⟨e, h⟩ => ⟨e, Lib.hid (below_then hW h)⟩)
  have H2 : Hid (∀ W, Below Y.heap.size Y W → Calls Try.prog 7 #[.agg #[.int .i64 b, .int .i64 l, .int .i64 s], .int .i64 x] W fun e w' => e = .returned (.tuple #[.int .i64 q1, .int .i64 q2]) ∧ Hid (Below Y.heap.size Y w')) := Lib.hid (fun W hW => by
    rw [← h1, ← h2]
    exact (dbroker ⟨b, l, s⟩ x W).mono fun _ _ ⟨e, h⟩ => ⟨e, Lib.hid (below_then hW h)⟩)
  have H3 : Hid (∀ W, Below Y.heap.size Y W → Calls Try.prog 8 #[.agg #[.int .i64 b, .int .i64 l, .int .i64 s], .int .i64 x] W fun e w' => e = .returned (.tuple #[.int .i64 q3, .int .i64 q2]) ∧ Hid (Below Y.heap.size Y w')) := Lib.hid (fun W hW => by
    rw [← h3, ← h2]
    exact (I.sale ⟨b, l, s⟩ x W hf hx).mono fun _ _ ⟨e, h⟩ => ⟨e, Lib.hid (below_then hW h)⟩)
  have H4 : Hid (∀ W, Below Y.heap.size Y W → Calls Try.prog 9 #[.agg #[.int .i64 b, .int .i64 l, .int .i64 s], .int .i64 x] W fun e w' => e = .returned (.tuple #[.int .i64 q3, .int .i64 q2]) ∧ Hid (Below Y.heap.size Y w')) := Lib.hid (fun W hW => by
    rw [← h3, ← h2]
    exact (dsale ⟨b, l, s⟩ x W).mono fun _ _ ⟨e, h⟩ => ⟨e, Lib.hid (below_then hW h)⟩)
  have H5 : Hid (∀ W, Below Y.heap.size Y W → Calls Try.prog 10 #[.int .i64 r, .int .i64 x] W fun e w' => e = .returned (.tuple #[.int .i64 q4, .int .i64 q5]) ∧ Hid (Below Y.heap.size Y w')) := Lib.hid (fun W hW => by
    rw [← h4, ← h5]
    exact (I.bay r x W hr hx).mono fun _ _ ⟨e, h⟩ => ⟨e, Lib.hid (below_then hW h)⟩)
  have H6 : Hid (∀ W, Below Y.heap.size Y W → Calls Try.prog 11 #[.int .i64 r, .int .i64 x] W fun e w' => e = .returned (.tuple #[.int .i64 q4, .int .i64 q5]) ∧ Hid (Below Y.heap.size Y w')) := Lib.hid (fun W hW => by
    rw [← h4, ← h5]
    exact (dbay r x W).mono fun _ _ ⟨e, h⟩ => ⟨e, Lib.hid (below_then hW h)⟩)
  have H7 : Hid (∀ W, Below Y.heap.size Y W → Calls Try.prog 12 #[.agg #[.int .i64 b, .int .i64 l, .int .i64 s]] W fun e w' => e = .returned (.int .i64 q6) ∧ Hid (Below Y.heap.size Y w')) := Lib.hid (fun W hW => by
    rw [← h6]
    exact (I.check ⟨b, l, s⟩ W hf).mono fun _ _ ⟨e, h⟩ => ⟨e, Lib.hid (below_then hW h)⟩)
  have H8 : Hid (∀ W, Below Y.heap.size Y W → Calls Try.prog 13 #[.agg #[.int .i64 b, .int .i64 l, .int .i64 s]] W fun e w' => e = .returned (.int .i64 q6) ∧ Hid (Below Y.heap.size Y w')) := Lib.hid (fun W hW => by
    rw [← h6]
    exact (dcheck ⟨b, l, s⟩ W).mono fun _ _ ⟨e, h⟩ => ⟨e, Lib.hid (below_then hW h)⟩)
  have e1 : (q1 == q1) = true := by simp
  have e2 : (q2 == q2) = true := by simp
  have e3 : (q3 == q3) = true := by simp
  have e4 : (q4 == q4) = true := by simp
  have e5 : (q5 == q5) = true := by simp
  have e6 : (q6 == q6) = true := by simp
  obtain ⟨v0, v1, v2⟩ := HF.out Y (Below.refl _ _)
  clear hbY hVY I h1 h2 h3 h4 h5 h6 hf hx hr
  go_enter Try.func3, Try.ntmps3
  go_wp2_with fail
  clear hY hV
  refine (H1.out Y (Below.refl _ _)).mono ?_
  rintro e w1 ⟨rfl, B1⟩
  obtain ⟨x0, x1, x2⟩ := HF.out w1 B1.out
  clear v0 v1 v2
  go_wp2_with fail
  refine (H2.out w1 B1.out).mono ?_
  rintro e w2 ⟨rfl, B2⟩
  obtain ⟨y0, y1, y2⟩ := HF.out w2 B2.out
  clear x0 x1 x2
  go_wp2_with fail
  refine (H3.out w2 B2.out).mono ?_
  rintro e w3 ⟨rfl, B3⟩
  obtain ⟨x0, x1, x2⟩ := HF.out w3 B3.out
  clear y0 y1 y2
  go_wp2_with fail
  refine (H4.out w3 B3.out).mono ?_
  rintro e w4 ⟨rfl, B4⟩
  clear x0 x1 x2
  go_wp2_with fail
  refine (H5.out w4 B4.out).mono ?_
  rintro e w5 ⟨rfl, B5⟩
  go_wp2_with fail
  refine (H6.out w5 B5.out).mono ?_
  rintro e w6 ⟨rfl, B6⟩
  obtain ⟨x0, x1, x2⟩ := HF.out w6 B6.out
  have B0 : Below Y.heap.size Y w6.drew := B6.out.drew
  go_wp2_with fail
  go_region_held3 (fun X => X.cell? ⟨V, 0, none⟩ = some (.int .i64 b) ∧ X.cell? ⟨V, 1, none⟩ = some (.int .i64 l) ∧ X.cell? ⟨V, 2, none⟩ = some (.int .i64 s))
    (first | exact HF.out _ B0 | exact HF.out _ h7.out | exact HF.out _ h8.out | exact HF.out _ h9.out)
    (first
      | (go_at_call 12; (first | (with_reducible (refine (H7.out _ B0).mono ?_); rintro e w7 ⟨rfl, h7⟩) | (refine (H7.out _ h8.out).mono ?_; rintro e w7 ⟨rfl, h7⟩)))
      | (go_at_call 13; (first | (with_reducible (refine (H8.out _ B0).mono ?_); rintro e w8 ⟨rfl, h8⟩) | (refine (H8.out _ h7.out).mono ?_; rintro e w8 ⟨rfl, h8⟩)))
      | (go_at_call 14; (first | (with_reducible (refine (HAW.out _ h8.out).mono ?_); rintro e w9 ⟨rfl, h9⟩) | (refine (HAW.out _ h7.out).mono ?_; rintro e w9 ⟨rfl, h9⟩))))
  all_goals
    go_wp2_with fail
    go_ret
    exact ⟨rfl, below_then HBY.out h9.out⟩
end Go.Proofs.Ytaffdddleegfcaa.Fee
