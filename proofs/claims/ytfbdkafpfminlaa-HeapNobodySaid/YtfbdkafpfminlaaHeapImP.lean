/- A queue that nobody made: what each of its calls answers. -/
import Derived.Test.YtfbdkafpfminlaaHeapImL
namespace Go.Proofs.Ytfbdkafpfminlaa.Heap.Im
open Go.RowKit Go.Lib

/-- made says no of it. -/
structure NB (w : World) (v : Value) : Prop where
  made : ∀ W, Below w.heap.size w W → Calls Try.prog 33 #[v] W fun e w' => e = .returned (.bool false) ∧ W = w'
theorem NB.under {w W : World} {v : Value} (h : NB w v) (hb : Below w.heap.size w W) : NB W v := ⟨fun W' hW => h.made W' (below_then hb hW)⟩
set_option maxRecDepth 100000 in
theorem nb_nil (w : World) : NB w (.pointer none) := ⟨fun W _ => by
  go_enter Try.func33, Try.ntmps33
  go_wp2_with fail
  go_ret
  exact ⟨rfl, rfl⟩⟩
set_option maxRecDepth 100000 in
theorem nb_zero {w : World} {Z : Nat} (h : w.heap[Z]? = some (.cells #[.int .i64 0, .int .i64 0, .slice none 0 0, .map none] 53 (0, 0))) : NB w (ptr Z) := ⟨fun W hW => by
  have c0 := cell_block (j := 0) ((hW.block Z (Array.getElem?_eq_some_iff.1 h).1).trans h) rfl
  have hz : W.cell? ⟨Z, 0, none⟩ = some (.int .i64 0) := c0
  clear h c0
  go_enter Try.func33, Try.ntmps33
  go_wp2_with fail
  go_ret
  exact ⟨rfl, rfl⟩⟩
section
variable {v : Value} {w : World}
set_option maxRecDepth 100000 in
theorem nb_insert (a b : Int) (h : NB w v) : Calls Try.prog 14 #[v, .int .i64 a, .int .i64 b] w fun e w' => e = .returned (.tuple #[.int .i64 0, .int .i64 1]) ∧ w = w' := by
  have HM := Lib.hid (h.made w (Below.refl _ _))
  clear h
  go_enter Try.func14, Try.ntmps14
  go_wp2_with (go_at_call 33; refine HM.out.mono ?_; rintro e w' ⟨rfl, rfl⟩)
  go_ret2
  exact ⟨rfl, rfl⟩
set_option maxRecDepth 100000 in
theorem nb_move (a b : Int) (h : NB w v) : Calls Try.prog 17 #[v, .int .i64 a, .int .i64 b] w fun e w' => e = .returned (.tuple #[.int .i64 0, .int .i64 1]) ∧ w = w' := by
  have HM := Lib.hid (h.made w (Below.refl _ _))
  clear h
  go_enter Try.func17, Try.ntmps17
  go_wp2_with (go_at_call 33; refine HM.out.mono ?_; rintro e w' ⟨rfl, rfl⟩)
  go_ret2
  exact ⟨rfl, rfl⟩
set_option maxRecDepth 100000 in
theorem nb_cancel (a : Int) (h : NB w v) : Calls Try.prog 20 #[v, .int .i64 a] w fun e w' => e = .returned (.int .i64 1) ∧ w = w' := by
  have HM := Lib.hid (h.made w (Below.refl _ _))
  clear h
  go_enter Try.func20, Try.ntmps20
  go_wp2_with (go_at_call 33; refine HM.out.mono ?_; rintro e w' ⟨rfl, rfl⟩)
  go_ret
  exact ⟨rfl, rfl⟩
set_option maxRecDepth 100000 in
theorem nb_len (h : NB w v) : Calls Try.prog 16 #[v] w fun e w' => e = .returned (.int .i64 0) ∧ w = w' := by
  have HM := Lib.hid (h.made w (Below.refl _ _))
  clear h
  go_enter Try.func16, Try.ntmps16
  go_wp2_with (go_at_call 33; refine HM.out.mono ?_; rintro e w' ⟨rfl, rfl⟩)
  go_ret
  exact ⟨rfl, rfl⟩
set_option maxRecDepth 100000 in
theorem nb_next (h : NB w v) : Calls Try.prog 22 #[v] w fun e w' => e = .returned (.int .i64 0) ∧ w = w' := by
  have HM := Lib.hid (h.made w (Below.refl _ _))
  clear h
  go_enter Try.func22, Try.ntmps22
  go_wp2_with (go_at_call 33; refine HM.out.mono ?_; rintro e w' ⟨rfl, rfl⟩)
  go_ret
  exact ⟨rfl, rfl⟩
set_option maxRecDepth 100000 in
theorem nb_list (h : NB w v) : Calls Try.prog 21 #[v] w fun e w' => e = .returned (.slice none 0 0) ∧ w = w' := by
  have HM := Lib.hid (h.made w (Below.refl _ _))
  clear h
  go_enter Try.func21, Try.ntmps21
  go_wp2_with (go_at_call 33; refine HM.out.mono ?_; rintro e w' ⟨rfl, rfl⟩)
  go_ret
  exact ⟨rfl, rfl⟩
/-- A zero timer's block of the call's own, and made there. -/
theorem nb_head (h : NB w v) : ∃ R Y, w.heap.size = R ∧ w.alloc (.cells #[.int .i64 0, .int .i64 0, .int .i64 0] 45) = Y ∧ Y.heap[R]? = some (.cells zeroTm.cells 45 (0, 0)) ∧ NB Y v ∧ Hid (Below w.heap.size w Y ∧ w.heap.size = R) :=
  ⟨_, _, rfl, rfl, heap_alloc_new w _, h.under ((Below.refl _ w).alloc (Nat.le_refl _) _), Lib.hid ⟨(Below.refl _ w).alloc (Nat.le_refl _) _, rfl⟩⟩
set_option maxRecDepth 100000 in
set_option maxHeartbeats 1000000 in
theorem nb_first (h : NB w v) : Calls Try.prog 18 #[v] w fun e w' => e = .returned (firstV (zeroTm, false)) ∧ Below w.heap.size w w' := by
  obtain ⟨R, Y, hR, hY, hRY, hN, HB⟩ := nb_head h
  have HL := Lib.hid (nb_len hN)
  obtain ⟨e0, e1, e2⟩ := tm_at hRY
  have f0 := free_block 0 hRY; have f1 := free_block 1 hRY; have f2 := free_block 2 hRY
  have HR := Lib.hid hRY
  clear h hN hRY
  go_enter Try.func18, Try.ntmps18
  go_wp2_with (go_at_call 16; refine HL.out.mono ?_; rintro e w' ⟨rfl, rfl⟩)
  exact ret_tm2 (t := zeroTm) rfl rfl rfl rfl (tm_set (k := zeroTm) (x := zeroTm) HR.out) ⟨rfl, below_cells HB.out.1 (by rw [HB.out.2]; exact Nat.le_refl _) _ _ _⟩
set_option maxRecDepth 100000 in
set_option maxHeartbeats 1000000 in
theorem nb_get (a : Int) (h : NB w v) : Calls Try.prog 19 #[v, .int .i64 a] w fun e w' => e = .returned (firstV (zeroTm, false)) ∧ Below w.heap.size w w' := by
  obtain ⟨R, Y, hR, hY, hRY, hN, HB⟩ := nb_head h
  have HM := Lib.hid (hN.made Y (Below.refl _ _))
  obtain ⟨e0, e1, e2⟩ := tm_at hRY
  have f0 := free_block 0 hRY; have f1 := free_block 1 hRY; have f2 := free_block 2 hRY
  have HR := Lib.hid hRY
  clear h hN hRY
  go_enter Try.func19, Try.ntmps19
  go_wp2_with (go_at_call 33; refine HM.out.mono ?_; rintro e w' ⟨rfl, rfl⟩)
  exact ret_tm2 (t := zeroTm) rfl rfl rfl rfl (tm_set (k := zeroTm) (x := zeroTm) HR.out) ⟨rfl, below_cells HB.out.1 (by rw [HB.out.2]; exact Nat.le_refl _) _ _ _⟩
set_option maxRecDepth 100000 in
set_option maxHeartbeats 2000000 in
theorem nb_pop (a : Int) (h : NB w v) : Calls Try.prog 15 #[v, .int .i64 a] w fun e w' => e = .returned (firstV (zeroTm, false)) ∧ Below w.heap.size w w' := by
  obtain ⟨R, Y, hR, hY, hRY, hN, HB⟩ := nb_head h
  obtain ⟨z, hz0⟩ : ∃ z, zeroTm = z := ⟨_, rfl⟩
  have HF : Hid (Calls Try.prog 18 #[v] Y fun e w' => e = .returned (.tuple #[.agg #[.int .i64 z.due, .int .i64 z.id, .int .i64 z.what], .bool false]) ∧ Below Y.heap.size Y w') := Lib.hid (by rw [← hz0]; exact nb_first hN)
  have hRl := (Array.getElem?_eq_some_iff.1 hRY).1
  have HX : Hid (∀ W, Below Y.heap.size Y W → ∃ X T, W.alloc (.cells #[.int .i64 z.due, .int .i64 z.id, .int .i64 z.what] 45) = X ∧ W.heap.size = T ∧ X.cell? ⟨T, 0, none⟩ = some (.int .i64 z.due) ∧ X.heap[R]? = some (.cells zeroTm.cells 45 (0, 0)) ∧ Hid (Below w.heap.size w X)) := Lib.hid (fun W hW => by
    have hb := heap_alloc_new W (.cells #[.int .i64 z.due, .int .i64 z.id, .int .i64 z.what] 45)
    have hX := hW.alloc hW.size (.cells #[.int .i64 z.due, .int .i64 z.id, .int .i64 z.what] 45)
    exact ⟨_, _, rfl, rfl, cell_block (j := 0) hb rfl, (hX.block R hRl).trans hRY, Lib.hid (below_then HB.out.1 hX)⟩)
  clear h hN hRY hRl hz0
  go_enter Try.func15, Try.ntmps15
  go_wp2_with fail
  clear hY
  refine HF.out.mono ?_
  rintro e W ⟨rfl, hb⟩
  obtain ⟨X, T, hX, hT, x0, hz, HB2⟩ := HX.out W hb
  obtain ⟨e0, e1, e2⟩ := tm_at hz
  have f0 := free_block 0 hz; have f1 := free_block 1 hz; have f2 := free_block 2 hz
  have HZ := Lib.hid hz
  clear hb hz
  go_wp2_with fail
  exact ret_tm2 (t := zeroTm) rfl rfl rfl rfl (tm_set (k := zeroTm) (x := zeroTm) HZ.out) ⟨rfl, below_cells HB2.out (by rw [HB.out.2]; exact Nat.le_refl _) _ _ _⟩
end
end Go.Proofs.Ytfbdkafpfminlaa.Heap.Im
