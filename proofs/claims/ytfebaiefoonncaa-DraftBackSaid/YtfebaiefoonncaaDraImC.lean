/- The program's Get. -/
import Derived.Test.YtfebaiefoonncaaDraImB
import Derived.Test.YtfebaiefoonncaaTdrD
namespace Go.Proofs.Ytfebaiefoonncaa.Draft
open Go.RowKit Go.Lib

set_option maxRecDepth 100000 in
set_option maxHeartbeats 4000000 in
theorem get_is {Q : Nat} {F : Nat → Prop} {l : List Dr} {z : Int} (i : Int) (w : World) (h : DP w Q F l z) (hr : Rise l) (hl : l.length ≤ 1000) :
    Calls Try.prog 14 #[ptr Q, .int .i64 i] w fun e w' => e = .returned (.tuple #[elV ((find l i).getD default), .int .i64 (if (find l i).isSome then 0 else 3)]) ∧ Below w.heap.size w w' := by
  obtain ⟨R, hR⟩ : ∃ R, w.heap.size = R := ⟨_, rfl⟩
  obtain ⟨Y, hY⟩ : ∃ Y, w.alloc (.cells #[.int .i64 0, .int .i64 0, .int .i64 0, .int .i64 0, .int .i64 0, .int .i64 0, .int .i64 0, .int .i64 0, .int .i64 0] 36) = Y := ⟨_, rfl⟩
  have hbY : Below w.heap.size w Y := by rw [← hY]; exact (Below.refl _ w).alloc (Nat.le_refl _) _
  have hRY : Y.heap[R]? = some (.cells (default : Dr).cells 36 (0, 0)) := by rw [← hY, ← hR]; exact heap_alloc_new w _
  obtain ⟨x, hx⟩ : ∃ x, (find l i).getD default = x := ⟨_, rfl⟩
  obtain ⟨b, hb⟩ : ∃ b, (find l i).isSome = b := ⟨_, rfl⟩
  have HG := Lib.hid (Tb.Dr.get_im (kO i) Y (h.under hbY) (prs_rising hr) (by rw [prs_length]; exact hl))
  rw [value_prs hr, has_prs, hx, hb] at HG
  have HD : Hid (b = false → x = default) := Lib.hid (fun e => by
    rw [← hx]
    rw [e] at hb
    cases hf : find l i with
    | none => rfl
    | some d => rw [hf] at hb; cases hb)
  rw [hx, hb]
  have HX : Hid (∀ W, Below Y.heap.size Y W → ∃ X T, W.alloc (.cells #[.int .i64 x.id, .int .i64 x.owner, .int .i64 x.div, .int .i64 x.place, .int .i64 x.blue, .int .i64 x.me, .int .i64 x.te, .int .i64 x.runs, .int .i64 x.busy] 36) = X ∧ W.heap.size = T ∧ X.heap[T]? = some (.cells x.cells 36 (0, 0)) ∧ X.heap[R]? = some (.cells (default : Dr).cells 36 (0, 0)) ∧ Hid (Below w.heap.size w X)) := Lib.hid (fun W hW => by
    have hb := hW.alloc hW.size (.cells #[.int .i64 x.id, .int .i64 x.owner, .int .i64 x.div, .int .i64 x.place, .int .i64 x.blue, .int .i64 x.me, .int .i64 x.te, .int .i64 x.runs, .int .i64 x.busy] 36)
    exact ⟨_, _, rfl, rfl, heap_alloc_new W _, (hb.block R (Array.getElem?_eq_some_iff.1 hRY).1).trans hRY, Lib.hid (below_then hbY hb)⟩)
  have HR : Hid (w.heap.size ≤ R) := Lib.hid (by omega)
  clear h hr hl hx hb hbY hRY
  go_enter Try.func14, Try.ntmps14
  go_wp2_with fail
  clear hY hR
  refine HG.out.mono ?_
  rintro e w1 ⟨rfl, hb1⟩
  obtain ⟨X, T, hX, hT, h1, h2, HB⟩ := HX.out w1 hb1
  obtain ⟨v0, v1, v2, v3, v4, v5, v6, v7, v8⟩ := el_at h1
  obtain ⟨e0, e1, e2, e3, e4, e5, e6, e7, e8⟩ := el_at h2
  obtain ⟨f0, f1, f2, f3, f4, f5, f6, f7, f8⟩ := el_free h2
  have HR2 := Lib.hid h2
  clear hb1 h1 h2
  cases b with
  | false =>
    have HD2 : Hid (x = default) := Lib.hid (HD.out rfl)
    go_wp2_with fail
    refine ret_el2 (t := default) rfl rfl rfl rfl (el_zero HR2.out) ⟨?_, below_zero HB.out HR.out⟩
    rw [HD2.out]
    rfl
  | true =>
    go_wp2_with fail
    exact ret_el2 (t := x) rfl rfl rfl rfl (el_set x HR2.out) ⟨rfl, below_el HB.out HR.out _⟩
set_option maxRecDepth 100000 in
set_option maxHeartbeats 2000000 in
theorem get_nil (i : Int) (w : World) :
    Calls Try.prog 14 #[.pointer none, .int .i64 i] w fun e w' => e = .returned (.tuple #[elV default, .int .i64 1]) ∧ Below w.heap.size w w' := by
  obtain ⟨R, hR⟩ : ∃ R, w.heap.size = R := ⟨_, rfl⟩
  obtain ⟨Y, hY⟩ : ∃ Y, w.alloc (.cells #[.int .i64 0, .int .i64 0, .int .i64 0, .int .i64 0, .int .i64 0, .int .i64 0, .int .i64 0, .int .i64 0, .int .i64 0] 36) = Y := ⟨_, rfl⟩
  have hbY : Below w.heap.size w Y := by rw [← hY]; exact (Below.refl _ w).alloc (Nat.le_refl _) _
  have hRY : Y.heap[R]? = some (.cells (default : Dr).cells 36 (0, 0)) := by rw [← hY, ← hR]; exact heap_alloc_new w _
  obtain ⟨e0, e1, e2, e3, e4, e5, e6, e7, e8⟩ := el_at hRY
  obtain ⟨f0, f1, f2, f3, f4, f5, f6, f7, f8⟩ := el_free hRY
  have HR2 := Lib.hid hRY; have HB := Lib.hid hbY
  have HR : Hid (w.heap.size ≤ R) := Lib.hid (by omega)
  clear hRY hbY
  go_enter Try.func14, Try.ntmps14
  go_wp2_with fail
  exact ret_el2 (t := default) rfl rfl rfl rfl (el_zero HR2.out) ⟨rfl, below_zero HB.out HR.out⟩
end Go.Proofs.Ytfebaiefoonncaa.Draft
