/- A timer as a result: alone, and beside a slot. -/
import Derived.Test.YtfbdkafpfminlaaHeapA
import Derived.Laws.ResultCell
import Derived.Laws.Rows
namespace Go.Proofs.Ytfbdkafpfminlaa.Heap
open Go.RowKit Go.Lib

theorem ret_tm {fn : Func} {R : Ending → World → Prop} {a : Act} {w : World} {p : Tmp} {g : Nat} {t : Tm} {T : TypeId} (h : fn.results = #[.cell p 45]) (hd : a.defers = [])
    (ht : a.tmps.getD p undef = .pointer (some ⟨g, 0, none⟩)) (hb : w.heap[g]? = some (.cells t.cells T (0, 0))) (hR : R (.returned (tV t)) w) : bodyPost Try.prog fn R .ret a w := by
  exact bodyPost_ret (v := tV t) (results_cell_row h _ w g T t.cells (0, 0) _ ht hb Try.underlying45 rfl (by kernel_rfl)) hd hR
theorem ret_tm2 {fn : Func} {R : Ending → World → Prop} {a : Act} {w : World} {p u : Tmp} {g : Nat} {t : Tm} {x : Value} {T : TypeId} (h : fn.results = #[.cell p 45, .tmp u]) (hd : a.defers = [])
    (ht : a.tmps.getD p undef = .pointer (some ⟨g, 0, none⟩)) (hu : a.tmps.getD u undef = x) (hb : w.heap[g]? = some (.cells t.cells T (0, 0))) (hR : R (.returned (.tuple #[tV t, x])) w) : bodyPost Try.prog fn R .ret a w := by
  refine bodyPost_ret (v := .tuple #[tV t, x]) ?_ hd hR
  rw [results_cell_tmp h, ht, hu]
  simp [asAddr, run_loadVar_row (P := Try.prog) w g T 45 t.cells (0, 0) _ hb Try.underlying45 rfl (by kernel_rfl), Result.andThen]
  rfl
theorem tm_set {w : World} {g : Nat} {k x : Tm} {T : TypeId} (h : w.heap[g]? = some (.cells k.cells T (0, 0))) :
    (((w.setCell ⟨g, 0, none⟩ (.int .i64 x.due)).setCell ⟨g, 1, none⟩ (.int .i64 x.id)).setCell ⟨g, 2, none⟩ (.int .i64 x.what)).heap[g]? = some (.cells x.cells T (0, 0)) := by
  have h0 := heap_setCell_same w g 0 _ _ (.int .i64 x.due) h
  have h1 := heap_setCell_same _ g 1 _ _ (.int .i64 x.id) h0
  have h2 := heap_setCell_same _ g 2 _ _ (.int .i64 x.what) h1
  exact h2
end Go.Proofs.Ytfbdkafpfminlaa.Heap
