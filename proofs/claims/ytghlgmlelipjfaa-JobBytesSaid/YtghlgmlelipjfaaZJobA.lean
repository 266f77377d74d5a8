/- A job of sixteen cells: in memory, as a value, as a result. Rows of one's own, and what is kept while other blocks are turned. The document's reader: Uint. -/
import Derived.Test.YtghlgmlelipjfaaZJobMath
import Derived.Laws.ResultCell
import Derived.Laws.Rows
import Derived.Test.YtghlgmlelipjfaaZPrW
namespace Go.Proofs.Ytghlgmlelipjfaa.Job
open Go.RowKit Go.Lib
open Goods (St Sts OwnS)

def JS.cells (x : JS) (v : Value) : Array Value := #[.int .i64 x.id, .int .i64 x.kd, .int .i64 x.ow, .int .i64 x.dv, .int .i64 x.pb, .int .i64 x.ba, .int .i64 x.dr, .int .i64 x.rn, .int .i64 x.cp, .int .i64 x.tm, .int .i64 x.fe, v, .int .i64 x.st, .int .i64 x.sr, .int .i64 x.en, .int .i64 x.lf]
abbrev jV (x : JS) (v : Value) : Value := .agg #[.int .i64 x.id, .int .i64 x.kd, .int .i64 x.ow, .int .i64 x.dv, .int .i64 x.pb, .int .i64 x.ba, .int .i64 x.dr, .int .i64 x.rn, .int .i64 x.cp, .int .i64 x.tm, .int .i64 x.fe, v, .int .i64 x.st, .int .i64 x.sr, .int .i64 x.en, .int .i64 x.lf]
abbrev jZ : Value := .agg #[.int .i64 0, .int .i64 0, .int .i64 0, .int .i64 0, .int .i64 0, .int .i64 0, .int .i64 0, .int .i64 0, .int .i64 0, .int .i64 0, .int .i64 0, .slice none 0 0, .int .i64 0, .int .i64 0, .int .i64 0, .int .i64 0]
theorem jV_zero : jV zJ (.slice none 0 0) = jZ := rfl
/-- Block g holds a job. -/
abbrev Has (w : World) (g : Nat) (x : JS) (v : Value) : Prop := w.heap[g]? = some (.cells (x.cells v) 24 (0, 0))
theorem jo_at {w : World} {g : Nat} {x : JS} {v : Value} {t : TypeId} (h : w.heap[g]? = some (.cells (x.cells v) t (0, 0))) :
    w.cell? ⟨g, 0, none⟩ = some (.int .i64 x.id) ∧ w.cell? ⟨g, 1, none⟩ = some (.int .i64 x.kd) ∧ w.cell? ⟨g, 2, none⟩ = some (.int .i64 x.ow) ∧ w.cell? ⟨g, 3, none⟩ = some (.int .i64 x.dv) ∧ w.cell? ⟨g, 4, none⟩ = some (.int .i64 x.pb) ∧ w.cell? ⟨g, 5, none⟩ = some (.int .i64 x.ba) ∧ w.cell? ⟨g, 6, none⟩ = some (.int .i64 x.dr) ∧ w.cell? ⟨g, 7, none⟩ = some (.int .i64 x.rn) ∧ w.cell? ⟨g, 8, none⟩ = some (.int .i64 x.cp) ∧ w.cell? ⟨g, 9, none⟩ = some (.int .i64 x.tm) ∧ w.cell? ⟨g, 10, none⟩ = some (.int .i64 x.fe) ∧ w.cell? ⟨g, 11, none⟩ = some v ∧ w.cell? ⟨g, 12, none⟩ = some (.int .i64 x.st) ∧ w.cell? ⟨g, 13, none⟩ = some (.int .i64 x.sr) ∧ w.cell? ⟨g, 14, none⟩ = some (.int .i64 x.en) ∧ w.cell? ⟨g, 15, none⟩ = some (.int .i64 x.lf) :=
  ⟨cell_block (j := 0) h rfl, cell_block (j := 1) h rfl, cell_block (j := 2) h rfl, cell_block (j := 3) h rfl, cell_block (j := 4) h rfl, cell_block (j := 5) h rfl, cell_block (j := 6) h rfl, cell_block (j := 7) h rfl, cell_block (j := 8) h rfl, cell_block (j := 9) h rfl, cell_block (j := 10) h rfl, cell_block (j := 11) h rfl, cell_block (j := 12) h rfl, cell_block (j := 13) h rfl, cell_block (j := 14) h rfl, cell_block (j := 15) h rfl⟩
theorem jo_free {w : World} {g : Nat} {x : JS} {v : Value} {t : TypeId} (h : w.heap[g]? = some (.cells (x.cells v) t (0, 0))) :
    w.frozen? ⟨g, 0, none⟩ = false ∧ w.frozen? ⟨g, 1, none⟩ = false ∧ w.frozen? ⟨g, 2, none⟩ = false ∧ w.frozen? ⟨g, 3, none⟩ = false ∧ w.frozen? ⟨g, 4, none⟩ = false ∧ w.frozen? ⟨g, 5, none⟩ = false ∧ w.frozen? ⟨g, 6, none⟩ = false ∧ w.frozen? ⟨g, 7, none⟩ = false ∧ w.frozen? ⟨g, 8, none⟩ = false ∧ w.frozen? ⟨g, 9, none⟩ = false ∧ w.frozen? ⟨g, 10, none⟩ = false ∧ w.frozen? ⟨g, 11, none⟩ = false ∧ w.frozen? ⟨g, 12, none⟩ = false ∧ w.frozen? ⟨g, 13, none⟩ = false ∧ w.frozen? ⟨g, 14, none⟩ = false ∧ w.frozen? ⟨g, 15, none⟩ = false :=
  ⟨free_block 0 h, free_block 1 h, free_block 2 h, free_block 3 h, free_block 4 h, free_block 5 h, free_block 6 h, free_block 7 h, free_block 8 h, free_block 9 h, free_block 10 h, free_block 11 h, free_block 12 h, free_block 13 h, free_block 14 h, free_block 15 h⟩
/-- All cells of it stored into a block. -/
abbrev setJ (W : World) (g : Nat) (x : JS) (v : Value) : World := ((((((((((((((((W.setCell ⟨g, 0, none⟩ (.int .i64 x.id)).setCell ⟨g, 1, none⟩ (.int .i64 x.kd)).setCell ⟨g, 2, none⟩ (.int .i64 x.ow)).setCell ⟨g, 3, none⟩ (.int .i64 x.dv)).setCell ⟨g, 4, none⟩ (.int .i64 x.pb)).setCell ⟨g, 5, none⟩ (.int .i64 x.ba)).setCell ⟨g, 6, none⟩ (.int .i64 x.dr)).setCell ⟨g, 7, none⟩ (.int .i64 x.rn)).setCell ⟨g, 8, none⟩ (.int .i64 x.cp)).setCell ⟨g, 9, none⟩ (.int .i64 x.tm)).setCell ⟨g, 10, none⟩ (.int .i64 x.fe)).setCell ⟨g, 11, none⟩ v).setCell ⟨g, 12, none⟩ (.int .i64 x.st)).setCell ⟨g, 13, none⟩ (.int .i64 x.sr)).setCell ⟨g, 14, none⟩ (.int .i64 x.en)).setCell ⟨g, 15, none⟩ (.int .i64 x.lf))
theorem jo_set {w : World} {g : Nat} {k : JS} {u : Value} (x : JS) (v : Value) {T : TypeId} (h : w.heap[g]? = some (.cells (k.cells u) T (0, 0))) : (setJ w g x v).heap[g]? = some (.cells (x.cells v) T (0, 0)) := by
  have h0 : ((w.setCell ⟨g, 0, none⟩ (.int .i64 x.id))).heap[g]? = some (.cells #[.int .i64 x.id, .int .i64 k.kd, .int .i64 k.ow, .int .i64 k.dv, .int .i64 k.pb, .int .i64 k.ba, .int .i64 k.dr, .int .i64 k.rn, .int .i64 k.cp, .int .i64 k.tm, .int .i64 k.fe, u, .int .i64 k.st, .int .i64 k.sr, .int .i64 k.en, .int .i64 k.lf] T (0, 0)) := heap_setCell_same _ g 0 _ _ (.int .i64 x.id) h
  have h1 : (((w.setCell ⟨g, 0, none⟩ (.int .i64 x.id)).setCell ⟨g, 1, none⟩ (.int .i64 x.kd))).heap[g]? = some (.cells #[.int .i64 x.id, .int .i64 x.kd, .int .i64 k.ow, .int .i64 k.dv, .int .i64 k.pb, .int .i64 k.ba, .int .i64 k.dr, .int .i64 k.rn, .int .i64 k.cp, .int .i64 k.tm, .int .i64 k.fe, u, .int .i64 k.st, .int .i64 k.sr, .int .i64 k.en, .int .i64 k.lf] T (0, 0)) := heap_setCell_same _ g 1 _ _ (.int .i64 x.kd) h0
  have h2 : ((((w.setCell ⟨g, 0, none⟩ (.int .i64 x.id)).setCell ⟨g, 1, none⟩ (.int .i64 x.kd)).setCell ⟨g, 2, none⟩ (.int .i64 x.ow))).heap[g]? = some (.cells #[.int .i64 x.id, .int .i64 x.kd, .int .i64 x.ow, .int .i64 k.dv, .int .i64 k.pb, .int .i64 k.ba, .int .i64 k.dr, .int .i64 k.rn, .int .i64 k.cp, .int .i64 k.tm, .int .i64 k.fe, u, .int .i64 k.st, .int .i64 k.sr, .int .i64 k.en, .int .i64 k.lf] T (0, 0)) := heap_setCell_same _ g 2 _ _ (.int .i64 x.ow) h1
  have h3 : (((((w.setCell ⟨g, 0, none⟩ (.int .i64 x.id)).setCell ⟨g, 1, none⟩ (.int .i64 x.kd)).setCell ⟨g, 2, none⟩ (.int .i64 x.ow)).setCell ⟨g, 3, none⟩ (.int .i64 x.dv))).heap[g]? = some (.cells #[.int .i64 x.id, .int .i64 x.kd, .int .i64 x.ow, .int .i64 x.dv, .int .i64 k.pb, .int .i64 k.ba, .int .i64 k.dr, .int .i64 k.rn, .int .i64 k.cp, .int .i64 k.tm, .int .i64 k.fe, u, .int .i64 k.st, .int .i64 k.sr, .int .i64 k.en, .int .i64 k.lf] T (0, 0)) := heap_setCell_same _ g 3 _ _ (.int .i64 x.dv) h2
  have h4 : ((((((w.setCell ⟨g, 0, none⟩ (.int .i64 x.id)).setCell ⟨g, 1, none⟩ (.int .i64 x.kd)).setCell ⟨g, 2, none⟩ (.int .i64 x.ow)).setCell ⟨g, 3, none⟩ (.int .i64 x.dv)).setCell ⟨g, 4, none⟩ (.int .i64 x.pb))).heap[g]? = some (.cells #[.int .i64 x.id, .int .i64 x.kd, .int .i64 x.ow, .int .i64 x.dv, .int .i64 x.pb, .int .i64 k.ba, .int .i64 k.dr, .int .i64 k.rn, .int .i64 k.cp, .int .i64 k.tm, .int .i64 k.fe, u, .int .i64 k.st, .int .i64 k.sr, .int .i64 k.en, .int .i64 k.lf] T (0, 0)) := heap_setCell_same _ g 4 _ _ (.int .i64 x.pb) h3
  have h5 : (((((((w.setCell ⟨g, 0, none⟩ (.int .i64 x.id)).setCell ⟨g, 1, none⟩ (.int .i64 x.kd)).setCell ⟨g, 2, none⟩ (.int .i64 x.ow)).setCell ⟨g, 3, none⟩ (.int .i64 x.dv)).setCell ⟨g, 4, none⟩ (.int .i64 x.pb)).setCell ⟨g, 5, none⟩ (.int .i64 x.ba))).heap[g]? = some (.cells #[.int .i64 x.id, .int .i64 x.kd, .int .i64 x.ow, .int .i64 x.dv, .int .i64 x.pb, .int .i64 x.ba, .int .i64 k.dr, .int .i64 k.rn, .int .i64 k.cp, .int .i64 k.tm, .int .i64 k.fe, u, .int .i64 k.st, .int .i64 k.sr, .int .i64 k.en, .int .i64 k.lf] T (0, 0)) := heap_setCell_same _ g 5 _ _ (.int .i64 x.ba) h4
  have h6 : ((((((((w.setCell ⟨g, 0, none⟩ (.int .i64 x.id)).setCell ⟨g, 1, none⟩ (.int .i64 x.kd)).setCell ⟨g, 2, none⟩ (.int .i64 x.ow)).setCell ⟨g, 3, none⟩ (.int .i64 x.dv)).setCell ⟨g, 4, none⟩ (.int .i64 x.pb)).setCell ⟨g, 5, none⟩ (.int .i64 x.ba)).setCell ⟨g, 6, none⟩ (.int .i64 x.dr))).heap[g]? = some (.cells #[.int .i64 x.id, .int .i64 x.kd, .int .i64 x.ow, .int .i64 x.dv, .int .i64 x.pb, .int .i64 x.ba, .int .i64 x.dr, .int .i64 k.rn, .int .i64 k.cp, .int .i64 k.tm, .int .i64 k.fe, u, .int .i64 k.st, .int .i64 k.sr, .int .i64 k.en, .int .i64 k.lf] T (0, 0)) := heap_setCell_same _ g 6 _ _ (.int .i64 x.dr) h5
  have h7 : (((((((((w.setCell ⟨g, 0, none⟩ (.int .i64 x.id)).setCell ⟨g, 1, none⟩ (.int .i64 x.kd)).setCell ⟨g, 2, none⟩ (.int .i64 x.ow)).setCell ⟨g, 3, none⟩ (.int .i64 x.dv)).setCell ⟨g, 4, none⟩ (.int .i64 x.pb)).setCell ⟨g, 5, none⟩ (.int .i64 x.ba)).setCell ⟨g, 6, none⟩ (.int .i64 x.dr)).setCell ⟨g, 7, none⟩ (.int .i64 x.rn))).heap[g]? = some (.cells #[.int .i64 x.id, .int .i64 x.kd, .int .i64 x.ow, .int .i64 x.dv, .int .i64 x.pb, .int .i64 x.ba, .int .i64 x.dr, .int .i64 x.rn, .int .i64 k.cp, .int .i64 k.tm, .int .i64 k.fe, u, .int .i64 k.st, .int .i64 k.sr, .int .i64 k.en, .int .i64 k.lf] T (0, 0)) := heap_setCell_same _ g 7 _ _ (.int .i64 x.rn) h6
  have h8 : ((((((((((w.setCell ⟨g, 0, none⟩ (.int .i64 x.id)).setCell ⟨g, 1, none⟩ (.int .i64 x.kd)).setCell ⟨g, 2, none⟩ (.int .i64 x.ow)).setCell ⟨g, 3, none⟩ (.int .i64 x.dv)).setCell ⟨g, 4, none⟩ (.int .i64 x.pb)).setCell ⟨g, 5, none⟩ (.int .i64 x.ba)).setCell ⟨g, 6, none⟩ (.int .i64 x.dr)).setCell ⟨g, 7, none⟩ (.int .i64 x.rn)).setCell ⟨g, 8, none⟩ (.int .i64 x.cp))).heap[g]? = some (.cells #[.int .i64 x.id, .int .i64 x.kd, .int .i64 x.ow, .int .i64 x.dv, .int .i64 x.pb, .int .i64 x.ba, .int .i64 x.dr, .int .i64 x.rn, .int .i64 x.cp, .int .i64 k.tm, .int .i64 k.fe, u, .int .i64 k.st, .int .i64 k.sr, .int .i64 k.en, .int .i64 k.lf] T (0, 0)) := heap_setCell_same _ g 8 _ _ (.int .i64 x.cp) h7
  have h9 : (((((((((((w.setCell ⟨g, 0, none⟩ (.int .i64 x.id)).setCell ⟨g, 1, none⟩ (.int .i64 x.kd)).setCell ⟨g, 2, none⟩ (.int .i64 x.ow)).setCell ⟨g, 3, none⟩ (.int .i64 x.dv)).setCell ⟨g, 4, none⟩ (.int .i64 x.pb)).setCell ⟨g, 5, none⟩ (.int .i64 x.ba)).setCell ⟨g, 6, none⟩ (.int .i64 x.dr)).setCell ⟨g, 7, none⟩ (.int .i64 x.rn)).setCell ⟨g, 8, none⟩ (.int .i64 x.cp)).setCell ⟨g, 9, none⟩ (.int .i64 x.tm))).heap[g]? = some (.cells #[.int .i64 x.id, .int .i64 x.kd, .int .i64 x.ow, .int .i64 x.dv, .int .i64 x.pb, .int .i64 x.ba, .int .i64 x.dr, .int .i64 x.rn, .int .i64 x.cp, .int .i64 x.tm, .int .i64 k.fe, u, .int .i64 k.st, .int .i64 k.sr, .int .i64 k.en, .int .i64 k.lf] T (0, 0)) := heap_setCell_same _ g 9 _ _ (.int .i64 x.tm) h8
  have h10 : ((((((((((((w.setCell ⟨g, 0, none⟩ (.int .i64 x.id)).setCell ⟨g, 1, none⟩ (.int .i64 x.kd)).setCell ⟨g, 2, none⟩ (.int .i64 x.ow)).setCell ⟨g, 3, none⟩ (.int .i64 x.dv)).setCell ⟨g, 4, none⟩ (.int .i64 x.pb)).setCell ⟨g, 5, none⟩ (.int .i64 x.ba)).setCell ⟨g, 6, none⟩ (.int .i64 x.dr)).setCell ⟨g, 7, none⟩ (.int .i64 x.rn)).setCell ⟨g, 8, none⟩ (.int .i64 x.cp)).setCell ⟨g, 9, none⟩ (.int .i64 x.tm)).setCell ⟨g, 10, none⟩ (.int .i64 x.fe))).heap[g]? = some (.cells #[.int .i64 x.id, .int .i64 x.kd, .int .i64 x.ow, .int .i64 x.dv, .int .i64 x.pb, .int .i64 x.ba, .int .i64 x.dr, .int .i64 x.rn, .int .i64 x.cp, .int .i64 x.tm, .int .i64 x.fe, u, .int .i64 k.st, .int .i64 k.sr, .int .i64 k.en, .int .i64 k.lf] T (0, 0)) := heap_setCell_same _ g 10 _ _ (.int .i64 x.fe) h9
  have h11 : (((((((((((((w.setCell ⟨g, 0, none⟩ (.int .i64 x.id)).setCell ⟨g, 1, none⟩ (.int .i64 x.kd)).setCell ⟨g, 2, none⟩ (.int .i64 x.ow)).setCell ⟨g, 3, none⟩ (.int .i64 x.dv)).setCell ⟨g, 4, none⟩ (.int .i64 x.pb)).setCell ⟨g, 5, none⟩ (.int .i64 x.ba)).setCell ⟨g, 6, none⟩ (.int .i64 x.dr)).setCell ⟨g, 7, none⟩ (.int .i64 x.rn)).setCell ⟨g, 8, none⟩ (.int .i64 x.cp)).setCell ⟨g, 9, none⟩ (.int .i64 x.tm)).setCell ⟨g, 10, none⟩ (.int .i64 x.fe)).setCell ⟨g, 11, none⟩ v)).heap[g]? = some (.cells #[.int .i64 x.id, .int .i64 x.kd, .int .i64 x.ow, .int .i64 x.dv, .int .i64 x.pb, .int .i64 x.ba, .int .i64 x.dr, .int .i64 x.rn, .int .i64 x.cp, .int .i64 x.tm, .int .i64 x.fe, v, .int .i64 k.st, .int .i64 k.sr, .int .i64 k.en, .int .i64 k.lf] T (0, 0)) := heap_setCell_same _ g 11 _ _ v h10
  have h12 : ((((((((((((((w.setCell ⟨g, 0, none⟩ (.int .i64 x.id)).setCell ⟨g, 1, none⟩ (.int .i64 x.kd)).setCell ⟨g, 2, none⟩ (.int .i64 x.ow)).setCell ⟨g, 3, none⟩ (.int .i64 x.dv)).setCell ⟨g, 4, none⟩ (.int .i64 x.pb)).setCell ⟨g, 5, none⟩ (.int .i64 x.ba)).setCell ⟨g, 6, none⟩ (.int .i64 x.dr)).setCell ⟨g, 7, none⟩ (.int .i64 x.rn)).setCell ⟨g, 8, none⟩ (.int .i64 x.cp)).setCell ⟨g, 9, none⟩ (.int .i64 x.tm)).setCell ⟨g, 10, none⟩ (.int .i64 x.fe)).setCell ⟨g, 11, none⟩ v).setCell ⟨g, 12, none⟩ (.int .i64 x.st))).heap[g]? = some (.cells #[.int .i64 x.id, .int .i64 x.kd, .int .i64 x.ow, .int .i64 x.dv, .int .i64 x.pb, .int .i64 x.ba, .int .i64 x.dr, .int .i64 x.rn, .int .i64 x.cp, .int .i64 x.tm, .int .i64 x.fe, v, .int .i64 x.st, .int .i64 k.sr, .int .i64 k.en, .int .i64 k.lf] T (0, 0)) := heap_setCell_same _ g 12 _ _ (.int .i64 x.st) h11
  have h13 : (((((((((((((((w.setCell ⟨g, 0, none⟩ (.int .i64 x.id)).setCell ⟨g, 1, none⟩ (.int .i64 x.kd)).setCell ⟨g, 2, none⟩ (.int .i64 x.ow)).setCell ⟨g, 3, none⟩ (.int .i64 x.dv)).setCell ⟨g, 4, none⟩ (.int .i64 x.pb)).setCell ⟨g, 5, none⟩ (.int .i64 x.ba)).setCell ⟨g, 6, none⟩ (.int .i64 x.dr)).setCell ⟨g, 7, none⟩ (.int .i64 x.rn)).setCell ⟨g, 8, none⟩ (.int .i64 x.cp)).setCell ⟨g, 9, none⟩ (.int .i64 x.tm)).setCell ⟨g, 10, none⟩ (.int .i64 x.fe)).setCell ⟨g, 11, none⟩ v).setCell ⟨g, 12, none⟩ (.int .i64 x.st)).setCell ⟨g, 13, none⟩ (.int .i64 x.sr))).heap[g]? = some (.cells #[.int .i64 x.id, .int .i64 x.kd, .int .i64 x.ow, .int .i64 x.dv, .int .i64 x.pb, .int .i64 x.ba, .int .i64 x.dr, .int .i64 x.rn, .int .i64 x.cp, .int .i64 x.tm, .int .i64 x.fe, v, .int .i64 x.st, .int .i64 x.sr, .int .i64 k.en, .int .i64 k.lf] T (0, 0)) := heap_setCell_same _ g 13 _ _ (.int .i64 x.sr) h12
  have h14 : ((((((((((((((((w.setCell ⟨g, 0, none⟩ (.int .i64 x.id)).setCell ⟨g, 1, none⟩ (.int .i64 x.kd)).setCell ⟨g, 2, none⟩ (.int .i64 x.ow)).setCell ⟨g, 3, none⟩ (.int .i64 x.dv)).setCell ⟨g, 4, none⟩ (.int .i64 x.pb)).setCell ⟨g, 5, none⟩ (.int .i64 x.ba)).setCell ⟨g, 6, none⟩ (.int .i64 x.dr)).setCell ⟨g, 7, none⟩ (.int .i64 x.rn)).setCell ⟨g, 8, none⟩ (.int .i64 x.cp)).setCell ⟨g, 9, none⟩ (.int .i64 x.tm)).setCell ⟨g, 10, none⟩ (.int .i64 x.fe)).setCell ⟨g, 11, none⟩ v).setCell ⟨g, 12, none⟩ (.int .i64 x.st)).setCell ⟨g, 13, none⟩ (.int .i64 x.sr)).setCell ⟨g, 14, none⟩ (.int .i64 x.en))).heap[g]? = some (.cells #[.int .i64 x.id, .int .i64 x.kd, .int .i64 x.ow, .int .i64 x.dv, .int .i64 x.pb, .int .i64 x.ba, .int .i64 x.dr, .int .i64 x.rn, .int .i64 x.cp, .int .i64 x.tm, .int .i64 x.fe, v, .int .i64 x.st, .int .i64 x.sr, .int .i64 x.en, .int .i64 k.lf] T (0, 0)) := heap_setCell_same _ g 14 _ _ (.int .i64 x.en) h13
  have h15 : (((((((((((((((((w.setCell ⟨g, 0, none⟩ (.int .i64 x.id)).setCell ⟨g, 1, none⟩ (.int .i64 x.kd)).setCell ⟨g, 2, none⟩ (.int .i64 x.ow)).setCell ⟨g, 3, none⟩ (.int .i64 x.dv)).setCell ⟨g, 4, none⟩ (.int .i64 x.pb)).setCell ⟨g, 5, none⟩ (.int .i64 x.ba)).setCell ⟨g, 6, none⟩ (.int .i64 x.dr)).setCell ⟨g, 7, none⟩ (.int .i64 x.rn)).setCell ⟨g, 8, none⟩ (.int .i64 x.cp)).setCell ⟨g, 9, none⟩ (.int .i64 x.tm)).setCell ⟨g, 10, none⟩ (.int .i64 x.fe)).setCell ⟨g, 11, none⟩ v).setCell ⟨g, 12, none⟩ (.int .i64 x.st)).setCell ⟨g, 13, none⟩ (.int .i64 x.sr)).setCell ⟨g, 14, none⟩ (.int .i64 x.en)).setCell ⟨g, 15, none⟩ (.int .i64 x.lf))).heap[g]? = some (.cells #[.int .i64 x.id, .int .i64 x.kd, .int .i64 x.ow, .int .i64 x.dv, .int .i64 x.pb, .int .i64 x.ba, .int .i64 x.dr, .int .i64 x.rn, .int .i64 x.cp, .int .i64 x.tm, .int .i64 x.fe, v, .int .i64 x.st, .int .i64 x.sr, .int .i64 x.en, .int .i64 x.lf] T (0, 0)) := heap_setCell_same _ g 15 _ _ (.int .i64 x.lf) h14
  exact h15
theorem only_jo {a w : World} {g : Nat} (h : a.grownBy w (some g)) (x : JS) (v : Value) : a.grownBy (setJ w g x v) (some g) :=
  only_setCell (only_setCell (only_setCell (only_setCell (only_setCell (only_setCell (only_setCell (only_setCell (only_setCell (only_setCell (only_setCell (only_setCell (only_setCell (only_setCell (only_setCell (only_setCell (h) _ _) _ _) _ _) _ _) _ _) _ _) _ _) _ _) _ _) _ _) _ _) _ _) _ _) _ _) _ _) _ _
theorem below_jo {B : Nat} {a w : World} {g : Nat} (h : Below B a w) (hB : B ≤ g) (x : JS) (v : Value) : Below B a (setJ w g x v) :=
  ((((((((((((((((h.setCell (p := ⟨g, 0, none⟩) hB _).setCell (p := ⟨g, 1, none⟩) hB _).setCell (p := ⟨g, 2, none⟩) hB _).setCell (p := ⟨g, 3, none⟩) hB _).setCell (p := ⟨g, 4, none⟩) hB _).setCell (p := ⟨g, 5, none⟩) hB _).setCell (p := ⟨g, 6, none⟩) hB _).setCell (p := ⟨g, 7, none⟩) hB _).setCell (p := ⟨g, 8, none⟩) hB _).setCell (p := ⟨g, 9, none⟩) hB _).setCell (p := ⟨g, 10, none⟩) hB _).setCell (p := ⟨g, 11, none⟩) hB _).setCell (p := ⟨g, 12, none⟩) hB _).setCell (p := ⟨g, 13, none⟩) hB _).setCell (p := ⟨g, 14, none⟩) hB _).setCell (p := ⟨g, 15, none⟩) hB _)
/-- .. nought. -/
abbrev setZ (W : World) (g : Nat) : World := ((((((((((((((((W.setCell ⟨g, 0, none⟩ (.int .i64 0)).setCell ⟨g, 1, none⟩ (.int .i64 0)).setCell ⟨g, 2, none⟩ (.int .i64 0)).setCell ⟨g, 3, none⟩ (.int .i64 0)).setCell ⟨g, 4, none⟩ (.int .i64 0)).setCell ⟨g, 5, none⟩ (.int .i64 0)).setCell ⟨g, 6, none⟩ (.int .i64 0)).setCell ⟨g, 7, none⟩ (.int .i64 0)).setCell ⟨g, 8, none⟩ (.int .i64 0)).setCell ⟨g, 9, none⟩ (.int .i64 0)).setCell ⟨g, 10, none⟩ (.int .i64 0)).setCell ⟨g, 11, none⟩ (.slice none 0 0)).setCell ⟨g, 12, none⟩ (.int .i64 0)).setCell ⟨g, 13, none⟩ (.int .i64 0)).setCell ⟨g, 14, none⟩ (.int .i64 0)).setCell ⟨g, 15, none⟩ (.int .i64 0))
theorem jo_zero {w : World} {g : Nat} {k : JS} {u : Value} {T : TypeId} (h : w.heap[g]? = some (.cells (k.cells u) T (0, 0))) : (setZ w g).heap[g]? = some (.cells (zJ.cells (.slice none 0 0)) T (0, 0)) := jo_set zJ (.slice none 0 0) h
theorem below_zero {B : Nat} {a w : World} {g : Nat} (h : Below B a w) (hB : B ≤ g) : Below B a (setZ w g) := below_jo h hB zJ (.slice none 0 0)
theorem ret_jo {fn : Func} {R : Ending → World → Prop} {a : Act} {w : World} {p : Tmp} {g : Nat} {x : JS} {v : Value} {T : TypeId} (h : fn.results = #[.cell p 24]) (hd : a.defers = [])
    (ht : a.tmps.getD p undef = .pointer (some ⟨g, 0, none⟩)) (hb : w.heap[g]? = some (.cells (x.cells v) T (0, 0))) (hR : R (.returned (jV x v)) w) : bodyPost Try.prog fn R .ret a w := by
  exact bodyPost_ret (v := jV x v) (results_cell_row h _ w g T (x.cells v) (0, 0) _ ht hb Try.underlying24 rfl (by kernel_rfl)) hd hR
theorem ret_jo2 {fn : Func} {R : Ending → World → Prop} {a : Act} {w : World} {p u : Tmp} {g : Nat} {x : JS} {v z : Value} {T : TypeId} (h : fn.results = #[.cell p 24, .tmp u]) (hd : a.defers = [])
    (ht : a.tmps.getD p undef = .pointer (some ⟨g, 0, none⟩)) (hu : a.tmps.getD u undef = z) (hb : w.heap[g]? = some (.cells (x.cells v) T (0, 0))) (hR : R (.returned (.tuple #[jV x v, z])) w) : bodyPost Try.prog fn R .ret a w := by
  refine bodyPost_ret (v := .tuple #[jV x v, z]) ?_ hd hR
  rw [results_cell_tmp h, ht, hu]
  simp [asAddr, run_loadVar_row (P := Try.prog) w g T 24 (x.cells v) (0, 0) _ hb Try.underlying24 rfl (by kernel_rfl), Result.andThen]
  rfl
/-- Its stacks lie somewhere. -/
def JIn (w : World) (a : Option Addr) (n : Nat) (l : List St) : Prop := l.length = n ∧ Sts w a l
theorem JIn.under {w w' : World} {a : Option Addr} {n : Nat} {l : List St} (h : JIn w a n l) (hb : Below w.heap.size w w') : JIn w' a n l := ⟨h.1, h.2.under hb⟩
theorem JIn.nil (w : World) : JIn w none 0 [] := ⟨rfl, fun i t h => by cases h⟩
/-- A job in a box of its own. -/
theorem box_jo (w : World) (x : JS) (v : Value) : ∃ V X, w.heap.size = V ∧ w.alloc (.cells #[.int .i64 x.id, .int .i64 x.kd, .int .i64 x.ow, .int .i64 x.dv, .int .i64 x.pb, .int .i64 x.ba, .int .i64 x.dr, .int .i64 x.rn, .int .i64 x.cp, .int .i64 x.tm, .int .i64 x.fe, v, .int .i64 x.st, .int .i64 x.sr, .int .i64 x.en, .int .i64 x.lf] 24) = X ∧ Hid (Below w.heap.size w X ∧ X.heap.size = V + 1) ∧ Hid (Has X V x v) :=
  ⟨_, _, rfl, rfl, Lib.hid ⟨(Below.refl _ w).alloc (Nat.le_refl _) _, by simp⟩, Lib.hid (heap_alloc_new w _)⟩
/-- .. a zero one. -/
theorem box_zero (w : World) : ∃ V X, w.heap.size = V ∧ w.alloc (.cells #[.int .i64 0, .int .i64 0, .int .i64 0, .int .i64 0, .int .i64 0, .int .i64 0, .int .i64 0, .int .i64 0, .int .i64 0, .int .i64 0, .int .i64 0, .slice none 0 0, .int .i64 0, .int .i64 0, .int .i64 0, .int .i64 0] 24) = X ∧ Hid (Below w.heap.size w X ∧ X.heap.size = V + 1) ∧ Hid (Has X V zJ (.slice none 0 0)) :=
  ⟨_, _, rfl, rfl, Lib.hid ⟨(Below.refl _ w).alloc (Nat.le_refl _) _, by simp⟩, Lib.hid (heap_alloc_new w _)⟩
theorem has_under {w w' : World} {g : Nat} {x : JS} {v : Value} (h : Has w g x v) (hb : Below w.heap.size w w') : Has w' g x v := (hb.block g (Array.getElem?_eq_some_iff.1 h).1).trans h
theorem has_by {w w' : World} {g q : Nat} {x : JS} {v : Value} (h : Has w g x v) (hg : w.grownBy w' (some q)) (hn : q ≠ g) : Has w' g x v := (hg.block g (Array.getElem?_eq_some_iff.1 h).1 (fun e => hn (Option.some.inj e).symm)).trans h
set_option maxRecDepth 100000 in
theorem info_jo : (Try.prog.info? 24).map (fun i => (i.zero, i.size, i.bytes)) = some (some jZ, 16, 144) := by kernel_rfl
end Go.Proofs.Ytghlgmlelipjfaa.Job
namespace Go.Proofs.Ytghlgmlelipjfaa.Job
open Go.RowKit Go.Lib
open Goods (St Sts OwnS)

theorem own_by {w w' : World} {B : Nat} {e : TypeId} {size n : Nat} {v : Value} {xs : List Value} {row : Option Nat} (h : w.ownsRow B e size v n xs) (hg : w.grownBy w' row) (hn : ∀ g cur, row = some g → w.heap[g]? = some (.cells cur e (0, 0)) → v.ownBlock ≠ some g) : w'.ownsRow B e size v n xs := by
  refine Goods.own_same h fun q hq => ?_
  rcases h.2 with ⟨hv, _⟩ | ⟨g, cap, cur, hv, _, hb, _⟩
  · rw [hv] at hq
    cases hq
  · rw [hv] at hq
    injection hq with hq
    have hq : g = q := hq
    subst hq
    exact hg.block g (Array.getElem?_eq_some_iff.1 hb).1 fun e => hn g cur e.symm hb (by rw [hv]; rfl)
/-- The block of a row of one's own: what it holds is of the row's type. -/
theorem own_type {w : World} {B : Nat} {e : TypeId} {size n : Nat} {v : Value} {xs : List Value} {g : Nat} (h : w.ownsRow B e size v n xs) (hv : v.ownBlock = some g) : B ≤ g ∧ g < w.heap.size ∧ ∃ cur, w.heap[g]? = some (.cells cur e (0, 0)) := by
  rcases h.2 with ⟨h0, _⟩ | ⟨k, cap, cur, h1, hB, hb, _⟩
  · rw [h0] at hv
    cases hv
  · rw [h1] at hv
    injection hv with hv
    have hv : k = g := hv
    subst hv
    exact ⟨hB, (Array.getElem?_eq_some_iff.1 hb).1, cur, hb⟩
theorem own_past {w w' : World} {B : Nat} {e : TypeId} {size n : Nat} {v : Value} {xs : List Value} {g : Nat} (h : w.ownsRow B e size v n xs) (hg : w.grownBy w' (some g)) (hb : g < B) : w'.ownsRow B e size v n xs := own_by h hg fun k cur e h1 hv => by
  injection e with e
  have h2 := (own_type h hv).1
  omega
theorem ca_bad (now : Int) {j : JS} (h : ¬ Ok j) (b : Bool) (x : JS) : caE now j b = 1 ∧ caV now j b x = zJ := by
  by_cases ht : 0 ≤ now ∧ now ≤ 1099511627776
  · obtain ⟨e1, e2⟩ := ca_yes ht j b x
    rw [e1, e2]
    exact ch_bad h b x
  · exact ca_no ht j b x
/-- What is turned behind the blocks that there were. -/
theorem grown_over {w w1 w2 : World} {row r2 : Option Nat} (h : w.grownBy w1 row) (k : w1.grownBy w2 r2) (hr : ∀ g, r2 = some g → row = some g ∨ w.heap.size ≤ g) : w.grownBy w2 row :=
  ⟨k.os.trans h.os, k.tape.trans h.tape, k.output.trans h.output, Nat.le_trans h.size k.size, fun i hi hn => (k.block i (Nat.lt_of_lt_of_le hi h.size) (fun e => by
    rcases hr i e.symm with h1 | h1
    · exact hn h1.symm
    · omega)).trans (h.block i hi hn)⟩
theorem grown_set {w w1 : World} {row : Option Nat} (h : w.grownBy w1 row) (g o : Nat) (u : Value) (hr : row = some g ∨ w.heap.size ≤ g) : w.grownBy (w1.setCell ⟨g, o, none⟩ u) row :=
  grown_over h (only_setCell (only_refl w1 (some g)) o u) fun _ e => by
    injection e with e
    subst e
    exact hr
theorem grown_block {w w' : World} {row : Option Nat} {g : Nat} {o : Obj} (h : w.grownBy w' row) (hb : w.heap[g]? = some o) (hn : row ≠ some g) : w'.heap[g]? = some o := (h.block g (Array.getElem?_eq_some_iff.1 hb).1 (fun e => hn e.symm)).trans hb
theorem grown_below {w w1 w2 : World} {B : Nat} {row : Option Nat} (h : w.grownBy w1 row) (k : Below B w1 w2) (hB : w.heap.size ≤ B) : w.grownBy w2 row :=
  ⟨k.os.trans h.os, k.tape.trans h.tape, k.output.trans h.output, Nat.le_trans h.size k.size, fun i hi hn => (k.block i (by omega)).trans (h.block i hi hn)⟩
theorem sts_row {w : World} {B : Nat} {a : Option Addr} {n c : Nat} {l : List St} (h : OwnS w B (.slice a n c) l) : l.length = n ∧ Sts w a l := by
  obtain ⟨a', c', e, q⟩ := Goods.sts_own h
  injection e with e1 e2 _
  subst e1
  exact ⟨e2.symm, q⟩
end Go.Proofs.Ytghlgmlelipjfaa.Job
namespace Go.Proofs.Ytghlgmlelipjfaa.Pen
open Go.RowKit Go.Lib

set_option maxHeartbeats 1000000 in
theorem ruint_any (Q : Nat) (S : ByteArray) (st : Option ByteArray) (a : Nat) (most : Int) (w : World) (h : Rq w Q S a (isBad st)) (hl : Link S st a) (hS : S.size ≤ 4611686018427387904) (hm : most ≤ 9223372036854775807) :
    Calls Try.prog 65 #[.pointer (some ⟨Q, 0, none⟩), .int .i64 most] w fun e w' => e = .returned (.int .i64 (uiN st most)) ∧ RqTo w w' Q S (uiS st most) := by
  obtain ⟨n, hn⟩ : ∃ n, wdN st = n := ⟨_, rfl⟩
  have hlt := wdN_lt st
  rw [hn] at hlt
  have HN := Lib.hid hn
  by_cases h1 : 9223372036854775807 < n
  · obtain ⟨hN, hSt⟩ := ui_fail st most (Or.inl (by omega))
    have HNN := Lib.hid hN; have HSS := Lib.hid hSt
    clear hN hSt hn
    go_enter Try.func65, Try.ntmps65
    go_wp2_with fail
    refine (rword_any Q S st a _ h hl hS).mono ?_
    rintro e w1 ⟨rfl, ⟨a1, H1, hl1⟩, hg1⟩
    rw [HN.out]
    go_wp2_with fail
    refine (fails_any Q S a1 _ _ H1).mono ?_
    rintro e w2 ⟨rfl, H2, hg2⟩
    go_wp2_with fail
    go_ret
    exact ⟨ret_i64 (by rw [HNN.out]; rfl), by rw [HSS.out]; exact ⟨⟨a1, H2, Link.none hl1.1⟩, only_trans hg1 hg2⟩⟩
  · by_cases h2 : most < n
    · obtain ⟨hN, hSt⟩ := ui_fail st most (Or.inl (by omega))
      have HNN := Lib.hid hN; have HSS := Lib.hid hSt
      have hle : n ≤ 9223372036854775807 := by omega
      have hd1 : decide (9223372036854775807 < n) = false := by simp; omega
      have hd2 : decide (most < n) = true := by simp; omega
      clear hN hSt hn h1
      go_enter Try.func65, Try.ntmps65
      go_wp2_with fail
      refine (rword_any Q S st a _ h hl hS).mono ?_
      rintro e w1 ⟨rfl, ⟨a1, H1, hl1⟩, hg1⟩
      rw [HN.out]
      go_wp2_with fail
      refine (fails_any Q S a1 _ _ H1).mono ?_
      rintro e w2 ⟨rfl, H2, hg2⟩
      go_wp2_with fail
      go_ret
      exact ⟨ret_i64 (by rw [HNN.out]; rfl), by rw [HSS.out]; exact ⟨⟨a1, H2, Link.none hl1.1⟩, only_trans hg1 hg2⟩⟩
    · have hle : n ≤ 9223372036854775807 := by omega
      have hle2 : (n : Int) ≤ most := by omega
      have hd1 : decide (9223372036854775807 < n) = false := by simp; omega
      have hd2 : decide (most < n) = false := by simp; omega
      cases hs : wdS st with
      | none =>
        obtain ⟨hN, hSt⟩ := ui_fail st most (Or.inr hs)
        have HNN := Lib.hid hN; have HSS := Lib.hid hSt; have HS := Lib.hid hs
        clear hN hSt hn h1 h2 hs
        go_enter Try.func65, Try.ntmps65
        go_wp2_with fail
        refine (rword_any Q S st a _ h hl hS).mono ?_
        rintro e w1 ⟨rfl, ⟨a1, H1, hl1⟩, hg1⟩
        rw [HN.out]
        rw [HS.out] at H1
        obtain ⟨c0, c1, c2, f0, f1, f2⟩ := H1.cells
        have c2' : w1.cell? ⟨Q, 2, none⟩ = some (.bool true) := c2
        clear c2
        go_wp2_with fail
        refine (fails_any Q S a1 _ _ H1).mono ?_
        rintro e w2 ⟨rfl, H2, hg2⟩
        go_wp2_with fail
        go_ret
        exact ⟨ret_i64 (by rw [HNN.out]; rfl), by rw [HSS.out]; exact ⟨⟨a1, H2, Link.none hl1.1⟩, only_trans hg1 hg2⟩⟩
      | some t =>
        obtain ⟨hN, hSt⟩ := ui_ok st most (by omega) t hs
        rw [hn] at hN
        have HNN := Lib.hid hN; have HSS := Lib.hid hSt; have HS := Lib.hid hs
        clear hN hSt hn h1 h2 hs
        go_enter Try.func65, Try.ntmps65
        go_wp2_with fail
        refine (rword_any Q S st a _ h hl hS).mono ?_
        rintro e w1 ⟨rfl, ⟨a1, H1, hl1⟩, hg1⟩
        rw [HN.out]
        rw [HS.out] at H1 hl1
        obtain ⟨c0, c1, c2, f0, f1, f2⟩ := H1.cells
        have c2' : w1.cell? ⟨Q, 2, none⟩ = some (.bool false) := c2
        clear c2
        go_wp2_with fail
        go_ret
        exact ⟨ret_i64 (by rw [HNN.out]), by rw [HSS.out]; exact ⟨⟨a1, H1, hl1⟩, hg1⟩⟩
end Go.Proofs.Ytghlgmlelipjfaa.Pen
