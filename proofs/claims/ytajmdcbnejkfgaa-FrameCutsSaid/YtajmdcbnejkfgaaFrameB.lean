/- The walks over a record's head: an array of eight bytes. -/
import Derived.Test.YtajmdcbnejkfgaaFrameA
import Derived.Deep.WholeRow
import Derived.Deep.RegionWith
import Derived.RegionTactic
namespace Go.Proofs.Ytajmdcbnejkfgaa.Frame
open Go.RowKit Go.Lib

/-- Eight cells out of bytes. -/
def cellsOf (l : List UInt8) : Array Value := (byteCells l).toArray
theorem zero_head : madeCells (Value.int .u8 0).cells 8 = cellsOf [0, 0, 0, 0, 0, 0, 0, 0] := by kernel_rfl
theorem laid_low (l : List UInt8) (n : Nat) (hl : l.length = 8) : laid (cellsOf l) 0 n 4 = cellsOf (four n ++ l.drop 4) := by
  match l, hl with
  | [a, b, c, d, e, f, g, h], _ => rfl
theorem laid_high (l : List UInt8) (n : Nat) (hl : l.length = 8) : laid (cellsOf l) 4 n 4 = cellsOf (l.take 4 ++ four n) := by
  match l, hl with
  | [a, b, c, d, e, f, g, h], _ => rfl

/-- Eight bytes one by one. -/
theorem eight (l : List UInt8) (h : l.length = 8) : ∃ x0 x1 x2 x3 x4 x5 x6 x7 : UInt8, l = [x0, x1, x2, x3, x4, x5, x6, x7] := by
  match l, h with
  | [a, b, c, d, e, f, g, i], _ => exact ⟨a, b, c, d, e, f, g, i, rfl⟩
theorem cells8 {w : World} {g : Nat} {x0 x1 x2 x3 x4 x5 x6 x7 : UInt8} {T : TypeId} (h : w.heap[g]? = some (.cells (cellsOf [x0, x1, x2, x3, x4, x5, x6, x7]) T (0, 0))) :
    w.cell? ⟨g, 0, none⟩ = some (.int .u8 (x0.toNat : Int)) ∧ w.cell? ⟨g, 1, none⟩ = some (.int .u8 (x1.toNat : Int)) ∧ w.cell? ⟨g, 2, none⟩ = some (.int .u8 (x2.toNat : Int)) ∧ w.cell? ⟨g, 3, none⟩ = some (.int .u8 (x3.toNat : Int)) ∧ w.cell? ⟨g, 4, none⟩ = some (.int .u8 (x4.toNat : Int)) ∧ w.cell? ⟨g, 5, none⟩ = some (.int .u8 (x5.toNat : Int)) ∧ w.cell? ⟨g, 6, none⟩ = some (.int .u8 (x6.toNat : Int)) ∧ w.cell? ⟨g, 7, none⟩ = some (.int .u8 (x7.toNat : Int)) :=
  ⟨cell_block h rfl, cell_block h rfl, cell_block h rfl, cell_block h rfl, cell_block h rfl, cell_block h rfl, cell_block h rfl, cell_block h rfl⟩
theorem free8 {w : World} {g : Nat} {cs : Array Value} {T : TypeId} (h : w.heap[g]? = some (.cells cs T (0, 0))) :
    w.frozen? ⟨g, 0, none⟩ = false ∧ w.frozen? ⟨g, 1, none⟩ = false ∧ w.frozen? ⟨g, 2, none⟩ = false ∧ w.frozen? ⟨g, 3, none⟩ = false ∧ w.frozen? ⟨g, 4, none⟩ = false ∧ w.frozen? ⟨g, 5, none⟩ = false ∧ w.frozen? ⟨g, 6, none⟩ = false ∧ w.frozen? ⟨g, 7, none⟩ = false :=
  ⟨free_block 0 h, free_block 1 h, free_block 2 h, free_block 3 h, free_block 4 h, free_block 5 h, free_block 6 h, free_block 7 h⟩
theorem store8 {w : World} {g : Nat} {x0 x1 x2 x3 x4 x5 x6 x7 : UInt8} {l : List UInt8} {T : TypeId} (hl : l.length = 8) (h : w.heap[g]? = some (.cells (cellsOf l) T (0, 0))) :
    ((((((((w.setCell ⟨g, 0, none⟩ (.int .u8 (x0.toNat : Int))).setCell ⟨g, 1, none⟩ (.int .u8 (x1.toNat : Int))).setCell ⟨g, 2, none⟩ (.int .u8 (x2.toNat : Int))).setCell ⟨g, 3, none⟩ (.int .u8 (x3.toNat : Int))).setCell ⟨g, 4, none⟩ (.int .u8 (x4.toNat : Int))).setCell ⟨g, 5, none⟩ (.int .u8 (x5.toNat : Int))).setCell ⟨g, 6, none⟩ (.int .u8 (x6.toNat : Int))).setCell ⟨g, 7, none⟩ (.int .u8 (x7.toNat : Int))).heap[g]? = some (.cells (cellsOf [x0, x1, x2, x3, x4, x5, x6, x7]) T (0, 0)) := by
  obtain ⟨y0, y1, y2, y3, y4, y5, y6, y7, rfl⟩ := eight l hl
  have h0 := heap_setCell_same _ g 0 _ T (.int .u8 (x0.toNat : Int)) h
  have h1 := heap_setCell_same _ g 1 _ T (.int .u8 (x1.toNat : Int)) h0
  have h2 := heap_setCell_same _ g 2 _ T (.int .u8 (x2.toNat : Int)) h1
  have h3 := heap_setCell_same _ g 3 _ T (.int .u8 (x3.toNat : Int)) h2
  have h4 := heap_setCell_same _ g 4 _ T (.int .u8 (x4.toNat : Int)) h3
  have h5 := heap_setCell_same _ g 5 _ T (.int .u8 (x5.toNat : Int)) h4
  have h6 := heap_setCell_same _ g 6 _ T (.int .u8 (x6.toNat : Int)) h5
  have h7 := heap_setCell_same _ g 7 _ T (.int .u8 (x7.toNat : Int)) h6
  rw [h7]
  simp [cellsOf, byteCells]
theorem results_cell {fn : Func} {p : Tmp} {ty : TypeId} (h : fn.results = #[.cell p ty]) (tmps : Array Value) (P : Program) (w : World) :
    (results fn tmps).run P w = ((asAddr (tmps.getD p undef)).run P w).andThen fun a w1 => (loadVar ty a).run P w1 := by
  simp only [results, h]
  simp [Sem.run_bind, Result.andThen]
theorem load_head {w : World} {g : Nat} {l : List UInt8} {T : TypeId} (hl : l.length = 8) (h : w.heap[g]? = some (.cells (cellsOf l) T (0, 0))) :
    (loadVar 40 ⟨g, 0, none⟩).run Try.prog w = .ok (.agg (cellsOf l)) w := by
  obtain ⟨y0, y1, y2, y3, y4, y5, y6, y7, rfl⟩ := eight l hl
  exact run_loadVar_row w g T 40 _ (0, 0) _ h Try.underlying40 rfl (by kernel_rfl)
theorem ret_head {fn : Func} {R : Ending → World → Prop} {a : Act} {w : World} {p : Tmp} {g : Nat} {l : List UInt8} {T : TypeId} (h : fn.results = #[.cell p 40]) (hd : a.defers = [])
    (ht : a.tmps.getD p undef = .pointer (some ⟨g, 0, none⟩)) (hb : w.heap[g]? = some (.cells (cellsOf l) T (0, 0))) (hl : l.length = 8) (hR : R (.returned (.agg (cellsOf l))) w) : bodyPost Try.prog fn R .ret a w := by
  refine bodyPost_ret (v := .agg (cellsOf l)) ?_ hd hR
  rw [results_cell h, ht]
  exact load_head hl hb
set_option maxRecDepth 100000 in
set_option maxHeartbeats 1000000 in
theorem headOf_any (r : ByteArray) (w : World) (hr : r.size ≤ 4294967295) :
    Calls Try.prog 18 #[.string r] w fun e w' => e = .returned (.agg (cellsOf (headL r))) ∧ Below w.heap.size w w' := by
  go_enter Try.func18, Try.ntmps18
  have hh : ((w.alloc (.cells (cellsOf [0, 0, 0, 0, 0, 0, 0, 0]) 40)).alloc (.cells (cellsOf [0, 0, 0, 0, 0, 0, 0, 0]) 40)).heap[w.heap.size + 1]? = some (.cells (cellsOf [0, 0, 0, 0, 0, 0, 0, 0]) 40 (0, 0)) := by
    have := heap_alloc_last (w.alloc (.cells (cellsOf [0, 0, 0, 0, 0, 0, 0, 0]) 40)) (.cells (cellsOf [0, 0, 0, 0, 0, 0, 0, 0]) 40)
    simpa using this
  have hr0 : ((w.alloc (.cells (cellsOf [0, 0, 0, 0, 0, 0, 0, 0]) 40)).alloc (.cells (cellsOf [0, 0, 0, 0, 0, 0, 0, 0]) 40)).heap[w.heap.size]? = some (.cells (cellsOf [0, 0, 0, 0, 0, 0, 0, 0]) 40 (0, 0)) := by
    rw [alloc_old _ _ _ (by simp)]
    exact heap_alloc_last w _
  have hbel : Below w.heap.size w ((w.alloc (.cells (cellsOf [0, 0, 0, 0, 0, 0, 0, 0]) 40)).alloc (.cells (cellsOf [0, 0, 0, 0, 0, 0, 0, 0]) 40)) := ((Below.refl _ w).alloc (Nat.le_refl _) _).alloc (by simp) _
  have hsz : ((w.alloc (.cells (cellsOf [0, 0, 0, 0, 0, 0, 0, 0]) 40)).alloc (.cells (cellsOf [0, 0, 0, 0, 0, 0, 0, 0]) 40)).heap.size = w.heap.size + 2 := by simp
  have HH := Lib.hid hh; have HR := Lib.hid hr0; have HBel := Lib.hid hbel; have HS := Lib.hid hsz
  clear hh hr0 hbel hsz
  go_wp2_with fail
  refine (lay_any (w.heap.size + 1) 0 8 r.size (cellsOf [0, 0, 0, 0, 0, 0, 0, 0]) 40 _ (by omega) HH.out (by decide)).mono ?_
  rintro e w1 ⟨rfl, hb1, hg1⟩
  rw [laid_low _ _ rfl] at hb1
  have hr1 : w1.heap[w.heap.size]? = some (.cells (cellsOf [0, 0, 0, 0, 0, 0, 0, 0]) 40 (0, 0)) := (hg1.block _ (by have := HS.out; omega) (by rintro h; injection h with h; omega)).trans HR.out
  have hbel1 : Below w.heap.size w w1 := below_of_only HBel.out (by omega) hg1
  have hb1d : w1.drew.heap[w.heap.size + 1]? = some (.cells (cellsOf (four r.size ++ [0, 0, 0, 0])) 40 (0, 0)) := hb1
  have HB1 := Lib.hid hb1d; have HR1 := Lib.hid hr1; have HL1 := Lib.hid hbel1; have HG1 := Lib.hid hg1
  clear hb1d hb1 hr1 hbel1 hg1
  go_wp2_with fail
  go_region_with (first | (go_at_call 26; refine (Crc.sum_any r _ (by unfold maxLen; omega)).mono ?_; rintro e w' ⟨rfl, rfl⟩) | (go_at_call 25; go_loud (refine (lay_any (w.heap.size + 1) 4 4 (more 0 r) (cellsOf (four r.size ++ [0, 0, 0, 0])) 40 _ (more_lt r) HB1.out (Nat.le_refl 8)).mono ?_; rintro e w2 ⟨rfl, hb2, hg2⟩)))
  rw [laid_high _ _ rfl] at hb2
  have hr2 : w2.heap[w.heap.size]? = some (.cells (cellsOf [0, 0, 0, 0, 0, 0, 0, 0]) 40 (0, 0)) := (hg2.block _ (by have := HS.out; have := HG1.out.size; simp; omega) (by rintro h; injection h with h; omega)).trans HR1.out
  have hbel2 : Below w.heap.size w w2 := below_of_only HL1.out.drew (by omega) hg2
  obtain ⟨x0, x1, x2, x3, x4, x5, x6, x7, hx⟩ := eight (headL r) rfl
  have hb3 : w2.heap[w.heap.size + 1]? = some (.cells (cellsOf [x0, x1, x2, x3, x4, x5, x6, x7]) 40 (0, 0)) := by rw [← hx]; exact hb2
  obtain ⟨c0, c1, c2, c3, c4, c5, c6, c7⟩ := cells8 hb3
  obtain ⟨d0, d1, d2, d3, d4, d5, d6, d7⟩ := cells8 hr2
  obtain ⟨f0, f1, f2, f3, f4, f5, f6, f7⟩ := free8 hr2
  have HX := Lib.hid hx; have HB2 := Lib.hid hbel2; have HR2 := Lib.hid hr2
  clear hb2 hb3 hg2 hr2 hx hbel2
  go_wp2_with fail
  refine ret_head rfl rfl rfl (store8 rfl HR2.out) rfl ⟨by rw [HX.out], ?_⟩
  exact (((((((HB2.out.setCell (Nat.le_refl _) _).setCell (Nat.le_refl _) _).setCell (Nat.le_refl _) _).setCell (Nat.le_refl _) _).setCell (Nat.le_refl _) _).setCell (Nat.le_refl _) _).setCell (Nat.le_refl _) _).setCell (Nat.le_refl _) _
end Go.Proofs.Ytajmdcbnejkfgaa.Frame
