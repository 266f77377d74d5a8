/- The laws' arguments opened: drafts, acts. -/
import Derived.Test.YtfebaiefoonncaaWide
import Derived.Test.YtfebaiefoonncaaLaw
import Derived.Test.YtfebaiefoonncaaOpen
import Derived.Test.YtfebaiefoonncaaDraStays
namespace Go.Proofs.Ytfebaiefoonncaa.Draft
open Go.ChangeShapes Go.WideShapes Go.ChangeAt Go.RowKit Go.Deep

instance : Inhabited Act := ⟨⟨0, 0, 0, 0, default⟩⟩
section
variable {H : Type} {enc : TypeId × Value → H} {w : World} {base : Nat} {spare : Nat → Bool} {held : Bool}
theorem one_int {fuel : Nat} {v : Value} {x : DataW H × List MemPlace} (h : DataW.trod enc Try.prog w base spare held fuel 3 [v] = some x) : ∃ z, v = .int .i64 z ∧ I64 z := by
  obtain ⟨z, h1, _, h2⟩ := DataW.trod_int Try.underlying3 h
  simp [Lit.wf, IntKind.min, IntKind.max, IntKind.signed, IntKind.bits] at h2
  exact ⟨z, by simpa using h1, by unfold I64; omega⟩
set_option maxRecDepth 100000 in
theorem dr_in {fuel : Nat} {cs : List Value} {x : DataW H × List MemPlace} (h : DataW.trod enc Try.prog w base spare held fuel 36 cs = some x) :
    ∃ t : Dr, cs = elCells t := by
  obtain ⟨hl, hf⟩ := open_struct Try.underlying36 h
  rw [show Try.prog.cellsOf 36 = 9 by kernel_rfl] at hl
  match cs, hl with
  | [c0, c1, c2, c3, c4, c5, c6, c7, c8], _ =>
    obtain ⟨m0, y0, f0⟩ := hf 0 _ rfl; obtain ⟨m1, y1, f1⟩ := hf 1 _ rfl; obtain ⟨m2, y2, f2⟩ := hf 2 _ rfl; obtain ⟨m3, y3, f3⟩ := hf 3 _ rfl; obtain ⟨m4, y4, f4⟩ := hf 4 _ rfl; obtain ⟨m5, y5, f5⟩ := hf 5 _ rfl; obtain ⟨m6, y6, f6⟩ := hf 6 _ rfl; obtain ⟨m7, y7, f7⟩ := hf 7 _ rfl; obtain ⟨m8, y8, f8⟩ := hf 8 _ rfl
    have g0 : DataW.trod enc Try.prog w base spare held m0 3 (([c0, c1, c2, c3, c4, c5, c6, c7, c8].drop 0).take (Try.prog.cellsOf 3)) = some y0 := f0
    have g1 : DataW.trod enc Try.prog w base spare held m1 3 (([c0, c1, c2, c3, c4, c5, c6, c7, c8].drop 1).take (Try.prog.cellsOf 3)) = some y1 := f1
    have g2 : DataW.trod enc Try.prog w base spare held m2 3 (([c0, c1, c2, c3, c4, c5, c6, c7, c8].drop 2).take (Try.prog.cellsOf 3)) = some y2 := f2
    have g3 : DataW.trod enc Try.prog w base spare held m3 3 (([c0, c1, c2, c3, c4, c5, c6, c7, c8].drop 3).take (Try.prog.cellsOf 3)) = some y3 := f3
    have g4 : DataW.trod enc Try.prog w base spare held m4 3 (([c0, c1, c2, c3, c4, c5, c6, c7, c8].drop 4).take (Try.prog.cellsOf 3)) = some y4 := f4
    have g5 : DataW.trod enc Try.prog w base spare held m5 3 (([c0, c1, c2, c3, c4, c5, c6, c7, c8].drop 5).take (Try.prog.cellsOf 3)) = some y5 := f5
    have g6 : DataW.trod enc Try.prog w base spare held m6 3 (([c0, c1, c2, c3, c4, c5, c6, c7, c8].drop 6).take (Try.prog.cellsOf 3)) = some y6 := f6
    have g7 : DataW.trod enc Try.prog w base spare held m7 3 (([c0, c1, c2, c3, c4, c5, c6, c7, c8].drop 7).take (Try.prog.cellsOf 3)) = some y7 := f7
    have g8 : DataW.trod enc Try.prog w base spare held m8 3 (([c0, c1, c2, c3, c4, c5, c6, c7, c8].drop 8).take (Try.prog.cellsOf 3)) = some y8 := f8
    rw [show Try.prog.cellsOf 3 = 1 by kernel_rfl] at g0 g1 g2 g3 g4 g5 g6 g7 g8
    obtain ⟨z0, rfl, _⟩ := one_int g0; obtain ⟨z1, rfl, _⟩ := one_int g1; obtain ⟨z2, rfl, _⟩ := one_int g2; obtain ⟨z3, rfl, _⟩ := one_int g3; obtain ⟨z4, rfl, _⟩ := one_int g4; obtain ⟨z5, rfl, _⟩ := one_int g5; obtain ⟨z6, rfl, _⟩ := one_int g6; obtain ⟨z7, rfl, _⟩ := one_int g7; obtain ⟨z8, rfl, _⟩ := one_int g8
    exact ⟨⟨z0, z1, z2, z3, z4, z5, z6, z7, z8⟩, rfl⟩
theorem dr_of {cs : Array Value} {d : DataW H} {p : List MemPlace} (h : DataW.Trod enc Try.prog w base spare held 36 (.agg cs) d p) : ∃ x : Dr, cs = #[.int .i64 x.id, .int .i64 x.owner, .int .i64 x.div, .int .i64 x.place, .int .i64 x.blue, .int .i64 x.me, .int .i64 x.te, .int .i64 x.runs, .int .i64 x.busy] ∧ True := by
  obtain ⟨fuel, hf⟩ := h
  obtain ⟨x, e⟩ := dr_in hf
  refine ⟨x, ?_, trivial⟩
  apply Array.ext'
  simpa [Value.cells, elCells] using e
set_option maxRecDepth 100000 in
theorem act_in {fuel : Nat} {cs : List Value} {x : DataW H × List MemPlace} (h : DataW.trod enc Try.prog w base spare held fuel 38 cs = some x) :
    ∃ t : Act, cs = actCells t ∧ InAct t := by
  obtain ⟨hl, hf⟩ := open_struct Try.underlying38 h
  rw [show Try.prog.cellsOf 38 = 13 by kernel_rfl] at hl
  match cs, hl with
  | [c0, c1, c2, c3, c4, c5, c6, c7, c8, c9, c10, c11, c12], _ =>
    obtain ⟨m0, y0, f0⟩ := hf 0 _ rfl; obtain ⟨m1, y1, f1⟩ := hf 1 _ rfl; obtain ⟨m2, y2, f2⟩ := hf 2 _ rfl; obtain ⟨m3, y3, f3⟩ := hf 3 _ rfl; obtain ⟨m4, y4, f4⟩ := hf 4 _ rfl
    have g0 : DataW.trod enc Try.prog w base spare held m0 3 (([c0, c1, c2, c3, c4, c5, c6, c7, c8, c9, c10, c11, c12].drop 0).take (Try.prog.cellsOf 3)) = some y0 := f0
    have g1 : DataW.trod enc Try.prog w base spare held m1 3 (([c0, c1, c2, c3, c4, c5, c6, c7, c8, c9, c10, c11, c12].drop 1).take (Try.prog.cellsOf 3)) = some y1 := f1
    have g2 : DataW.trod enc Try.prog w base spare held m2 3 (([c0, c1, c2, c3, c4, c5, c6, c7, c8, c9, c10, c11, c12].drop 2).take (Try.prog.cellsOf 3)) = some y2 := f2
    have g3 : DataW.trod enc Try.prog w base spare held m3 3 (([c0, c1, c2, c3, c4, c5, c6, c7, c8, c9, c10, c11, c12].drop 3).take (Try.prog.cellsOf 3)) = some y3 := f3
    have g4 : DataW.trod enc Try.prog w base spare held m4 36 (([c0, c1, c2, c3, c4, c5, c6, c7, c8, c9, c10, c11, c12].drop 4).take (Try.prog.cellsOf 36)) = some y4 := f4
    rw [show Try.prog.cellsOf 3 = 1 by kernel_rfl] at g0 g1 g2 g3
    rw [show Try.prog.cellsOf 36 = 9 by kernel_rfl] at g4
    obtain ⟨z0, rfl, b0⟩ := one_int g0; obtain ⟨z1, rfl, b1⟩ := one_int g1; obtain ⟨z2, rfl, b2⟩ := one_int g2; obtain ⟨z3, rfl, b3⟩ := one_int g3; obtain ⟨t, e⟩ := dr_in g4
    simp [elCells] at e
    obtain ⟨rfl, rfl, rfl, rfl, rfl, rfl, rfl, rfl, rfl⟩ := e
    exact ⟨⟨z0, z1, z2, z3, t⟩, rfl, b0, b1, b2, b3⟩
theorem act_of {cs : Array Value} {d : DataW H} {p : List MemPlace} (h : DataW.Trod enc Try.prog w base spare held 38 (.agg cs) d p) : ∃ x : Act, cs = #[.int .i64 x.kind, .int .i64 x.i, .int .i64 x.a, .int .i64 x.b, .int .i64 x.d.id, .int .i64 x.d.owner, .int .i64 x.d.div, .int .i64 x.d.place, .int .i64 x.d.blue, .int .i64 x.d.me, .int .i64 x.d.te, .int .i64 x.d.runs, .int .i64 x.d.busy] ∧ InAct x := by
  obtain ⟨fuel, hf⟩ := h
  obtain ⟨x, e, b⟩ := act_in hf
  refine ⟨x, ?_, b⟩
  apply Array.ext'
  simpa [Value.cells, actCells] using e
end
set_option maxRecDepth 100000 in
theorem els_of {H : Type} {enc : TypeId × Value → H} {W : World} {a : Option Addr} {len cap : Nat} {d : DataW H} {p : List MemPlace}
    (h : DataW.Trod enc Try.prog W 0 (fun _ => true) true 22 (.slice a len cap) d p) : ∃ l : List Dr, l.length = len ∧ Els W a l := by
  have hc : Try.prog.cellsOf 36 = 9 := by kernel_rfl
  obtain ⟨h1, h2, _, V, hV⟩ := law_rows Try.underlying22 (by rw [hc]; omega) h
  obtain ⟨A, hA⟩ := choose_lt (α := Dr) (n := len) (p := fun j x => V j = elCells x) (fun j hj => by
    obtain ⟨_, _, n, y, hy⟩ := hV j hj
    exact dr_in hy)
  refine ⟨(List.range len).map A, by simp, fun i t hi => ?_⟩
  have hlt : i < len := by
    have := (List.getElem?_eq_some_iff.1 hi).1
    simpa using this
  have ht : A i = t := by
    rw [List.getElem?_map, List.getElem?_range hlt] at hi
    simpa using hi
  obtain ⟨⟨b, off, e, hb, hcell⟩, _, _⟩ := hV i hlt
  rw [hc, hA i hlt, ht] at hcell
  have c0 := hcell 0 (by omega); have c1 := hcell 1 (by omega); have c2 := hcell 2 (by omega); have c3 := hcell 3 (by omega); have c4 := hcell 4 (by omega); have c5 := hcell 5 (by omega); have c6 := hcell 6 (by omega); have c7 := hcell 7 (by omega); have c8 := hcell 8 (by omega)
  rw [Nat.add_zero] at c0
  rw [← Nat.add_assoc] at c1 c2 c3 c4 c5 c6 c7 c8
  exact ⟨b, off, e, hb, c0, c1, c2, c3, c4, c5, c6, c7, c8⟩
set_option maxRecDepth 100000 in
theorem acts_of {H : Type} {enc : TypeId × Value → H} {W : World} {a : Option Addr} {len cap : Nat} {d : DataW H} {p : List MemPlace}
    (h : DataW.Trod enc Try.prog W 0 (fun _ => true) true 23 (.slice a len cap) d p) : ∃ l : List Act, l.length = len ∧ Acts W a l ∧ ∀ x ∈ l, InAct x := by
  have hc : Try.prog.cellsOf 38 = 13 := by kernel_rfl
  obtain ⟨h1, h2, _, V, hV⟩ := law_rows Try.underlying23 (by rw [hc]; omega) h
  obtain ⟨A, hA⟩ := choose_lt (α := Act) (n := len) (p := fun j x => V j = actCells x ∧ InAct x) (fun j hj => by
    obtain ⟨_, _, n, y, hy⟩ := hV j hj
    exact act_in hy)
  refine ⟨(List.range len).map A, by simp, fun i t hi => ?_, fun t ht => ?_⟩
  · have hlt : i < len := by
      have := (List.getElem?_eq_some_iff.1 hi).1
      simpa using this
    have ht : A i = t := by
      rw [List.getElem?_map, List.getElem?_range hlt] at hi
      simpa using hi
    obtain ⟨⟨b, off, e, hb, hcell⟩, _, _⟩ := hV i hlt
    rw [hc, (hA i hlt).1, ht] at hcell
    have c0 := hcell 0 (by omega); have c1 := hcell 1 (by omega); have c2 := hcell 2 (by omega); have c3 := hcell 3 (by omega); have c4 := hcell 4 (by omega); have c5 := hcell 5 (by omega); have c6 := hcell 6 (by omega); have c7 := hcell 7 (by omega); have c8 := hcell 8 (by omega); have c9 := hcell 9 (by omega); have c10 := hcell 10 (by omega); have c11 := hcell 11 (by omega); have c12 := hcell 12 (by omega)
    rw [Nat.add_zero] at c0
    rw [← Nat.add_assoc] at c1 c2 c3 c4 c5 c6 c7 c8 c9 c10 c11 c12
    exact ⟨b, off, e, hb, c0, c1, c2, c3, c4, c5, c6, c7, c8, c9, c10, c11, c12⟩
  · obtain ⟨i, hi, rfl⟩ := List.mem_map.1 ht
    exact (hA i (by simpa using hi)).2
end Go.Proofs.Ytfebaiefoonncaa.Draft
