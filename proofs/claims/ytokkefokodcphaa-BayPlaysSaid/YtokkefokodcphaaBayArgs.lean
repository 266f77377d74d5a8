/- The laws' arguments opened: bays, acts. -/
import Derived.Test.YtokkefokodcphaaWide
import Derived.Test.YtokkefokodcphaaLaw
import Derived.Test.YtokkefokodcphaaOpen
import Derived.Test.YtokkefokodcphaaBayDo
namespace Go.Proofs.Ytokkefokodcphaa.Bay
open Go.ChangeShapes Go.WideShapes Go.ChangeAt Go.RowKit Go.Deep IRows

instance : Inhabited By := ⟨⟨0, 0, 0, 0⟩⟩
instance : Inhabited Ac := ⟨⟨0, 0, 0, 0⟩⟩
def byC (y : By) : List Value := [.int .i64 y.pl, .int .i64 y.mf, .int .i64 y.lb, .int .i64 y.rt]
def acC (y : Ac) : List Value := [.int .i64 y.k, .int .i64 y.b, .int .i64 y.s, .int .i64 y.j]
/-- Acts that lie somewhere. -/
def Acs (w : World) (a : Option Addr) (xs : List Ac) : Prop := ∀ (i : Nat) (x : Ac), xs[i]? = some x → ∃ g off, a = some ⟨g, off, none⟩ ∧ g < w.heap.size ∧ w.cell? ⟨g, off + i * 4, none⟩ = some (.int .i64 x.k) ∧ w.cell? ⟨g, off + i * 4 + 1, none⟩ = some (.int .i64 x.b) ∧ w.cell? ⟨g, off + i * 4 + 2, none⟩ = some (.int .i64 x.s) ∧ w.cell? ⟨g, off + i * 4 + 3, none⟩ = some (.int .i64 x.j)
section
variable {H : Type} {enc : TypeId × Value → H} {w : World} {base : Nat} {spare : Nat → Bool} {held : Bool}
theorem one_int {fuel : Nat} {v : Value} {x : DataW H × List MemPlace} (h : DataW.trod enc Try.prog w base spare held fuel 3 [v] = some x) : ∃ z, v = .int .i64 z ∧ True := by
  obtain ⟨z, h1, _, _⟩ := DataW.trod_int Try.underlying3 h
  exact ⟨z, by simpa using h1, trivial⟩
set_option maxRecDepth 100000 in
theorem by_in {fuel : Nat} {cs : List Value} {x : DataW H × List MemPlace} (h : DataW.trod enc Try.prog w base spare held fuel 46 cs = some x) :
    ∃ t : By, cs = byC t := by
  obtain ⟨hl, hf⟩ := open_struct Try.underlying46 h
  rw [show Try.prog.cellsOf 46 = 4 by kernel_rfl] at hl
  match cs, hl with
  | [c0, c1, c2, c3], _ =>
    obtain ⟨m0, y0, f0⟩ := hf 0 _ rfl; obtain ⟨m1, y1, f1⟩ := hf 1 _ rfl; obtain ⟨m2, y2, f2⟩ := hf 2 _ rfl; obtain ⟨m3, y3, f3⟩ := hf 3 _ rfl
    have g0 : DataW.trod enc Try.prog w base spare held m0 3 (([c0, c1, c2, c3].drop 0).take (Try.prog.cellsOf 3)) = some y0 := f0
    have g1 : DataW.trod enc Try.prog w base spare held m1 3 (([c0, c1, c2, c3].drop 1).take (Try.prog.cellsOf 3)) = some y1 := f1
    have g2 : DataW.trod enc Try.prog w base spare held m2 3 (([c0, c1, c2, c3].drop 2).take (Try.prog.cellsOf 3)) = some y2 := f2
    have g3 : DataW.trod enc Try.prog w base spare held m3 3 (([c0, c1, c2, c3].drop 3).take (Try.prog.cellsOf 3)) = some y3 := f3
    rw [show Try.prog.cellsOf 3 = 1 by kernel_rfl] at g0 g1 g2 g3
    obtain ⟨z0, rfl, _⟩ := one_int g0; obtain ⟨z1, rfl, _⟩ := one_int g1; obtain ⟨z2, rfl, _⟩ := one_int g2; obtain ⟨z3, rfl, _⟩ := one_int g3
    exact ⟨⟨z0, z1, z2, z3⟩, rfl⟩
set_option maxRecDepth 100000 in
theorem ac_in {fuel : Nat} {cs : List Value} {x : DataW H × List MemPlace} (h : DataW.trod enc Try.prog w base spare held fuel 40 cs = some x) :
    ∃ t : Ac, cs = acC t := by
  obtain ⟨hl, hf⟩ := open_struct Try.underlying40 h
  rw [show Try.prog.cellsOf 40 = 4 by kernel_rfl] at hl
  match cs, hl with
  | [c0, c1, c2, c3], _ =>
    obtain ⟨m0, y0, f0⟩ := hf 0 _ rfl; obtain ⟨m1, y1, f1⟩ := hf 1 _ rfl; obtain ⟨m2, y2, f2⟩ := hf 2 _ rfl; obtain ⟨m3, y3, f3⟩ := hf 3 _ rfl
    have g0 : DataW.trod enc Try.prog w base spare held m0 3 (([c0, c1, c2, c3].drop 0).take (Try.prog.cellsOf 3)) = some y0 := f0
    have g1 : DataW.trod enc Try.prog w base spare held m1 3 (([c0, c1, c2, c3].drop 1).take (Try.prog.cellsOf 3)) = some y1 := f1
    have g2 : DataW.trod enc Try.prog w base spare held m2 3 (([c0, c1, c2, c3].drop 2).take (Try.prog.cellsOf 3)) = some y2 := f2
    have g3 : DataW.trod enc Try.prog w base spare held m3 3 (([c0, c1, c2, c3].drop 3).take (Try.prog.cellsOf 3)) = some y3 := f3
    rw [show Try.prog.cellsOf 3 = 1 by kernel_rfl] at g0 g1 g2 g3
    obtain ⟨z0, rfl, _⟩ := one_int g0; obtain ⟨z1, rfl, _⟩ := one_int g1; obtain ⟨z2, rfl, _⟩ := one_int g2; obtain ⟨z3, rfl, _⟩ := one_int g3
    exact ⟨⟨z0, z1, z2, z3⟩, rfl⟩
theorem ac_of {cs : Array Value} {d : DataW H} {p : List MemPlace} (h : DataW.Trod enc Try.prog w base spare held 40 (.agg cs) d p) : ∃ x : Ac, cs = #[.int .i64 x.k, .int .i64 x.b, .int .i64 x.s, .int .i64 x.j] ∧ True := by
  obtain ⟨fuel, hf⟩ := h
  obtain ⟨x, e⟩ := ac_in hf
  refine ⟨x, ?_, trivial⟩
  apply Array.ext'
  simpa [Value.cells, acC] using e
end
set_option maxRecDepth 100000 in
theorem bays_of {H : Type} {enc : TypeId × Value → H} {W : World} {a : Option Addr} {len cap : Nat} {d : DataW H} {p : List MemPlace}
    (h : DataW.Trod enc Try.prog W 0 (fun _ => true) true 22 (.slice a len cap) d p) : ∃ l : List By, l.length = len ∧ ByAt W a l := by
  have hc : Try.prog.cellsOf 46 = 4 := by kernel_rfl
  obtain ⟨h1, h2, _, V, hV⟩ := law_rows Try.underlying22 (by rw [hc]; omega) h
  obtain ⟨A, hA⟩ := choose_lt (α := By) (n := len) (p := fun j x => V j = byC x) (fun j hj => by
    obtain ⟨_, _, n, y, hy⟩ := hV j hj
    exact by_in hy)
  refine ⟨(List.range len).map A, by simp, fun i t hi => ?_⟩
  have hlt : i < len := by
    have := (List.getElem?_eq_some_iff.1 hi).1
    simpa using this
  have ht : A i = t := by
    rw [List.getElem?_map, List.getElem?_range hlt] at hi
    simpa using hi
  obtain ⟨⟨b, off, e, hb, hcell⟩, _, _⟩ := hV i hlt
  rw [hc, hA i hlt, ht] at hcell
  have c0 := hcell 0 (by omega); have c1 := hcell 1 (by omega); have c2 := hcell 2 (by omega); have c3 := hcell 3 (by omega)
  rw [Nat.add_zero] at c0
  rw [← Nat.add_assoc] at c1 c2 c3
  exact ⟨b, off, e, hb, c0, c1, c2, c3⟩
set_option maxRecDepth 100000 in
theorem acts_of {H : Type} {enc : TypeId × Value → H} {W : World} {a : Option Addr} {len cap : Nat} {d : DataW H} {p : List MemPlace}
    (h : DataW.Trod enc Try.prog W 0 (fun _ => true) true 24 (.slice a len cap) d p) : ∃ l : List Ac, l.length = len ∧ Acs W a l := by
  have hc : Try.prog.cellsOf 40 = 4 := by kernel_rfl
  obtain ⟨h1, h2, _, V, hV⟩ := law_rows Try.underlying24 (by rw [hc]; omega) h
  obtain ⟨A, hA⟩ := choose_lt (α := Ac) (n := len) (p := fun j x => V j = acC x) (fun j hj => by
    obtain ⟨_, _, n, y, hy⟩ := hV j hj
    exact ac_in hy)
  refine ⟨(List.range len).map A, by simp, fun i t hi => ?_⟩
  have hlt : i < len := by
    have := (List.getElem?_eq_some_iff.1 hi).1
    simpa using this
  have ht : A i = t := by
    rw [List.getElem?_map, List.getElem?_range hlt] at hi
    simpa using hi
  obtain ⟨⟨b, off, e, hb, hcell⟩, _, _⟩ := hV i hlt
  rw [hc, hA i hlt, ht] at hcell
  have c0 := hcell 0 (by omega); have c1 := hcell 1 (by omega); have c2 := hcell 2 (by omega); have c3 := hcell 3 (by omega)
  rw [Nat.add_zero] at c0
  rw [← Nat.add_assoc] at c1 c2 c3
  exact ⟨b, off, e, hb, c0, c1, c2, c3⟩
end Go.Proofs.Ytokkefokodcphaa.Bay
