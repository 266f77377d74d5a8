/- The laws' arguments opened: bins, lots, acts. -/
import Derived.Test.YtkljaaeeocghjaaWide
import Derived.Test.YtkljaaeeocghjaaLaw
import Derived.Test.YtkljaaeeocghjaaOpen
import Derived.Test.YtkljaaeeocghjaaBinJ
import Derived.Test.YtkljaaeeocghjaaBinK
namespace Go.Proofs.Ytkljaaeeocghjaa.Bins
open Go.ChangeShapes Go.WideShapes Go.ChangeAt Go.RowKit Go.Deep
open Goods (St Sts)

instance : Inhabited Lt := ⟨⟨⟨0, 0, 0, 0⟩, 0⟩⟩
instance : Inhabited St := ⟨⟨0, 0⟩⟩
instance : Inhabited Act := ⟨⟨0, 0, ⟨0, 0, 0, 0⟩, ⟨0, 0, 0, 0⟩, none, 0, 0, []⟩⟩
section
variable {H : Type} {enc : TypeId × Value → H} {w : World} {base : Nat} {spare : Nat → Bool} {held : Bool}
theorem one_int {fuel : Nat} {v : Value} {x : DataW H × List MemPlace} (h : DataW.trod enc Try.prog w base spare held fuel 3 [v] = some x) : ∃ z, v = .int .i64 z ∧ I64 z := by
  obtain ⟨z, h1, _, h2⟩ := DataW.trod_int Try.underlying3 h
  simp [Lit.wf, IntKind.min, IntKind.max, IntKind.signed, IntKind.bits] at h2
  exact ⟨z, by simpa using h1, by unfold I64; omega⟩
set_option maxRecDepth 100000 in
theorem st_in {fuel : Nat} {cs : List Value} {x : DataW H × List MemPlace} (h : DataW.trod enc Try.prog w base spare held fuel 54 cs = some x) :
    ∃ t : St, cs = [.int .i64 t.kind, .int .i64 t.qty] ∧ I64 t.kind ∧ I64 t.qty := by
  obtain ⟨hl, hf⟩ := open_struct Try.underlying54 h
  rw [show Try.prog.cellsOf 54 = 2 by kernel_rfl] at hl
  match cs, hl with
  | [c0, c1], _ =>
    obtain ⟨m0, y0, f0⟩ := hf 0 _ rfl; obtain ⟨m1, y1, f1⟩ := hf 1 _ rfl
    have g0 : DataW.trod enc Try.prog w base spare held m0 3 (([c0, c1].drop 0).take (Try.prog.cellsOf 3)) = some y0 := f0
    have g1 : DataW.trod enc Try.prog w base spare held m1 3 (([c0, c1].drop 1).take (Try.prog.cellsOf 3)) = some y1 := f1
    rw [show Try.prog.cellsOf 3 = 1 by kernel_rfl] at g0 g1
    obtain ⟨z0, rfl, b0⟩ := one_int g0; obtain ⟨z1, rfl, b1⟩ := one_int g1
    exact ⟨⟨z0, z1⟩, rfl, b0, b1⟩
set_option maxRecDepth 100000 in
theorem bn_in {fuel : Nat} {cs : List Value} {x : DataW H × List MemPlace} (h : DataW.trod enc Try.prog w base spare held fuel 25 cs = some x) :
    ∃ t : Bn, cs = [.int .i64 t.o, .int .i64 t.d, .int .i64 t.p, .int .i64 t.t] ∧ InB t := by
  obtain ⟨hl, hf⟩ := open_struct Try.underlying25 h
  rw [show Try.prog.cellsOf 25 = 4 by kernel_rfl] at hl
  match cs, hl with
  | [c0, c1, c2, c3], _ =>
    obtain ⟨m0, y0, f0⟩ := hf 0 _ rfl; obtain ⟨m1, y1, f1⟩ := hf 1 _ rfl; obtain ⟨m2, y2, f2⟩ := hf 2 _ rfl; obtain ⟨m3, y3, f3⟩ := hf 3 _ rfl
    have g0 : DataW.trod enc Try.prog w base spare held m0 3 (([c0, c1, c2, c3].drop 0).take (Try.prog.cellsOf 3)) = some y0 := f0
    have g1 : DataW.trod enc Try.prog w base spare held m1 3 (([c0, c1, c2, c3].drop 1).take (Try.prog.cellsOf 3)) = some y1 := f1
    have g2 : DataW.trod enc Try.prog w base spare held m2 3 (([c0, c1, c2, c3].drop 2).take (Try.prog.cellsOf 3)) = some y2 := f2
    have g3 : DataW.trod enc Try.prog w base spare held m3 3 (([c0, c1, c2, c3].drop 3).take (Try.prog.cellsOf 3)) = some y3 := f3
    rw [show Try.prog.cellsOf 3 = 1 by kernel_rfl] at g0 g1 g2 g3
    obtain ⟨z0, rfl, b0⟩ := one_int g0; obtain ⟨z1, rfl, b1⟩ := one_int g1; obtain ⟨z2, rfl, b2⟩ := one_int g2; obtain ⟨z3, rfl, b3⟩ := one_int g3
    exact ⟨⟨z0, z1, z2, z3⟩, rfl, b0, b1, b2, b3⟩
theorem bn_of {cs : Array Value} {d : DataW H} {p : List MemPlace} (h : DataW.Trod enc Try.prog w base spare held 25 (.agg cs) d p) : ∃ x : Bn, cs = #[.int .i64 x.o, .int .i64 x.d, .int .i64 x.p, .int .i64 x.t] ∧ InB x := by
  obtain ⟨fuel, hf⟩ := h
  obtain ⟨x, e, b1⟩ := bn_in hf
  refine ⟨x, ?_, b1⟩
  apply Array.ext'
  simpa [Value.cells] using e
set_option maxRecDepth 100000 in
theorem lt_in {fuel : Nat} {cs : List Value} {x : DataW H × List MemPlace} (h : DataW.trod enc Try.prog w base spare held fuel 66 cs = some x) :
    ∃ t : Lt, cs = ltCells t ∧ InB t.b ∧ I64 t.q := by
  obtain ⟨hl, hf⟩ := open_struct Try.underlying66 h
  rw [show Try.prog.cellsOf 66 = 5 by kernel_rfl] at hl
  match cs, hl with
  | [c0, c1, c2, c3, c4], _ =>
    obtain ⟨m0, y0, f0⟩ := hf 0 _ rfl; obtain ⟨m1, y1, f1⟩ := hf 1 _ rfl
    have g0 : DataW.trod enc Try.prog w base spare held m0 25 (([c0, c1, c2, c3, c4].drop 0).take (Try.prog.cellsOf 25)) = some y0 := f0
    have g1 : DataW.trod enc Try.prog w base spare held m1 3 (([c0, c1, c2, c3, c4].drop 4).take (Try.prog.cellsOf 3)) = some y1 := f1
    rw [show Try.prog.cellsOf 3 = 1 by kernel_rfl] at g1
    rw [show Try.prog.cellsOf 25 = 4 by kernel_rfl] at g0
    obtain ⟨b, e, hb⟩ := bn_in g0; obtain ⟨z1, rfl, b1⟩ := one_int g1
    simp at e
    obtain ⟨rfl, rfl, rfl, rfl⟩ := e
    exact ⟨⟨b, z1⟩, rfl, hb, b1⟩
end
/-! A slice of stacks, off one cell -/
set_option maxRecDepth 100000 in
theorem stks_of {H : Type} {enc : TypeId × Value → H} {W : World} {a : Option Addr} {len cap : Nat} {d : DataW H} {p : List MemPlace}
    (h : DataW.Trod enc Try.prog W 0 (fun _ => true) true 35 (.slice a len cap) d p) : ∃ l : List St, l.length = len ∧ Sts W a l ∧ InS l := by
  have hc : Try.prog.cellsOf 54 = 2 := by kernel_rfl
  obtain ⟨h1, h2, _, V, hV⟩ := law_rows Try.underlying35 (by rw [hc]; omega) h
  obtain ⟨A, hA⟩ := choose_lt (α := St) (n := len) (p := fun j x => V j = [.int .i64 x.kind, .int .i64 x.qty] ∧ I64 x.kind ∧ I64 x.qty) (fun j hj => by
    obtain ⟨_, _, n, y, hy⟩ := hV j hj
    exact st_in hy)
  refine ⟨(List.range len).map A, by simp, fun i t hi => ?_, fun t ht => ?_⟩
  · have hlt : i < len := by
      have := (List.getElem?_eq_some_iff.1 hi).1
      simpa using this
    have ht : A i = t := by
      rw [List.getElem?_map, List.getElem?_range hlt] at hi
      simpa using hi
    obtain ⟨⟨b, off, e, hb, hcell⟩, _, _⟩ := hV i hlt
    rw [hc, (hA i hlt).1, ht] at hcell
    have c0 := hcell 0 (by omega); have c1 := hcell 1 (by omega)
    rw [Nat.add_zero] at c0
    rw [← Nat.add_assoc] at c1
    exact ⟨b, off, e, hb, c0, c1⟩
  · obtain ⟨i, hi, rfl⟩ := List.mem_map.1 ht
    exact (hA i (by simpa using hi)).2
set_option maxRecDepth 100000 in
theorem cell_stks {H : Type} {enc : TypeId × Value → H} {W : World} {fuel : Nat} {v : Value} {x : DataW H × List MemPlace}
    (h : DataW.trod enc Try.prog W 0 (fun _ => true) true fuel 35 [v] = some x) : ∃ (a : Option Addr) (len cap : Nat) (l : List St), v = .slice a len cap ∧ l.length = len ∧ Sts W a l ∧ InS l := by
  obtain ⟨a, len, cap, hv⟩ : ∃ a len cap, v = .slice a len cap := by
    rcases open_slice Try.underlying35 h with ⟨hcs, _⟩ | ⟨ad, len', cap', m, n, D, Pl, hcs, _⟩
    · simp at hcs; exact ⟨_, _, _, hcs⟩
    · simp at hcs; exact ⟨_, _, _, hcs⟩
  subst hv
  have h' : DataW.Trod enc Try.prog W 0 (fun _ => true) true 35 (.slice a len cap) x.1 x.2 := ⟨fuel, h⟩
  obtain ⟨l, h1, h2, h3⟩ := stks_of h'
  exact ⟨a, len, cap, l, rfl, h1, h2, h3⟩
def actCells (x : Act) : List Value := [.int .i64 x.kind, .int .i64 x.n, .int .i64 x.a.o, .int .i64 x.a.d, .int .i64 x.a.p, .int .i64 x.a.t, .int .i64 x.b.o, .int .i64 x.b.d, .int .i64 x.b.p, .int .i64 x.b.t, .slice x.sa x.sm x.sc]
set_option maxRecDepth 100000 in
theorem act_in {H : Type} {enc : TypeId × Value → H} {W : World} {fuel : Nat} {cs : List Value} {x : DataW H × List MemPlace} (h : DataW.trod enc Try.prog W 0 (fun _ => true) true fuel 37 cs = some x) :
    ∃ t : Act, cs = actCells t ∧ ActOk W t ∧ InAct t := by
  obtain ⟨hl, hf⟩ := open_struct Try.underlying37 h
  rw [show Try.prog.cellsOf 37 = 11 by kernel_rfl] at hl
  match cs, hl with
  | [c0, c1, c2, c3, c4, c5, c6, c7, c8, c9, c10], _ =>
    obtain ⟨m0, y0, f0⟩ := hf 0 _ rfl; obtain ⟨m1, y1, f1⟩ := hf 1 _ rfl; obtain ⟨m2, y2, f2⟩ := hf 2 _ rfl; obtain ⟨m3, y3, f3⟩ := hf 3 _ rfl; obtain ⟨m4, y4, f4⟩ := hf 4 _ rfl
    have g0 : DataW.trod enc Try.prog W 0 (fun _ => true) true m0 3 (([c0, c1, c2, c3, c4, c5, c6, c7, c8, c9, c10].drop 0).take (Try.prog.cellsOf 3)) = some y0 := f0
    have g1 : DataW.trod enc Try.prog W 0 (fun _ => true) true m1 3 (([c0, c1, c2, c3, c4, c5, c6, c7, c8, c9, c10].drop 1).take (Try.prog.cellsOf 3)) = some y1 := f1
    have g2 : DataW.trod enc Try.prog W 0 (fun _ => true) true m2 25 (([c0, c1, c2, c3, c4, c5, c6, c7, c8, c9, c10].drop 2).take (Try.prog.cellsOf 25)) = some y2 := f2
    have g3 : DataW.trod enc Try.prog W 0 (fun _ => true) true m3 25 (([c0, c1, c2, c3, c4, c5, c6, c7, c8, c9, c10].drop 6).take (Try.prog.cellsOf 25)) = some y3 := f3
    have g4 : DataW.trod enc Try.prog W 0 (fun _ => true) true m4 35 (([c0, c1, c2, c3, c4, c5, c6, c7, c8, c9, c10].drop 10).take (Try.prog.cellsOf 35)) = some y4 := f4
    rw [show Try.prog.cellsOf 3 = 1 by kernel_rfl] at g0 g1
    rw [show Try.prog.cellsOf 25 = 4 by kernel_rfl] at g2 g3
    rw [show Try.prog.cellsOf 35 = 1 by kernel_rfl] at g4
    obtain ⟨z0, rfl, b0⟩ := one_int g0; obtain ⟨z1, rfl, b1⟩ := one_int g1
    obtain ⟨p, ep, hp⟩ := bn_in g2; obtain ⟨q, eq, hq⟩ := bn_in g3
    simp at ep eq
    obtain ⟨rfl, rfl, rfl, rfl⟩ := ep
    obtain ⟨rfl, rfl, rfl, rfl⟩ := eq
    obtain ⟨a, len, cap, l, rfl, s1, s2, s3⟩ := cell_stks g4
    exact ⟨⟨z0, z1, p, q, a, len, cap, l⟩, rfl, ⟨s1, s2⟩, b1, hp, hq, s3⟩
theorem act_of {H : Type} {enc : TypeId × Value → H} {W : World} {cs : Array Value} {d : DataW H} {p : List MemPlace} (h : DataW.Trod enc Try.prog W 0 (fun _ => true) true 37 (.agg cs) d p) : ∃ x : Act, cs = #[.int .i64 x.kind, .int .i64 x.n, .int .i64 x.a.o, .int .i64 x.a.d, .int .i64 x.a.p, .int .i64 x.a.t, .int .i64 x.b.o, .int .i64 x.b.d, .int .i64 x.b.p, .int .i64 x.b.t, .slice x.sa x.sm x.sc] ∧ ActOk W x ∧ InAct x := by
  obtain ⟨fuel, hf⟩ := h
  obtain ⟨x, e, b1, b2⟩ := act_in hf
  refine ⟨x, ?_, b1, b2⟩
  apply Array.ext'
  simpa [Value.cells, actCells] using e
set_option maxRecDepth 100000 in
theorem lots_of {H : Type} {enc : TypeId × Value → H} {W : World} {a : Option Addr} {len cap : Nat} {d : DataW H} {p : List MemPlace}
    (h : DataW.Trod enc Try.prog W 0 (fun _ => true) true 22 (.slice a len cap) d p) : ∃ l : List Lt, l.length = len ∧ Lots W a l ∧ InL l := by
  have hc : Try.prog.cellsOf 66 = 5 := by kernel_rfl
  obtain ⟨h1, h2, _, V, hV⟩ := law_rows Try.underlying22 (by rw [hc]; omega) h
  obtain ⟨A, hA⟩ := choose_lt (α := Lt) (n := len) (p := fun j x => V j = ltCells x ∧ InB x.b ∧ I64 x.q) (fun j hj => by
    obtain ⟨_, _, n, y, hy⟩ := hV j hj
    exact lt_in hy)
  refine ⟨(List.range len).map A, by simp, fun i t hi => ?_, fun t ht => ?_⟩
  · have hlt : i < len := by
      have := (List.getElem?_eq_some_iff.1 hi).1
      simpa using this
    have ht : A i = t := by
      rw [List.getElem?_map, List.getElem?_range hlt] at hi
      simpa using hi
    obtain ⟨⟨b, off, e, hb, hcell⟩, _, _⟩ := hV i hlt
    rw [hc, (hA i hlt).1, ht] at hcell
    have c0 := hcell 0 (by omega); have c1 := hcell 1 (by omega); have c2 := hcell 2 (by omega); have c3 := hcell 3 (by omega); have c4 := hcell 4 (by omega)
    rw [Nat.add_zero] at c0
    rw [← Nat.add_assoc] at c1 c2 c3 c4
    exact ⟨b, off, e, hb, c0, c1, c2, c3, c4⟩
  · obtain ⟨i, hi, rfl⟩ := List.mem_map.1 ht
    exact (hA i (by simpa using hi)).2
set_option maxRecDepth 100000 in
theorem acts_of {H : Type} {enc : TypeId × Value → H} {W : World} {a : Option Addr} {len cap : Nat} {d : DataW H} {p : List MemPlace}
    (h : DataW.Trod enc Try.prog W 0 (fun _ => true) true 23 (.slice a len cap) d p) : ∃ l : List Act, l.length = len ∧ Acts W a l ∧ ∀ x ∈ l, InAct x := by
  have hc : Try.prog.cellsOf 37 = 11 := by kernel_rfl
  obtain ⟨h1, h2, _, V, hV⟩ := law_rows Try.underlying23 (by rw [hc]; omega) h
  obtain ⟨A, hA⟩ := choose_lt (α := Act) (n := len) (p := fun j x => V j = actCells x ∧ ActOk W x ∧ InAct x) (fun j hj => by
    obtain ⟨_, _, n, y, hy⟩ := hV j hj
    exact act_in hy)
  refine ⟨(List.range len).map A, by simp, fun i t hi => ?_, fun t ht => ?_⟩
  · have hlt : i < len := by
      have := (List.getElem?_eq_some_iff.1 hi).1
      simpa using this
    have ht : A i = t := by
      rw [List.getElem?_map, List.getElem?_range hlt] at hi
      simpa using hi
    obtain ⟨⟨b, off, e, hb, hcell⟩, _, _⟩ := hV i hlt
    rw [hc, (hA i hlt).1, ht] at hcell
    have c0 := hcell 0 (by omega); have c1 := hcell 1 (by omega); have c2 := hcell 2 (by omega); have c3 := hcell 3 (by omega); have c4 := hcell 4 (by omega); have c5 := hcell 5 (by omega)
    have c6 := hcell 6 (by omega); have c7 := hcell 7 (by omega); have c8 := hcell 8 (by omega); have c9 := hcell 9 (by omega); have c10 := hcell 10 (by omega)
    rw [Nat.add_zero] at c0
    rw [← Nat.add_assoc] at c1 c2 c3 c4 c5 c6 c7 c8 c9 c10
    exact ⟨by rw [← ht]; exact (hA i hlt).2.1, b, off, e, hb, c0, c1, ⟨c2, c3, c4, c5⟩, ⟨c6, c7, c8, c9⟩, c10⟩
  · obtain ⟨i, hi, rfl⟩ := List.mem_map.1 ht
    exact (hA i (by simpa using hi)).2.2
end Go.Proofs.Ytkljaaeeocghjaa.Bins
