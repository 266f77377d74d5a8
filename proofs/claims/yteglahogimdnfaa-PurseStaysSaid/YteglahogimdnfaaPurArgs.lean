/- The laws' arguments opened: accounts, payments, acts. -/
import Derived.Test.YteglahogimdnfaaWide
import Derived.Test.YteglahogimdnfaaLaw
import Derived.Test.YteglahogimdnfaaOpen
import Derived.Test.YteglahogimdnfaaPurL
namespace Go.Proofs.Yteglahogimdnfaa.Purse
open Go.ChangeShapes Go.WideShapes Go.ChangeAt Go.RowKit Go.Deep

instance : Inhabited Ac := ⟨⟨0, 0⟩⟩
instance : Inhabited Pay := ⟨⟨0, 0, 0⟩⟩
instance : Inhabited Act := ⟨⟨0, 0, 0, 0⟩⟩
section
variable {H : Type} {enc : TypeId × Value → H} {w : World} {base : Nat} {spare : Nat → Bool} {held : Bool}
theorem one_int {fuel : Nat} {v : Value} {x : DataW H × List MemPlace} (h : DataW.trod enc Try.prog w base spare held fuel 3 [v] = some x) : ∃ z, v = .int .i64 z ∧ I64 z := by
  obtain ⟨z, h1, _, h2⟩ := DataW.trod_int Try.underlying3 h
  simp [Lit.wf, IntKind.min, IntKind.max, IntKind.signed, IntKind.bits] at h2
  exact ⟨z, by simpa using h1, by unfold I64; omega⟩
theorem ac_in {fuel : Nat} {cs : List Value} {x : DataW H × List MemPlace} (h : DataW.trod enc Try.prog w base spare held fuel 63 cs = some x) :
    ∃ t : Ac, cs = [.int .i64 t.own, .int .i64 t.mon] ∧ I64 t.own ∧ I64 t.mon := by
  obtain ⟨hl, hf⟩ := open_struct Try.underlying63 h
  rw [show Try.prog.cellsOf 63 = 2 by kernel_rfl] at hl
  match cs, hl with
  | [c0, c1], _ =>
    obtain ⟨m0, y0, f0⟩ := hf 0 _ rfl; obtain ⟨m1, y1, f1⟩ := hf 1 _ rfl
    have g0 : DataW.trod enc Try.prog w base spare held m0 3 (([c0, c1].drop 0).take (Try.prog.cellsOf 3)) = some y0 := f0
    have g1 : DataW.trod enc Try.prog w base spare held m1 3 (([c0, c1].drop 1).take (Try.prog.cellsOf 3)) = some y1 := f1
    rw [show Try.prog.cellsOf 3 = 1 by kernel_rfl] at g0 g1
    obtain ⟨z0, rfl, b0⟩ := one_int g0; obtain ⟨z1, rfl, b1⟩ := one_int g1
    exact ⟨⟨z0, z1⟩, rfl, b0, b1⟩
theorem pay_in {fuel : Nat} {cs : List Value} {x : DataW H × List MemPlace} (h : DataW.trod enc Try.prog w base spare held fuel 49 cs = some x) :
    ∃ t : Pay, cs = [.int .i64 t.src, .int .i64 t.dst, .int .i64 t.num] ∧ I64 t.src ∧ I64 t.dst ∧ I64 t.num := by
  obtain ⟨hl, hf⟩ := open_struct Try.underlying49 h
  rw [show Try.prog.cellsOf 49 = 3 by kernel_rfl] at hl
  match cs, hl with
  | [c0, c1, c2], _ =>
    obtain ⟨m0, y0, f0⟩ := hf 0 _ rfl; obtain ⟨m1, y1, f1⟩ := hf 1 _ rfl; obtain ⟨m2, y2, f2⟩ := hf 2 _ rfl
    have g0 : DataW.trod enc Try.prog w base spare held m0 3 (([c0, c1, c2].drop 0).take (Try.prog.cellsOf 3)) = some y0 := f0
    have g1 : DataW.trod enc Try.prog w base spare held m1 3 (([c0, c1, c2].drop 1).take (Try.prog.cellsOf 3)) = some y1 := f1
    have g2 : DataW.trod enc Try.prog w base spare held m2 3 (([c0, c1, c2].drop 2).take (Try.prog.cellsOf 3)) = some y2 := f2
    rw [show Try.prog.cellsOf 3 = 1 by kernel_rfl] at g0 g1 g2
    obtain ⟨z0, rfl, b0⟩ := one_int g0; obtain ⟨z1, rfl, b1⟩ := one_int g1; obtain ⟨z2, rfl, b2⟩ := one_int g2
    exact ⟨⟨z0, z1, z2⟩, rfl, b0, b1, b2⟩
theorem act_in {fuel : Nat} {cs : List Value} {x : DataW H × List MemPlace} (h : DataW.trod enc Try.prog w base spare held fuel 34 cs = some x) :
    ∃ t : Act, cs = [.int .i64 t.kind, .int .i64 t.a, .int .i64 t.b, .int .i64 t.n] ∧ I64 t.kind ∧ I64 t.a ∧ I64 t.b ∧ I64 t.n := by
  obtain ⟨hl, hf⟩ := open_struct Try.underlying34 h
  rw [show Try.prog.cellsOf 34 = 4 by kernel_rfl] at hl
  match cs, hl with
  | [c0, c1, c2, c3], _ =>
    obtain ⟨m0, y0, f0⟩ := hf 0 _ rfl; obtain ⟨m1, y1, f1⟩ := hf 1 _ rfl; obtain ⟨m2, y2, f2⟩ := hf 2 _ rfl; obtain ⟨m3, y3, f3⟩ := hf 3 _ rfl
    have g0 : DataW.trod enc Try.prog w base spare held m0 3 (([c0, c1, c2, c3].drop 0).take (Try.prog.cellsOf 3)) = some y0 := f0
    have g1 : DataW.trod enc Try.prog w base spare held m1 3 (([c0, c1, c2, c3].drop 1).take (Try.prog.cellsOf 3)) = some y1 := f1
    have g2 : DataW.trod enc Try.prog w base spare held m2 3 (([c0, c1, c2, c3].drop 2).take (Try.prog.cellsOf 3)) = some y2 := f2
    have g3 : DataW.trod enc Try.prog w base spare held m3 3 (([c0, c1, c2, c3].drop 3).take (Try.prog.cellsOf 3)) = some y3 := f3
    rw [show Try.prog.cellsOf 3 = 1 by kernel_rfl] at g0 g1 g2 g3
    obtain ⟨z0, rfl, b0⟩ := one_int g0; obtain ⟨z1, rfl, b1⟩ := one_int g1; obtain ⟨z2, rfl, b2⟩ := one_int g2; obtain ⟨z3, rfl, b3⟩ := one_int g3
    exact ⟨⟨z0, z1, z2, z3⟩, rfl, b0, b1, b2, b3⟩
theorem act_of {cs : Array Value} {d : DataW H} {p : List MemPlace} (h : DataW.Trod enc Try.prog w base spare held 34 (.agg cs) d p) : ∃ x : Act, cs = #[.int .i64 x.kind, .int .i64 x.a, .int .i64 x.b, .int .i64 x.n] ∧ InAct x := by
  obtain ⟨fuel, hf⟩ := h
  obtain ⟨x, e, _, b1, b2, b3⟩ := act_in hf
  refine ⟨x, ?_, b1, b2, b3⟩
  apply Array.ext'
  simpa [Value.cells] using e
end
theorem acs_of {H : Type} {enc : TypeId × Value → H} {W : World} {a : Option Addr} {len cap : Nat} {d : DataW H} {p : List MemPlace}
    (h : DataW.Trod enc Try.prog W 0 (fun _ => true) true 22 (.slice a len cap) d p) : ∃ l : List Ac, l.length = len ∧ Accs W a l ∧ InA l := by
  have hc : Try.prog.cellsOf 63 = 2 := by kernel_rfl
  obtain ⟨h1, h2, _, V, hV⟩ := law_rows Try.underlying22 (by rw [hc]; omega) h
  obtain ⟨A, hA⟩ := choose_lt (α := Ac) (n := len) (p := fun j x => V j = [.int .i64 x.own, .int .i64 x.mon] ∧ I64 x.own ∧ I64 x.mon) (fun j hj => by
    obtain ⟨_, _, n, y, hy⟩ := hV j hj
    exact ac_in hy)
  refine ⟨(List.range len).map A, by simp, fun i t hi => ?_, fun t ht => ?_⟩
  · have hlt : i < len := by
      have := (List.getElem?_eq_some_iff.1 hi).1
      simpa using this
    have ht : A i = t := by
      rw [List.getElem?_map, List.getElem?_range hlt] at hi
      simpa using hi
    obtain ⟨⟨b, off, e, hb, hcell⟩, _, _⟩ := hV i hlt
    rw [hc, (hA i hlt).1, ht] at hcell
    have c0 := hcell 0 (by omega); have c1 := hcell 1 (by omega)
    rw [Nat.add_zero] at c0
    rw [← Nat.add_assoc] at c1
    exact ⟨b, off, e, hb, c0, c1⟩
  · obtain ⟨i, hi, rfl⟩ := List.mem_map.1 ht
    exact (hA i (by simpa using hi)).2
theorem pays_of {H : Type} {enc : TypeId × Value → H} {W : World} {a : Option Addr} {len cap : Nat} {d : DataW H} {p : List MemPlace}
    (h : DataW.Trod enc Try.prog W 0 (fun _ => true) true 42 (.slice a len cap) d p) : ∃ l : List Pay, l.length = len ∧ Pays W a l ∧ InP l := by
  have hc : Try.prog.cellsOf 49 = 3 := by kernel_rfl
  obtain ⟨h1, h2, _, V, hV⟩ := law_rows Try.underlying42 (by rw [hc]; omega) h
  obtain ⟨A, hA⟩ := choose_lt (α := Pay) (n := len) (p := fun j x => V j = [.int .i64 x.src, .int .i64 x.dst, .int .i64 x.num] ∧ I64 x.src ∧ I64 x.dst ∧ I64 x.num) (fun j hj => by
    obtain ⟨_, _, n, y, hy⟩ := hV j hj
    exact pay_in hy)
  refine ⟨(List.range len).map A, by simp, fun i t hi => ?_, fun t ht => ?_⟩
  · have hlt : i < len := by
      have := (List.getElem?_eq_some_iff.1 hi).1
      simpa using this
    have ht : A i = t := by
      rw [List.getElem?_map, List.getElem?_range hlt] at hi
      simpa using hi
    obtain ⟨⟨b, off, e, hb, hcell⟩, _, _⟩ := hV i hlt
    rw [hc, (hA i hlt).1, ht] at hcell
    have c0 := hcell 0 (by omega); have c1 := hcell 1 (by omega); have c2 := hcell 2 (by omega)
    rw [Nat.add_zero] at c0
    rw [← Nat.add_assoc] at c1 c2
    exact ⟨b, off, e, hb, c0, c1, c2⟩
  · obtain ⟨i, hi, rfl⟩ := List.mem_map.1 ht
    exact (hA i (by simpa using hi)).2
theorem acts_of {H : Type} {enc : TypeId × Value → H} {W : World} {a : Option Addr} {len cap : Nat} {d : DataW H} {p : List MemPlace}
    (h : DataW.Trod enc Try.prog W 0 (fun _ => true) true 23 (.slice a len cap) d p) : ∃ l : List Act, l.length = len ∧ Acts W a l ∧ ∀ x ∈ l, InAct x := by
  have hc : Try.prog.cellsOf 34 = 4 := by kernel_rfl
  obtain ⟨h1, h2, _, V, hV⟩ := law_rows Try.underlying23 (by rw [hc]; omega) h
  obtain ⟨A, hA⟩ := choose_lt (α := Act) (n := len) (p := fun j x => V j = [.int .i64 x.kind, .int .i64 x.a, .int .i64 x.b, .int .i64 x.n] ∧ I64 x.kind ∧ I64 x.a ∧ I64 x.b ∧ I64 x.n) (fun j hj => by
    obtain ⟨_, _, n, y, hy⟩ := hV j hj
    exact act_in hy)
  refine ⟨(List.range len).map A, by simp, fun i t hi => ?_, fun t ht => ?_⟩
  · have hlt : i < len := by
      have := (List.getElem?_eq_some_iff.1 hi).1
      simpa using this
    have ht : A i = t := by
      rw [List.getElem?_map, List.getElem?_range hlt] at hi
      simpa using hi
    obtain ⟨⟨b, off, e, hb, hcell⟩, _, _⟩ := hV i hlt
    rw [hc, (hA i hlt).1, ht] at hcell
    have c0 := hcell 0 (by omega); have c1 := hcell 1 (by omega); have c2 := hcell 2 (by omega); have c3 := hcell 3 (by omega)
    rw [Nat.add_zero] at c0
    rw [← Nat.add_assoc] at c1 c2 c3
    exact ⟨b, off, e, hb, c0, c1, c2, c3⟩
  · obtain ⟨i, hi, rfl⟩ := List.mem_map.1 ht
    obtain ⟨_, b1, b2, b3⟩ := (hA i (by simpa using hi)).2
    exact ⟨b1, b2, b3⟩
end Go.Proofs.Yteglahogimdnfaa.Purse
