/- The laws' arguments opened: acts, timers, two numbers. -/
import Derived.Test.YtfbdkafpfminlaaWide
import Derived.Test.YtfbdkafpfminlaaHeapI
namespace Go.Proofs.Ytfbdkafpfminlaa.Heap
open Go.ChangeShapes Go.WideShapes Go.ChangeAt Go.RowKit Go.Deep Go.Proofs.Ytfbdkafpfminlaa.Heap.Im

section
variable {H : Type} {enc : TypeId × Value → H} {w : World} {base : Nat} {spare : Nat → Bool} {held : Bool}
theorem one_int {fuel : Nat} {v : Value} {x : DataW H × List MemPlace} (h : DataW.trod enc Try.prog w base spare held fuel 3 [v] = some x) : ∃ z, v = .int .i64 z ∧ Ints.I64 z := by
  obtain ⟨z, h1, _, h2⟩ := DataW.trod_int Try.underlying3 h
  simp [Lit.wf, IntKind.min, IntKind.max, IntKind.signed, IntKind.bits] at h2
  exact ⟨z, by simpa using h1, by unfold Ints.I64; omega⟩
theorem act_in {fuel : Nat} {cs : List Value} {x : DataW H × List MemPlace} (h : DataW.trod enc Try.prog w base spare held fuel 33 cs = some x) :
    ∃ a : Int × Int × Int, cs = [.int .i64 a.1, .int .i64 a.2.1, .int .i64 a.2.2] ∧ Ints.I64 a.2.1 := by
  obtain ⟨hl, hf⟩ := open_struct Try.underlying33 h
  rw [show Try.prog.cellsOf 33 = 3 by kernel_rfl] at hl
  match cs, hl with
  | [c0, c1, c2], _ =>
    obtain ⟨m0, y0, f0⟩ := hf 0 _ rfl; obtain ⟨m1, y1, f1⟩ := hf 1 _ rfl; obtain ⟨m2, y2, f2⟩ := hf 2 _ rfl
    have g0 : DataW.trod enc Try.prog w base spare held m0 3 (([c0, c1, c2].drop 0).take (Try.prog.cellsOf 3)) = some y0 := f0
    have g1 : DataW.trod enc Try.prog w base spare held m1 3 (([c0, c1, c2].drop 1).take (Try.prog.cellsOf 3)) = some y1 := f1
    have g2 : DataW.trod enc Try.prog w base spare held m2 3 (([c0, c1, c2].drop 2).take (Try.prog.cellsOf 3)) = some y2 := f2
    rw [show Try.prog.cellsOf 3 = 1 by kernel_rfl] at g0 g1 g2
    obtain ⟨z0, rfl, b0⟩ := one_int g0; obtain ⟨z1, rfl, b1⟩ := one_int g1; obtain ⟨z2, rfl, b2⟩ := one_int g2
    exact ⟨⟨z0, z1, z2⟩, rfl, b1⟩
theorem tm_in {fuel : Nat} {cs : List Value} {x : DataW H × List MemPlace} (h : DataW.trod enc Try.prog w base spare held fuel 45 cs = some x) :
    ∃ t : Tm, cs = [.int .i64 t.due, .int .i64 t.id, .int .i64 t.what] ∧ Ints.I64 t.id := by
  obtain ⟨hl, hf⟩ := open_struct Try.underlying45 h
  rw [show Try.prog.cellsOf 45 = 3 by kernel_rfl] at hl
  match cs, hl with
  | [c0, c1, c2], _ =>
    obtain ⟨m0, y0, f0⟩ := hf 0 _ rfl; obtain ⟨m1, y1, f1⟩ := hf 1 _ rfl; obtain ⟨m2, y2, f2⟩ := hf 2 _ rfl
    have g0 : DataW.trod enc Try.prog w base spare held m0 3 (([c0, c1, c2].drop 0).take (Try.prog.cellsOf 3)) = some y0 := f0
    have g1 : DataW.trod enc Try.prog w base spare held m1 3 (([c0, c1, c2].drop 1).take (Try.prog.cellsOf 3)) = some y1 := f1
    have g2 : DataW.trod enc Try.prog w base spare held m2 3 (([c0, c1, c2].drop 2).take (Try.prog.cellsOf 3)) = some y2 := f2
    rw [show Try.prog.cellsOf 3 = 1 by kernel_rfl] at g0 g1 g2
    obtain ⟨z0, rfl, b0⟩ := one_int g0; obtain ⟨z1, rfl, b1⟩ := one_int g1; obtain ⟨z2, rfl, b2⟩ := one_int g2
    exact ⟨⟨z0, z1, z2⟩, rfl, b1⟩
end
theorem acts_of {H : Type} {enc : TypeId × Value → H} {W : World} {a : Option Addr} {len cap : Nat} {d : DataW H} {p : List MemPlace}
    (h : DataW.Trod enc Try.prog W 0 (fun _ => true) true 22 (.slice a len cap) d p) : len ≤ maxLen ∧ len ≤ cap ∧ ∃ A : Nat → Int × Int × Int, Acts W a len A := by
  have hc : Try.prog.cellsOf 33 = 3 := by kernel_rfl
  obtain ⟨h1, h2, _, V, hV⟩ := law_rows Try.underlying22 (by rw [hc]; omega) h
  obtain ⟨A, hA⟩ := choose_lt (α := Int × Int × Int) (n := len) (p := fun j x => V j = [.int .i64 x.1, .int .i64 x.2.1, .int .i64 x.2.2] ∧ Ints.I64 x.2.1) (fun j hj => by
    obtain ⟨_, _, n, y, hy⟩ := hV j hj
    exact act_in hy)
  refine ⟨h1, h2, A, fun j hj => ?_⟩
  obtain ⟨⟨b, off, e, hb, hcell⟩, _, _⟩ := hV j hj
  rw [hc, (hA j hj).1] at hcell
  have c0 := hcell 0 (by omega); have c1 := hcell 1 (by omega); have c2 := hcell 2 (by omega)
  rw [Nat.add_zero] at c0
  rw [← Nat.add_assoc] at c1 c2
  exact ⟨⟨b, off, e, hb, c0, c1, c2⟩, (hA j hj).2⟩
theorem tms_of {H : Type} {enc : TypeId × Value → H} {W : World} {a : Option Addr} {len cap : Nat} {d : DataW H} {p : List MemPlace}
    (h : DataW.Trod enc Try.prog W 0 (fun _ => true) true 37 (.slice a len cap) d p) : ∃ l : List Tm, l.length = len ∧ Tms W a l ∧ ∀ t ∈ l, Ints.I64 t.id := by
  have hc : Try.prog.cellsOf 45 = 3 := by kernel_rfl
  obtain ⟨h1, h2, _, V, hV⟩ := law_rows Try.underlying37 (by rw [hc]; omega) h
  obtain ⟨A, hA⟩ := choose_lt (α := Tm) (n := len) (p := fun j x => V j = [.int .i64 x.due, .int .i64 x.id, .int .i64 x.what] ∧ Ints.I64 x.id) (fun j hj => by
    obtain ⟨_, _, n, y, hy⟩ := hV j hj
    exact tm_in hy)
  refine ⟨(List.range len).map A, by simp, fun i t hi => ?_, fun t ht => ?_⟩
  · have hlt : i < len := by
      have := (List.getElem?_eq_some_iff.1 hi).1
      simpa using this
    have ht : A i = t := by
      rw [List.getElem?_map, List.getElem?_range hlt] at hi
      simpa using hi
    obtain ⟨⟨b, off, e, hb, hcell⟩, _, _⟩ := hV i hlt
    rw [hc, (hA i hlt).1, ht] at hcell
    have c0 := hcell 0 (by omega); have c1 := hcell 1 (by omega); have c2 := hcell 2 (by omega)
    rw [Nat.add_zero] at c0
    rw [← Nat.add_assoc] at c1 c2
    exact ⟨b, off, e, hb, c0, c1, c2⟩
  · obtain ⟨i, hi, rfl⟩ := List.mem_map.1 ht
    exact (hA i (by simpa using hi)).2
/-- Two numbers that came in by value. -/
theorem keys1_of {H : Type} {enc : TypeId × Value → H} {W : World} {cs : Array Value} {d : DataW H} {p : List MemPlace} (h : DataW.Trod enc Try.prog W 0 (fun _ => true) true 36 (.agg cs) d p) :
    ∃ x : Int × Int, cs = #[.int .i64 x.1, .int .i64 x.2] := by
  obtain ⟨fuel, hf⟩ := h
  obtain ⟨hl, hx⟩ := open_array Try.underlying36 hf
  rw [show Try.prog.cellsOf 36 = 2 by kernel_rfl] at hl
  rw [show Try.prog.cellsOf 3 = 1 by kernel_rfl] at hx
  obtain ⟨l, rfl⟩ : ∃ l : List Value, cs = l.toArray := ⟨cs.toList, by simp⟩
  simp [Value.cells] at hl hx
  match l, hl with
  | [c0, c1], _ =>
    obtain ⟨m0, y, b, f0⟩ := hx 0 (by omega); obtain ⟨m1, y', b', f1⟩ := hx 1 (by omega)
    have g0 : DataW.trod enc Try.prog W 0 (fun _ => true) true m0 3 [c0] = some (y, b) := f0
    have g1 : DataW.trod enc Try.prog W 0 (fun _ => true) true m1 3 [c1] = some (y', b') := f1
    obtain ⟨z0, rfl, _⟩ := one_int g0
    obtain ⟨z1, rfl, _⟩ := one_int g1
    exact ⟨⟨z0, z1⟩, rfl⟩
end Go.Proofs.Ytfbdkafpfminlaa.Heap
