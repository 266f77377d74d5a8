/- The laws' arguments opened: blueprints, arrays of small numbers. -/
import Derived.Test.YtbibkonlhghplaaWide
import Derived.Test.YtbibkonlhghplaaLaw
import Derived.Test.YtbibkonlhghplaaOpen
import Derived.Test.YtbibkonlhghplaaRecD
namespace Go.Proofs.Ytbibkonlhghplaa.Recipe
open Go.ChangeShapes Go.WideShapes Go.ChangeAt Go.RowKit Go.Deep
open Goods (St Sts)

instance : Inhabited St := ⟨⟨0, 0⟩⟩
instance : Inhabited Bl := ⟨⟨0, 0, 0, none, 0, 0, [], 0, 0, 0⟩⟩
section
variable {H : Type} {enc : TypeId × Value → H} {w : World} {base : Nat} {spare : Nat → Bool} {held : Bool}
theorem one_int {fuel : Nat} {v : Value} {x : DataW H × List MemPlace} (h : DataW.trod enc Try.prog w base spare held fuel 3 [v] = some x) : ∃ z, v = .int .i64 z ∧ I64 z := by
  obtain ⟨z, h1, _, h2⟩ := DataW.trod_int Try.underlying3 h
  simp [Lit.wf, IntKind.min, IntKind.max, IntKind.signed, IntKind.bits] at h2
  exact ⟨z, by simpa using h1, by unfold I64; omega⟩
set_option maxRecDepth 100000 in
theorem st_in {fuel : Nat} {cs : List Value} {x : DataW H × List MemPlace} (h : DataW.trod enc Try.prog w base spare held fuel 30 cs = some x) :
    ∃ t : St, cs = [.int .i64 t.kind, .int .i64 t.qty] ∧ I64 t.kind ∧ I64 t.qty := by
  obtain ⟨hl, hf⟩ := open_struct Try.underlying30 h
  rw [show Try.prog.cellsOf 30 = 2 by kernel_rfl] at hl
  match cs, hl with
  | [c0, c1], _ =>
    obtain ⟨m0, y0, f0⟩ := hf 0 _ rfl; obtain ⟨m1, y1, f1⟩ := hf 1 _ rfl
    have g0 : DataW.trod enc Try.prog w base spare held m0 3 (([c0, c1].drop 0).take (Try.prog.cellsOf 3)) = some y0 := f0
    have g1 : DataW.trod enc Try.prog w base spare held m1 3 (([c0, c1].drop 1).take (Try.prog.cellsOf 3)) = some y1 := f1
    rw [show Try.prog.cellsOf 3 = 1 by kernel_rfl] at g0 g1
    obtain ⟨z0, rfl, b0⟩ := one_int g0; obtain ⟨z1, rfl, b1⟩ := one_int g1
    exact ⟨⟨z0, z1⟩, rfl, b0, b1⟩
end
/-! A slice of stacks, off one cell -/
set_option maxRecDepth 100000 in
theorem stks_of {H : Type} {enc : TypeId × Value → H} {W : World} {a : Option Addr} {len cap : Nat} {d : DataW H} {p : List MemPlace}
    (h : DataW.Trod enc Try.prog W 0 (fun _ => true) true 22 (.slice a len cap) d p) : ∃ l : List St, l.length = len ∧ Sts W a l ∧ InS l := by
  have hc : Try.prog.cellsOf 30 = 2 := by kernel_rfl
  obtain ⟨h1, h2, _, V, hV⟩ := law_rows Try.underlying22 (by rw [hc]; omega) h
  obtain ⟨A, hA⟩ := choose_lt (α := St) (n := len) (p := fun j x => V j = [.int .i64 x.kind, .int .i64 x.qty] ∧ I64 x.kind ∧ I64 x.qty) (fun j hj => by
    obtain ⟨_, _, n, y, hy⟩ := hV j hj
    exact st_in hy)
  refine ⟨(List.range len).map A, by simp, fun i t hi => ?_, fun t ht => ?_⟩
  · have hlt : i < len := by
      have := (List.getElem?_eq_some_iff.1 hi).1
      simpa using this
    have ht : A i = t := by
      rw [List.getElem?_map, List.getElem?_range hlt] at hi
      simpa using hi
    obtain ⟨⟨b, off, e, hb, hcell⟩, _, _⟩ := hV i hlt
    rw [hc, (hA i hlt).1, ht] at hcell
    have c0 := hcell 0 (by omega); have c1 := hcell 1 (by omega)
    rw [Nat.add_zero] at c0
    rw [← Nat.add_assoc] at c1
    exact ⟨b, off, e, hb, c0, c1⟩
  · obtain ⟨i, hi, rfl⟩ := List.mem_map.1 ht
    exact (hA i (by simpa using hi)).2
set_option maxRecDepth 100000 in
theorem cell_stks {H : Type} {enc : TypeId × Value → H} {W : World} {fuel : Nat} {v : Value} {x : DataW H × List MemPlace}
    (h : DataW.trod enc Try.prog W 0 (fun _ => true) true fuel 22 [v] = some x) : ∃ (a : Option Addr) (len cap : Nat) (l : List St), v = .slice a len cap ∧ l.length = len ∧ Sts W a l ∧ InS l := by
  obtain ⟨a, len, cap, hv⟩ : ∃ a len cap, v = .slice a len cap := by
    rcases open_slice Try.underlying22 h with ⟨hcs, _⟩ | ⟨ad, len', cap', m, n, D, Pl, hcs, _⟩
    · simp at hcs; exact ⟨_, _, _, hcs⟩
    · simp at hcs; exact ⟨_, _, _, hcs⟩
  subst hv
  have h' : DataW.Trod enc Try.prog W 0 (fun _ => true) true 22 (.slice a len cap) x.1 x.2 := ⟨fuel, h⟩
  obtain ⟨l, h1, h2, h3⟩ := stks_of h'
  exact ⟨a, len, cap, l, rfl, h1, h2, h3⟩
def blCells (x : Bl) : List Value := [.int .i64 x.ot, .int .i64 x.per, .int .i64 x.tm, .slice x.sa x.sm x.sc, .int .i64 x.cp, .int .i64 x.st, .int .i64 x.mo]
set_option maxRecDepth 100000 in
theorem bl_in {H : Type} {enc : TypeId × Value → H} {W : World} {fuel : Nat} {cs : List Value} {x : DataW H × List MemPlace} (h : DataW.trod enc Try.prog W 0 (fun _ => true) true fuel 24 cs = some x) :
    ∃ t : Bl, cs = blCells t ∧ t.s.length = t.sm ∧ Sts W t.sa t.s ∧ InBl t := by
  obtain ⟨hl, hf⟩ := open_struct Try.underlying24 h
  rw [show Try.prog.cellsOf 24 = 7 by kernel_rfl] at hl
  match cs, hl with
  | [c0, c1, c2, c3, c4, c5, c6], _ =>
    obtain ⟨m0, y0, f0⟩ := hf 0 _ rfl
    obtain ⟨m1, y1, f1⟩ := hf 1 _ rfl
    obtain ⟨m2, y2, f2⟩ := hf 2 _ rfl
    obtain ⟨m3, y3, f3⟩ := hf 3 _ rfl
    obtain ⟨m4, y4, f4⟩ := hf 4 _ rfl
    obtain ⟨m5, y5, f5⟩ := hf 5 _ rfl
    obtain ⟨m6, y6, f6⟩ := hf 6 _ rfl
    have g0 : DataW.trod enc Try.prog W 0 (fun _ => true) true m0 3 (([c0, c1, c2, c3, c4, c5, c6].drop 0).take (Try.prog.cellsOf 3)) = some y0 := f0
    have g1 : DataW.trod enc Try.prog W 0 (fun _ => true) true m1 3 (([c0, c1, c2, c3, c4, c5, c6].drop 1).take (Try.prog.cellsOf 3)) = some y1 := f1
    have g2 : DataW.trod enc Try.prog W 0 (fun _ => true) true m2 3 (([c0, c1, c2, c3, c4, c5, c6].drop 2).take (Try.prog.cellsOf 3)) = some y2 := f2
    have g3 : DataW.trod enc Try.prog W 0 (fun _ => true) true m3 22 (([c0, c1, c2, c3, c4, c5, c6].drop 3).take (Try.prog.cellsOf 22)) = some y3 := f3
    have g4 : DataW.trod enc Try.prog W 0 (fun _ => true) true m4 3 (([c0, c1, c2, c3, c4, c5, c6].drop 4).take (Try.prog.cellsOf 3)) = some y4 := f4
    have g5 : DataW.trod enc Try.prog W 0 (fun _ => true) true m5 3 (([c0, c1, c2, c3, c4, c5, c6].drop 5).take (Try.prog.cellsOf 3)) = some y5 := f5
    have g6 : DataW.trod enc Try.prog W 0 (fun _ => true) true m6 3 (([c0, c1, c2, c3, c4, c5, c6].drop 6).take (Try.prog.cellsOf 3)) = some y6 := f6
    rw [show Try.prog.cellsOf 3 = 1 by kernel_rfl] at g0 g1 g2 g4 g5 g6
    rw [show Try.prog.cellsOf 22 = 1 by kernel_rfl] at g3
    obtain ⟨z0, rfl, b0⟩ := one_int g0
    obtain ⟨z1, rfl, b1⟩ := one_int g1
    obtain ⟨z2, rfl, b2⟩ := one_int g2
    obtain ⟨z4, rfl, b4⟩ := one_int g4
    obtain ⟨z5, rfl, b5⟩ := one_int g5
    obtain ⟨z6, rfl, b6⟩ := one_int g6
    obtain ⟨a, len, cap, l, rfl, s1, s2, s3⟩ := cell_stks g3
    exact ⟨⟨z0, z1, z2, a, len, cap, l, z4, z5, z6⟩, rfl, s1, s2, b0, b1, b2, b4, b5, b6, s3⟩
theorem bl_of {H : Type} {enc : TypeId × Value → H} {W : World} {cs : Array Value} {d : DataW H} {p : List MemPlace} (h : DataW.Trod enc Try.prog W 0 (fun _ => true) true 24 (.agg cs) d p) : ∃ x : Bl, cs = #[.int .i64 x.ot, .int .i64 x.per, .int .i64 x.tm, .slice x.sa x.sm x.sc, .int .i64 x.cp, .int .i64 x.st, .int .i64 x.mo] ∧ x.s.length = x.sm ∧ Sts W x.sa x.s ∧ InBl x := by
  obtain ⟨fuel, hf⟩ := h
  obtain ⟨x, e, b1, b2, b3⟩ := bl_in hf
  refine ⟨x, ?_, b1, b2, b3⟩
  apply Array.ext'
  simpa [Value.cells, blCells] using e
/-- An array of two numbers that came in by value. -/
theorem two_of {H : Type} {enc : TypeId × Value → H} {P : Program} {W : World} {t e : TypeId} {k : IntKind} {cs : Array Value} {d : DataW H} {p : List MemPlace}
    (ht : P.underlying t = some (.array 2 e)) (he : P.underlying e = some (.int k)) (hc : P.cellsOf e = 1) (hct : P.cellsOf t = 2) (h : DataW.Trod enc P W 0 (fun _ => true) true t (.agg cs) d p) :
    ∃ x : Int × Int, cs = #[.int k x.1, .int k x.2] ∧ (Lit.int k x.1).wf = true ∧ (Lit.int k x.2).wf = true := by
  obtain ⟨fuel, hf⟩ := h
  obtain ⟨xs, m, _, _, hl, hxl, hx⟩ := DataW.trod_array ht hf
  have hsz : cs.size = 2 := by simpa [Value.cells, hct] using hl
  have hall : ∀ i, i < 2 → ∃ z : Int, cs[i]? = some (.int k z) ∧ (Lit.int k z).wf = true := fun i hi => by
    have g := hx i hi
    rw [hc, Nat.mul_one, List.getElem?_eq_getElem (by omega)] at g
    obtain ⟨z, hz, _, hw⟩ := DataW.trod_int he g
    refine ⟨z, ?_, hw⟩
    have h0 := congrArg (fun l : List Value => l[0]?) hz
    simpa [Value.cells, List.getElem?_take, List.getElem?_drop] using h0
  obtain ⟨x, hx0, w0⟩ := hall 0 (by omega)
  obtain ⟨y, hy0, w1⟩ := hall 1 (by omega)
  refine ⟨(x, y), ?_, w0, w1⟩
  apply Array.ext (by rw [hsz]; rfl)
  intro i h1 h2
  rw [hsz] at h1
  rcases i with _ | _ | i
  · rw [Array.getElem?_eq_getElem (by omega)] at hx0
    injection hx0
  · rw [Array.getElem?_eq_getElem (by omega)] at hy0
    injection hy0
  · omega
theorem u16s_of {H : Type} {enc : TypeId × Value → H} {W : World} {cs : Array Value} {d : DataW H} {p : List MemPlace} (h : DataW.Trod enc Try.prog W 0 (fun _ => true) true 40 (.agg cs) d p) : ∃ x : Int × Int, cs = #[.int .u16 x.1, .int .u16 x.2] ∧ (0 ≤ x.1 ∧ x.1 ≤ 65535) ∧ (0 ≤ x.2 ∧ x.2 ≤ 65535) := by
  obtain ⟨x, e, w0, w1⟩ := two_of Try.underlying40 Try.underlying39 (by kernel_rfl) (by kernel_rfl) h
  simp [Lit.wf, IntKind.min, IntKind.max, IntKind.signed, IntKind.bits] at w0 w1
  exact ⟨x, e, by omega, by omega⟩
theorem u8s_of {H : Type} {enc : TypeId × Value → H} {W : World} {cs : Array Value} {d : DataW H} {p : List MemPlace} (h : DataW.Trod enc Try.prog W 0 (fun _ => true) true 41 (.agg cs) d p) : ∃ x : Int × Int, cs = #[.int .u8 x.1, .int .u8 x.2] ∧ (0 ≤ x.1 ∧ x.1 ≤ 255) ∧ (0 ≤ x.2 ∧ x.2 ≤ 255) := by
  obtain ⟨x, e, w0, w1⟩ := two_of Try.underlying41 Try.underlying5 (by kernel_rfl) (by kernel_rfl) h
  simp [Lit.wf, IntKind.min, IntKind.max, IntKind.signed, IntKind.bits] at w0 w1
  exact ⟨x, e, by omega, by omega⟩
end Go.Proofs.Ytbibkonlhghplaa.Recipe
