/- The laws' arguments opened: fees, rows of ints. -/
import Derived.Test.YtaffdddleegfcaaWide
import Derived.Test.YtaffdddleegfcaaOpen
import Derived.Test.YtaffdddleegfcaaFeeG
namespace Go.Proofs.Ytaffdddleegfcaa.Fee
open Go.ChangeShapes Go.WideShapes Go.ChangeAt Go.RowKit Go.Deep IRows

section
variable {H : Type} {enc : TypeId × Value → H} {w : World} {base : Nat} {spare : Nat → Bool} {held : Bool}
theorem one_int {fuel : Nat} {v : Value} {x : DataW H × List MemPlace} (h : DataW.trod enc Try.prog w base spare held fuel 3 [v] = some x) : ∃ z, v = .int .i64 z ∧ I64 z := by
  obtain ⟨z, h1, _, h2⟩ := DataW.trod_int Try.underlying3 h
  simp [Lit.wf, IntKind.min, IntKind.max, IntKind.signed, IntKind.bits] at h2
  exact ⟨z, by simpa using h1, by unfold I64; omega⟩
theorem fee_in {fuel : Nat} {cs : List Value} {x : DataW H × List MemPlace} (h : DataW.trod enc Try.prog w base spare held fuel 23 cs = some x) :
    ∃ f : FS, cs = [.int .i64 f.broker, .int .i64 f.least, .int .i64 f.sales] ∧ InF f := by
  obtain ⟨hl, hf⟩ := open_struct Try.underlying23 h
  rw [show Try.prog.cellsOf 23 = 3 by kernel_rfl] at hl
  match cs, hl with
  | [c0, c1, c2], _ =>
    obtain ⟨m0, y0, f0⟩ := hf 0 _ rfl; obtain ⟨m1, y1, f1⟩ := hf 1 _ rfl; obtain ⟨m2, y2, f2⟩ := hf 2 _ rfl
    have g0 : DataW.trod enc Try.prog w base spare held m0 3 (([c0, c1, c2].drop 0).take (Try.prog.cellsOf 3)) = some y0 := f0
    have g1 : DataW.trod enc Try.prog w base spare held m1 3 (([c0, c1, c2].drop 1).take (Try.prog.cellsOf 3)) = some y1 := f1
    have g2 : DataW.trod enc Try.prog w base spare held m2 3 (([c0, c1, c2].drop 2).take (Try.prog.cellsOf 3)) = some y2 := f2
    rw [show Try.prog.cellsOf 3 = 1 by kernel_rfl] at g0 g1 g2
    obtain ⟨z0, rfl, b0⟩ := one_int g0; obtain ⟨z1, rfl, b1⟩ := one_int g1; obtain ⟨z2, rfl, b2⟩ := one_int g2
    exact ⟨⟨z0, z1, z2⟩, rfl, b0, b1, b2⟩
theorem fees_of {cs : Array Value} {d : DataW H} {p : List MemPlace} (h : DataW.Trod enc Try.prog w base spare held 23 (.agg cs) d p) : ∃ f : FS, cs = #[.int .i64 f.broker, .int .i64 f.least, .int .i64 f.sales] ∧ InF f := by
  obtain ⟨fuel, hf⟩ := h
  obtain ⟨f, e, hF⟩ := fee_in hf
  refine ⟨f, ?_, hF⟩
  apply Array.ext'
  simpa [Value.cells] using e
end
/-- A row of ints that came in, as a list. -/
theorem irow_of {w : World} {a : Option Addr} {n : Nat} {Z : Nat → Int} (hc : ∀ j, j < n → ∃ b off, a = some ⟨b, off, none⟩ ∧ b < w.heap.size ∧ w.cell? ⟨b, off + j, none⟩ = some (.int .i64 (Z j))) : ((List.range n).map Z).length = n ∧ IRow w a ((List.range n).map Z) := by
  refine ⟨by simp, fun i x hx => ?_⟩
  have hlt : i < n := by
    have := (List.getElem?_eq_some_iff.1 hx).1
    simpa using this
  rw [List.getElem?_map, List.getElem?_range hlt] at hx
  have e : Z i = x := by simpa using hx
  obtain ⟨b, off, e1, h1, h2⟩ := hc i hlt
  rw [e] at h2
  exact ⟨b, off, e1, h1, h2⟩
theorem in_row {n : Nat} {Z : Nat → Int} (h : ∀ j, j < n → -9223372036854775808 ≤ Z j ∧ Z j ≤ 9223372036854775807) : ∀ v ∈ (List.range n).map Z, I64 v := fun v hv => by
  obtain ⟨j, hj, rfl⟩ := List.mem_map.1 hv
  exact h j (List.mem_range.1 hj)
end Go.Proofs.Ytaffdddleegfcaa.Fee
