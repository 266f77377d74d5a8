/- The laws' arguments opened: rows of pairs of numbers; a pair by value. -/
import Derived.Test.YtghjcefigdkhnaaWide
import Derived.Test.YtghjcefigdkhnaaLaw
import Derived.Test.YtghjcefigdkhnaaOpen
import Derived.Test.YtghjcefigdkhnaaGraphJ
namespace Go.Proofs.Ytghjcefigdkhnaa.Graph
open Go.ChangeShapes Go.WideShapes Go.ChangeAt Go.RowKit Go.Deep

instance : Inhabited Nd := ⟨⟨0, 0⟩⟩
/-- An array of two numbers, in cells. -/
theorem arr2_in {H : Type} {enc : TypeId × Value → H} {P : Program} {W : World} {t e : TypeId} {k : IntKind} {fuel : Nat} {cs : List Value} {x : DataW H × List MemPlace}
    (ht : P.underlying t = some (.array 2 e)) (he : P.underlying e = some (.int k)) (hc : P.cellsOf e = 1) (hct : P.cellsOf t = 2) (hf : DataW.trod enc P W 0 (fun _ => true) true fuel t cs = some x) :
    ∃ a b : Int, cs = [.int k a, .int k b] ∧ (Lit.int k a).wf = true ∧ (Lit.int k b).wf = true := by
  obtain ⟨xs, m, _, _, hl, hxl, hx⟩ := DataW.trod_array ht hf
  have hsz : cs.length = 2 := by simpa [hct] using hl
  have hall : ∀ i, i < 2 → ∃ z : Int, cs[i]? = some (.int k z) ∧ (Lit.int k z).wf = true := fun i hi => by
    have g := hx i hi
    rw [hc, Nat.mul_one, List.getElem?_eq_getElem (by omega)] at g
    obtain ⟨z, hz, _, hw⟩ := DataW.trod_int he g
    refine ⟨z, ?_, hw⟩
    have h0 := congrArg (fun l : List Value => l[0]?) hz
    simpa [List.getElem?_take, List.getElem?_drop] using h0
  obtain ⟨a, ha, w0⟩ := hall 0 (by omega)
  obtain ⟨b, hb, w1⟩ := hall 1 (by omega)
  refine ⟨a, b, ?_, w0, w1⟩
  match cs, hsz, ha, hb with
  | [c0, c1], _, ha, hb =>
    have h0 : c0 = .int k a := by simpa using ha
    have h1 : c1 = .int k b := by simpa using hb
    rw [h0, h1]
theorem wf_i64 {z : Int} (h : (Lit.int .i64 z).wf = true) : I64 z := by
  simp [Lit.wf, IntKind.min, IntKind.max, IntKind.signed, IntKind.bits] at h
  unfold I64
  omega
theorem wf_u8 {z : Int} (h : (Lit.int .u8 z).wf = true) : ∃ n : Nat, z = (n : Int) ∧ n ≤ 255 := by
  simp [Lit.wf, IntKind.min, IntKind.max, IntKind.signed, IntKind.bits] at h
  obtain ⟨n, hn⟩ := Int.eq_ofNat_of_zero_le (show 0 ≤ z by omega)
  exact ⟨n, hn, by omega⟩
set_option maxRecDepth 100000 in
theorem nds_of {H : Type} {enc : TypeId × Value → H} {W : World} {a : Option Addr} {len cap : Nat} {d : DataW H} {p : List MemPlace}
    (h : DataW.Trod enc Try.prog W 0 (fun _ => true) true 22 (.slice a len cap) d p) : ∃ l : List Nd, l.length = len ∧ Nds W a l ∧ InN l := by
  have hc : Try.prog.cellsOf 31 = 2 := by kernel_rfl
  have hci : Try.prog.cellsOf 3 = 1 := by kernel_rfl
  obtain ⟨h1, h2, _, V, hV⟩ := law_rows Try.underlying22 (by rw [hc]; omega) h
  obtain ⟨A, hA⟩ := choose_lt (α := Nd) (n := len) (p := fun j x => V j = [.int .i64 x.a, .int .i64 x.b] ∧ I64 x.a ∧ I64 x.b) (fun j hj => by
    obtain ⟨_, _, n, y, hy⟩ := hV j hj
    obtain ⟨x, z, e, w0, w1⟩ := arr2_in Try.underlying31 Try.underlying3 hci hc hy
    exact ⟨⟨x, z⟩, e, wf_i64 w0, wf_i64 w1⟩)
  refine ⟨(List.range len).map A, by simp, fun i t hi => ?_, fun t ht => ?_⟩
  · have hlt : i < len := by
      have := (List.getElem?_eq_some_iff.1 hi).1
      simpa using this
    have ht : A i = t := by
      rw [List.getElem?_map, List.getElem?_range hlt] at hi
      simpa using hi
    obtain ⟨⟨b, off, e, hb, hcell⟩, _, _⟩ := hV i hlt
    rw [hc, (hA i hlt).1, ht] at hcell
    have c0 := hcell 0 (by omega); have c1 := hcell 1 (by omega)
    rw [Nat.add_zero] at c0
    rw [← Nat.add_assoc] at c1
    exact ⟨b, off, e, hb, c0, c1⟩
  · obtain ⟨i, hi, rfl⟩ := List.mem_map.1 ht
    exact (hA i (by simpa using hi)).2
set_option maxRecDepth 100000 in
theorem us_of {H : Type} {enc : TypeId × Value → H} {W : World} {a : Option Addr} {len cap : Nat} {d : DataW H} {p : List MemPlace}
    (h : DataW.Trod enc Try.prog W 0 (fun _ => true) true 35 (.slice a len cap) d p) : ∃ l : List (Nat × Nat), l.length = len ∧ Us W a l ∧ ∀ u ∈ l, u.1 ≤ 255 ∧ u.2 ≤ 255 := by
  have hc : Try.prog.cellsOf 36 = 2 := by kernel_rfl
  have hci : Try.prog.cellsOf 5 = 1 := by kernel_rfl
  obtain ⟨h1, h2, _, V, hV⟩ := law_rows Try.underlying35 (by rw [hc]; omega) h
  obtain ⟨A, hA⟩ := choose_lt (α := Nat × Nat) (n := len) (p := fun j x => V j = [.int .u8 (x.1 : Nat), .int .u8 (x.2 : Nat)] ∧ x.1 ≤ 255 ∧ x.2 ≤ 255) (fun j hj => by
    obtain ⟨_, _, n, y, hy⟩ := hV j hj
    obtain ⟨x, z, e, w0, w1⟩ := arr2_in Try.underlying36 Try.underlying5 hci hc hy
    obtain ⟨x', rfl, bx⟩ := wf_u8 w0
    obtain ⟨z', rfl, bz⟩ := wf_u8 w1
    exact ⟨(x', z'), e, bx, bz⟩)
  refine ⟨(List.range len).map A, by simp, fun i t hi => ?_, fun t ht => ?_⟩
  · have hlt : i < len := by
      have := (List.getElem?_eq_some_iff.1 hi).1
      simpa using this
    have ht : A i = t := by
      rw [List.getElem?_map, List.getElem?_range hlt] at hi
      simpa using hi
    obtain ⟨⟨b, off, e, hb, hcell⟩, _, _⟩ := hV i hlt
    rw [hc, (hA i hlt).1, ht] at hcell
    have c0 := hcell 0 (by omega); have c1 := hcell 1 (by omega)
    rw [Nat.add_zero] at c0
    rw [← Nat.add_assoc] at c1
    exact ⟨b, off, e, hb, c0, c1⟩
  · obtain ⟨i, hi, rfl⟩ := List.mem_map.1 ht
    exact (hA i (by simpa using hi)).2
set_option maxRecDepth 100000 in
theorem e2_of {H : Type} {enc : TypeId × Value → H} {W : World} {cs : Array Value} {d : DataW H} {p : List MemPlace} (h : DataW.Trod enc Try.prog W 0 (fun _ => true) true 31 (.agg cs) d p) :
    ∃ x : Int × Int, cs = #[.int .i64 x.1, .int .i64 x.2] ∧ I64 x.1 ∧ I64 x.2 := by
  obtain ⟨fuel, hf⟩ := h
  obtain ⟨a, b, e, w0, w1⟩ := arr2_in Try.underlying31 Try.underlying3 (by kernel_rfl) (by kernel_rfl) hf
  refine ⟨(a, b), ?_, wf_i64 w0, wf_i64 w1⟩
  apply Array.ext'
  simpa [Value.cells] using e
end Go.Proofs.Ytghjcefigdkhnaa.Graph
