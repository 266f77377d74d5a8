/- The laws' arguments opened: lines; how many bays. -/
import Derived.Test.YtokkefokodcphaaBayArgs
import Derived.Test.YtokkefokodcphaaBayDn
namespace Go.Proofs.Ytokkefokodcphaa.Bay
open Go.ChangeShapes Go.WideShapes Go.ChangeAt Go.RowKit Go.Deep IRows

instance : Inhabited Dn := ⟨⟨[], none, 0, [], none, 0⟩⟩
set_option maxRecDepth 100000 in
theorem nints_of {H : Type} {enc : TypeId × Value → H} {W : World} {a : Option Addr} {len cap : Nat} {d : DataW H} {p : List MemPlace}
    (h : DataW.Trod enc Try.prog W 0 (fun _ => true) true 52 (.slice a len cap) d p) : ∃ l : List Int, l.length = len ∧ NRow W (fun g => g < W.heap.size) a l := by
  obtain ⟨Z, hZ⟩ := law_ints Try.underlying52 Try.underlying3 (by kernel_rfl) h
  refine ⟨(List.range len).map Z, by simp, fun i x hi => ?_⟩
  have hlt : i < len := by
    have := (List.getElem?_eq_some_iff.1 hi).1
    simpa using this
  have hx : Z i = x := by
    rw [List.getElem?_map, List.getElem?_range hlt] at hi
    simpa using hi
  obtain ⟨⟨b, off, e, hb, hc⟩, _⟩ := hZ i hlt
  rw [hx] at hc
  exact ⟨b, off, e, hb, hb, hc⟩
set_option maxRecDepth 100000 in
theorem cell_nints {H : Type} {enc : TypeId × Value → H} {W : World} {fuel : Nat} {v : Value} {x : DataW H × List MemPlace}
    (h : DataW.trod enc Try.prog W 0 (fun _ => true) true fuel 52 [v] = some x) : ∃ (a : Option Addr) (cap : Nat) (l : List Int), v = .slice a l.length cap ∧ NRow W (fun g => g < W.heap.size) a l := by
  obtain ⟨a, len, cap, hv⟩ : ∃ a len cap, v = .slice a len cap := by
    rcases open_slice Try.underlying52 h with ⟨hcs, _⟩ | ⟨ad, len', cap', m, n, D, Pl, hcs, _⟩
    · simp at hcs; exact ⟨_, _, _, hcs⟩
    · simp at hcs; exact ⟨_, _, _, hcs⟩
  subst hv
  have h' : DataW.Trod enc Try.prog W 0 (fun _ => true) true 52 (.slice a len cap) x.1 x.2 := ⟨fuel, h⟩
  obtain ⟨l, rfl, h2⟩ := nints_of h'
  exact ⟨a, cap, l, rfl, h2⟩
set_option maxRecDepth 100000 in
theorem dn_in {H : Type} {enc : TypeId × Value → H} {W : World} {fuel : Nat} {cs : List Value} {x : DataW H × List MemPlace} (h : DataW.trod enc Try.prog W 0 (fun _ => true) true fuel 54 cs = some x) :
    ∃ t : Dn, cs = dCells t ∧ DnAt W (fun g => g < W.heap.size) t := by
  obtain ⟨hl, hf⟩ := open_struct Try.underlying54 h
  rw [show Try.prog.cellsOf 54 = 2 by kernel_rfl] at hl
  match cs, hl with
  | [c0, c1], _ =>
    obtain ⟨m0, y0, f0⟩ := hf 0 _ rfl; obtain ⟨m1, y1, f1⟩ := hf 1 _ rfl
    have g0 : DataW.trod enc Try.prog W 0 (fun _ => true) true m0 52 (([c0, c1].drop 0).take (Try.prog.cellsOf 52)) = some y0 := f0
    have g1 : DataW.trod enc Try.prog W 0 (fun _ => true) true m1 52 (([c0, c1].drop 1).take (Try.prog.cellsOf 52)) = some y1 := f1
    rw [show Try.prog.cellsOf 52 = 1 by kernel_rfl] at g0 g1
    obtain ⟨a, ca, r, rfl, k0⟩ := cell_nints g0
    obtain ⟨b, cb, q, rfl, k1⟩ := cell_nints g1
    exact ⟨⟨r, a, ca, q, b, cb⟩, rfl, k0, k1⟩
set_option maxRecDepth 100000 in
theorem lines_of {H : Type} {enc : TypeId × Value → H} {W : World} {a : Option Addr} {len cap : Nat} {d : DataW H} {p : List MemPlace}
    (h : DataW.Trod enc Try.prog W 0 (fun _ => true) true 23 (.slice a len cap) d p) : ∃ ds : List Dn, ds.length = len ∧ LsAt W (fun g => g < W.heap.size) a ds ∧ len ≤ maxLen := by
  have hc : Try.prog.cellsOf 54 = 2 := by kernel_rfl
  obtain ⟨h1, h2, _, V, hV⟩ := law_rows Try.underlying23 (by rw [hc]; omega) h
  obtain ⟨A, hA⟩ := choose_lt (α := Dn) (n := len) (p := fun j x => V j = dCells x ∧ DnAt W (fun g => g < W.heap.size) x) (fun j hj => by
    obtain ⟨_, _, n, y, hy⟩ := hV j hj
    exact dn_in hy)
  have hat : ∀ (i : Nat) (t : Dn), ((List.range len).map A)[i]? = some t → i < len ∧ A i = t := fun i t hi => by
    have hlt : i < len := by
      have := (List.getElem?_eq_some_iff.1 hi).1
      simpa using this
    rw [List.getElem?_map, List.getElem?_range hlt] at hi
    exact ⟨hlt, by simpa using hi⟩
  refine ⟨(List.range len).map A, by simp, ⟨fun i t hi => ?_, fun i t hi => ?_⟩, h1⟩
  · obtain ⟨hlt, ht⟩ := hat i t hi
    obtain ⟨⟨b, off, e, hb, hcell⟩, _, _⟩ := hV i hlt
    rw [hc, (hA i hlt).1, ht] at hcell
    have c0 := hcell 0 (by omega); have c1 := hcell 1 (by omega)
    rw [Nat.add_zero] at c0
    rw [← Nat.add_assoc] at c1
    exact ⟨b, off, e, hb, hb, c0, c1⟩
  · obtain ⟨hlt, ht⟩ := hat i t hi
    rw [← ht]
    exact (hA i hlt).2
set_option maxRecDepth 100000 in
theorem bays_of2 {H : Type} {enc : TypeId × Value → H} {W : World} {a : Option Addr} {len cap : Nat} {d : DataW H} {p : List MemPlace}
    (h : DataW.Trod enc Try.prog W 0 (fun _ => true) true 22 (.slice a len cap) d p) : ∃ l : List By, l.length = len ∧ ByAt W a l ∧ len ≤ maxLen := by
  have hc : Try.prog.cellsOf 46 = 4 := by kernel_rfl
  obtain ⟨h1, _, _, _, _⟩ := law_rows Try.underlying22 (by rw [hc]; omega) h
  obtain ⟨l, h2, h3⟩ := bays_of h
  exact ⟨l, h2, h3, h1⟩
end Go.Proofs.Ytokkefokodcphaa.Bay
