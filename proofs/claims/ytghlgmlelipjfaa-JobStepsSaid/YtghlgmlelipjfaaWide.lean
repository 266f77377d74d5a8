/- Arguments of laws opened: slices of elements of several cells, structs with fields of several cells, arrays of numbers. -/
import Derived.Test.YtghlgmlelipjfaaOpen
namespace Go.Proofs.Ytghlgmlelipjfaa
open Go.ChangeShapes Go.WideShapes Go.ChangeAt Go.RowKit Go.Deep

/-- A slice that came in, its elements' cells and their own readings. -/
theorem law_rows {H : Type} {enc : TypeId × Value → H} {P : Program} {W : World} {t e : TypeId} {a : Option Addr} {len cap : Nat} {d : DataW H} {p : List MemPlace}
    (ht : P.underlying t = some (.slice e)) (hpos : 0 < P.cellsOf e) (h : DataW.Trod enc P W 0 (fun _ => true) true t (.slice a len cap) d p) :
    len ≤ maxLen ∧ len ≤ cap ∧ (a = none → cap = 0) ∧ ∃ V : Nat → List Value, ∀ j, j < len → (∃ b off, a = some ⟨b, off, none⟩ ∧ b < W.heap.size ∧ ∀ i, i < P.cellsOf e → W.cell? ⟨b, off + (j * P.cellsOf e + i), none⟩ = some ((V j).getD i undef)) ∧
      (V j).length = P.cellsOf e ∧ ∃ n y, DataW.trod enc P W 0 (fun _ => true) true n e (V j) = some y := by
  obtain ⟨fuel, hf⟩ := h
  rcases open_slice ht hf with ⟨hcs, _⟩ | ⟨ad, len', cap', m, n, D, Pl, hcs, _, hl, hm, hmm, _, hx⟩
  · simp [Value.cells] at hcs
    obtain ⟨rfl, rfl, rfl⟩ := hcs
    exact ⟨Nat.zero_le _, Nat.le_refl _, fun _ => rfl, fun _ => [], fun j hj => by omega⟩
  · simp [Value.cells] at hcs
    obtain ⟨rfl, rfl, rfl⟩ := hcs
    simp only [if_true] at hmm
    rw [hmm] at hx
    clear hmm
    refine ⟨by omega, hl, fun h => (by cases h), ?_⟩
    have hall : ∀ j, j < cap → ∃ cs' : List Value, (∀ i, i < P.cellsOf e → W.cell? (ad.add (j * P.cellsOf e + i)) = some (cs'.getD i undef)) ∧ cs'.length = P.cellsOf e ∧ ∃ n y, DataW.trod enc P W 0 (fun _ => true) true n e cs' = some y := fun j hj => by
      obtain ⟨cs', h1, h2⟩ := hx j hj
      obtain ⟨_, h3, h4⟩ := World.cells?_some h1
      refine ⟨cs', fun i hi => ?_, by omega, n, _, h2⟩
      have := h4 i hi
      rw [add_add] at this
      rw [this]
      simp [List.getD, show i < cs'.length by omega]
    obtain ⟨F, hF⟩ := choose_lt hall
    refine ⟨F, fun j hj => ⟨?_, (hF j (by omega)).2⟩⟩
    have h0 := (hF 0 (by omega)).1 0 hpos
    obtain ⟨b, off, spot⟩ := ad
    have hspot : spot = none := by simpa [Addr.add] using World.cell?_spot h0
    subst hspot
    rw [add_plain] at h0
    refine ⟨b, off, rfl, law_lt h0, fun i hi => ?_⟩
    have := (hF j (by omega)).1 i hi
    rw [add_plain] at this
    exact this
section
variable {H : Type} {enc : TypeId × Value → H} {P : Program} {w : World} {base : Nat} {spare : Nat → Bool} {held : Bool}
/-- A struct, its fields' readings. -/
theorem open_struct {t : TypeId} {fs : Array Field} {fuel : Nat} {cs : List Value} {x : DataW H × List MemPlace} (ht : P.underlying t = some (.struct fs)) (h : DataW.trod enc P w base spare held fuel t cs = some x) :
    cs.length = P.cellsOf t ∧ ∀ (i : Nat) (f : Field), fs[i]? = some f → ∃ n y, DataW.trod enc P w base spare held n f.type ((cs.drop f.offset).take (P.cellsOf f.type)) = some y := by
  obtain ⟨xs, n, _, _, hl, hxl, hf⟩ := DataW.trod_struct ht h
  refine ⟨hl, fun i f hi => ?_⟩
  have hlt : i < fs.size := (Array.getElem?_eq_some_iff.1 hi).1
  have g := hf i f hi
  rw [List.getElem?_eq_getElem (by omega)] at g
  exact ⟨n, _, g⟩
/-- An array of elements. -/
theorem open_array {t e : TypeId} {n fuel : Nat} {cs : List Value} {x : DataW H × List MemPlace} (ht : P.underlying t = some (.array n e)) (h : DataW.trod enc P w base spare held fuel t cs = some x) :
    cs.length = P.cellsOf t ∧ ∀ i, i < n → ∃ m y, DataW.trod enc P w base spare held m e ((cs.drop (i * P.cellsOf e)).take (P.cellsOf e)) = some y := by
  obtain ⟨xs, m, _, _, hl, hxl, hx⟩ := DataW.trod_array ht h
  refine ⟨hl, fun i hi => ?_⟩
  have g := hx i hi
  rw [List.getElem?_eq_getElem (by omega)] at g
  exact ⟨m, _, g⟩
end
end Go.Proofs.Ytghlgmlelipjfaa
