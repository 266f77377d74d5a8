/- Arguments of laws opened: structs of one-cell fields, slices of such, arrays of texts. -/
import Derived.Test.YtghlgmlelipjfaaLaw
import Derived.Deep.Slices
import Derived.Deep.Fields
import Derived.OpenShut
namespace Go.Proofs.Ytghlgmlelipjfaa
open Go.ChangeShapes Go.WideShapes Go.ChangeAt Go.RowKit Go.Deep

section
variable {H : Type} {enc : TypeId × Value → H} {P : Program} {w : World} {base : Nat} {spare : Nat → Bool} {held : Bool}
/-- A struct whose fields are one cell each, its cells and their own readings. -/
theorem open_fields {t : TypeId} {fs : Array Field} {fuel : Nat} {cs : List Value} {x : DataW H × List MemPlace} (ht : P.underlying t = some (.struct fs))
    (hone : ∀ (i : Nat) (f : Field), fs[i]? = some f → f.offset = i ∧ P.cellsOf f.type = 1) (hC : P.cellsOf t = fs.size) (h : DataW.trod enc P w base spare held fuel t cs = some x) :
    cs.length = fs.size ∧ ∀ (i : Nat) (f : Field), fs[i]? = some f → ∃ n y, DataW.trod enc P w base spare held n f.type [cs.getD i undef] = some y := by
  obtain ⟨xs, n, _, _, hl, hxl, hf⟩ := DataW.trod_struct ht h
  rw [hC] at hl
  refine ⟨hl, fun i f hi => ?_⟩
  have hlt : i < fs.size := (Array.getElem?_eq_some_iff.1 hi).1
  obtain ⟨ho, hc1⟩ := hone i f hi
  have g := hf i f hi
  rw [ho, hc1, take1_drop cs i undef (by omega), List.getElem?_eq_getElem (by omega)] at g
  exact ⟨n, _, g⟩
end
def oneCells (P : Program) (fs : Array Field) : Bool := (List.range fs.size).all fun i => match fs[i]? with | some f => f.offset == i && P.cellsOf f.type == 1 | none => false
theorem oneCells_is {P : Program} {fs : Array Field} (h : oneCells P fs = true) : ∀ (i : Nat) (f : Field), fs[i]? = some f → f.offset = i ∧ P.cellsOf f.type = 1 := fun i f hf => by
  have := (List.all_eq_true.1 h) i (List.mem_range.2 (Array.getElem?_eq_some_iff.1 hf).1)
  rw [hf] at this
  simpa using this
/-- A slice of structs of one-cell fields that came in. -/
theorem law_structs {H : Type} {enc : TypeId × Value → H} {P : Program} {W : World} {t e : TypeId} {fs : Array Field} {a : Option Addr} {len cap : Nat} {d : DataW H} {p : List MemPlace}
    (ht : P.underlying t = some (.slice e)) (he : P.underlying e = some (.struct fs)) (hone : ∀ (i : Nat) (f : Field), fs[i]? = some f → f.offset = i ∧ P.cellsOf f.type = 1) (hC : P.cellsOf e = fs.size) (hpos : 0 < fs.size)
    (h : DataW.Trod enc P W 0 (fun _ => true) true t (.slice a len cap) d p) :
    len ≤ maxLen ∧ len ≤ cap ∧ (a = none → cap = 0) ∧ ∃ V : Nat → Nat → Value, ∀ j, j < len → (∃ b off, a = some ⟨b, off, none⟩ ∧ b < W.heap.size ∧ ∀ i, i < fs.size → W.cell? ⟨b, off + (j * fs.size + i), none⟩ = some (V j i)) ∧
      ∀ (i : Nat) (f : Field), fs[i]? = some f → ∃ n y, DataW.trod enc P W 0 (fun _ => true) true n f.type [V j i] = some y := by
  obtain ⟨fuel, hf⟩ := h
  rcases open_slice ht hf with ⟨hcs, _⟩ | ⟨ad, len', cap', m, n, D, Pl, hcs, _, hl, hm, hmm, _, hx⟩
  · simp [Value.cells] at hcs
    obtain ⟨rfl, rfl, rfl⟩ := hcs
    exact ⟨Nat.zero_le _, Nat.le_refl _, fun _ => rfl, fun _ _ => undef, fun j hj => by omega⟩
  · simp [Value.cells] at hcs
    obtain ⟨rfl, rfl, rfl⟩ := hcs
    simp only [if_true] at hmm
    rw [hmm] at hx
    clear hmm
    refine ⟨by omega, hl, fun h => (by cases h), ?_⟩
    have hall : ∀ j, j < cap → ∃ cs' : List Value, (∀ i, i < fs.size → W.cell? (ad.add (j * fs.size + i)) = some (cs'.getD i undef)) ∧ ∀ (i : Nat) (f : Field), fs[i]? = some f → ∃ n y, DataW.trod enc P W 0 (fun _ => true) true n f.type [cs'.getD i undef] = some y := fun j hj => by
      obtain ⟨cs', h1, h2⟩ := hx j hj
      rw [hC] at h1
      obtain ⟨_, h3, h4⟩ := World.cells?_some h1
      obtain ⟨h5, h6⟩ := open_fields he hone hC h2
      refine ⟨cs', fun i hi => ?_, h6⟩
      have := h4 i hi
      rw [add_add] at this
      rw [this]
      simp [List.getD, show i < cs'.length by omega]
    obtain ⟨F, hF⟩ := choose_lt hall
    refine ⟨fun j i => (F j).getD i undef, fun j hj => ⟨?_, (hF j (by omega)).2⟩⟩
    have h0 := (hF 0 (by omega)).1 0 hpos
    obtain ⟨b, off, spot⟩ := ad
    have hspot : spot = none := by simpa [Addr.add] using World.cell?_spot h0
    subst hspot
    rw [add_plain] at h0
    refine ⟨b, off, rfl, law_lt h0, fun i hi => ?_⟩
    have := (hF j (by omega)).1 i hi
    rw [add_plain] at this
    exact this
/-- An array of texts that came in by value. -/
theorem law_strarray {H : Type} {enc : TypeId × Value → H} {P : Program} {W : World} {t e : TypeId} {n : Nat} {cs : Array Value} {d : DataW H} {p : List MemPlace}
    (ht : P.underlying t = some (.array n e)) (he : P.underlying e = some .string) (hc : P.cellsOf e = 1) (h : DataW.Trod enc P W 0 (fun _ => true) true t (.agg cs) d p) :
    ∃ T : Nat → ByteArray, ∀ i, i < n → cs[i]? = some (.string (T i)) ∧ (T i).size ≤ maxLen := by
  obtain ⟨fuel, hf⟩ := h
  obtain ⟨xs, m, _, _, _, hxl, hx⟩ := DataW.trod_array ht hf
  refine choose_lt (α := ByteArray) (p := fun i (T : ByteArray) => cs[i]? = some (.string T) ∧ T.size ≤ maxLen) (fun i hi => ?_)
  have g := hx i hi
  rw [hc, Nat.mul_one, List.getElem?_eq_getElem (by omega)] at g
  obtain ⟨s, hs, _, hsz⟩ := DataW.trod_string he g
  refine ⟨s, ?_, hsz⟩
  have h0 := congrArg (fun l : List Value => l[0]?) hs
  simpa [Value.cells, List.getElem?_take, List.getElem?_drop] using h0
theorem okWide_array {P : Program} {W : World} {r : Reach} {base : Nat} {t e : TypeId} {n : Nat} {v : Value} (ht : P.underlying t = some (.array n e)) (h : Value.okWide P W r base t v) : ∃ cs, v = .agg cs ∧ cs.size = P.cellsOf t := by
  simp [Value.okWide, ht] at h
  obtain ⟨cs, h1, h2, _⟩ := h
  exact ⟨cs, h1, h2⟩
/-- A slice of numbers, off one cell. -/
theorem cell_ints {H : Type} {enc : TypeId × Value → H} {P : Program} {W : World} {t e : TypeId} {k : IntKind} {fuel : Nat} {v : Value} {x : DataW H × List MemPlace}
    (ht : P.underlying t = some (.slice e)) (he : P.underlying e = some (.int k)) (hc : P.cellsOf e = 1) (h : DataW.trod enc P W 0 (fun _ => true) true fuel t [v] = some x) :
    ∃ (a : Option Addr) (len cap : Nat) (Z : Nat → Int), v = .slice a len cap ∧ len ≤ maxLen ∧ ∀ j, j < len → (∃ b off, a = some ⟨b, off, none⟩ ∧ b < W.heap.size ∧ W.cell? ⟨b, off + j, none⟩ = some (.int k (Z j))) ∧ (Lit.int k (Z j)).wf = true := by
  obtain ⟨a, len, cap, hv⟩ : ∃ a len cap, v = .slice a len cap := by
    rcases open_ints ht he hc h with ⟨hcs, _⟩ | ⟨ad, len', cap', zs, hcs, _⟩
    · simp at hcs; exact ⟨_, _, _, hcs⟩
    · simp at hcs; exact ⟨_, _, _, hcs⟩
  subst hv
  have h' : DataW.Trod enc P W 0 (fun _ => true) true t (.slice a len cap) x.1 x.2 := ⟨fuel, h⟩
  obtain ⟨Z, hZ⟩ := law_ints ht he hc h'
  exact ⟨a, len, cap, Z, rfl, law_ilen ht he hc h', hZ⟩
end Go.Proofs.Ytghlgmlelipjfaa
