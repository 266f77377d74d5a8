/- Arguments of laws opened: structs of one-cell fields, slices of such, arrays of texts. Arguments of laws opened: slices of elements of several cells, structs with fields of several cells, arrays of numbers. The laws' arguments opened: a job, a list of steps. -/
import Derived.Test.YtghlgmlelipjfaaZLaw
import Derived.Deep.Slices
import Derived.Deep.Fields
import Derived.OpenShut
import Derived.Test.YtghlgmlelipjfaaZJobA
namespace Go.Proofs.Ytghlgmlelipjfaa
open Go.ChangeShapes Go.WideShapes Go.ChangeAt Go.RowKit Go.Deep

section
variable {H : Type} {enc : TypeId × Value → H} {P : Program} {w : World} {base : Nat} {spare : Nat → Bool} {held : Bool}
/-- A struct whose fields are one cell each, its cells and their own readings. -/
theorem open_fields {t : TypeId} {fs : Array Field} {fuel : Nat} {cs : List Value} {x : DataW H × List MemPlace} (ht : P.underlying t = some (.struct fs))
    (hone : ∀ (i : Nat) (f : Field), fs[i]? = some f → f.offset = i ∧ P.cellsOf f.type = 1) (hC : P.cellsOf t = fs.size) (h : DataW.trod enc P w base spare held fuel t cs = some x) :
    cs.length = fs.size ∧ ∀ (i : Nat) (f : Field), fs[i]? = some f → ∃ n y, DataW.trod enc P w base spare held n f.type [cs.getD i undef] = some y := by
  obtain ⟨xs, n, _, _, hl, hxl, hf⟩ := DataW.trod_struct ht h
  rw [hC] at hl
  refine ⟨hl, fun i f hi => ?_⟩
  have hlt : i < fs.size := (Array.getElem?_eq_some_iff.1 hi).1
  obtain ⟨ho, hc1⟩ := hone i f hi
  have g := hf i f hi
  rw [ho, hc1, take1_drop cs i undef (by omega), List.getElem?_eq_getElem (by omega)] at g
  exact ⟨n, _, g⟩
end
def oneCells (P : Program) (fs : Array Field) : Bool := (List.range fs.size).all fun i => match fs[i]? with | some f => f.offset == i && P.cellsOf f.type == 1 | none => false
theorem oneCells_is {P : Program} {fs : Array Field} (h : oneCells P fs = true) : ∀ (i : Nat) (f : Field), fs[i]? = some f → f.offset = i ∧ P.cellsOf f.type = 1 := fun i f hf => by
  have := (List.all_eq_true.1 h) i (List.mem_range.2 (Array.getElem?_eq_some_iff.1 hf).1)
  rw [hf] at this
  simpa using this
/-- A slice of structs of one-cell fields that came in. -/
theorem law_structs {H : Type} {enc : TypeId × Value → H} {P : Program} {W : World} {t e : TypeId} {fs : Array Field} {a : Option Addr} {len cap : Nat} {d : DataW H} {p : List MemPlace}
    (ht : P.underlying t = some (.slice e)) (he : P.underlying e = some (.struct fs)) (hone : ∀ (i : Nat) (f : Field), fs[i]? = some f → f.offset = i ∧ P.cellsOf f.type = 1) (hC : P.cellsOf e = fs.size) (hpos : 0 < fs.size)
    (h : DataW.Trod enc P W 0 (fun _ => true) true t (.slice a len cap) d p) :
    len ≤ maxLen ∧ len ≤ cap ∧ (a = none → cap = 0) ∧ ∃ V : Nat → Nat → Value, ∀ j, j < len → (∃ b off, a = some ⟨b, off, none⟩ ∧ b < W.heap.size ∧ ∀ i, i < fs.size → W.cell? ⟨b, off + (j * fs.size + i), none⟩ = some (V j i)) ∧
      ∀ (i : Nat) (f : Field), fs[i]? = some f → ∃ n y, DataW.trod enc P W 0 (fun _ => true) true n f.type [V j i] = some y := by
  obtain ⟨fuel, hf⟩ := h
  rcases open_slice ht hf with ⟨hcs, _⟩ | ⟨ad, len', cap', m, n, D, Pl, hcs, _, hl, hm, hmm, _, hx⟩
  · simp [Value.cells] at hcs
    obtain ⟨rfl, rfl, rfl⟩ := hcs
    exact ⟨Nat.zero_le _, Nat.le_refl _, fun _ => rfl, fun _ _ => undef, fun j hj => by omega⟩
  · simp [Value.cells] at hcs
    obtain ⟨rfl, rfl, rfl⟩ := hcs
    simp only [if_true] at hmm
    rw [hmm] at hx
    clear hmm
    refine ⟨by omega, hl, fun h => (by cases h), ?_⟩
    have hall : ∀ j, j < cap → ∃ cs' : List Value, (∀ i, i < fs.size → W.cell? (ad.add (j * fs.size + i)) = some (cs'.getD i undef)) ∧ ∀ (i : Nat) (f : Field), fs[i]? = some f → ∃ n y, DataW.trod enc P W 0 (fun _ => true) true n f.type [cs'.getD i undef] = some y := fun j hj => by
      obtain ⟨cs', h1, h2⟩ := hx j hj
      rw [hC] at h1
      obtain ⟨_, h3, h4⟩ := World.cells?_some h1
      obtain ⟨h5, h6⟩ := open_fields he hone hC h2
      refine ⟨cs', fun i hi => ?_, h6⟩
      have := h4 i hi
      rw [add_add] at this
      rw [this]
      simp [List.getD, show i < cs'.length by omega]
    obtain ⟨F, hF⟩ := choose_lt hall
    refine ⟨fun j i => (F j).getD i undef, fun j hj => ⟨?_, (hF j (by omega)).2⟩⟩
    have h0 := (hF 0 (by omega)).1 0 hpos
    obtain ⟨b, off, spot⟩ := ad
    have hspot : spot = none := by simpa [Addr.add] using World.cell?_spot h0
    subst hspot
    rw [add_plain] at h0
    refine ⟨b, off, rfl, law_lt h0, fun i hi => ?_⟩
    have := (hF j (by omega)).1 i hi
    rw [add_plain] at this
    exact this
/-- An array of texts that came in by value. -/
theorem law_strarray {H : Type} {enc : TypeId × Value → H} {P : Program} {W : World} {t e : TypeId} {n : Nat} {cs : Array Value} {d : DataW H} {p : List MemPlace}
    (ht : P.underlying t = some (.array n e)) (he : P.underlying e = some .string) (hc : P.cellsOf e = 1) (h : DataW.Trod enc P W 0 (fun _ => true) true t (.agg cs) d p) :
    ∃ T : Nat → ByteArray, ∀ i, i < n → cs[i]? = some (.string (T i)) ∧ (T i).size ≤ maxLen := by
  obtain ⟨fuel, hf⟩ := h
  obtain ⟨xs, m, _, _, _, hxl, hx⟩ := DataW.trod_array ht hf
  refine choose_lt (α := ByteArray) (p := fun i (T : ByteArray) => cs[i]? = some (.string T) ∧ T.size ≤ maxLen) (fun i hi => ?_)
  have g := hx i hi
  rw [hc, Nat.mul_one, List.getElem?_eq_getElem (by omega)] at g
  obtain ⟨s, hs, _, hsz⟩ := DataW.trod_string he g
  refine ⟨s, ?_, hsz⟩
  have h0 := congrArg (fun l : List Value => l[0]?) hs
  simpa [Value.cells, List.getElem?_take, List.getElem?_drop] using h0
theorem okWide_array {P : Program} {W : World} {r : Reach} {base : Nat} {t e : TypeId} {n : Nat} {v : Value} (ht : P.underlying t = some (.array n e)) (h : Value.okWide P W r base t v) : ∃ cs, v = .agg cs ∧ cs.size = P.cellsOf t := by
  simp [Value.okWide, ht] at h
  obtain ⟨cs, h1, h2, _⟩ := h
  exact ⟨cs, h1, h2⟩
/-- A slice of numbers, off one cell. -/
theorem cell_ints {H : Type} {enc : TypeId × Value → H} {P : Program} {W : World} {t e : TypeId} {k : IntKind} {fuel : Nat} {v : Value} {x : DataW H × List MemPlace}
    (ht : P.underlying t = some (.slice e)) (he : P.underlying e = some (.int k)) (hc : P.cellsOf e = 1) (h : DataW.trod enc P W 0 (fun _ => true) true fuel t [v] = some x) :
    ∃ (a : Option Addr) (len cap : Nat) (Z : Nat → Int), v = .slice a len cap ∧ len ≤ maxLen ∧ ∀ j, j < len → (∃ b off, a = some ⟨b, off, none⟩ ∧ b < W.heap.size ∧ W.cell? ⟨b, off + j, none⟩ = some (.int k (Z j))) ∧ (Lit.int k (Z j)).wf = true := by
  obtain ⟨a, len, cap, hv⟩ : ∃ a len cap, v = .slice a len cap := by
    rcases open_ints ht he hc h with ⟨hcs, _⟩ | ⟨ad, len', cap', zs, hcs, _⟩
    · simp at hcs; exact ⟨_, _, _, hcs⟩
    · simp at hcs; exact ⟨_, _, _, hcs⟩
  subst hv
  have h' : DataW.Trod enc P W 0 (fun _ => true) true t (.slice a len cap) x.1 x.2 := ⟨fuel, h⟩
  obtain ⟨Z, hZ⟩ := law_ints ht he hc h'
  exact ⟨a, len, cap, Z, rfl, law_ilen ht he hc h', hZ⟩
end Go.Proofs.Ytghlgmlelipjfaa
namespace Go.Proofs.Ytghlgmlelipjfaa
open Go.ChangeShapes Go.WideShapes Go.ChangeAt Go.RowKit Go.Deep

/-- A slice that came in, its elements' cells and their own readings. -/
theorem law_rows {H : Type} {enc : TypeId × Value → H} {P : Program} {W : World} {t e : TypeId} {a : Option Addr} {len cap : Nat} {d : DataW H} {p : List MemPlace}
    (ht : P.underlying t = some (.slice e)) (hpos : 0 < P.cellsOf e) (h : DataW.Trod enc P W 0 (fun _ => true) true t (.slice a len cap) d p) :
    len ≤ maxLen ∧ len ≤ cap ∧ (a = none → cap = 0) ∧ ∃ V : Nat → List Value, ∀ j, j < len → (∃ b off, a = some ⟨b, off, none⟩ ∧ b < W.heap.size ∧ ∀ i, i < P.cellsOf e → W.cell? ⟨b, off + (j * P.cellsOf e + i), none⟩ = some ((V j).getD i undef)) ∧
      (V j).length = P.cellsOf e ∧ ∃ n y, DataW.trod enc P W 0 (fun _ => true) true n e (V j) = some y := by
  obtain ⟨fuel, hf⟩ := h
  rcases open_slice ht hf with ⟨hcs, _⟩ | ⟨ad, len', cap', m, n, D, Pl, hcs, _, hl, hm, hmm, _, hx⟩
  · simp [Value.cells] at hcs
    obtain ⟨rfl, rfl, rfl⟩ := hcs
    exact ⟨Nat.zero_le _, Nat.le_refl _, fun _ => rfl, fun _ => [], fun j hj => by omega⟩
  · simp [Value.cells] at hcs
    obtain ⟨rfl, rfl, rfl⟩ := hcs
    simp only [if_true] at hmm
    rw [hmm] at hx
    clear hmm
    refine ⟨by omega, hl, fun h => (by cases h), ?_⟩
    have hall : ∀ j, j < cap → ∃ cs' : List Value, (∀ i, i < P.cellsOf e → W.cell? (ad.add (j * P.cellsOf e + i)) = some (cs'.getD i undef)) ∧ cs'.length = P.cellsOf e ∧ ∃ n y, DataW.trod enc P W 0 (fun _ => true) true n e cs' = some y := fun j hj => by
      obtain ⟨cs', h1, h2⟩ := hx j hj
      obtain ⟨_, h3, h4⟩ := World.cells?_some h1
      refine ⟨cs', fun i hi => ?_, by omega, n, _, h2⟩
      have := h4 i hi
      rw [add_add] at this
      rw [this]
      simp [List.getD, show i < cs'.length by omega]
    obtain ⟨F, hF⟩ := choose_lt hall
    refine ⟨F, fun j hj => ⟨?_, (hF j (by omega)).2⟩⟩
    have h0 := (hF 0 (by omega)).1 0 hpos
    obtain ⟨b, off, spot⟩ := ad
    have hspot : spot = none := by simpa [Addr.add] using World.cell?_spot h0
    subst hspot
    rw [add_plain] at h0
    refine ⟨b, off, rfl, law_lt h0, fun i hi => ?_⟩
    have := (hF j (by omega)).1 i hi
    rw [add_plain] at this
    exact this
section
variable {H : Type} {enc : TypeId × Value → H} {P : Program} {w : World} {base : Nat} {spare : Nat → Bool} {held : Bool}
/-- A struct, its fields' readings. -/
theorem open_struct {t : TypeId} {fs : Array Field} {fuel : Nat} {cs : List Value} {x : DataW H × List MemPlace} (ht : P.underlying t = some (.struct fs)) (h : DataW.trod enc P w base spare held fuel t cs = some x) :
    cs.length = P.cellsOf t ∧ ∀ (i : Nat) (f : Field), fs[i]? = some f → ∃ n y, DataW.trod enc P w base spare held n f.type ((cs.drop f.offset).take (P.cellsOf f.type)) = some y := by
  obtain ⟨xs, n, _, _, hl, hxl, hf⟩ := DataW.trod_struct ht h
  refine ⟨hl, fun i f hi => ?_⟩
  have hlt : i < fs.size := (Array.getElem?_eq_some_iff.1 hi).1
  have g := hf i f hi
  rw [List.getElem?_eq_getElem (by omega)] at g
  exact ⟨n, _, g⟩
/-- An array of elements. -/
theorem open_array {t e : TypeId} {n fuel : Nat} {cs : List Value} {x : DataW H × List MemPlace} (ht : P.underlying t = some (.array n e)) (h : DataW.trod enc P w base spare held fuel t cs = some x) :
    cs.length = P.cellsOf t ∧ ∀ i, i < n → ∃ m y, DataW.trod enc P w base spare held m e ((cs.drop (i * P.cellsOf e)).take (P.cellsOf e)) = some y := by
  obtain ⟨xs, m, _, _, hl, hxl, hx⟩ := DataW.trod_array ht h
  refine ⟨hl, fun i hi => ?_⟩
  have g := hx i hi
  rw [List.getElem?_eq_getElem (by omega)] at g
  exact ⟨m, _, g⟩
end
end Go.Proofs.Ytghlgmlelipjfaa
namespace Go.Proofs.Ytghlgmlelipjfaa.Job
open Go.ChangeShapes Go.WideShapes Go.ChangeAt Go.RowKit Go.Deep
open Goods (St Sts)

def I64 (x : Int) : Prop := -9223372036854775808 ≤ x ∧ x ≤ 9223372036854775807
instance : Inhabited St := ⟨⟨0, 0⟩⟩
section
variable {H : Type} {enc : TypeId × Value → H} {w : World} {base : Nat} {spare : Nat → Bool} {held : Bool}
theorem one_int {fuel : Nat} {v : Value} {x : DataW H × List MemPlace} (h : DataW.trod enc Try.prog w base spare held fuel 3 [v] = some x) : ∃ z, v = .int .i64 z ∧ I64 z := by
  obtain ⟨z, h1, _, h2⟩ := DataW.trod_int Try.underlying3 h
  simp [Lit.wf, IntKind.min, IntKind.max, IntKind.signed, IntKind.bits] at h2
  exact ⟨z, by simpa using h1, by unfold I64; omega⟩
set_option maxRecDepth 100000 in
theorem st_in {fuel : Nat} {cs : List Value} {x : DataW H × List MemPlace} (h : DataW.trod enc Try.prog w base spare held fuel 74 cs = some x) :
    ∃ t : St, cs = [.int .i64 t.kind, .int .i64 t.qty] ∧ I64 t.kind ∧ I64 t.qty := by
  obtain ⟨hl, hf⟩ := open_struct Try.underlying74 h
  rw [show Try.prog.cellsOf 74 = 2 by kernel_rfl] at hl
  match cs, hl with
  | [c0, c1], _ =>
    obtain ⟨m0, y0, f0⟩ := hf 0 _ rfl; obtain ⟨m1, y1, f1⟩ := hf 1 _ rfl
    have g0 : DataW.trod enc Try.prog w base spare held m0 3 (([c0, c1].drop 0).take (Try.prog.cellsOf 3)) = some y0 := f0
    have g1 : DataW.trod enc Try.prog w base spare held m1 3 (([c0, c1].drop 1).take (Try.prog.cellsOf 3)) = some y1 := f1
    rw [show Try.prog.cellsOf 3 = 1 by kernel_rfl] at g0 g1
    obtain ⟨z0, rfl, b0⟩ := one_int g0; obtain ⟨z1, rfl, b1⟩ := one_int g1
    exact ⟨⟨z0, z1⟩, rfl, b0, b1⟩
end
/-! A slice of stacks, off one cell -/
set_option maxRecDepth 100000 in
theorem stks_of {H : Type} {enc : TypeId × Value → H} {W : World} {a : Option Addr} {len cap : Nat} {d : DataW H} {p : List MemPlace}
    (h : DataW.Trod enc Try.prog W 0 (fun _ => true) true 22 (.slice a len cap) d p) : ∃ l : List St, l.length = len ∧ Sts W a l ∧ (∀ t ∈ l, I64 t.kind ∧ I64 t.qty) ∧ len ≤ maxLen := by
  have hc : Try.prog.cellsOf 74 = 2 := by kernel_rfl
  obtain ⟨h1, h2, _, V, hV⟩ := law_rows Try.underlying22 (by rw [hc]; omega) h
  obtain ⟨A, hA⟩ := choose_lt (α := St) (n := len) (p := fun j x => V j = [.int .i64 x.kind, .int .i64 x.qty] ∧ I64 x.kind ∧ I64 x.qty) (fun j hj => by
    obtain ⟨_, _, n, y, hy⟩ := hV j hj
    exact st_in hy)
  refine ⟨(List.range len).map A, by simp, fun i t hi => ?_, fun t ht => ?_, h1⟩
  · have hlt : i < len := by
      have := (List.getElem?_eq_some_iff.1 hi).1
      simpa using this
    have ht : A i = t := by
      rw [List.getElem?_map, List.getElem?_range hlt] at hi
      simpa using hi
    obtain ⟨⟨b, off, e, hb, hcell⟩, _, _⟩ := hV i hlt
    rw [hc, (hA i hlt).1, ht] at hcell
    have c0 := hcell 0 (by omega); have c1 := hcell 1 (by omega)
    rw [Nat.add_zero] at c0
    rw [← Nat.add_assoc] at c1
    exact ⟨b, off, e, hb, c0, c1⟩
  · obtain ⟨i, hi, rfl⟩ := List.mem_map.1 ht
    exact (hA i (by simpa using hi)).2
set_option maxRecDepth 100000 in
theorem cell_stks {H : Type} {enc : TypeId × Value → H} {W : World} {fuel : Nat} {v : Value} {x : DataW H × List MemPlace}
    (h : DataW.trod enc Try.prog W 0 (fun _ => true) true fuel 22 [v] = some x) : ∃ (a : Option Addr) (len cap : Nat) (l : List St), v = .slice a len cap ∧ l.length = len ∧ Sts W a l ∧ (∀ t ∈ l, I64 t.kind ∧ I64 t.qty) ∧ len ≤ maxLen := by
  obtain ⟨a, len, cap, hv⟩ : ∃ a len cap, v = .slice a len cap := by
    rcases open_slice Try.underlying22 h with ⟨hcs, _⟩ | ⟨ad, len', cap', m, n, D, Pl, hcs, _⟩
    · simp at hcs; exact ⟨_, _, _, hcs⟩
    · simp at hcs; exact ⟨_, _, _, hcs⟩
  subst hv
  have h' : DataW.Trod enc Try.prog W 0 (fun _ => true) true 22 (.slice a len cap) x.1 x.2 := ⟨fuel, h⟩
  obtain ⟨l, h1, h2, h3, h4⟩ := stks_of h'
  exact ⟨a, len, cap, l, rfl, h1, h2, h3, h4⟩

def jCells (j : JS) (a : Option Addr) (n c : Nat) : List Value := [.int .i64 j.id, .int .i64 j.kd, .int .i64 j.ow, .int .i64 j.dv, .int .i64 j.pb, .int .i64 j.ba, .int .i64 j.dr, .int .i64 j.rn, .int .i64 j.cp, .int .i64 j.tm, .int .i64 j.fe, .slice a n c, .int .i64 j.st, .int .i64 j.sr, .int .i64 j.en, .int .i64 j.lf]
set_option maxRecDepth 100000 in
set_option maxHeartbeats 4000000 in
theorem job_in {H : Type} {enc : TypeId × Value → H} {W : World} {fuel : Nat} {cs : List Value} {x : DataW H × List MemPlace} (h : DataW.trod enc Try.prog W 0 (fun _ => true) true fuel 24 cs = some x) :
    ∃ (j : JS) (a : Option Addr) (n c : Nat), cs = jCells j a n c ∧ JIn W a n j.s ∧ n ≤ maxLen := by
  obtain ⟨hl, hf⟩ := open_struct Try.underlying24 h
  rw [show Try.prog.cellsOf 24 = 16 by kernel_rfl] at hl
  match cs, hl with
  | [c0, c1, c2, c3, c4, c5, c6, c7, c8, c9, c10, c11, c12, c13, c14, c15], _ =>
    obtain ⟨m0, y0, f0⟩ := hf 0 _ rfl
    have g0 : DataW.trod enc Try.prog W 0 (fun _ => true) true m0 3 (([c0, c1, c2, c3, c4, c5, c6, c7, c8, c9, c10, c11, c12, c13, c14, c15].drop 0).take (Try.prog.cellsOf 3)) = some y0 := f0
    obtain ⟨m1, y1, f1⟩ := hf 1 _ rfl
    have g1 : DataW.trod enc Try.prog W 0 (fun _ => true) true m1 3 (([c0, c1, c2, c3, c4, c5, c6, c7, c8, c9, c10, c11, c12, c13, c14, c15].drop 1).take (Try.prog.cellsOf 3)) = some y1 := f1
    obtain ⟨m2, y2, f2⟩ := hf 2 _ rfl
    have g2 : DataW.trod enc Try.prog W 0 (fun _ => true) true m2 3 (([c0, c1, c2, c3, c4, c5, c6, c7, c8, c9, c10, c11, c12, c13, c14, c15].drop 2).take (Try.prog.cellsOf 3)) = some y2 := f2
    obtain ⟨m3, y3, f3⟩ := hf 3 _ rfl
    have g3 : DataW.trod enc Try.prog W 0 (fun _ => true) true m3 3 (([c0, c1, c2, c3, c4, c5, c6, c7, c8, c9, c10, c11, c12, c13, c14, c15].drop 3).take (Try.prog.cellsOf 3)) = some y3 := f3
    obtain ⟨m4, y4, f4⟩ := hf 4 _ rfl
    have g4 : DataW.trod enc Try.prog W 0 (fun _ => true) true m4 3 (([c0, c1, c2, c3, c4, c5, c6, c7, c8, c9, c10, c11, c12, c13, c14, c15].drop 4).take (Try.prog.cellsOf 3)) = some y4 := f4
    obtain ⟨m5, y5, f5⟩ := hf 5 _ rfl
    have g5 : DataW.trod enc Try.prog W 0 (fun _ => true) true m5 3 (([c0, c1, c2, c3, c4, c5, c6, c7, c8, c9, c10, c11, c12, c13, c14, c15].drop 5).take (Try.prog.cellsOf 3)) = some y5 := f5
    obtain ⟨m6, y6, f6⟩ := hf 6 _ rfl
    have g6 : DataW.trod enc Try.prog W 0 (fun _ => true) true m6 3 (([c0, c1, c2, c3, c4, c5, c6, c7, c8, c9, c10, c11, c12, c13, c14, c15].drop 6).take (Try.prog.cellsOf 3)) = some y6 := f6
    obtain ⟨m7, y7, f7⟩ := hf 7 _ rfl
    have g7 : DataW.trod enc Try.prog W 0 (fun _ => true) true m7 3 (([c0, c1, c2, c3, c4, c5, c6, c7, c8, c9, c10, c11, c12, c13, c14, c15].drop 7).take (Try.prog.cellsOf 3)) = some y7 := f7
    obtain ⟨m8, y8, f8⟩ := hf 8 _ rfl
    have g8 : DataW.trod enc Try.prog W 0 (fun _ => true) true m8 3 (([c0, c1, c2, c3, c4, c5, c6, c7, c8, c9, c10, c11, c12, c13, c14, c15].drop 8).take (Try.prog.cellsOf 3)) = some y8 := f8
    obtain ⟨m9, y9, f9⟩ := hf 9 _ rfl
    have g9 : DataW.trod enc Try.prog W 0 (fun _ => true) true m9 3 (([c0, c1, c2, c3, c4, c5, c6, c7, c8, c9, c10, c11, c12, c13, c14, c15].drop 9).take (Try.prog.cellsOf 3)) = some y9 := f9
    obtain ⟨m10, y10, f10⟩ := hf 10 _ rfl
    have g10 : DataW.trod enc Try.prog W 0 (fun _ => true) true m10 3 (([c0, c1, c2, c3, c4, c5, c6, c7, c8, c9, c10, c11, c12, c13, c14, c15].drop 10).take (Try.prog.cellsOf 3)) = some y10 := f10
    obtain ⟨m11, y11, f11⟩ := hf 11 _ rfl
    have g11 : DataW.trod enc Try.prog W 0 (fun _ => true) true m11 22 (([c0, c1, c2, c3, c4, c5, c6, c7, c8, c9, c10, c11, c12, c13, c14, c15].drop 11).take (Try.prog.cellsOf 22)) = some y11 := f11
    obtain ⟨m12, y12, f12⟩ := hf 12 _ rfl
    have g12 : DataW.trod enc Try.prog W 0 (fun _ => true) true m12 3 (([c0, c1, c2, c3, c4, c5, c6, c7, c8, c9, c10, c11, c12, c13, c14, c15].drop 12).take (Try.prog.cellsOf 3)) = some y12 := f12
    obtain ⟨m13, y13, f13⟩ := hf 13 _ rfl
    have g13 : DataW.trod enc Try.prog W 0 (fun _ => true) true m13 3 (([c0, c1, c2, c3, c4, c5, c6, c7, c8, c9, c10, c11, c12, c13, c14, c15].drop 13).take (Try.prog.cellsOf 3)) = some y13 := f13
    obtain ⟨m14, y14, f14⟩ := hf 14 _ rfl
    have g14 : DataW.trod enc Try.prog W 0 (fun _ => true) true m14 3 (([c0, c1, c2, c3, c4, c5, c6, c7, c8, c9, c10, c11, c12, c13, c14, c15].drop 14).take (Try.prog.cellsOf 3)) = some y14 := f14
    obtain ⟨m15, y15, f15⟩ := hf 15 _ rfl
    have g15 : DataW.trod enc Try.prog W 0 (fun _ => true) true m15 3 (([c0, c1, c2, c3, c4, c5, c6, c7, c8, c9, c10, c11, c12, c13, c14, c15].drop 15).take (Try.prog.cellsOf 3)) = some y15 := f15
    rw [show Try.prog.cellsOf 3 = 1 by kernel_rfl] at g0 g1 g2 g3 g4 g5 g6 g7 g8 g9 g10 g12 g13 g14 g15
    rw [show Try.prog.cellsOf 22 = 1 by kernel_rfl] at g11
    obtain ⟨z0, rfl, b0⟩ := one_int g0
    obtain ⟨z1, rfl, b1⟩ := one_int g1
    obtain ⟨z2, rfl, b2⟩ := one_int g2
    obtain ⟨z3, rfl, b3⟩ := one_int g3
    obtain ⟨z4, rfl, b4⟩ := one_int g4
    obtain ⟨z5, rfl, b5⟩ := one_int g5
    obtain ⟨z6, rfl, b6⟩ := one_int g6
    obtain ⟨z7, rfl, b7⟩ := one_int g7
    obtain ⟨z8, rfl, b8⟩ := one_int g8
    obtain ⟨z9, rfl, b9⟩ := one_int g9
    obtain ⟨z10, rfl, b10⟩ := one_int g10
    obtain ⟨a, n, c, l, rfl, s1, s2, s3, s4⟩ := cell_stks g11
    obtain ⟨z12, rfl, b12⟩ := one_int g12
    obtain ⟨z13, rfl, b13⟩ := one_int g13
    obtain ⟨z14, rfl, b14⟩ := one_int g14
    obtain ⟨z15, rfl, b15⟩ := one_int g15
    exact ⟨⟨z0, z1, z2, z3, z4, z5, z6, z7, z8, z9, z10, l, z12, z13, z14, z15⟩, a, n, c, rfl, ⟨s1, s2⟩, s4⟩
theorem job_of {H : Type} {enc : TypeId × Value → H} {W : World} {cs : Array Value} {d : DataW H} {p : List MemPlace} (h : DataW.Trod enc Try.prog W 0 (fun _ => true) true 24 (.agg cs) d p) : ∃ x : JS × Option Addr × Nat × Nat, cs = (x.1.cells (.slice x.2.1 x.2.2.1 x.2.2.2)) ∧ JIn W x.2.1 x.2.2.1 x.1.s ∧ x.2.2.1 ≤ maxLen := by
  obtain ⟨fuel, hf⟩ := h
  obtain ⟨j, a, n, c, e, r⟩ := job_in hf
  refine ⟨(j, a, n, c), ?_, r⟩
  apply Array.ext'
  simpa [Value.cells, jCells, JS.cells] using e
/-! steps: two numbers each -/
section
variable {H : Type} {enc : TypeId × Value → H} {w : World} {base : Nat} {spare : Nat → Bool} {held : Bool}
set_option maxRecDepth 100000 in
theorem step_in {fuel : Nat} {cs : List Value} {x : DataW H × List MemPlace} (h : DataW.trod enc Try.prog w base spare held fuel 41 cs = some x) :
    ∃ t : St, cs = [.int .i64 t.kind, .int .i64 t.qty] := by
  obtain ⟨hl, hf⟩ := open_struct Try.underlying41 h
  rw [show Try.prog.cellsOf 41 = 2 by kernel_rfl] at hl
  match cs, hl with
  | [c0, c1], _ =>
    obtain ⟨m0, y0, f0⟩ := hf 0 _ rfl; obtain ⟨m1, y1, f1⟩ := hf 1 _ rfl
    have g0 : DataW.trod enc Try.prog w base spare held m0 3 (([c0, c1].drop 0).take (Try.prog.cellsOf 3)) = some y0 := f0
    have g1 : DataW.trod enc Try.prog w base spare held m1 3 (([c0, c1].drop 1).take (Try.prog.cellsOf 3)) = some y1 := f1
    rw [show Try.prog.cellsOf 3 = 1 by kernel_rfl] at g0 g1
    obtain ⟨z0, rfl, b0⟩ := one_int g0; obtain ⟨z1, rfl, b1⟩ := one_int g1
    exact ⟨⟨z0, z1⟩, rfl⟩
end
set_option maxRecDepth 100000 in
theorem steps_of {H : Type} {enc : TypeId × Value → H} {W : World} {a : Option Addr} {len cap : Nat} {d : DataW H} {p : List MemPlace}
    (h : DataW.Trod enc Try.prog W 0 (fun _ => true) true 38 (.slice a len cap) d p) : ∃ l : List St, l.length = len ∧ Sts W a l ∧ len ≤ maxLen := by
  have hc : Try.prog.cellsOf 41 = 2 := by kernel_rfl
  obtain ⟨h1, h2, _, V, hV⟩ := law_rows Try.underlying38 (by rw [hc]; omega) h
  obtain ⟨A, hA⟩ := choose_lt (α := St) (n := len) (p := fun j x => V j = [.int .i64 x.kind, .int .i64 x.qty]) (fun j hj => by
    obtain ⟨_, _, n, y, hy⟩ := hV j hj
    exact step_in hy)
  refine ⟨(List.range len).map A, by simp, fun i t hi => ?_, h1⟩
  have hlt : i < len := by
    have := (List.getElem?_eq_some_iff.1 hi).1
    simpa using this
  have ht : A i = t := by
    rw [List.getElem?_map, List.getElem?_range hlt] at hi
    simpa using hi
  obtain ⟨⟨b, off, e, hb, hcell⟩, _, _⟩ := hV i hlt
  rw [hc, hA i hlt, ht] at hcell
  have c0 := hcell 0 (by omega); have c1 := hcell 1 (by omega)
  rw [Nat.add_zero] at c0
  rw [← Nat.add_assoc] at c1
  exact ⟨b, off, e, hb, c0, c1⟩
end Go.Proofs.Ytghlgmlelipjfaa.Job
