/- The laws' arguments opened: catalogues. -/
import Derived.Test.YteaclacbdelinaaZWide
import Derived.Test.YteaclacbdelinaaZLaw
import Derived.Test.YteaclacbdelinaaZOpen
import Derived.Test.YteaclacbdelinaaZCatH
namespace Go.Proofs.Yteaclacbdelinaa.Cat
open Go.ChangeShapes Go.WideShapes Go.ChangeAt Go.RowKit Go.Deep
open Goods (St Sts)

instance : Inhabited St := ⟨⟨0, 0⟩⟩
instance : Inhabited Recipe.Bl := ⟨⟨0, 0, 0, none, 0, 0, [], 0, 0, 0⟩⟩
instance : Inhabited Ba := ⟨zBa⟩
section
variable {H : Type} {enc : TypeId × Value → H} {w : World} {base : Nat} {spare : Nat → Bool} {held : Bool}
theorem one_int {fuel : Nat} {v : Value} {x : DataW H × List MemPlace} (h : DataW.trod enc Try.prog w base spare held fuel 3 [v] = some x) : ∃ z, v = .int .i64 z ∧ I64 z := by
  obtain ⟨z, h1, _, h2⟩ := DataW.trod_int Try.underlying3 h
  simp [Lit.wf, IntKind.min, IntKind.max, IntKind.signed, IntKind.bits] at h2
  exact ⟨z, by simpa using h1, by unfold I64; omega⟩
set_option maxRecDepth 100000 in
theorem st_in {fuel : Nat} {cs : List Value} {x : DataW H × List MemPlace} (h : DataW.trod enc Try.prog w base spare held fuel 54 cs = some x) :
    ∃ t : St, cs = [.int .i64 t.kind, .int .i64 t.qty] ∧ I64 t.kind ∧ I64 t.qty := by
  obtain ⟨hl, hf⟩ := open_struct Try.underlying54 h
  rw [show Try.prog.cellsOf 54 = 2 by kernel_rfl] at hl
  match cs, hl with
  | [c0, c1], _ =>
    obtain ⟨m0, y0, f0⟩ := hf 0 _ rfl; obtain ⟨m1, y1, f1⟩ := hf 1 _ rfl
    have g0 : DataW.trod enc Try.prog w base spare held m0 3 (([c0, c1].drop 0).take (Try.prog.cellsOf 3)) = some y0 := f0
    have g1 : DataW.trod enc Try.prog w base spare held m1 3 (([c0, c1].drop 1).take (Try.prog.cellsOf 3)) = some y1 := f1
    rw [show Try.prog.cellsOf 3 = 1 by kernel_rfl] at g0 g1
    obtain ⟨z0, rfl, b0⟩ := one_int g0; obtain ⟨z1, rfl, b1⟩ := one_int g1
    exact ⟨⟨z0, z1⟩, rfl, b0, b1⟩
end
/-! A slice of stacks, off one cell -/
set_option maxRecDepth 100000 in
theorem stks_of {H : Type} {enc : TypeId × Value → H} {W : World} {a : Option Addr} {len cap : Nat} {d : DataW H} {p : List MemPlace}
    (h : DataW.Trod enc Try.prog W 0 (fun _ => true) true 33 (.slice a len cap) d p) : ∃ l : List St, l.length = len ∧ Sts W a l ∧ (∀ t ∈ l, I64 t.kind ∧ I64 t.qty) ∧ len ≤ maxLen := by
  have hc : Try.prog.cellsOf 54 = 2 := by kernel_rfl
  obtain ⟨h1, h2, _, V, hV⟩ := law_rows Try.underlying33 (by rw [hc]; omega) h
  obtain ⟨A, hA⟩ := choose_lt (α := St) (n := len) (p := fun j x => V j = [.int .i64 x.kind, .int .i64 x.qty] ∧ I64 x.kind ∧ I64 x.qty) (fun j hj => by
    obtain ⟨_, _, n, y, hy⟩ := hV j hj
    exact st_in hy)
  refine ⟨(List.range len).map A, by simp, fun i t hi => ?_, fun t ht => ?_, h1⟩
  · have hlt : i < len := by
      have := (List.getElem?_eq_some_iff.1 hi).1
      simpa using this
    have ht : A i = t := by
      rw [List.getElem?_map, List.getElem?_range hlt] at hi
      simpa using hi
    obtain ⟨⟨b, off, e, hb, hcell⟩, _, _⟩ := hV i hlt
    rw [hc, (hA i hlt).1, ht] at hcell
    have c0 := hcell 0 (by omega); have c1 := hcell 1 (by omega)
    rw [Nat.add_zero] at c0
    rw [← Nat.add_assoc] at c1
    exact ⟨b, off, e, hb, c0, c1⟩
  · obtain ⟨i, hi, rfl⟩ := List.mem_map.1 ht
    exact (hA i (by simpa using hi)).2
set_option maxRecDepth 100000 in
theorem cell_stks {H : Type} {enc : TypeId × Value → H} {W : World} {fuel : Nat} {v : Value} {x : DataW H × List MemPlace}
    (h : DataW.trod enc Try.prog W 0 (fun _ => true) true fuel 33 [v] = some x) : ∃ (a : Option Addr) (len cap : Nat) (l : List St), v = .slice a len cap ∧ l.length = len ∧ Sts W a l ∧ (∀ t ∈ l, I64 t.kind ∧ I64 t.qty) ∧ len ≤ maxLen := by
  obtain ⟨a, len, cap, hv⟩ : ∃ a len cap, v = .slice a len cap := by
    rcases open_slice Try.underlying33 h with ⟨hcs, _⟩ | ⟨ad, len', cap', m, n, D, Pl, hcs, _⟩
    · simp at hcs; exact ⟨_, _, _, hcs⟩
    · simp at hcs; exact ⟨_, _, _, hcs⟩
  subst hv
  have h' : DataW.Trod enc Try.prog W 0 (fun _ => true) true 33 (.slice a len cap) x.1 x.2 := ⟨fuel, h⟩
  obtain ⟨l, h1, h2, h3, h4⟩ := stks_of h'
  exact ⟨a, len, cap, l, rfl, h1, h2, h3, h4⟩

/-- What is asked of a blueprint that came in. -/
def BlCame (W : World) (t : Recipe.Bl) : Prop := (t.s.length = t.sm ∧ Sts W t.sa t.s) ∧ InB t ∧ t.sm ≤ maxLen
set_option maxRecDepth 100000 in
theorem bl_in {H : Type} {enc : TypeId × Value → H} {W : World} {fuel : Nat} {cs : List Value} {x : DataW H × List MemPlace} (h : DataW.trod enc Try.prog W 0 (fun _ => true) true fuel 35 cs = some x) :
    ∃ t : Recipe.Bl, cs = bCells t ∧ BlCame W t := by
  obtain ⟨hl, hf⟩ := open_struct Try.underlying35 h
  rw [show Try.prog.cellsOf 35 = 7 by kernel_rfl] at hl
  match cs, hl with
  | [c0, c1, c2, c3, c4, c5, c6], _ =>
    obtain ⟨m0, y0, f0⟩ := hf 0 _ rfl
    obtain ⟨m1, y1, f1⟩ := hf 1 _ rfl
    obtain ⟨m2, y2, f2⟩ := hf 2 _ rfl
    obtain ⟨m3, y3, f3⟩ := hf 3 _ rfl
    obtain ⟨m4, y4, f4⟩ := hf 4 _ rfl
    obtain ⟨m5, y5, f5⟩ := hf 5 _ rfl
    obtain ⟨m6, y6, f6⟩ := hf 6 _ rfl
    have g0 : DataW.trod enc Try.prog W 0 (fun _ => true) true m0 3 (([c0, c1, c2, c3, c4, c5, c6].drop 0).take (Try.prog.cellsOf 3)) = some y0 := f0
    have g1 : DataW.trod enc Try.prog W 0 (fun _ => true) true m1 3 (([c0, c1, c2, c3, c4, c5, c6].drop 1).take (Try.prog.cellsOf 3)) = some y1 := f1
    have g2 : DataW.trod enc Try.prog W 0 (fun _ => true) true m2 3 (([c0, c1, c2, c3, c4, c5, c6].drop 2).take (Try.prog.cellsOf 3)) = some y2 := f2
    have g3 : DataW.trod enc Try.prog W 0 (fun _ => true) true m3 33 (([c0, c1, c2, c3, c4, c5, c6].drop 3).take (Try.prog.cellsOf 33)) = some y3 := f3
    have g4 : DataW.trod enc Try.prog W 0 (fun _ => true) true m4 3 (([c0, c1, c2, c3, c4, c5, c6].drop 4).take (Try.prog.cellsOf 3)) = some y4 := f4
    have g5 : DataW.trod enc Try.prog W 0 (fun _ => true) true m5 3 (([c0, c1, c2, c3, c4, c5, c6].drop 5).take (Try.prog.cellsOf 3)) = some y5 := f5
    have g6 : DataW.trod enc Try.prog W 0 (fun _ => true) true m6 3 (([c0, c1, c2, c3, c4, c5, c6].drop 6).take (Try.prog.cellsOf 3)) = some y6 := f6
    rw [show Try.prog.cellsOf 3 = 1 by kernel_rfl] at g0 g1 g2 g4 g5 g6
    rw [show Try.prog.cellsOf 33 = 1 by kernel_rfl] at g3
    obtain ⟨z0, rfl, b0⟩ := one_int g0
    obtain ⟨z1, rfl, b1⟩ := one_int g1
    obtain ⟨z2, rfl, b2⟩ := one_int g2
    obtain ⟨z4, rfl, b4⟩ := one_int g4
    obtain ⟨z5, rfl, b5⟩ := one_int g5
    obtain ⟨z6, rfl, b6⟩ := one_int g6
    obtain ⟨a, len, cap, l, rfl, s1, s2, s3, s4⟩ := cell_stks g3
    exact ⟨⟨z0, z1, z2, a, len, cap, l, z4, z5, z6⟩, rfl, ⟨s1, s2⟩, ⟨b0, b1, b2, b4, b5, b6, s3⟩, s4⟩
set_option maxRecDepth 100000 in
theorem ba_in {H : Type} {enc : TypeId × Value → H} {W : World} {fuel : Nat} {cs : List Value} {x : DataW H × List MemPlace} (h : DataW.trod enc Try.prog W 0 (fun _ => true) true fuel 40 cs = some x) :
    ∃ t : Ba, cs = yCells t ∧ InY t := by
  obtain ⟨hl, hf⟩ := open_struct Try.underlying40 h
  rw [show Try.prog.cellsOf 40 = 4 by kernel_rfl] at hl
  match cs, hl with
  | [c0, c1, c2, c3], _ =>
    obtain ⟨m0, y0, f0⟩ := hf 0 _ rfl
    obtain ⟨m1, y1, f1⟩ := hf 1 _ rfl
    obtain ⟨m2, y2, f2⟩ := hf 2 _ rfl
    obtain ⟨m3, y3, f3⟩ := hf 3 _ rfl
    have g0 : DataW.trod enc Try.prog W 0 (fun _ => true) true m0 3 (([c0, c1, c2, c3].drop 0).take (Try.prog.cellsOf 3)) = some y0 := f0
    have g1 : DataW.trod enc Try.prog W 0 (fun _ => true) true m1 3 (([c0, c1, c2, c3].drop 1).take (Try.prog.cellsOf 3)) = some y1 := f1
    have g2 : DataW.trod enc Try.prog W 0 (fun _ => true) true m2 3 (([c0, c1, c2, c3].drop 2).take (Try.prog.cellsOf 3)) = some y2 := f2
    have g3 : DataW.trod enc Try.prog W 0 (fun _ => true) true m3 3 (([c0, c1, c2, c3].drop 3).take (Try.prog.cellsOf 3)) = some y3 := f3
    rw [show Try.prog.cellsOf 3 = 1 by kernel_rfl] at g0 g1 g2 g3
    obtain ⟨z0, rfl, b0⟩ := one_int g0
    obtain ⟨z1, rfl, b1⟩ := one_int g1
    obtain ⟨z2, rfl, b2⟩ := one_int g2
    obtain ⟨z3, rfl, b3⟩ := one_int g3
    exact ⟨⟨z0, z1, z2, z3⟩, rfl, b0, b1, b2, b3⟩
set_option maxRecDepth 100000 in
theorem blues_of {H : Type} {enc : TypeId × Value → H} {W : World} {a : Option Addr} {len cap : Nat} {d : DataW H} {p : List MemPlace}
    (h : DataW.Trod enc Try.prog W 0 (fun _ => true) true 22 (.slice a len cap) d p) : ∃ l : List Recipe.Bl, l.length = len ∧ Blues W a l ∧ (∀ t ∈ l, BlCame W t) ∧ len ≤ maxLen := by
  have hc : Try.prog.cellsOf 35 = 7 := by kernel_rfl
  obtain ⟨h1, h2, _, V, hV⟩ := law_rows Try.underlying22 (by rw [hc]; omega) h
  obtain ⟨A, hA⟩ := choose_lt (α := Recipe.Bl) (n := len) (p := fun j t => V j = bCells t ∧ BlCame W t) (fun j hj => by
    obtain ⟨_, _, n, y, hy⟩ := hV j hj
    exact bl_in hy)
  refine ⟨(List.range len).map A, by simp, fun i t hi => ?_, fun t ht => ?_, h1⟩
  · have hlt : i < len := by
      have := (List.getElem?_eq_some_iff.1 hi).1
      simpa using this
    have ht : A i = t := by
      rw [List.getElem?_map, List.getElem?_range hlt] at hi
      simpa using hi
    obtain ⟨⟨b, off, e, hb, hcell⟩, _, _⟩ := hV i hlt
    rw [hc, (hA i hlt).1, ht] at hcell
    have c0 := hcell 0 (by omega)
    have c1 := hcell 1 (by omega)
    have c2 := hcell 2 (by omega)
    have c3 := hcell 3 (by omega)
    have c4 := hcell 4 (by omega)
    have c5 := hcell 5 (by omega)
    have c6 := hcell 6 (by omega)
    rw [Nat.add_zero] at c0
    rw [← Nat.add_assoc] at c1
    rw [← Nat.add_assoc] at c2
    rw [← Nat.add_assoc] at c3
    rw [← Nat.add_assoc] at c4
    rw [← Nat.add_assoc] at c5
    rw [← Nat.add_assoc] at c6
    exact ⟨b, off, e, hb, c0, c1, c2, c3, c4, c5, c6⟩
  · obtain ⟨i, hi, rfl⟩ := List.mem_map.1 ht
    exact (hA i (by simpa using hi)).2
set_option maxRecDepth 100000 in
theorem cell_blues {H : Type} {enc : TypeId × Value → H} {W : World} {fuel : Nat} {v : Value} {x : DataW H × List MemPlace}
    (h : DataW.trod enc Try.prog W 0 (fun _ => true) true fuel 22 [v] = some x) : ∃ (a : Option Addr) (len cap : Nat) (l : List Recipe.Bl), v = .slice a len cap ∧ l.length = len ∧ Blues W a l ∧ (∀ t ∈ l, BlCame W t) ∧ len ≤ maxLen := by
  obtain ⟨a, len, cap, hv⟩ : ∃ a len cap, v = .slice a len cap := by
    rcases open_slice Try.underlying22 h with ⟨hcs, _⟩ | ⟨ad, len', cap', m, n, D, Pl, hcs, _⟩
    · simp at hcs; exact ⟨_, _, _, hcs⟩
    · simp at hcs; exact ⟨_, _, _, hcs⟩
  subst hv
  have h' : DataW.Trod enc Try.prog W 0 (fun _ => true) true 22 (.slice a len cap) x.1 x.2 := ⟨fuel, h⟩
  obtain ⟨l, h1, h2, h3, h4⟩ := blues_of h'
  exact ⟨a, len, cap, l, rfl, h1, h2, h3, h4⟩
set_option maxRecDepth 100000 in
theorem bays_of {H : Type} {enc : TypeId × Value → H} {W : World} {a : Option Addr} {len cap : Nat} {d : DataW H} {p : List MemPlace}
    (h : DataW.Trod enc Try.prog W 0 (fun _ => true) true 23 (.slice a len cap) d p) : ∃ l : List Ba, l.length = len ∧ Bays W a l ∧ (∀ t ∈ l, InY t) ∧ len ≤ maxLen := by
  have hc : Try.prog.cellsOf 40 = 4 := by kernel_rfl
  obtain ⟨h1, h2, _, V, hV⟩ := law_rows Try.underlying23 (by rw [hc]; omega) h
  obtain ⟨A, hA⟩ := choose_lt (α := Ba) (n := len) (p := fun j t => V j = yCells t ∧ InY t) (fun j hj => by
    obtain ⟨_, _, n, y, hy⟩ := hV j hj
    exact ba_in hy)
  refine ⟨(List.range len).map A, by simp, fun i t hi => ?_, fun t ht => ?_, h1⟩
  · have hlt : i < len := by
      have := (List.getElem?_eq_some_iff.1 hi).1
      simpa using this
    have ht : A i = t := by
      rw [List.getElem?_map, List.getElem?_range hlt] at hi
      simpa using hi
    obtain ⟨⟨b, off, e, hb, hcell⟩, _, _⟩ := hV i hlt
    rw [hc, (hA i hlt).1, ht] at hcell
    have c0 := hcell 0 (by omega)
    have c1 := hcell 1 (by omega)
    have c2 := hcell 2 (by omega)
    have c3 := hcell 3 (by omega)
    rw [Nat.add_zero] at c0
    rw [← Nat.add_assoc] at c1
    rw [← Nat.add_assoc] at c2
    rw [← Nat.add_assoc] at c3
    exact ⟨b, off, e, hb, c0, c1, c2, c3⟩
  · obtain ⟨i, hi, rfl⟩ := List.mem_map.1 ht
    exact (hA i (by simpa using hi)).2
set_option maxRecDepth 100000 in
theorem cell_bays {H : Type} {enc : TypeId × Value → H} {W : World} {fuel : Nat} {v : Value} {x : DataW H × List MemPlace}
    (h : DataW.trod enc Try.prog W 0 (fun _ => true) true fuel 23 [v] = some x) : ∃ (a : Option Addr) (len cap : Nat) (l : List Ba), v = .slice a len cap ∧ l.length = len ∧ Bays W a l ∧ (∀ t ∈ l, InY t) ∧ len ≤ maxLen := by
  obtain ⟨a, len, cap, hv⟩ : ∃ a len cap, v = .slice a len cap := by
    rcases open_slice Try.underlying23 h with ⟨hcs, _⟩ | ⟨ad, len', cap', m, n, D, Pl, hcs, _⟩
    · simp at hcs; exact ⟨_, _, _, hcs⟩
    · simp at hcs; exact ⟨_, _, _, hcs⟩
  subst hv
  have h' : DataW.Trod enc Try.prog W 0 (fun _ => true) true 23 (.slice a len cap) x.1 x.2 := ⟨fuel, h⟩
  obtain ⟨l, h1, h2, h3, h4⟩ := bays_of h'
  exact ⟨a, len, cap, l, rfl, h1, h2, h3, h4⟩
set_option maxRecDepth 100000 in
theorem fee_in {H : Type} {enc : TypeId × Value → H} {W : World} {fuel : Nat} {cs : List Value} {x : DataW H × List MemPlace} (h : DataW.trod enc Try.prog W 0 (fun _ => true) true fuel 25 cs = some x) :
    ∃ f : Fee.FS, cs = [.int .i64 f.broker, .int .i64 f.least, .int .i64 f.sales] ∧ I64 f.broker ∧ I64 f.least ∧ I64 f.sales := by
  obtain ⟨hl, hf⟩ := open_struct Try.underlying25 h
  rw [show Try.prog.cellsOf 25 = 3 by kernel_rfl] at hl
  match cs, hl with
  | [c0, c1, c2], _ =>
    obtain ⟨m0, y0, f0⟩ := hf 0 _ rfl
    obtain ⟨m1, y1, f1⟩ := hf 1 _ rfl
    obtain ⟨m2, y2, f2⟩ := hf 2 _ rfl
    have g0 : DataW.trod enc Try.prog W 0 (fun _ => true) true m0 3 (([c0, c1, c2].drop 0).take (Try.prog.cellsOf 3)) = some y0 := f0
    have g1 : DataW.trod enc Try.prog W 0 (fun _ => true) true m1 3 (([c0, c1, c2].drop 1).take (Try.prog.cellsOf 3)) = some y1 := f1
    have g2 : DataW.trod enc Try.prog W 0 (fun _ => true) true m2 3 (([c0, c1, c2].drop 2).take (Try.prog.cellsOf 3)) = some y2 := f2
    rw [show Try.prog.cellsOf 3 = 1 by kernel_rfl] at g0 g1 g2
    obtain ⟨z0, rfl, b0⟩ := one_int g0
    obtain ⟨z1, rfl, b1⟩ := one_int g1
    obtain ⟨z2, rfl, b2⟩ := one_int g2
    exact ⟨⟨z0, z1, z2⟩, rfl, b0, b1, b2⟩
def cCells (C : CM) : List Value := [.int .i64 C.ty, .slice C.ba C.bn C.bc, .int .i64 C.pl, .slice C.ya C.yn C.yc, .int .i64 C.ch, .int .i64 C.f.broker, .int .i64 C.f.least, .int .i64 C.f.sales]
set_option maxRecDepth 100000 in
theorem cat_in {H : Type} {enc : TypeId × Value → H} {W : World} {fuel : Nat} {cs : List Value} {x : DataW H × List MemPlace} (h : DataW.trod enc Try.prog W 0 (fun _ => true) true fuel 27 cs = some x) :
    ∃ C : CM, cs = cCells C ∧ CatAt W C ∧ InC C ∧ C.bn ≤ maxLen ∧ C.yn ≤ maxLen ∧ ∀ b ∈ C.bs, b.sm ≤ maxLen := by
  obtain ⟨hl, hf⟩ := open_struct Try.underlying27 h
  rw [show Try.prog.cellsOf 27 = 8 by kernel_rfl] at hl
  match cs, hl with
  | [c0, c1, c2, c3, c4, c5, c6, c7], _ =>
    obtain ⟨m0, y0, f0⟩ := hf 0 _ rfl
    obtain ⟨m1, y1, f1⟩ := hf 1 _ rfl
    obtain ⟨m2, y2, f2⟩ := hf 2 _ rfl
    obtain ⟨m3, y3, f3⟩ := hf 3 _ rfl
    obtain ⟨m4, y4, f4⟩ := hf 4 _ rfl
    obtain ⟨m5, y5, f5⟩ := hf 5 _ rfl
    have g0 : DataW.trod enc Try.prog W 0 (fun _ => true) true m0 3 (([c0, c1, c2, c3, c4, c5, c6, c7].drop 0).take (Try.prog.cellsOf 3)) = some y0 := f0
    have g1 : DataW.trod enc Try.prog W 0 (fun _ => true) true m1 22 (([c0, c1, c2, c3, c4, c5, c6, c7].drop 1).take (Try.prog.cellsOf 22)) = some y1 := f1
    have g2 : DataW.trod enc Try.prog W 0 (fun _ => true) true m2 3 (([c0, c1, c2, c3, c4, c5, c6, c7].drop 2).take (Try.prog.cellsOf 3)) = some y2 := f2
    have g3 : DataW.trod enc Try.prog W 0 (fun _ => true) true m3 23 (([c0, c1, c2, c3, c4, c5, c6, c7].drop 3).take (Try.prog.cellsOf 23)) = some y3 := f3
    have g4 : DataW.trod enc Try.prog W 0 (fun _ => true) true m4 3 (([c0, c1, c2, c3, c4, c5, c6, c7].drop 4).take (Try.prog.cellsOf 3)) = some y4 := f4
    have g5 : DataW.trod enc Try.prog W 0 (fun _ => true) true m5 25 (([c0, c1, c2, c3, c4, c5, c6, c7].drop 5).take (Try.prog.cellsOf 25)) = some y5 := f5
    rw [show Try.prog.cellsOf 3 = 1 by kernel_rfl] at g0 g2 g4
    rw [show Try.prog.cellsOf 22 = 1 by kernel_rfl] at g1
    rw [show Try.prog.cellsOf 23 = 1 by kernel_rfl] at g3
    rw [show Try.prog.cellsOf 25 = 3 by kernel_rfl] at g5
    obtain ⟨z0, rfl, b0⟩ := one_int g0
    obtain ⟨z2, rfl, b2⟩ := one_int g2
    obtain ⟨z4, rfl, b4⟩ := one_int g4
    obtain ⟨ba, bn, bc, bs, rfl, p1, p2, p3, p4⟩ := cell_blues g1
    obtain ⟨ya, yn, yc, ys, rfl, q1, q2, q3, q4⟩ := cell_bays g3
    obtain ⟨f, ef, r1, r2, r3⟩ := fee_in g5
    have ef' : [c5, c6, c7] = [.int .i64 f.broker, .int .i64 f.least, .int .i64 f.sales] := ef
    injection ef' with e5 ef'
    injection ef' with e6 ef'
    injection ef' with e7 _
    subst e5 e6 e7
    exact ⟨⟨z0, ba, bn, bc, bs, z2, ya, yn, yc, ys, z4, f⟩, rfl, ⟨⟨p1, p2, fun b hb => (p3 b hb).1⟩, q1, q2⟩, ⟨b0, fun b hb => (p3 b hb).2.1, b2, q3, b4, r1, r2, r3⟩, p4, q4, fun b hb => (p3 b hb).2.2⟩
theorem cat_of {H : Type} {enc : TypeId × Value → H} {W : World} {cs : Array Value} {d : DataW H} {p : List MemPlace} (h : DataW.Trod enc Try.prog W 0 (fun _ => true) true 27 (.agg cs) d p) : ∃ C : CM, cs = #[.int .i64 C.ty, .slice C.ba C.bn C.bc, .int .i64 C.pl, .slice C.ya C.yn C.yc, .int .i64 C.ch, .int .i64 C.f.broker, .int .i64 C.f.least, .int .i64 C.f.sales] ∧ CatAt W C ∧ InC C ∧ C.bn ≤ maxLen ∧ C.yn ≤ maxLen ∧ ∀ b ∈ C.bs, b.sm ≤ maxLen := by
  obtain ⟨fuel, hf⟩ := h
  obtain ⟨C, e, r⟩ := cat_in hf
  refine ⟨C, ?_, r⟩
  apply Array.ext'
  simpa [Value.cells, cCells] using e
end Go.Proofs.Yteaclacbdelinaa.Cat
