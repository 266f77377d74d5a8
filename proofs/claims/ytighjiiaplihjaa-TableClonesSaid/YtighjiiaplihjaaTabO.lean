/- The law's arguments opened: acts, keys. -/
import Derived.Test.YtighjiiaplihjaaWide
import Derived.Test.YtighjiiaplihjaaTabI
namespace Go.Proofs.Ytighjiiaplihjaa.Tab
open Go.ChangeShapes Go.WideShapes Go.ChangeAt Go.RowKit Go.Deep

instance : Inhabited Key := ⟨zeroKey⟩
section
variable {H : Type} {enc : TypeId × Value → H} {w : World} {base : Nat} {spare : Nat → Bool} {held : Bool}
theorem one_int {fuel : Nat} {v : Value} {x : DataW H × List MemPlace} (h : DataW.trod enc Try.prog w base spare held fuel 3 [v] = some x) : ∃ z, v = .int .i64 z ∧ -9223372036854775808 ≤ z ∧ z ≤ 9223372036854775807 := by
  obtain ⟨z, h1, _, h2⟩ := DataW.trod_int Try.underlying3 h
  simp [Lit.wf, IntKind.min, IntKind.max, IntKind.signed, IntKind.bits] at h2
  exact ⟨z, by simpa using h1, by omega, by omega⟩
def Key.In (k : Key) : Prop := ∀ j, j < 4 → -9223372036854775808 ≤ k.at j ∧ k.at j ≤ 9223372036854775807
theorem key_in {fuel : Nat} {cs : List Value} {x : DataW H × List MemPlace} (h : DataW.trod enc Try.prog w base spare held fuel 38 cs = some x) : ∃ k : Key, cs = [.int .i64 k.a, .int .i64 k.b, .int .i64 k.c, .int .i64 k.d] ∧ k.In := by
  obtain ⟨hl, hf⟩ := open_array Try.underlying38 h
  rw [show Try.prog.cellsOf 38 = 4 by kernel_rfl] at hl
  rw [show Try.prog.cellsOf 3 = 1 by kernel_rfl] at hf
  match cs, hl with
  | [c0, c1, c2, c3], _ =>
    obtain ⟨m0, y0, f0⟩ := hf 0 (by omega); obtain ⟨m1, y1, f1⟩ := hf 1 (by omega); obtain ⟨m2, y2, f2⟩ := hf 2 (by omega); obtain ⟨m3, y3, f3⟩ := hf 3 (by omega)
    obtain ⟨z0, rfl, b0⟩ := one_int f0; obtain ⟨z1, rfl, b1⟩ := one_int f1; obtain ⟨z2, rfl, b2⟩ := one_int f2; obtain ⟨z3, rfl, b3⟩ := one_int f3
    refine ⟨⟨z0, z1, z2, z3⟩, rfl, fun j hj => ?_⟩
    match j, hj with
    | 0, _ => exact b0
    | 1, _ => exact b1
    | 2, _ => exact b2
    | 3, _ => exact b3
theorem act_in {fuel : Nat} {cs : List Value} {x : DataW H × List MemPlace} (h : DataW.trod enc Try.prog w base spare held fuel 53 cs = some x) :
    ∃ a : AC, cs = [.int .i64 a.kind, .int .i64 a.v, .int .i64 a.k.a, .int .i64 a.k.b, .int .i64 a.k.c, .int .i64 a.k.d] := by
  obtain ⟨hl, hf⟩ := open_struct Try.underlying53 h
  rw [show Try.prog.cellsOf 53 = 6 by kernel_rfl] at hl
  match cs, hl with
  | [c0, c1, c2, c3, c4, c5], _ =>
    obtain ⟨m0, y0, f0⟩ := hf 0 _ rfl; obtain ⟨m1, y1, f1⟩ := hf 1 _ rfl; obtain ⟨m2, y2, f2⟩ := hf 2 _ rfl
    have g0 : DataW.trod enc Try.prog w base spare held m0 3 (([c0, c1, c2, c3, c4, c5].drop 0).take (Try.prog.cellsOf 3)) = some y0 := f0
    have g1 : DataW.trod enc Try.prog w base spare held m1 3 (([c0, c1, c2, c3, c4, c5].drop 1).take (Try.prog.cellsOf 3)) = some y1 := f1
    have g2 : DataW.trod enc Try.prog w base spare held m2 38 (([c0, c1, c2, c3, c4, c5].drop 2).take (Try.prog.cellsOf 38)) = some y2 := f2
    rw [show Try.prog.cellsOf 3 = 1 by kernel_rfl] at g0 g1
    rw [show Try.prog.cellsOf 38 = 4 by kernel_rfl] at g2
    obtain ⟨z0, rfl, b0⟩ := one_int g0; obtain ⟨z1, rfl, b1⟩ := one_int g1
    obtain ⟨k, hk, _⟩ := key_in g2
    exact ⟨⟨z0, z1, k⟩, by simpa using hk⟩
end
/-- The acts that came in. -/
theorem acts_of {H : Type} {enc : TypeId × Value → H} {W : World} {a : Option Addr} {len cap : Nat} {d : DataW H} {p : List MemPlace}
    (h : DataW.Trod enc Try.prog W 0 (fun _ => true) true 22 (.slice a len cap) d p) : len ≤ maxLen ∧ len ≤ cap ∧ ∃ A : Nat → AC, Acts W a len A := by
  have hc : Try.prog.cellsOf 53 = 6 := by kernel_rfl
  obtain ⟨h1, h2, _, V, hV⟩ := law_rows Try.underlying22 (by rw [hc]; omega) h
  obtain ⟨A, hA⟩ := choose_lt (α := AC) (n := len) (p := fun j (x : AC) => V j = [.int .i64 x.kind, .int .i64 x.v, .int .i64 x.k.a, .int .i64 x.k.b, .int .i64 x.k.c, .int .i64 x.k.d]) (fun j hj => by
    obtain ⟨_, _, n, y, hy⟩ := hV j hj
    exact act_in hy)
  refine ⟨h1, h2, A, fun j hj => ?_⟩
  obtain ⟨⟨b, off, e, hb, hcell⟩, _, _⟩ := hV j hj
  rw [hc, hA j hj] at hcell
  have c0 := hcell 0 (by omega); have c1 := hcell 1 (by omega); have c2 := hcell 2 (by omega); have c3 := hcell 3 (by omega); have c4 := hcell 4 (by omega); have c5 := hcell 5 (by omega)
  rw [Nat.add_zero] at c0
  rw [← Nat.add_assoc] at c1 c2 c3 c4 c5
  exact ⟨b, off, e, hb, c0, c1, c2, c3, c4, c5⟩
/-- An array of keys that came in by value. -/
theorem keys_of {H : Type} {enc : TypeId × Value → H} {W : World} {t : TypeId} {n : Nat} {cs : Array Value} {d : DataW H} {p : List MemPlace} (ht : Try.prog.underlying t = some (.array n 38)) (h : DataW.Trod enc Try.prog W 0 (fun _ => true) true t (.agg cs) d p) :
    ∃ K : Nat → Key, ∀ i, i < n → cs[i * 4]? = some (.int .i64 (K i).a) ∧ cs[i * 4 + 1]? = some (.int .i64 (K i).b) ∧ cs[i * 4 + 2]? = some (.int .i64 (K i).c) ∧ cs[i * 4 + 3]? = some (.int .i64 (K i).d) := by
  obtain ⟨fuel, hf⟩ := h
  obtain ⟨hl, hx⟩ := open_array ht hf
  rw [show Try.prog.cellsOf 38 = 4 by kernel_rfl] at hx
  refine choose_lt (α := Key) (p := fun i (k : Key) => cs[i * 4]? = some (.int .i64 k.a) ∧ cs[i * 4 + 1]? = some (.int .i64 k.b) ∧ cs[i * 4 + 2]? = some (.int .i64 k.c) ∧ cs[i * 4 + 3]? = some (.int .i64 k.d)) (fun i hi => ?_)
  obtain ⟨m, y, g⟩ := hx i hi
  obtain ⟨k, hk, _⟩ := key_in g
  refine ⟨k, ?_⟩
  have q := fun (j : Nat) => congrArg (fun l : List Value => l[j]?) hk
  have q0 := q 0; have q1 := q 1; have q2 := q 2; have q3 := q 3
  simp [Value.cells, List.getElem?_take, List.getElem?_drop] at q0 q1 q2 q3
  exact ⟨q0, q1, q2, q3⟩
end Go.Proofs.Ytighjiiaplihjaa.Tab
