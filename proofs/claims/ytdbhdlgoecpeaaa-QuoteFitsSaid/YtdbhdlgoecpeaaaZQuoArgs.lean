/- The laws' arguments opened: a pair by value; runs and spans. What must come, whatever the arguments are: the catalogue. What must come, whatever the arguments are. -/
import Derived.Test.YtdbhdlgoecpeaaaZQuoIm
import Derived.Test.YtdbhdlgoecpeaaaZLaw
import Derived.Test.YtdbhdlgoecpeaaaZQuoF
import Derived.Test.YtdbhdlgoecpeaaaZCatOrd
import Derived.Deep.CutRange
import Derived.Deep.RegionHeld3
namespace Go.Proofs.Ytdbhdlgoecpeaaa.Quo
open Go.ChangeShapes Go.WideShapes Go.ChangeAt Go.RowKit Go.Deep IRows
open Cat (I64 one_int)

/-- An array of two numbers, in cells. -/
theorem arr2_in {H : Type} {enc : TypeId × Value → H} {P : Program} {W : World} {t e : TypeId} {k : IntKind} {fuel : Nat} {cs : List Value} {x : DataW H × List MemPlace}
    (ht : P.underlying t = some (.array 2 e)) (he : P.underlying e = some (.int k)) (hc : P.cellsOf e = 1) (hct : P.cellsOf t = 2) (hf : DataW.trod enc P W 0 (fun _ => true) true fuel t cs = some x) :
    ∃ a b : Int, cs = [.int k a, .int k b] ∧ (Lit.int k a).wf = true ∧ (Lit.int k b).wf = true := by
  obtain ⟨xs, m, _, _, hl, hxl, hx⟩ := DataW.trod_array ht hf
  have hsz : cs.length = 2 := by simpa [hct] using hl
  have hall : ∀ i, i < 2 → ∃ z : Int, cs[i]? = some (.int k z) ∧ (Lit.int k z).wf = true := fun i hi => by
    have g := hx i hi
    rw [hc, Nat.mul_one, List.getElem?_eq_getElem (by omega)] at g
    obtain ⟨z, hz, _, hw⟩ := DataW.trod_int he g
    refine ⟨z, ?_, hw⟩
    have h0 := congrArg (fun l : List Value => l[0]?) hz
    simpa [List.getElem?_take, List.getElem?_drop] using h0
  obtain ⟨a, ha, w0⟩ := hall 0 (by omega)
  obtain ⟨b, hb, w1⟩ := hall 1 (by omega)
  refine ⟨a, b, ?_, w0, w1⟩
  match cs, hsz, ha, hb with
  | [c0, c1], _, ha, hb =>
    have h0 : c0 = .int k a := by simpa using ha
    have h1 : c1 = .int k b := by simpa using hb
    rw [h0, h1]
theorem wf_i64 {z : Int} (h : (Lit.int .i64 z).wf = true) : I64 z := by
  simp [Lit.wf, IntKind.min, IntKind.max, IntKind.signed, IntKind.bits] at h
  unfold I64
  omega
set_option maxRecDepth 100000 in
theorem e2_of {H : Type} {enc : TypeId × Value → H} {W : World} {cs : Array Value} {d : DataW H} {p : List MemPlace} (h : DataW.Trod enc Try.prog W 0 (fun _ => true) true 28 (.agg cs) d p) :
    ∃ x : Int × Int, cs = #[.int .i64 x.1, .int .i64 x.2] ∧ I64 x.1 ∧ I64 x.2 := by
  obtain ⟨fuel, hf⟩ := h
  obtain ⟨a, b, e, w0, w1⟩ := arr2_in Try.underlying28 Try.underlying3 (by kernel_rfl) (by kernel_rfl) hf
  refine ⟨(a, b), ?_, wf_i64 w0, wf_i64 w1⟩
  apply Array.ext'
  simpa [Value.cells] using e
instance : Inhabited Sp := ⟨⟨0, 0⟩⟩
set_option maxRecDepth 100000 in
theorem sp_in {H : Type} {enc : TypeId × Value → H} {W : World} {fuel : Nat} {cs : List Value} {x : DataW H × List MemPlace} (h : DataW.trod enc Try.prog W 0 (fun _ => true) true fuel 46 cs = some x) :
    ∃ t : Sp, cs = [.int .i64 t.s, .int .i64 t.e] ∧ I64 t.s ∧ I64 t.e := by
  obtain ⟨hl, hf⟩ := open_struct Try.underlying46 h
  rw [show Try.prog.cellsOf 46 = 2 by kernel_rfl] at hl
  match cs, hl with
  | [c0, c1], _ =>
    obtain ⟨m0, y0, f0⟩ := hf 0 _ rfl
    obtain ⟨m1, y1, f1⟩ := hf 1 _ rfl
    have g0 : DataW.trod enc Try.prog W 0 (fun _ => true) true m0 3 (([c0, c1].drop 0).take (Try.prog.cellsOf 3)) = some y0 := f0
    have g1 : DataW.trod enc Try.prog W 0 (fun _ => true) true m1 3 (([c0, c1].drop 1).take (Try.prog.cellsOf 3)) = some y1 := f1
    rw [show Try.prog.cellsOf 3 = 1 by kernel_rfl] at g0 g1
    obtain ⟨z0, rfl, b0⟩ := one_int g0
    obtain ⟨z1, rfl, b1⟩ := one_int g1
    exact ⟨⟨z0, z1⟩, rfl, b0, b1⟩
set_option maxRecDepth 100000 in
theorem sps_of {H : Type} {enc : TypeId × Value → H} {W : World} {a : Option Addr} {len cap : Nat} {d : DataW H} {p : List MemPlace}
    (h : DataW.Trod enc Try.prog W 0 (fun _ => true) true 32 (.slice a len cap) d p) : ∃ l : List Sp, l.length = len ∧ Spa W a l ∧ InSp l := by
  have hc : Try.prog.cellsOf 46 = 2 := by kernel_rfl
  obtain ⟨h1, h2, _, V, hV⟩ := law_rows Try.underlying32 (by rw [hc]; omega) h
  obtain ⟨A, hA⟩ := choose_lt (α := Sp) (n := len) (p := fun j x => V j = [.int .i64 x.s, .int .i64 x.e] ∧ I64 x.s ∧ I64 x.e) (fun j hj => by
    obtain ⟨_, _, n, y, hy⟩ := hV j hj
    exact sp_in hy)
  refine ⟨(List.range len).map A, by simp, fun i t hi => ?_, fun t ht => ?_⟩
  · have hlt : i < len := by
      have := (List.getElem?_eq_some_iff.1 hi).1
      simpa using this
    have ht : A i = t := by
      rw [List.getElem?_map, List.getElem?_range hlt] at hi
      simpa using hi
    obtain ⟨⟨b, off, e, hb, hcell⟩, _, _⟩ := hV i hlt
    rw [hc, (hA i hlt).1, ht] at hcell
    have c0 := hcell 0 (by omega); have c1 := hcell 1 (by omega)
    rw [Nat.add_zero] at c0
    rw [← Nat.add_assoc] at c1
    exact ⟨b, off, e, hb, c0, c1⟩
  · obtain ⟨i, hi, rfl⟩ := List.mem_map.1 ht
    exact (hA i (by simpa using hi)).2
set_option maxRecDepth 100000 in
theorem cell_sps {H : Type} {enc : TypeId × Value → H} {W : World} {fuel : Nat} {v : Value} {x : DataW H × List MemPlace}
    (h : DataW.trod enc Try.prog W 0 (fun _ => true) true fuel 32 [v] = some x) : ∃ (a : Option Addr) (len cap : Nat) (l : List Sp), v = .slice a len cap ∧ l.length = len ∧ Spa W a l ∧ InSp l := by
  obtain ⟨a, len, cap, hv⟩ : ∃ a len cap, v = .slice a len cap := by
    rcases open_slice Try.underlying32 h with ⟨hcs, _⟩ | ⟨ad, len', cap', m, n, D, Pl, hcs, _⟩
    · simp at hcs; exact ⟨_, _, _, hcs⟩
    · simp at hcs; exact ⟨_, _, _, hcs⟩
  subst hv
  have h' : DataW.Trod enc Try.prog W 0 (fun _ => true) true 32 (.slice a len cap) x.1 x.2 := ⟨fuel, h⟩
  obtain ⟨l, h1, h2, h3⟩ := sps_of h'
  exact ⟨a, len, cap, l, rfl, h1, h2, h3⟩
set_option maxRecDepth 100000 in
theorem row_of {H : Type} {enc : TypeId × Value → H} {W : World} {a : Option Addr} {len cap : Nat} {d : DataW H} {p : List MemPlace}
    (h' : DataW.Trod enc Try.prog W 0 (fun _ => true) true 29 (.slice a len cap) d p) : ∃ l : List Int, l.length = len ∧ IRow W a l := by
  obtain ⟨Z, hZ⟩ := law_ints Try.underlying29 Try.underlying3 (by kernel_rfl) h'
  refine ⟨(List.range len).map Z, by simp, fun i x hi => ?_⟩
  have hlt : i < len := by
    have := (List.getElem?_eq_some_iff.1 hi).1
    simpa using this
  have hx : Z i = x := by
    rw [List.getElem?_map, List.getElem?_range hlt] at hi
    simpa using hi
  obtain ⟨⟨b, off, e, hb, hc⟩, _⟩ := hZ i hlt
  subst hx
  exact ⟨b, off, e, hb, hc⟩
set_option maxRecDepth 100000 in
theorem cell_ints {H : Type} {enc : TypeId × Value → H} {W : World} {fuel : Nat} {v : Value} {x : DataW H × List MemPlace}
    (h : DataW.trod enc Try.prog W 0 (fun _ => true) true fuel 29 [v] = some x) : ∃ (a : Option Addr) (len cap : Nat) (l : List Int), v = .slice a len cap ∧ l.length = len ∧ IRow W a l := by
  obtain ⟨a, len, cap, hv⟩ : ∃ a len cap, v = .slice a len cap := by
    rcases open_slice Try.underlying29 h with ⟨hcs, _⟩ | ⟨ad, len', cap', m, n, D, Pl, hcs, _⟩
    · simp at hcs; exact ⟨_, _, _, hcs⟩
    · simp at hcs; exact ⟨_, _, _, hcs⟩
  subst hv
  have h' : DataW.Trod enc Try.prog W 0 (fun _ => true) true 29 (.slice a len cap) x.1 x.2 := ⟨fuel, h⟩
  obtain ⟨l, h1, h2⟩ := row_of h'
  exact ⟨a, len, cap, l, rfl, h1, h2⟩
/-- Runs and spans. -/
structure RestM where
  ra : Option Addr
  rn : Nat
  rc : Nat
  rs : List Int
  sa : Option Addr
  sn : Nat
  sc : Nat
  l : List Sp
set_option maxRecDepth 100000 in
theorem rest_in {H : Type} {enc : TypeId × Value → H} {W : World} {fuel : Nat} {cs : List Value} {x : DataW H × List MemPlace} (h : DataW.trod enc Try.prog W 0 (fun _ => true) true fuel 42 cs = some x) :
    ∃ q : RestM, cs = [.slice q.ra q.rn q.rc, .slice q.sa q.sn q.sc] ∧ q.rs.length = q.rn ∧ IRow W q.ra q.rs ∧ q.l.length = q.sn ∧ Spa W q.sa q.l ∧ InSp q.l := by
  obtain ⟨hl, hf⟩ := open_struct Try.underlying42 h
  rw [show Try.prog.cellsOf 42 = 2 by kernel_rfl] at hl
  match cs, hl with
  | [c0, c1], _ =>
    obtain ⟨m0, y0, f0⟩ := hf 0 _ rfl
    obtain ⟨m1, y1, f1⟩ := hf 1 _ rfl
    have g0 : DataW.trod enc Try.prog W 0 (fun _ => true) true m0 29 (([c0, c1].drop 0).take (Try.prog.cellsOf 29)) = some y0 := f0
    have g1 : DataW.trod enc Try.prog W 0 (fun _ => true) true m1 32 (([c0, c1].drop 1).take (Try.prog.cellsOf 32)) = some y1 := f1
    rw [show Try.prog.cellsOf 29 = 1 by kernel_rfl] at g0
    rw [show Try.prog.cellsOf 32 = 1 by kernel_rfl] at g1
    obtain ⟨a, n, c, l, rfl, p1, p2⟩ := cell_ints g0
    obtain ⟨b, m, k, s, rfl, q1, q2, q3⟩ := cell_sps g1
    exact ⟨⟨a, n, c, l, b, m, k, s⟩, rfl, p1, p2, q1, q2, q3⟩
theorem rest_of {H : Type} {enc : TypeId × Value → H} {W : World} {cs : Array Value} {d : DataW H} {p : List MemPlace} (h : DataW.Trod enc Try.prog W 0 (fun _ => true) true 42 (.agg cs) d p) : ∃ q : RestM, cs = #[.slice q.ra q.rn q.rc, .slice q.sa q.sn q.sc] ∧ q.rs.length = q.rn ∧ IRow W q.ra q.rs ∧ q.l.length = q.sn ∧ Spa W q.sa q.l ∧ InSp q.l := by
  obtain ⟨fuel, hf⟩ := h
  obtain ⟨q, e, r⟩ := rest_in hf
  refine ⟨q, ?_, r⟩
  apply Array.ext'
  simpa [Value.cells] using e
/-- A row of ints that came in, as a list. -/
theorem irow_of {w : World} {a : Option Addr} {n : Nat} {Z : Nat → Int} (hc : ∀ j, j < n → ∃ b off, a = some ⟨b, off, none⟩ ∧ b < w.heap.size ∧ w.cell? ⟨b, off + j, none⟩ = some (.int .i64 (Z j))) : ((List.range n).map Z).length = n ∧ IRow w a ((List.range n).map Z) := by
  refine ⟨by simp, fun i x hx => ?_⟩
  have hlt : i < n := by
    have := (List.getElem?_eq_some_iff.1 hx).1
    simpa using this
  rw [List.getElem?_map, List.getElem?_range hlt] at hx
  have e : Z i = x := by simpa using hx
  obtain ⟨b, off, e1, h1, h2⟩ := hc i hlt
  rw [e] at h2
  exact ⟨b, off, e1, h1, h2⟩
end Go.Proofs.Ytdbhdlgoecpeaaa.Quo
namespace Go.Proofs.Ytdbhdlgoecpeaaa.Quo
open Go.RowKit Go.Lib IRows
open Goods (St Sts OwnS)
open Cat (Cat PB Ba CM CatAt Lim I64 pOf)

theorem at_new (w W : World) (n : Nat) (o : Obj) (h : W.heap.size = w.heap.size + n) : (W.alloc o).heap[w.heap.size + n]? = some o ∧ (W.alloc o).heap.size = w.heap.size + (n + 1) := by
  rw [← h]
  exact ⟨heap_alloc_new W o, by simp; omega⟩
theorem at_old (W : World) (n : Nat) (o o' : Obj) (h : W.heap[n]? = some o) : (W.alloc o').heap[n]? = some o := by
  rw [heap_alloc_old W o' ((Array.getElem?_eq_some_iff.1 h).1)]
  exact h
theorem nine (w : World) (o0 o1 o2 o3 o4 o5 o6 o7 o8 : Obj) : (((((((((w.alloc o0).alloc o1).alloc o2).alloc o3).alloc o4).alloc o5).alloc o6).alloc o7).alloc o8).heap[w.heap.size]? = some o0 ∧ (((((((((w.alloc o0).alloc o1).alloc o2).alloc o3).alloc o4).alloc o5).alloc o6).alloc o7).alloc o8).heap[w.heap.size + 1]? = some o1 ∧ (((((((((w.alloc o0).alloc o1).alloc o2).alloc o3).alloc o4).alloc o5).alloc o6).alloc o7).alloc o8).heap[w.heap.size + 1 + 1 + 1]? = some o3 ∧ (((((((((w.alloc o0).alloc o1).alloc o2).alloc o3).alloc o4).alloc o5).alloc o6).alloc o7).alloc o8).heap[w.heap.size + 1 + 1 + 1 + 1 + 1]? = some o5 ∧ (((((((((w.alloc o0).alloc o1).alloc o2).alloc o3).alloc o4).alloc o5).alloc o6).alloc o7).alloc o8).heap[w.heap.size + 1 + 1 + 1 + 1 + 1 + 1 + 1]? = some o7 ∧ (((((((((w.alloc o0).alloc o1).alloc o2).alloc o3).alloc o4).alloc o5).alloc o6).alloc o7).alloc o8).heap[w.heap.size + 1 + 1 + 1 + 1 + 1 + 1 + 1 + 1]? = some o8 ∧ Below w.heap.size w (((((((((w.alloc o0).alloc o1).alloc o2).alloc o3).alloc o4).alloc o5).alloc o6).alloc o7).alloc o8) := by
  have hb : ∀ (W : World) (o : Obj), Below W.heap.size W (W.alloc o) := fun W o => (Below.refl _ W).alloc (Nat.le_refl _) o
  have k0 := at_new w w 0 o0 rfl
  have k1 := at_new w _ 1 o1 k0.2
  have k2 := at_new w _ 2 o2 k1.2
  have k3 := at_new w _ 3 o3 k2.2
  have k4 := at_new w _ 4 o4 k3.2
  have k5 := at_new w _ 5 o5 k4.2
  have k6 := at_new w _ 6 o6 k5.2
  have k7 := at_new w _ 7 o7 k6.2
  have k8 := at_new w _ 8 o8 k7.2
  exact ⟨at_old _ _ _ _ (at_old _ _ _ _ (at_old _ _ _ _ (at_old _ _ _ _ (at_old _ _ _ _ (at_old _ _ _ _ (at_old _ _ _ _ (at_old _ _ _ _ (k0.1)))))))), at_old _ _ _ _ (at_old _ _ _ _ (at_old _ _ _ _ (at_old _ _ _ _ (at_old _ _ _ _ (at_old _ _ _ _ (at_old _ _ _ _ (k1.1))))))), at_old _ _ _ _ (at_old _ _ _ _ (at_old _ _ _ _ (at_old _ _ _ _ (at_old _ _ _ _ (k3.1))))), at_old _ _ _ _ (at_old _ _ _ _ (at_old _ _ _ _ (k5.1))), at_old _ _ _ _ (k7.1), k8.1, below_then (hb _ _) (below_then (hb _ _) (below_then (hb _ _) (below_then (hb _ _) (below_then (hb _ _) (below_then (hb _ _) (below_then (hb _ _) (below_then (hb _ _) (hb _ _))))))))⟩
theorem irow_lit {w : World} {g : Nat} {cs : Array Value} {T : TypeId} (l : List Int) (h : w.heap[g]? = some (.cells cs T (0, 0))) (hc : cs.toList = l.map (Value.int .i64)) : IRow w (some ⟨g, 0, none⟩) l := fun i x hi => by
  refine ⟨g, 0, rfl, (Array.getElem?_eq_some_iff.1 h).1, ?_⟩
  rw [Nat.zero_add]
  refine cell_block (j := i) h ?_
  rw [← Array.getElem?_toList, hc, List.getElem?_map, hi]
  rfl
theorem spa_lit {w : World} {g : Nat} {cs : Array Value} {T : TypeId} (l : List Sp) (h : w.heap[g]? = some (.cells cs T (0, 0))) (hc : ∀ (i : Nat) (t : Sp), l[i]? = some t → cs[i * 2]? = some (.int .i64 t.s) ∧ cs[i * 2 + 1]? = some (.int .i64 t.e)) : Spa w (some ⟨g, 0, none⟩) l := fun i t hi => by
  obtain ⟨h1, h2⟩ := hc i t hi
  refine ⟨g, 0, rfl, (Array.getElem?_eq_some_iff.1 h).1, ?_, ?_⟩
  · rw [Nat.zero_add]
    exact cell_block (j := i * 2) h h1
  · rw [Nat.zero_add]
    exact cell_block (j := i * 2 + 1) h h2
theorem pa_in (g1 g2 g3 g4 g5 : Nat) : Cat.InC (paC g1 g2 g3 g4 g5) := by
  refine ⟨?_, fun b hb => ?_, ?_, fun y hy => ?_, ?_, ?_, ?_⟩
  any_goals simp [I64]
  · simp at hb
    rcases hb with rfl | rfl | rfl
    · exact ⟨by simp [I64], by simp [I64], by simp [I64], by simp [I64], by simp [I64], by simp [I64], fun t ht => by simp at ht; subst ht; simp [I64]⟩
    · exact ⟨by simp [I64], by simp [I64], by simp [I64], by simp [I64], by simp [I64], by simp [I64], fun t ht => by simp at ht; subst ht; simp [I64]⟩
    · exact ⟨by simp [I64], by simp [I64], by simp [I64], by simp [I64], by simp [I64], by simp [I64], fun t ht => by simp at ht; subst ht; simp [I64]⟩
  · simp at hy
    rcases hy with rfl | rfl
    · exact ⟨by simp [I64], by simp [I64], by simp [I64], by simp [I64]⟩
    · exact ⟨by simp [I64], by simp [I64], by simp [I64], by simp [I64]⟩
set_option maxRecDepth 100000 in
set_option maxHeartbeats 4000000 in
theorem plain_in (w : World) : Calls Try.prog 18 #[] w fun e w' => ∃ g1 g2 g3 g4 g5, e = .returned (paC g1 g2 g3 g4 g5).v ∧ Hid (Cat.Fit w' (paC g1 g2 g3 g4 g5) ∧ Below w.heap.size w w') := by
  go_enter Try.func18, Try.ntmps18
  go_wp2_with fail
  obtain ⟨h0, h1, h3, h5, h7, h8, hb⟩ := nine w (.cells #[.int .i64 4, .slice (some ⟨w.heap.size + 1 + 1 + 1 + 1 + 1 + 1 + 1, 0, none⟩) 3 3, .int .i64 1, .slice (some ⟨w.heap.size + 1 + 1 + 1 + 1 + 1 + 1 + 1 + 1, 0, none⟩) 2 2, .int .i64 1, .int .i64 0, .int .i64 0, .int .i64 0] 27) (.cells #[.int .i64 1, .int .i64 3] 79)
    (.cells #[.int .i64 2, .int .i64 5, .int .i64 10, .slice (some ⟨w.heap.size + 1, 0, none⟩) 1 1, .int .i64 0, .int .i64 0, .int .i64 5] 51) (.cells #[.int .i64 2, .int .i64 2] 79)
    (.cells #[.int .i64 3, .int .i64 1, .int .i64 7, .slice (some ⟨w.heap.size + 1 + 1 + 1, 0, none⟩) 1 1, .int .i64 0, .int .i64 0, .int .i64 5] 51) (.cells #[.int .i64 1, .int .i64 2] 79)
    (.cells #[.int .i64 4, .int .i64 1, .int .i64 5, .slice (some ⟨w.heap.size + 1 + 1 + 1 + 1 + 1, 0, none⟩) 1 1, .int .i64 0, .int .i64 0, .int .i64 5] 51)
    (.cells #[.int .i64 2, .int .i64 5, .int .i64 10, .slice (some ⟨w.heap.size + 1, 0, none⟩) 1 1, .int .i64 0, .int .i64 0, .int .i64 5, .int .i64 3, .int .i64 1, .int .i64 7, .slice (some ⟨w.heap.size + 1 + 1 + 1, 0, none⟩) 1 1, .int .i64 0, .int .i64 0, .int .i64 5, .int .i64 4, .int .i64 1, .int .i64 5, .slice (some ⟨w.heap.size + 1 + 1 + 1 + 1 + 1, 0, none⟩) 1 1, .int .i64 0, .int .i64 0, .int .i64 5] 51)
    (.cells #[.int .i64 1, .int .i64 2, .int .i64 0, .int .i64 2000, .int .i64 1, .int .i64 1, .int .i64 0, .int .i64 500] 48)
  generalize World.alloc _ _ = W at *
  refine Cat.ret_cat (g := w.heap.size) rfl rfl rfl h0 ⟨w.heap.size + 1, w.heap.size + 1 + 1 + 1, w.heap.size + 1 + 1 + 1 + 1 + 1, w.heap.size + 1 + 1 + 1 + 1 + 1 + 1 + 1, w.heap.size + 1 + 1 + 1 + 1 + 1 + 1 + 1 + 1, rfl, Lib.hid ⟨⟨⟨⟨rfl, Cat.blues_lay [paA (w.heap.size + 1), paB (w.heap.size + 1 + 1 + 1), paD (w.heap.size + 1 + 1 + 1 + 1 + 1)] h7 rfl, fun b hm => ?_⟩, rfl, Cat.bays_lay [⟨1, 2, 0, 2000⟩, ⟨1, 1, 0, 500⟩] h8 rfl⟩, ⟨fun b hm => ?_, by show 3 ≤ 20; omega, by show 2 ≤ 12; omega⟩, pa_in _ _ _ _ _⟩, hb⟩⟩
  · simp at hm
    rcases hm with rfl | rfl | rfl
    · exact ⟨rfl, Cat.sts_lay [⟨1, 3⟩] h1 rfl⟩
    · exact ⟨rfl, Cat.sts_lay [⟨2, 2⟩] h3 rfl⟩
    · exact ⟨rfl, Cat.sts_lay [⟨1, 2⟩] h5 rfl⟩
  · simp at hm
    rcases hm with rfl | rfl | rfl <;> show 1 ≤ 12 <;> omega
end Go.Proofs.Ytdbhdlgoecpeaaa.Quo
namespace Go.Proofs.Ytdbhdlgoecpeaaa.Quo
open Go.RowKit Go.Lib IRows
open Goods (St Sts OwnS)
open Cat (Cat PB Ba CM CatAt Lim I64 pOf)

theorem pa_row (W : World) : IRow (W.alloc (.cells #[.int .i64 1, .int .i64 1, .int .i64 2] 3)) (some ⟨W.heap.size, 0, none⟩) [1, 1, 2] := irow_lit [1, 1, 2] (heap_alloc_new W (.cells #[.int .i64 1, .int .i64 1, .int .i64 2] 3)) rfl
theorem pa_s1 {W : World} {g : Nat} (h : W.heap[g]? = some (.cells #[.int .i64 0, .int .i64 10, .int .i64 10, .int .i64 17, .int .i64 0, .int .i64 10] 46 (0, 0))) : Spa W (some ⟨g, 0, none⟩) [⟨0, 10⟩, ⟨10, 17⟩, ⟨0, 10⟩] := spa_lit _ h fun i t hi => by
  rcases i with _ | _ | _ | i
  · simp at hi; subst hi; exact ⟨rfl, rfl⟩
  · simp at hi; subst hi; exact ⟨rfl, rfl⟩
  · simp at hi; subst hi; exact ⟨rfl, rfl⟩
  · simp at hi
theorem pa_s2 {W : World} {g : Nat} (h : W.heap[g]? = some (.cells #[.int .i64 0, .int .i64 10, .int .i64 10, .int .i64 17, .int .i64 17, .int .i64 27] 46 (0, 0))) : Spa W (some ⟨g, 0, none⟩) [⟨0, 10⟩, ⟨10, 17⟩, ⟨17, 27⟩] := spa_lit _ h fun i t hi => by
  rcases i with _ | _ | _ | i
  · simp at hi; subst hi; exact ⟨rfl, rfl⟩
  · simp at hi; subst hi; exact ⟨rfl, rfl⟩
  · simp at hi; subst hi; exact ⟨rfl, rfl⟩
  · simp at hi
theorem pa_isp : InSp [⟨0, 10⟩, ⟨10, 17⟩, ⟨0, 10⟩] := fun t ht => by
  simp at ht
  rcases ht with rfl | rfl | rfl <;> simp [I64]
open Classical in
set_option maxRecDepth 100000 in
set_option maxHeartbeats 16000000 in
theorem awake_in (I : Impl) (w : World) : Calls Try.prog 7 #[] w fun e w' => e = .returned (.bool true) ∧ Below w.heap.size w w' := by
  have HPL : Hid (∀ W, Calls Try.prog 18 #[] W fun e w' => ∃ g1 g2 g3 g4 g5, e = .returned (.agg #[.int .i64 4, .slice (some ⟨g4, 0, none⟩) 3 3, .int .i64 1, .slice (some ⟨g5, 0, none⟩) 2 2, .int .i64 1, .int .i64 0, .int .i64 0, .int .i64 0]) ∧ Hid (Cat.Fit w' (paC g1 g2 g3 g4 g5) ∧ Below W.heap.size W w')) := Lib.hid fun W => plain_in W
  have HP1 : Hid (∀ W g1 g2 g3 g4 g5, Cat.Fit W (paC g1 g2 g3 g4 g5) → Calls Try.prog 8 #[.agg #[.int .i64 4, .slice (some ⟨g4, 0, none⟩) 3 3, .int .i64 1, .slice (some ⟨g5, 0, none⟩) 2 2, .int .i64 1, .int .i64 0, .int .i64 0, .int .i64 0], .int .i64 1, .slice (some ⟨W.heap.size, 0, none⟩) 3 3, .int .i64 0] (W.alloc (.cells #[.int .i64 1, .int .i64 1, .int .i64 2] 3)) fun e w' => ∃ a c, e = .returned (.tuple #[.slice a 3 c, .int .i64 0]) ∧ Hid (Spa w' a [⟨0, 10⟩, ⟨10, 17⟩, ⟨0, 10⟩] ∧ Below W.heap.size W w')) := Lib.hid fun W g1 g2 g3 g4 g5 hW => by
    have hb := (Below.refl _ W).alloc (Nat.le_refl _) (.cells #[.int .i64 1, .int .i64 1, .int .i64 2] 3)
    refine (I.plan (paC g1 g2 g3 g4 g5) 1 (some ⟨W.heap.size, 0, none⟩) 3 3 [1, 1, 2] 0 (W.alloc (.cells #[.int .i64 1, .int .i64 1, .int .i64 2] 3)) (hW.under hb).1 (hW.under hb).2.1 rfl (pa_row W) (by omega)).mono ?_
    rintro e w' ⟨a, n, c, rfl, H⟩
    have H := H.out
    rw [pa_p, pa_l1] at H
    obtain ⟨rfl, h2, h3⟩ := H
    exact ⟨a, c, by rw [pa_p, pa_e1]; rfl, Lib.hid ⟨h2, below_then hb h3⟩⟩
  have HP2 : Hid (∀ W g1 g2 g3 g4 g5, Cat.Fit W (paC g1 g2 g3 g4 g5) → Calls Try.prog 8 #[.agg #[.int .i64 4, .slice (some ⟨g4, 0, none⟩) 3 3, .int .i64 1, .slice (some ⟨g5, 0, none⟩) 2 2, .int .i64 1, .int .i64 0, .int .i64 0, .int .i64 0], .int .i64 2, .slice (some ⟨W.heap.size, 0, none⟩) 3 3, .int .i64 0] (W.alloc (.cells #[.int .i64 1, .int .i64 1, .int .i64 2] 3)) fun e w' => ∃ a c, e = .returned (.tuple #[.slice a 3 c, .int .i64 0]) ∧ Hid (Spa w' a [⟨0, 10⟩, ⟨10, 17⟩, ⟨17, 27⟩] ∧ Below W.heap.size W w')) := Lib.hid fun W g1 g2 g3 g4 g5 hW => by
    have hb := (Below.refl _ W).alloc (Nat.le_refl _) (.cells #[.int .i64 1, .int .i64 1, .int .i64 2] 3)
    refine (I.plan (paC g1 g2 g3 g4 g5) 2 (some ⟨W.heap.size, 0, none⟩) 3 3 [1, 1, 2] 0 (W.alloc (.cells #[.int .i64 1, .int .i64 1, .int .i64 2] 3)) (hW.under hb).1 (hW.under hb).2.1 rfl (pa_row W) (by omega)).mono ?_
    rintro e w' ⟨a, n, c, rfl, H⟩
    have H := H.out
    rw [pa_p, pa_l2] at H
    obtain ⟨rfl, h2, h3⟩ := H
    exact ⟨a, c, by rw [pa_p, pa_e2]; rfl, Lib.hid ⟨h2, below_then hb h3⟩⟩
  have HFE : Hid (∀ W g1 g2 g3 g4 g5, Cat.Fit W (paC g1 g2 g3 g4 g5) → Calls Try.prog 10 #[.agg #[.int .i64 4, .slice (some ⟨g4, 0, none⟩) 3 3, .int .i64 1, .slice (some ⟨g5, 0, none⟩) 2 2, .int .i64 1, .int .i64 0, .int .i64 0, .int .i64 0], .int .i64 1, .slice (some ⟨W.heap.size, 0, none⟩) 3 3, .int .i64 0] (W.alloc (.cells #[.int .i64 1, .int .i64 1, .int .i64 2] 3)) fun e w' => e = .returned (.tuple #[.int .i64 6, .int .i64 0]) ∧ Hid (Below W.heap.size W w')) := Lib.hid fun W g1 g2 g3 g4 g5 hW => by
    have hb := (Below.refl _ W).alloc (Nat.le_refl _) (.cells #[.int .i64 1, .int .i64 1, .int .i64 2] 3)
    have := I.fee (paC g1 g2 g3 g4 g5) 1 (some ⟨W.heap.size, 0, none⟩) 3 3 [1, 1, 2] 0 (W.alloc (.cells #[.int .i64 1, .int .i64 1, .int .i64 2] 3)) (hW.under hb).1 (hW.under hb).2.1 rfl (pa_row W) (by omega)
    rw [pa_p, pa_fee, pa_mq (.inl rfl)] at this
    exact this.mono fun _ _ ⟨e, h⟩ => ⟨e, Lib.hid (below_then hb h)⟩
  have HCH : Hid (∀ W g1 g2 g3 g4 g5, Cat.Fit W (paC g1 g2 g3 g4 g5) → Calls Try.prog 12 #[.agg #[.int .i64 4, .slice (some ⟨g4, 0, none⟩) 3 3, .int .i64 1, .slice (some ⟨g5, 0, none⟩) 2 2, .int .i64 1, .int .i64 0, .int .i64 0, .int .i64 0], .slice (some ⟨W.heap.size, 0, none⟩) 3 3, .int .i64 0] (W.alloc (.cells #[.int .i64 1, .int .i64 1, .int .i64 2] 3)) fun e w' => e = .returned (.tuple #[.int .i64 2, .int .i64 0]) ∧ Hid (Below W.heap.size W w')) := Lib.hid fun W g1 g2 g3 g4 g5 hW => by
    have hb := (Below.refl _ W).alloc (Nat.le_refl _) (.cells #[.int .i64 1, .int .i64 1, .int .i64 2] 3)
    have := I.cheap (paC g1 g2 g3 g4 g5) (some ⟨W.heap.size, 0, none⟩) 3 3 [1, 1, 2] 0 (W.alloc (.cells #[.int .i64 1, .int .i64 1, .int .i64 2] 3)) (hW.under hb).1 (hW.under hb).2.1 rfl (pa_row W) (by omega)
    rw [pa_p, pa_cheap.1, pa_cheap.2] at this
    exact this.mono fun _ _ ⟨e, h⟩ => ⟨e, Lib.hid (below_then hb h)⟩
  have HS1 : Hid (∀ W a c, Spa W a [⟨0, 10⟩, ⟨10, 17⟩, ⟨0, 10⟩] → Calls Try.prog 14 #[.slice a 3 c, .slice (some ⟨W.heap.size, 0, none⟩) 3 3] (W.alloc (.cells #[.int .i64 0, .int .i64 10, .int .i64 10, .int .i64 17, .int .i64 0, .int .i64 10] 46)) fun e w' => e = .returned (.bool true) ∧ Hid (Below W.heap.size W w')) := Lib.hid fun W a c hW => by
    have hb := (Below.refl _ W).alloc (Nat.le_refl _) (.cells #[.int .i64 0, .int .i64 10, .int .i64 10, .int .i64 17, .int .i64 0, .int .i64 10] 46)
    exact (dsameq a 3 c (some ⟨W.heap.size, 0, none⟩) 3 [⟨0, 10⟩, ⟨10, 17⟩, ⟨0, 10⟩] (W.alloc (.cells #[.int .i64 0, .int .i64 10, .int .i64 10, .int .i64 17, .int .i64 0, .int .i64 10] 46)) rfl (hW.under hb) (pa_s1 (heap_alloc_new W _)) (by omega)).mono fun _ _ ⟨e, h⟩ => ⟨e, Lib.hid (below_then hb h)⟩
  have HS2 : Hid (∀ W a c, Spa W a [⟨0, 10⟩, ⟨10, 17⟩, ⟨17, 27⟩] → Calls Try.prog 14 #[.slice a 3 c, .slice (some ⟨W.heap.size, 0, none⟩) 3 3] (W.alloc (.cells #[.int .i64 0, .int .i64 10, .int .i64 10, .int .i64 17, .int .i64 17, .int .i64 27] 46)) fun e w' => e = .returned (.bool true) ∧ Hid (Below W.heap.size W w')) := Lib.hid fun W a c hW => by
    have hb := (Below.refl _ W).alloc (Nat.le_refl _) (.cells #[.int .i64 0, .int .i64 10, .int .i64 10, .int .i64 17, .int .i64 17, .int .i64 27] 46)
    exact (dsameq a 3 c (some ⟨W.heap.size, 0, none⟩) 3 [⟨0, 10⟩, ⟨10, 17⟩, ⟨17, 27⟩] (W.alloc (.cells #[.int .i64 0, .int .i64 10, .int .i64 10, .int .i64 17, .int .i64 17, .int .i64 27] 46)) rfl (hW.under hb) (pa_s2 (heap_alloc_new W _)) (by omega)).mono fun _ _ ⟨e, h⟩ => ⟨e, Lib.hid (below_then hb h)⟩
  have HF1 : Hid (∀ W g1 g2 g3 g4 g5 a c, Cat.Fit W (paC g1 g2 g3 g4 g5) ∧ Spa W a [⟨0, 10⟩, ⟨10, 17⟩, ⟨0, 10⟩] → Calls Try.prog 15 #[.agg #[.int .i64 4, .slice (some ⟨g4, 0, none⟩) 3 3, .int .i64 1, .slice (some ⟨g5, 0, none⟩) 2 2, .int .i64 1, .int .i64 0, .int .i64 0, .int .i64 0], .int .i64 1, .slice (some ⟨W.heap.size, 0, none⟩) 3 3, .int .i64 0, .slice a 3 c] (W.alloc (.cells #[.int .i64 1, .int .i64 1, .int .i64 2] 3)) fun e w' => e = .returned (.bool true) ∧ Hid (Below W.heap.size W w')) := Lib.hid fun W g1 g2 g3 g4 g5 a c hW => by
    have hb := (Below.refl _ W).alloc (Nat.le_refl _) (.cells #[.int .i64 1, .int .i64 1, .int .i64 2] 3)
    have := I.fits (paC g1 g2 g3 g4 g5) 1 (some ⟨W.heap.size, 0, none⟩) 3 3 [1, 1, 2] 0 a 3 c [⟨0, 10⟩, ⟨10, 17⟩, ⟨0, 10⟩] (W.alloc (.cells #[.int .i64 1, .int .i64 1, .int .i64 2] 3)) (hW.1.under hb).1 (hW.1.under hb).2.1 rfl (pa_row W) (by omega) rfl (hW.2.under hb) pa_isp (by omega)
    rw [pa_p, decide_eq_true pa_fits] at this
    exact this.mono fun _ _ ⟨e, h⟩ => ⟨e, Lib.hid (below_then hb h)⟩
  have HF2 : Hid (∀ W g1 g2 g3 g4 g5 a c, Cat.Fit W (paC g1 g2 g3 g4 g5) ∧ Spa W a [⟨0, 10⟩, ⟨10, 17⟩, ⟨0, 10⟩] → Calls Try.prog 15 #[.agg #[.int .i64 4, .slice (some ⟨g4, 0, none⟩) 3 3, .int .i64 1, .slice (some ⟨g5, 0, none⟩) 2 2, .int .i64 1, .int .i64 0, .int .i64 0, .int .i64 0], .int .i64 2, .slice (some ⟨W.heap.size, 0, none⟩) 3 3, .int .i64 0, .slice a 3 c] (W.alloc (.cells #[.int .i64 1, .int .i64 1, .int .i64 2] 3)) fun e w' => e = .returned (.bool false) ∧ Hid (Below W.heap.size W w')) := Lib.hid fun W g1 g2 g3 g4 g5 a c hW => by
    have hb := (Below.refl _ W).alloc (Nat.le_refl _) (.cells #[.int .i64 1, .int .i64 1, .int .i64 2] 3)
    have := I.fits (paC g1 g2 g3 g4 g5) 2 (some ⟨W.heap.size, 0, none⟩) 3 3 [1, 1, 2] 0 a 3 c [⟨0, 10⟩, ⟨10, 17⟩, ⟨0, 10⟩] (W.alloc (.cells #[.int .i64 1, .int .i64 1, .int .i64 2] 3)) (hW.1.under hb).1 (hW.1.under hb).2.1 rfl (pa_row W) (by omega) rfl (hW.2.under hb) pa_isp (by omega)
    rw [pa_p, decide_eq_false pa_more] at this
    exact this.mono fun _ _ ⟨e, h⟩ => ⟨e, Lib.hid (below_then hb h)⟩
  clear I
  go_enter Try.func7, Try.ntmps7
  go_wp2_with fail
  refine (HPL.out w).mono ?_
  rintro e w1 ⟨g1, g2, g3, g4, g5, rfl, P1⟩
  go_wp2_with fail
  refine (HP1.out w1 g1 g2 g3 g4 g5 P1.out.1).mono ?_
  rintro e w2 ⟨a1, c1, rfl, P2⟩
  go_wp2_with fail
  refine (HPL.out w2).mono ?_
  rintro e w3 ⟨i1, i2, i3, i4, i5, rfl, P3⟩
  go_wp2_with fail
  refine (HP2.out w3 i1 i2 i3 i4 i5 P3.out.1).mono ?_
  rintro e w4 ⟨a2, c2, rfl, P4⟩
  go_wp2_with fail
  refine (HPL.out w4).mono ?_
  rintro e w5 ⟨j1, j2, j3, j4, j5, rfl, P5⟩
  go_wp2_with fail
  refine (HFE.out w5 j1 j2 j3 j4 j5 P5.out.1).mono ?_
  rintro e w6 ⟨rfl, P6⟩
  go_wp2_with fail
  refine (HPL.out w6).mono ?_
  rintro e w7 ⟨m1, m2, m3, m4, m5, rfl, P7⟩
  go_wp2_with fail
  refine (HCH.out w7 m1 m2 m3 m4 m5 P7.out.1).mono ?_
  rintro e w8 ⟨rfl, P8⟩
  have B8 : Hid (Below w.heap.size w w8 ∧ Spa w8 a1 [⟨0, 10⟩, ⟨10, 17⟩, ⟨0, 10⟩] ∧ Spa w8 a2 [⟨0, 10⟩, ⟨10, 17⟩, ⟨17, 27⟩]) := Lib.hid (by
    have h4 := below_then (below_then (below_then P5.out.2 P6.out) P7.out.2) P8.out
    have h2 := below_then (below_then P3.out.2 P4.out.2) h4
    exact ⟨below_then (below_then P1.out.2 P2.out.2) h2, P2.out.1.under h2, P4.out.1.under h4⟩)
  clear P1 P2 P3 P4 P5 P6 P7 P8 HP1 HP2 HFE HCH
  go_wp2_with fail
  refine (HS1.out w8 a1 c1 B8.out.2.1).mono ?_
  rintro e w9 ⟨rfl, P9⟩
  go_wp2_with fail
  refine (HS2.out w9 a2 c2 (B8.out.2.2.under P9.out)).mono ?_
  rintro e wA ⟨rfl, PA⟩
  go_wp2_with fail
  refine (HPL.out wA).mono ?_
  rintro e wB ⟨n1, n2, n3, n4, n5, rfl, PB⟩
  have BB : Hid (Below w8.heap.size w8 wB) := Lib.hid (below_then (below_then P9.out PA.out) PB.out.2)
  go_wp2_with fail
  refine (HF1.out wB n1 n2 n3 n4 n5 a1 c1 ⟨PB.out.1, B8.out.2.1.under BB.out⟩).mono ?_
  rintro e wC ⟨rfl, PC⟩
  go_wp2_with fail
  refine (HPL.out wC).mono ?_
  rintro e wD ⟨q1, q2, q3, q4, q5, rfl, PD⟩
  have BD : Hid (Below w8.heap.size w8 wD) := Lib.hid (below_then (below_then BB.out PC.out) PD.out.2)
  go_wp2_with fail
  refine (HF2.out wD q1 q2 q3 q4 q5 a1 c1 ⟨PD.out.1, B8.out.2.1.under BD.out⟩).mono ?_
  rintro e wE ⟨rfl, PE⟩
  go_wp2_with fail
  go_ret
  exact ⟨rfl, below_then B8.out.1 (below_then BD.out PE.out)⟩
end Go.Proofs.Ytdbhdlgoecpeaaa.Quo
