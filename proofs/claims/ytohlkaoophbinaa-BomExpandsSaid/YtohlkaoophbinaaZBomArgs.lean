/- The laws' arguments opened: what is asked; runs and stacks. What must come, whatever the arguments are. -/
import Derived.Test.YtohlkaoophbinaaZOpen
import Derived.Test.YtohlkaoophbinaaZLaw
import Derived.Test.YtohlkaoophbinaaZCatOrd
import Derived.Deep.CutRange
import Derived.Deep.RegionHeld3
namespace Go.Proofs.Ytohlkaoophbinaa.Bom
open Go.ChangeShapes Go.WideShapes Go.ChangeAt Go.RowKit Go.Deep IRows
open Goods (St Sts)
open Cat (I64 one_int cell_stks stks_of)

theorem have_of {H : Type} {enc : TypeId × Value → H} {W : World} {a : Option Addr} {len cap : Nat} {d : DataW H} {p : List MemPlace}
    (h : DataW.Trod enc Try.prog W 0 (fun _ => true) true 30 (.slice a len cap) d p) : ∃ l : List St, l.length = len ∧ Sts W a l ∧ InS l := by
  obtain ⟨l, h1, h2, h3, _⟩ := stks_of h
  exact ⟨l, h1, h2, h3⟩
/-- What is asked. -/
structure AskM where
  k : Int
  n : Int
  lv : Int
set_option maxRecDepth 100000 in
theorem ask_in {H : Type} {enc : TypeId × Value → H} {W : World} {fuel : Nat} {cs : List Value} {x : DataW H × List MemPlace} (h : DataW.trod enc Try.prog W 0 (fun _ => true) true fuel 29 cs = some x) :
    ∃ q : AskM, cs = [.int .i64 q.k, .int .i64 q.n, .int .i64 q.lv] ∧ I64 q.k ∧ I64 q.n ∧ I64 q.lv := by
  obtain ⟨hl, hf⟩ := open_struct Try.underlying29 h
  rw [show Try.prog.cellsOf 29 = 3 by kernel_rfl] at hl
  match cs, hl with
  | [c0, c1, c2], _ =>
    obtain ⟨m0, y0, f0⟩ := hf 0 _ rfl
    obtain ⟨m1, y1, f1⟩ := hf 1 _ rfl
    obtain ⟨m2, y2, f2⟩ := hf 2 _ rfl
    have g0 : DataW.trod enc Try.prog W 0 (fun _ => true) true m0 3 (([c0, c1, c2].drop 0).take (Try.prog.cellsOf 3)) = some y0 := f0
    have g1 : DataW.trod enc Try.prog W 0 (fun _ => true) true m1 3 (([c0, c1, c2].drop 1).take (Try.prog.cellsOf 3)) = some y1 := f1
    have g2 : DataW.trod enc Try.prog W 0 (fun _ => true) true m2 3 (([c0, c1, c2].drop 2).take (Try.prog.cellsOf 3)) = some y2 := f2
    rw [show Try.prog.cellsOf 3 = 1 by kernel_rfl] at g0 g1 g2
    obtain ⟨z0, rfl, b0⟩ := one_int g0
    obtain ⟨z1, rfl, b1⟩ := one_int g1
    obtain ⟨z2, rfl, b2⟩ := one_int g2
    exact ⟨⟨z0, z1, z2⟩, rfl, b0, b1, b2⟩
theorem ask_of {H : Type} {enc : TypeId × Value → H} {W : World} {cs : Array Value} {d : DataW H} {p : List MemPlace} (h : DataW.Trod enc Try.prog W 0 (fun _ => true) true 29 (.agg cs) d p) : ∃ q : AskM, cs = #[.int .i64 q.k, .int .i64 q.n, .int .i64 q.lv] ∧ I64 q.k ∧ I64 q.n ∧ I64 q.lv := by
  obtain ⟨fuel, hf⟩ := h
  obtain ⟨q, e, r⟩ := ask_in hf
  refine ⟨q, ?_, r⟩
  apply Array.ext'
  simpa [Value.cells] using e
set_option maxRecDepth 100000 in
theorem cell_ints {H : Type} {enc : TypeId × Value → H} {W : World} {fuel : Nat} {v : Value} {x : DataW H × List MemPlace}
    (h : DataW.trod enc Try.prog W 0 (fun _ => true) true fuel 33 [v] = some x) : ∃ (a : Option Addr) (len cap : Nat) (l : List Int), v = .slice a len cap ∧ l.length = len ∧ IRow W a l ∧ InL l := by
  obtain ⟨a, len, cap, hv⟩ : ∃ a len cap, v = .slice a len cap := by
    rcases open_slice Try.underlying33 h with ⟨hcs, _⟩ | ⟨ad, len', cap', m, n, D, Pl, hcs, _⟩
    · simp at hcs; exact ⟨_, _, _, hcs⟩
    · simp at hcs; exact ⟨_, _, _, hcs⟩
  subst hv
  have h' : DataW.Trod enc Try.prog W 0 (fun _ => true) true 33 (.slice a len cap) x.1 x.2 := ⟨fuel, h⟩
  obtain ⟨Z, hZ⟩ := law_ints Try.underlying33 Try.underlying3 (by kernel_rfl) h'
  refine ⟨a, len, cap, (List.range len).map Z, rfl, by simp, fun i x hi => ?_, fun x hx => ?_⟩
  · have hlt : i < len := by
      have := (List.getElem?_eq_some_iff.1 hi).1
      simpa using this
    have hx : Z i = x := by
      rw [List.getElem?_map, List.getElem?_range hlt] at hi
      simpa using hi
    obtain ⟨⟨b, off, e, hb, hc⟩, _⟩ := hZ i hlt
    subst hx
    exact ⟨b, off, e, hb, hc⟩
  · obtain ⟨i, hi, rfl⟩ := List.mem_map.1 hx
    have := (hZ i (by simpa using hi)).2
    simp [Lit.wf, IntKind.min, IntKind.max, IntKind.signed, IntKind.bits] at this
    unfold I64
    omega
/-- Runs and stacks. -/
structure RestM where
  ra : Option Addr
  rn : Nat
  rc : Nat
  rs : List Int
  sa : Option Addr
  sn : Nat
  sc : Nat
  raw : List St
set_option maxRecDepth 100000 in
theorem rest_in {H : Type} {enc : TypeId × Value → H} {W : World} {fuel : Nat} {cs : List Value} {x : DataW H × List MemPlace} (h : DataW.trod enc Try.prog W 0 (fun _ => true) true fuel 42 cs = some x) :
    ∃ q : RestM, cs = [.slice q.ra q.rn q.rc, .slice q.sa q.sn q.sc] ∧ q.rs.length = q.rn ∧ IRow W q.ra q.rs ∧ InL q.rs ∧ q.raw.length = q.sn ∧ Sts W q.sa q.raw ∧ InS q.raw := by
  obtain ⟨hl, hf⟩ := open_struct Try.underlying42 h
  rw [show Try.prog.cellsOf 42 = 2 by kernel_rfl] at hl
  match cs, hl with
  | [c0, c1], _ =>
    obtain ⟨m0, y0, f0⟩ := hf 0 _ rfl
    obtain ⟨m1, y1, f1⟩ := hf 1 _ rfl
    have g0 : DataW.trod enc Try.prog W 0 (fun _ => true) true m0 33 (([c0, c1].drop 0).take (Try.prog.cellsOf 33)) = some y0 := f0
    have g1 : DataW.trod enc Try.prog W 0 (fun _ => true) true m1 30 (([c0, c1].drop 1).take (Try.prog.cellsOf 30)) = some y1 := f1
    rw [show Try.prog.cellsOf 33 = 1 by kernel_rfl] at g0
    rw [show Try.prog.cellsOf 30 = 1 by kernel_rfl] at g1
    obtain ⟨a, n, c, l, rfl, p1, p2, p3⟩ := cell_ints g0
    obtain ⟨b, m, k, s, rfl, q1, q2, q3, _⟩ := cell_stks g1
    exact ⟨⟨a, n, c, l, b, m, k, s⟩, rfl, p1, p2, p3, q1, q2, q3⟩
theorem rest_of {H : Type} {enc : TypeId × Value → H} {W : World} {cs : Array Value} {d : DataW H} {p : List MemPlace} (h : DataW.Trod enc Try.prog W 0 (fun _ => true) true 42 (.agg cs) d p) : ∃ q : RestM, cs = #[.slice q.ra q.rn q.rc, .slice q.sa q.sn q.sc] ∧ q.rs.length = q.rn ∧ IRow W q.ra q.rs ∧ InL q.rs ∧ q.raw.length = q.sn ∧ Sts W q.sa q.raw ∧ InS q.raw := by
  obtain ⟨fuel, hf⟩ := h
  obtain ⟨q, e, r⟩ := rest_in hf
  refine ⟨q, ?_, r⟩
  apply Array.ext'
  simpa [Value.cells] using e
end Go.Proofs.Ytohlkaoophbinaa.Bom
namespace Go.Proofs.Ytohlkaoophbinaa.Bom
open Go.RowKit Go.Lib IRows
open Goods (St Sts OwnS cnt)
open Cat (Cat PB CM CatAt Lim I64 pOf)
open Recipe (needsE needsL needL up nd BlIn)

theorem at_new (w W : World) (n : Nat) (o : Obj) (h : W.heap.size = w.heap.size + n) : (W.alloc o).heap[w.heap.size + n]? = some o ∧ (W.alloc o).heap.size = w.heap.size + (n + 1) := by
  rw [← h]
  exact ⟨heap_alloc_new W o, by simp; omega⟩
theorem at_old (W : World) (n : Nat) (o o' : Obj) (h : W.heap[n]? = some o) : (W.alloc o').heap[n]? = some o := by
  rw [heap_alloc_old W o' ((Array.getElem?_eq_some_iff.1 h).1)]
  exact h
theorem six (w : World) (o0 o1 o2 o3 o4 o5 : Obj) : ((((((w.alloc o0).alloc o1).alloc o2).alloc o3).alloc o4).alloc o5).heap[w.heap.size]? = some o0 ∧ ((((((w.alloc o0).alloc o1).alloc o2).alloc o3).alloc o4).alloc o5).heap[w.heap.size + 1]? = some o1 ∧ ((((((w.alloc o0).alloc o1).alloc o2).alloc o3).alloc o4).alloc o5).heap[w.heap.size + 1 + 1 + 1]? = some o3 ∧ ((((((w.alloc o0).alloc o1).alloc o2).alloc o3).alloc o4).alloc o5).heap[w.heap.size + 1 + 1 + 1 + 1 + 1]? = some o5 ∧ Below w.heap.size w ((((((w.alloc o0).alloc o1).alloc o2).alloc o3).alloc o4).alloc o5) := by
  have hb : ∀ (W : World) (o : Obj), Below W.heap.size W (W.alloc o) := fun W o => (Below.refl _ W).alloc (Nat.le_refl _) o
  have k0 := at_new w w 0 o0 rfl
  have k1 := at_new w _ 1 o1 k0.2
  have k2 := at_new w _ 2 o2 k1.2
  have k3 := at_new w _ 3 o3 k2.2
  have k4 := at_new w _ 4 o4 k3.2
  have k5 := at_new w _ 5 o5 k4.2
  exact ⟨at_old _ _ _ _ (at_old _ _ _ _ (at_old _ _ _ _ (at_old _ _ _ _ (at_old _ _ _ _ k0.1)))), at_old _ _ _ _ (at_old _ _ _ _ (at_old _ _ _ _ (at_old _ _ _ _ k1.1))), at_old _ _ _ _ (at_old _ _ _ _ k3.1), k5.1, below_then (hb _ _) (below_then (hb _ _) (below_then (hb _ _) (below_then (hb _ _) (below_then (hb _ _) (hb _ _)))))⟩
theorem three (w : World) (o0 o1 o2 : Obj) : (((w.alloc o0).alloc o1).alloc o2).heap[w.heap.size]? = some o0 ∧ (((w.alloc o0).alloc o1).alloc o2).heap[w.heap.size + 1]? = some o1 ∧ (((w.alloc o0).alloc o1).alloc o2).heap[w.heap.size + 1 + 1]? = some o2 ∧ Below w.heap.size w (((w.alloc o0).alloc o1).alloc o2) := by
  have hb : ∀ (W : World) (o : Obj), Below W.heap.size W (W.alloc o) := fun W o => (Below.refl _ W).alloc (Nat.le_refl _) o
  have k0 := at_new w w 0 o0 rfl
  have k1 := at_new w _ 1 o1 k0.2
  have k2 := at_new w _ 2 o2 k1.2
  exact ⟨at_old _ _ _ _ (at_old _ _ _ _ k0.1), at_old _ _ _ _ k1.1, k2.1, below_then (hb _ _) (below_then (hb _ _) (hb _ _))⟩
theorem pa_in (g1 g2 g3 : Nat) : Cat.InC (paC g1 g2 g3) := by
  refine ⟨?_, fun b hb => ?_, ?_, fun y hy => (by cases hy), ?_, ?_, ?_, ?_⟩
  any_goals simp [I64]
  simp at hb
  rcases hb with rfl | rfl
  · exact ⟨by simp [I64], by simp [I64], by simp [I64], by simp [I64], by simp [I64], by simp [I64], fun t ht => by simp at ht; subst ht; simp [I64]⟩
  · exact ⟨by simp [I64], by simp [I64], by simp [I64], by simp [I64], by simp [I64], by simp [I64], fun t ht => by simp at ht; subst ht; simp [I64]⟩
set_option maxRecDepth 100000 in
set_option maxHeartbeats 4000000 in
theorem plain_in (w : World) : Calls Try.prog 21 #[] w fun e w' => ∃ g1 g2 g3, e = .returned (paC g1 g2 g3).v ∧ Hid (Cat.Fit w' (paC g1 g2 g3) ∧ Below w.heap.size w w') := by
  go_enter Try.func21, Try.ntmps21
  go_wp2_with fail
  obtain ⟨h0, h1, h3, h5, hb⟩ := six w (.cells #[.int .i64 3, .slice (some ⟨w.heap.size + 1 + 1 + 1 + 1 + 1, 0, none⟩) 2 2, .int .i64 1, .slice none 0 0, .int .i64 1, .int .i64 0, .int .i64 0, .int .i64 0] 27) (.cells #[.int .i64 1, .int .i64 3] 51)
    (.cells #[.int .i64 2, .int .i64 5, .int .i64 10, .slice (some ⟨w.heap.size + 1, 0, none⟩) 1 1, .int .i64 0, .int .i64 0, .int .i64 5] 54) (.cells #[.int .i64 2, .int .i64 2] 51)
    (.cells #[.int .i64 3, .int .i64 1, .int .i64 7, .slice (some ⟨w.heap.size + 1 + 1 + 1, 0, none⟩) 1 1, .int .i64 0, .int .i64 0, .int .i64 5] 54)
    (.cells #[.int .i64 2, .int .i64 5, .int .i64 10, .slice (some ⟨w.heap.size + 1, 0, none⟩) 1 1, .int .i64 0, .int .i64 0, .int .i64 5, .int .i64 3, .int .i64 1, .int .i64 7, .slice (some ⟨w.heap.size + 1 + 1 + 1, 0, none⟩) 1 1, .int .i64 0, .int .i64 0, .int .i64 5] 54)
  generalize World.alloc _ _ = W at *
  refine Cat.ret_cat (g := w.heap.size) rfl rfl rfl h0 ⟨w.heap.size + 1, w.heap.size + 1 + 1 + 1, w.heap.size + 1 + 1 + 1 + 1 + 1, rfl, Lib.hid ⟨⟨⟨⟨rfl, Cat.blues_lay [paA (w.heap.size + 1), paB (w.heap.size + 1 + 1 + 1)] h5 rfl, fun b hm => ?_⟩, rfl, fun i y hy => by simp at hy⟩, ⟨fun b hm => ?_, by show 2 ≤ 20; omega, by show 0 ≤ 12; omega⟩, pa_in _ _ _⟩, hb⟩⟩
  · simp at hm
    rcases hm with rfl | rfl
    · exact ⟨rfl, Cat.sts_lay [⟨1, 3⟩] h1 rfl⟩
    · exact ⟨rfl, Cat.sts_lay [⟨2, 2⟩] h3 rfl⟩
  · simp at hm
    rcases hm with rfl | rfl
    · show 1 ≤ 12
      omega
    · show 1 ≤ 12
      omega
abbrev paV (g3 : Nat) : Value := .agg #[.int .i64 3, .slice (some ⟨g3, 0, none⟩) 2 2, .int .i64 1, .slice none 0 0, .int .i64 1, .int .i64 0, .int .i64 0, .int .i64 0]
theorem i64_small {x : Int} (h : 0 ≤ x ∧ x ≤ 1125899906842624) : I64 x := by
  unfold I64
  omega
open Classical in
set_option maxRecDepth 100000 in
set_option maxHeartbeats 16000000 in
theorem awake_in (I : Impl) (w : World) : Calls Try.prog 8 #[] w fun e w' => e = .returned (.bool true) ∧ Below w.heap.size w w' := by
  have HPL0 : Hid (∀ W, Calls Try.prog 21 #[] W fun e w' => ∃ g1 g2 g3, e = .returned (.agg #[.int .i64 3, .slice (some ⟨g3, 0, none⟩) 2 2, .int .i64 1, .slice none 0 0, .int .i64 1, .int .i64 0, .int .i64 0, .int .i64 0]) ∧ Hid (Cat.Fit w' (paC g1 g2 g3) ∧ Below W.heap.size W w')) := Lib.hid fun W => plain_in W
  have HEX : Hid (∀ W g1 g2 g3, Cat.Fit W (paC g1 g2 g3) → Calls Try.prog 9 #[.agg #[.int .i64 3, .slice (some ⟨g3, 0, none⟩) 2 2, .int .i64 1, .slice none 0 0, .int .i64 1, .int .i64 0, .int .i64 0, .int .i64 0], .int .i64 3, .int .i64 1, .int .i64 0, .slice none 0 0] W fun e w' => ∃ b : BM, e = .returned (.tuple #[.agg #[.slice b.ra b.rn b.rc, .slice b.ua b.un b.uc, .slice b.la b.ln b.lc], .int .i64 0]) ∧ Hid (BomAt w' b ∧ (b.raw = [⟨1, 3⟩] ∧ b.rs = [1, 1] ∧ b.left = [⟨2, 3⟩]) ∧ Below W.heap.size W w')) := Lib.hid fun W g1 g2 g3 hW => by
    refine (I.expand (paC g1 g2 g3) 3 1 0 none 0 0 [] W hW rfl (sts_nil _) (by omega) (fun t ht => by cases ht) (by simp [I64]) (by simp [I64]) (by simp [I64])).mono ?_
    rintro e w' ⟨b, rfl, H⟩
    rw [pa_p, pa_exp.1]
    refine ⟨b, rfl, Lib.hid ⟨H.out.1, ?_, H.out.2.2⟩⟩
    have := H.out.2.1
    rw [pa_p] at this
    exact ⟨this.1.trans pa_exp.2.1, this.2.1.trans pa_exp.2.2.1, this.2.2.trans pa_exp.2.2.2⟩
  have HPA : Hid (∀ W g1 g2 g3, Cat.Fit W (paC g1 g2 g3) → Calls Try.prog 12 #[.agg #[.int .i64 3, .slice (some ⟨g3, 0, none⟩) 2 2, .int .i64 1, .slice none 0 0, .int .i64 1, .int .i64 0, .int .i64 0, .int .i64 0], .int .i64 3, .slice (some ⟨W.heap.size, 0, none⟩) 2 2, .int .i64 0] (W.alloc (.cells #[.int .i64 1, .int .i64 1] 3)) fun e w' => e = .returned (.tuple #[.int .i64 17, .int .i64 0]) ∧ Hid (Below W.heap.size W w')) := Lib.hid fun W g1 g2 g3 hW => by
    have hb := (Below.refl _ W).alloc (Nat.le_refl _) (.cells #[.int .i64 1, .int .i64 1] 3)
    have := I.path (paC g1 g2 g3) 3 (some ⟨W.heap.size, 0, none⟩) 2 2 [1, 1] 0 (W.alloc (.cells #[.int .i64 1, .int .i64 1] 3)) (hW.under hb) rfl (irow_lit [1, 1] (heap_alloc_new W (.cells #[.int .i64 1, .int .i64 1] 3)) rfl) (by omega) (fun x hx => by simp at hx; subst hx; simp [I64]) (by simp [I64]) (by simp [I64])
    rw [pa_p, pa_path.1, pa_path.2] at this
    exact this.mono fun _ _ ⟨e, h⟩ => ⟨e, Lib.hid (below_then hb h)⟩
  have HWH : Hid (∀ W g1 g2 g3, Cat.Fit W (paC g1 g2 g3) → Calls Try.prog 14 #[.agg #[.int .i64 3, .slice (some ⟨g3, 0, none⟩) 2 2, .int .i64 1, .slice none 0 0, .int .i64 1, .int .i64 0, .int .i64 0, .int .i64 0], .slice (some ⟨W.heap.size, 0, none⟩) 2 2, .int .i64 0] (W.alloc (.cells #[.int .i64 2, .int .i64 0] 3)) fun e w' => e = .returned (.tuple #[.int .i64 20, .int .i64 0]) ∧ Hid (Below W.heap.size W w')) := Lib.hid fun W g1 g2 g3 hW => by
    have hb := (Below.refl _ W).alloc (Nat.le_refl _) (.cells #[.int .i64 2, .int .i64 0] 3)
    have := I.whole (paC g1 g2 g3) (some ⟨W.heap.size, 0, none⟩) 2 2 [2, 0] 0 (W.alloc (.cells #[.int .i64 2, .int .i64 0] 3)) (hW.under hb) rfl (irow_lit [2, 0] (heap_alloc_new W (.cells #[.int .i64 2, .int .i64 0] 3)) rfl) (by omega) (fun x hx => by simp at hx; rcases hx with rfl | rfl <;> simp [I64]) (by simp [I64])
    rw [pa_p, pa_whole.1, pa_whole.2] at this
    exact this.mono fun _ _ ⟨e, h⟩ => ⟨e, Lib.hid (below_then hb h)⟩
  have HFI : Hid (∀ W g1 g2 g3 (n : Int) (t : Bool) (b : BM), Cat.Fit W (paC g1 g2 g3) → BomAt W b → b.raw = [⟨1, 3⟩] → b.rs = [1, 1] → (n = 1 ∧ t = true ∨ n = 2 ∧ t = false) → Calls Try.prog 16 #[.agg #[.int .i64 3, .slice (some ⟨g3, 0, none⟩) 2 2, .int .i64 1, .slice none 0 0, .int .i64 1, .int .i64 0, .int .i64 0, .int .i64 0], .int .i64 3, .int .i64 n, .int .i64 0, .slice b.ra b.rn b.rc, .slice b.ua b.un b.uc] W fun e w' => e = .returned (.bool t) ∧ Hid (Below W.heap.size W w')) := Lib.hid fun W g1 g2 g3 n t b hW hb h1 h2 ht => by
    have hr1 : b.rn = 1 := by rw [← hb.1.1, h1]; rfl
    have hr2 : b.un = 2 := by rw [← hb.2.1.1, h2]; rfl
    have := I.fits (paC g1 g2 g3) 3 n 0 b.ra b.rn b.rc [⟨1, 3⟩] b.ua b.un b.uc [1, 1] W hW hr1.symm (by rw [← h1]; exact hb.1.2.1) (by omega) (fun t ht => by simp at ht; subst ht; simp [I64]) hr2.symm (by rw [← h2]; exact hb.2.1.2.1) (by omega) (fun x hx => by simp at hx; subst hx; simp [I64]) (by simp [I64]) (by rcases ht with ⟨rfl, _⟩ | ⟨rfl, _⟩ <;> simp [I64]) (by simp [I64])
    rw [pa_p] at this
    rcases ht with ⟨rfl, rfl⟩ | ⟨rfl, rfl⟩
    · rw [decide_eq_true pa_fits] at this
      exact this.mono fun _ _ ⟨e, h⟩ => ⟨e, Lib.hid h⟩
    · rw [decide_eq_false pa_more] at this
      exact this.mono fun _ _ ⟨e, h⟩ => ⟨e, Lib.hid h⟩
  clear I
  go_enter Try.func8, Try.ntmps8
  go_wp2_with fail
  refine (HPL0.out w).mono ?_
  rintro e w1 ⟨g1, g2, g3, rfl, P1⟩
  go_wp2_with fail
  refine (HEX.out w1 g1 g2 g3 P1.out.1).mono ?_
  rintro e w2 ⟨b, rfl, P2⟩
  go_upto_region 2 with fail
  obtain ⟨V, X, hV, hX, HXB, HPX⟩ := box_bom w2 b
  have HX0 : Hid (Below w.heap.size w X ∧ BomAt X b) := Lib.hid ⟨below_then (below_then P1.out.2 P2.out.2.2) HXB.out, P2.out.1.under HXB.out⟩
  rw [hV, hX]
  clear hV hX
  go_wp2_with fail
  refine (HPL0.out X).mono ?_
  rintro e w3 ⟨g4, g5, g6, rfl, P3⟩
  go_wp2_with fail
  refine (HPA.out w3 g4 g5 g6 P3.out.1).mono ?_
  rintro e w4 ⟨rfl, P4⟩
  go_wp2_with fail
  refine (HPL0.out w4).mono ?_
  rintro e w5 ⟨g7, g8, g9, rfl, P5⟩
  go_wp2_with fail
  refine (HWH.out w5 g7 g8 g9 P5.out.1).mono ?_
  rintro e w6 ⟨rfl, P6⟩
  have HX6 : Hid (Below X.heap.size X w6) := Lib.hid (below_then P3.out.2 (below_then P4.out (below_then P5.out.2 P6.out)))
  have HCE : Hid (∀ W, Below X.heap.size X W → W.cell? ⟨V, 0, none⟩ = some (.slice b.ra b.rn b.rc) ∧ W.cell? ⟨V, 1, none⟩ = some (.slice b.ua b.un b.uc) ∧ W.cell? ⟨V, 2, none⟩ = some (.slice b.la b.ln b.lc)) := Lib.hid fun W hW => HPX.out W hW
  have HSA : Hid (∀ W B1 B2 B3, Below X.heap.size X W → W.heap[B1]? = some (.cells #[.int .i64 1, .int .i64 3] 51 (0, 0)) → W.heap[B2]? = some (.cells #[.int .i64 1, .int .i64 1] 3 (0, 0)) → W.heap[B3]? = some (.cells #[.int .i64 2, .int .i64 3] 51 (0, 0)) → Calls Try.prog 11 #[.agg #[.slice b.ra b.rn b.rc, .slice b.ua b.un b.uc, .slice b.la b.ln b.lc], .agg #[.slice (some ⟨B1, 0, none⟩) 1 1, .slice (some ⟨B2, 0, none⟩) 2 2, .slice (some ⟨B3, 0, none⟩) 1 1]] W fun e w' => e = .returned (.bool true) ∧ Hid (Below X.heap.size X w')) := Lib.hid fun W B1 B2 B3 hW h1 h2 h3 => by
    have := dsameB b ⟨some ⟨B1, 0, none⟩, 1, 1, [⟨1, 3⟩], some ⟨B2, 0, none⟩, 2, 2, [1, 1], some ⟨B3, 0, none⟩, 1, 1, [⟨2, 3⟩]⟩ W (HX0.out.2.under hW) ⟨⟨rfl, Cat.sts_lay [⟨1, 3⟩] h1 rfl, by show 1 ≤ 1048576; omega⟩, ⟨rfl, irow_lit [1, 1] h2 rfl, by show 2 ≤ 1048576; omega⟩, rfl, Cat.sts_lay [⟨2, 3⟩] h3 rfl, by show 1 ≤ 1048576; omega⟩
    rw [decide_eq_true (show SameB b ⟨some ⟨B1, 0, none⟩, 1, 1, [⟨1, 3⟩], some ⟨B2, 0, none⟩, 2, 2, [1, 1], some ⟨B3, 0, none⟩, 1, 1, [⟨2, 3⟩]⟩ from P2.out.2.1)] at this
    exact this.mono fun _ _ ⟨e, h⟩ => ⟨e, Lib.hid (below_then hW h)⟩
  have HPL : Hid (∀ W, Below X.heap.size X W → Calls Try.prog 21 #[] W fun e w' => ∃ g1 g2 g3, e = .returned (.agg #[.int .i64 3, .slice (some ⟨g3, 0, none⟩) 2 2, .int .i64 1, .slice none 0 0, .int .i64 1, .int .i64 0, .int .i64 0, .int .i64 0]) ∧ Hid (Cat.Fit w' (paC g1 g2 g3) ∧ Below X.heap.size X w')) := Lib.hid fun W hW => (HPL0.out W).mono fun _ _ ⟨g1, g2, g3, e, h⟩ => ⟨g1, g2, g3, e, Lib.hid ⟨h.out.1, below_then hW h.out.2⟩⟩
  have HF1 : Hid (∀ W g1 g2 g3, Cat.Fit W (paC g1 g2 g3) ∧ Below X.heap.size X W → Calls Try.prog 16 #[.agg #[.int .i64 3, .slice (some ⟨g3, 0, none⟩) 2 2, .int .i64 1, .slice none 0 0, .int .i64 1, .int .i64 0, .int .i64 0, .int .i64 0], .int .i64 3, .int .i64 1, .int .i64 0, .slice b.ra b.rn b.rc, .slice b.ua b.un b.uc] W fun e w' => e = .returned (.bool true) ∧ Hid (Below X.heap.size X w')) := Lib.hid fun W g1 g2 g3 h => (HFI.out W g1 g2 g3 1 true b h.1 (HX0.out.2.under h.2) P2.out.2.1.1 P2.out.2.1.2.1 (.inl ⟨rfl, rfl⟩)).mono fun _ _ ⟨e, k⟩ => ⟨e, Lib.hid (below_then h.2 k.out)⟩
  have HF2 : Hid (∀ W g1 g2 g3, Cat.Fit W (paC g1 g2 g3) ∧ Below X.heap.size X W → Calls Try.prog 16 #[.agg #[.int .i64 3, .slice (some ⟨g3, 0, none⟩) 2 2, .int .i64 1, .slice none 0 0, .int .i64 1, .int .i64 0, .int .i64 0, .int .i64 0], .int .i64 3, .int .i64 2, .int .i64 0, .slice b.ra b.rn b.rc, .slice b.ua b.un b.uc] W fun e w' => e = .returned (.bool false) ∧ Hid (Below X.heap.size X w')) := Lib.hid fun W g1 g2 g3 h => (HFI.out W g1 g2 g3 2 false b h.1 (HX0.out.2.under h.2) P2.out.2.1.1 P2.out.2.1.2.1 (.inr ⟨rfl, rfl⟩)).mono fun _ _ ⟨e, k⟩ => ⟨e, Lib.hid (below_then h.2 k.out)⟩
  have HKA : Hid (∀ W o, Below X.heap.size X W → Below X.heap.size X (W.alloc o)) := Lib.hid fun W o h => below_then h ((Below.refl _ W).alloc (Nat.le_refl _) o)
  have D0 : Below X.heap.size X w6.drew := HX6.out.drew
  have HS0 : Hid (Calls Try.prog 11 #[.agg #[.slice b.ra b.rn b.rc, .slice b.ua b.un b.uc, .slice b.la b.ln b.lc], .agg #[.slice (some ⟨w6.heap.size, 0, none⟩) 1 1, .slice (some ⟨w6.heap.size + 1, 0, none⟩) 2 2, .slice (some ⟨w6.heap.size + 1 + 1, 0, none⟩) 1 1]] (((w6.alloc (.cells #[.int .i64 1, .int .i64 3] 51)).alloc (.cells #[.int .i64 1, .int .i64 1] 3)).alloc (.cells #[.int .i64 2, .int .i64 3] 51)).drew fun e w' => e = .returned (.bool true) ∧ Hid (Below X.heap.size X w')) := Lib.hid (HSA.out _ _ _ _ (below_then HX6.out (three w6 _ _ _).2.2.2).drew (three w6 _ _ _).1 (three w6 _ _ _).2.1 (three w6 _ _ _).2.2.1)
  have HS1 : Hid (Calls Try.prog 11 #[.agg #[.slice b.ra b.rn b.rc, .slice b.ua b.un b.uc, .slice b.la b.ln b.lc], .agg #[.slice (some ⟨w6.heap.size, 0, none⟩) 1 1, .slice (some ⟨w6.heap.size + 1 + 1, 0, none⟩) 2 2, .slice (some ⟨w6.heap.size + 1, 0, none⟩) 1 1]] (((w6.alloc (.cells #[.int .i64 1, .int .i64 3] 51)).alloc (.cells #[.int .i64 2, .int .i64 3] 51)).alloc (.cells #[.int .i64 1, .int .i64 1] 3)).drew fun e w' => e = .returned (.bool true) ∧ Hid (Below X.heap.size X w')) := Lib.hid (HSA.out _ _ _ _ (below_then HX6.out (three w6 _ _ _).2.2.2).drew (three w6 _ _ _).1 (three w6 _ _ _).2.2.1 (three w6 _ _ _).2.1)
  have HS2 : Hid (Calls Try.prog 11 #[.agg #[.slice b.ra b.rn b.rc, .slice b.ua b.un b.uc, .slice b.la b.ln b.lc], .agg #[.slice (some ⟨w6.heap.size + 1, 0, none⟩) 1 1, .slice (some ⟨w6.heap.size, 0, none⟩) 2 2, .slice (some ⟨w6.heap.size + 1 + 1, 0, none⟩) 1 1]] (((w6.alloc (.cells #[.int .i64 1, .int .i64 1] 3)).alloc (.cells #[.int .i64 1, .int .i64 3] 51)).alloc (.cells #[.int .i64 2, .int .i64 3] 51)).drew fun e w' => e = .returned (.bool true) ∧ Hid (Below X.heap.size X w')) := Lib.hid (HSA.out _ _ _ _ (below_then HX6.out (three w6 _ _ _).2.2.2).drew (three w6 _ _ _).2.1 (three w6 _ _ _).1 (three w6 _ _ _).2.2.1)
  have HS3 : Hid (Calls Try.prog 11 #[.agg #[.slice b.ra b.rn b.rc, .slice b.ua b.un b.uc, .slice b.la b.ln b.lc], .agg #[.slice (some ⟨w6.heap.size + 1 + 1, 0, none⟩) 1 1, .slice (some ⟨w6.heap.size, 0, none⟩) 2 2, .slice (some ⟨w6.heap.size + 1, 0, none⟩) 1 1]] (((w6.alloc (.cells #[.int .i64 1, .int .i64 1] 3)).alloc (.cells #[.int .i64 2, .int .i64 3] 51)).alloc (.cells #[.int .i64 1, .int .i64 3] 51)).drew fun e w' => e = .returned (.bool true) ∧ Hid (Below X.heap.size X w')) := Lib.hid (HSA.out _ _ _ _ (below_then HX6.out (three w6 _ _ _).2.2.2).drew (three w6 _ _ _).2.2.1 (three w6 _ _ _).1 (three w6 _ _ _).2.1)
  have HS4 : Hid (Calls Try.prog 11 #[.agg #[.slice b.ra b.rn b.rc, .slice b.ua b.un b.uc, .slice b.la b.ln b.lc], .agg #[.slice (some ⟨w6.heap.size + 1, 0, none⟩) 1 1, .slice (some ⟨w6.heap.size + 1 + 1, 0, none⟩) 2 2, .slice (some ⟨w6.heap.size, 0, none⟩) 1 1]] (((w6.alloc (.cells #[.int .i64 2, .int .i64 3] 51)).alloc (.cells #[.int .i64 1, .int .i64 3] 51)).alloc (.cells #[.int .i64 1, .int .i64 1] 3)).drew fun e w' => e = .returned (.bool true) ∧ Hid (Below X.heap.size X w')) := Lib.hid (HSA.out _ _ _ _ (below_then HX6.out (three w6 _ _ _).2.2.2).drew (three w6 _ _ _).2.1 (three w6 _ _ _).2.2.1 (three w6 _ _ _).1)
  have HS5 : Hid (Calls Try.prog 11 #[.agg #[.slice b.ra b.rn b.rc, .slice b.ua b.un b.uc, .slice b.la b.ln b.lc], .agg #[.slice (some ⟨w6.heap.size + 1 + 1, 0, none⟩) 1 1, .slice (some ⟨w6.heap.size + 1, 0, none⟩) 2 2, .slice (some ⟨w6.heap.size, 0, none⟩) 1 1]] (((w6.alloc (.cells #[.int .i64 2, .int .i64 3] 51)).alloc (.cells #[.int .i64 1, .int .i64 1] 3)).alloc (.cells #[.int .i64 1, .int .i64 3] 51)).drew fun e w' => e = .returned (.bool true) ∧ Hid (Below X.heap.size X w')) := Lib.hid (HSA.out _ _ _ _ (below_then HX6.out (three w6 _ _ _).2.2.2).drew (three w6 _ _ _).2.2.1 (three w6 _ _ _).2.1 (three w6 _ _ _).1)
  clear P1 P3 P4 P5 P6 HPL0 HEX HPA HWH HFI HSA
  go_wp2_with fail
  go_region_held3 (fun W => W.cell? ⟨V, 0, none⟩ = some (.slice b.ra b.rn b.rc) ∧ W.cell? ⟨V, 1, none⟩ = some (.slice b.ua b.un b.uc) ∧ W.cell? ⟨V, 2, none⟩ = some (.slice b.la b.ln b.lc))
    (first
      | exact HCE.out _ D0
      | exact HCE.out _ HX6.out
      | exact HCE.out _ (HKA.out _ _ HX6.out)
      | exact HCE.out _ (HKA.out _ _ HX6.out).drew
      | exact HCE.out _ (HKA.out _ _ (HKA.out _ _ HX6.out)).drew
      | exact HCE.out _ (HKA.out _ _ (HKA.out _ _ HX6.out))
      | exact HCE.out _ (HKA.out _ _ (HKA.out _ _ (HKA.out _ _ HX6.out)))
      | exact HCE.out _ (HKA.out _ _ (HKA.out _ _ (HKA.out _ _ HX6.out))).drew
      | exact HCE.out _ H8.out
      | exact HCE.out _ P9.out.2
      | exact HCE.out _ HA.out
      | exact HCE.out _ PB.out.2
      | exact HCE.out _ HC.out
      | fail)
    (first
      | (go_at_call 11; with_reducible (refine HS0.out.mono ?_); rintro e w8 ⟨rfl, H8⟩)
      | (go_at_call 11; with_reducible (refine HS1.out.mono ?_); rintro e w8 ⟨rfl, H8⟩)
      | (go_at_call 11; with_reducible (refine HS2.out.mono ?_); rintro e w8 ⟨rfl, H8⟩)
      | (go_at_call 11; with_reducible (refine HS3.out.mono ?_); rintro e w8 ⟨rfl, H8⟩)
      | (go_at_call 11; with_reducible (refine HS4.out.mono ?_); rintro e w8 ⟨rfl, H8⟩)
      | (go_at_call 11; with_reducible (refine HS5.out.mono ?_); rintro e w8 ⟨rfl, H8⟩)
      | (go_at_call 21; with_reducible (refine (HPL.out _ H8.out).mono ?_); rintro e w9 ⟨h1, h2, h3, rfl, P9⟩)
      | (go_at_call 21; with_reducible (refine (HPL.out _ HA.out).mono ?_); rintro e wB ⟨h4, h5, h6, rfl, PB⟩)
      | (go_at_call 16; with_reducible (refine (HF1.out _ _ _ _ P9.out).mono ?_); rintro e wA ⟨rfl, HA⟩)
      | (go_at_call 16; with_reducible (refine (HF2.out _ _ _ _ PB.out).mono ?_); rintro e wC ⟨rfl, HC⟩)
      | fail)
  all_goals
    go_wp2_with fail
    go_ret
    exact ⟨rfl, below_then HX0.out.1 HC.out⟩
end Go.Proofs.Ytohlkaoophbinaa.Bom
