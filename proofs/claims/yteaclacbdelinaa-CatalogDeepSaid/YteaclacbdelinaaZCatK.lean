/- What the laws ask of the program's catalogues; orders by reckoning; the catalogue of what must come. The catalogue of what must come. What must come, whatever the arguments are. -/
import Derived.Test.YteaclacbdelinaaZCatG
import Derived.Test.YteaclacbdelinaaZCatJ
import Derived.Test.YteaclacbdelinaaZCatC
import Derived.Test.YteaclacbdelinaaZCatOrd
namespace Go.Proofs.Yteaclacbdelinaa.Cat
open Go.RowKit Go.Lib
open Goods (St Sts OwnS)
open Recipe (BlIn blV)
open Graph (Nd Nds OwnN)

/-- The program's functions answer in the document's words. -/
structure Impl : Prop where
  check : ∀ (C : CM) (w : World), Fit w C → Calls Try.prog 14 #[C.v] w fun e w' => e = .returned (.int .i64 (chkC C.p)) ∧ Below w.heap.size w w'
  needs : ∀ (C : CM) (w : World), Fit w C → Calls Try.prog 8 #[C.v] w fun e w' => ∃ a n c, e = .returned (.slice a n c) ∧ Hid ((ndL C.p.bs).length = n ∧ n ≤ 240 ∧ OwnN w' w.heap.size (.slice a n c) (ndL C.p.bs) ∧ Below w.heap.size w w')
  maker : ∀ (C : CM) (k : Int) (w : World), Fit w C → I64 k → Calls Try.prog 16 #[C.v, .int .i64 k] w fun e w' => e = .returned (.int .i64 (mkr k C.p.bs 0)) ∧ Below w.heap.size w w'
  blue : ∀ (C : CM) (n : Int) (w : World), Fit w C → I64 n → Calls Try.prog 10 #[C.v, .int .i64 n] w fun e w' => ∃ b : Recipe.Bl, e = .returned (.tuple #[blV b, .int .i64 (bluE C.p n)]) ∧ Hid (pOf b = bluV C.p n ∧ b.s.length = b.sm ∧ Sts w' b.sa b.s ∧ Below w.heap.size w w')
  bay : ∀ (C : CM) (n : Int) (w : World), Fit w C → I64 n → Calls Try.prog 12 #[C.v, .int .i64 n] w fun e w' => e = .returned (.tuple #[baV (bayV C.p n), .int .i64 (bayE C.p n)]) ∧ Below w.heap.size w w'
  put : ∀ (C : CM) (w : World), Fit w C → Calls Try.prog 19 #[C.v] w fun e w' => e = .returned (.tuple #[.string (putV C.p), .int .i64 (putE C.p)]) ∧ Below w.heap.size w w'
  take : ∀ (S : ByteArray) (w : World), S.size ≤ 1048576 → Calls Try.prog 21 #[.string S] w fun e w' => ∃ C : CM, e = .returned (.tuple #[C.v, .int .i64 (takE S)]) ∧ Hid (C.p = takV S ∧ CatAt w' C ∧ Lim C ∧ Below w.heap.size w w')
end Go.Proofs.Yteaclacbdelinaa.Cat
namespace Go.Proofs.Yteaclacbdelinaa.Cat
open Go.RowKit Go.Lib
open Goods (St Sts OwnS)
open Recipe (BlIn blV)
open Graph (Nd Nds OwnN)

abbrev plB (g : Nat) : Recipe.Bl := ⟨3, 1, 10, some ⟨g, 0, none⟩, 2, 2, [⟨1, 2⟩, ⟨2, 1⟩], 0, 0, 5⟩
abbrev plC (g1 g2 g3 : Nat) : CM := ⟨3, some ⟨g2, 0, none⟩, 1, 1, [plB g1], 1, some ⟨g3, 0, none⟩, 1, 1, [⟨1, 1, 0, 0⟩], 2, ⟨0, 0, 0⟩⟩
abbrev plV (g2 g3 : Nat) : Value := .agg #[.int .i64 3, .slice (some ⟨g2, 0, none⟩) 1 1, .int .i64 1, .slice (some ⟨g3, 0, none⟩) 1 1, .int .i64 2, .int .i64 0, .int .i64 0, .int .i64 0]
abbrev rdB (g : Nat) : Recipe.Bl := ⟨1, 1, 1, some ⟨g, 0, none⟩, 1, 1, [⟨3, 1⟩], 0, 0, 1⟩
abbrev rdC (g1 g4 : Nat) (a : Option Addr) (c g3 : Nat) : CM := ⟨3, a, 2, c, [plB g1, rdB g4], 1, some ⟨g3, 0, none⟩, 1, 1, [⟨1, 1, 0, 0⟩], 2, ⟨0, 0, 0⟩⟩
theorem pl_listed : Goods.Listed [⟨1, 2⟩, ⟨2, 1⟩] 3 ∧ ¬ 0 < Goods.cnt (Goods.valN [⟨1, 2⟩, ⟨2, 1⟩]) 3 := by
  have hN : Goods.Norm [⟨1, 2⟩, ⟨2, 1⟩] := ⟨(by show List.Pairwise (fun s t : St => s.kind < t.kind) _; simp), fun s hs => by simp at hs; rcases hs with rfl | rfl <;> decide, fun s hs => by simp at hs; rcases hs with rfl | rfl <;> decide⟩
  have hov : ¬ Goods.Over [⟨1, 2⟩, ⟨2, 1⟩] := by
    rintro ⟨j, hj⟩
    have h1 : Goods.cnt [⟨1, 2⟩, ⟨2, 1⟩] j ≤ 3 := by
      simp only [Goods.cnt]
      split <;> split <;> omega
    unfold Goods.mq at hj
    omega
  have he := Goods.errN_ok (Goods.fine_norm hN) hov
  have hn := Goods.nl_norm hN
  refine ⟨⟨by simp, he, hn, fun s hs => by simp at hs; rcases hs with rfl | rfl <;> decide⟩, ?_⟩
  rw [Goods.valN_ok he, hn, Goods.cnt_none fun s hs => by simp at hs; rcases hs with rfl | rfl <;> decide]
  omega
theorem pl_ok (g : Nat) : Recipe.BlOk (pOf (plB g)).b 3 := by
  refine ⟨⟨by omega, by omega⟩, ⟨?_, ?_⟩, ⟨?_, ?_⟩, ⟨?_, ?_⟩, ⟨?_, ?_⟩, ⟨?_, ?_⟩, ⟨?_, ?_⟩, pl_listed.1, pl_listed.2⟩ <;> simp [pOf, PB.b]
theorem rd_ok (g : Nat) : Recipe.BlOk (pOf (rdB g)).b 3 := by
  have h := one_listed (k := 3) (ty := 3) (o := 1) (by omega) (by omega) (by omega)
  refine ⟨⟨by omega, by omega⟩, ⟨?_, ?_⟩, ⟨?_, ?_⟩, ⟨?_, ?_⟩, ⟨?_, ?_⟩, ⟨?_, ?_⟩, ⟨?_, ?_⟩, h.1, h.2⟩ <;> simp [pOf, PB.b]
theorem plc_ok (g1 g2 g3 : Nat) : CatOk (plC g1 g2 g3).p := by
  refine ⟨⟨⟨?_, ?_⟩, ⟨?_, ?_⟩, ⟨?_, ?_⟩, ?_, ?_, ?_⟩, fun b hb => ?_, fun y hy => ?_⟩
  any_goals simp [CM.p]
  · simp [Fee.FeeOk]
  · simp [CM.p] at hb
    subst hb
    exact pl_ok g1
  · simp [CM.p] at hy
    subst hy
    simp [BaOk]
theorem rdc_ok (g1 g4 : Nat) (a : Option Addr) (c g3 : Nat) : CatOk (rdC g1 g4 a c g3).p := by
  refine ⟨⟨⟨?_, ?_⟩, ⟨?_, ?_⟩, ⟨?_, ?_⟩, ?_, ?_, ?_⟩, fun b hb => ?_, fun y hy => ?_⟩
  any_goals simp [CM.p]
  · simp [Fee.FeeOk]
  · simp [CM.p] at hb
    rcases hb with rfl | rfl
    · exact pl_ok g1
    · exact rd_ok g4
  · simp [CM.p] at hy
    subst hy
    simp [BaOk]
theorem pl_chk (g1 g2 g3 : Nat) : chkC (plC g1 g2 g3).p = 0 := by
  have hl : ndL (plC g1 g2 g3).p.bs = [⟨3, 1⟩, ⟨3, 2⟩] := rfl
  rw [chk_gC (plc_ok g1 g2 g3) (by
    rw [hl]
    refine ⟨⟨?_, ?_⟩, by simp, fun t ht => ?_⟩
    · simp [CM.p]
    · simp [CM.p]
    · simp at ht
      rcases ht with rfl | rfl <;> simp [Graph.OkNd, CM.p]), hl]
  show gC 3 [⟨3, 1⟩, ⟨3, 2⟩] = 0
  decide +kernel
theorem rd_chk (g1 g4 : Nat) (a : Option Addr) (c g3 : Nat) : chkC (rdC g1 g4 a c g3).p = 9 := by
  have hl : ndL (rdC g1 g4 a c g3).p.bs = [⟨3, 1⟩, ⟨3, 2⟩, ⟨1, 3⟩] := rfl
  rw [chk_gC (rdc_ok g1 g4 a c g3) (by
    rw [hl]
    refine ⟨⟨?_, ?_⟩, by simp, fun t ht => ?_⟩
    · simp [CM.p]
    · simp [CM.p]
    · simp at ht
      rcases ht with rfl | rfl | rfl <;> simp [Graph.OkNd, CM.p]), hl]
  show gC 3 [⟨3, 1⟩, ⟨3, 2⟩, ⟨1, 3⟩] = 9
  decide +kernel
theorem pl_put (g1 g2 g3 : Nat) : putE (plC g1 g2 g3).p = 0 ∧ putV (plC g1 g2 g3).p = ⟨#[3, 1, 3, 1, 10, 2, 1, 2, 2, 1, 0, 0, 5, 1, 1, 1, 1, 0, 0, 2, 0, 0, 0]⟩ := by
  have h := put_yes (pl_chk g1 g2 g3)
  refine ⟨h.2, h.1.trans ?_⟩
  show numsB [3, 1, 3, 1, 10, 2, 1, 2, 2, 1, 0, 0, 5, 1, 1, 1, 1, 0, 0, 2, 0, 0, 0] = _
  decide +kernel
theorem pl_in (g1 g2 g3 : Nat) : InC (plC g1 g2 g3) := by
  refine ⟨?_, fun b hb => ?_, ?_, fun y hy => ?_, ?_, ?_, ?_, ?_⟩
  any_goals simp [I64]
  · simp at hb
    subst hb
    exact ⟨by simp [I64], by simp [I64], by simp [I64], by simp [I64], by simp [I64], by simp [I64], fun t ht => by simp at ht; rcases ht with rfl | rfl <;> simp [I64]⟩
  · simp at hy
    subst hy
    exact ⟨by simp [I64], by simp [I64], by simp [I64], by simp [I64]⟩
theorem rd_in (g1 g4 : Nat) (a : Option Addr) (c g3 : Nat) : InC (rdC g1 g4 a c g3) := by
  refine ⟨?_, fun b hb => ?_, ?_, fun y hy => ?_, ?_, ?_, ?_, ?_⟩
  any_goals simp [I64]
  · simp at hb
    rcases hb with rfl | rfl
    · exact ⟨by simp [I64], by simp [I64], by simp [I64], by simp [I64], by simp [I64], by simp [I64], fun t ht => by simp at ht; rcases ht with rfl | rfl <;> simp [I64]⟩
    · exact ⟨by simp [I64], by simp [I64], by simp [I64], by simp [I64], by simp [I64], by simp [I64], fun t ht => by simp at ht; subst ht; simp [I64]⟩
  · simp at hy
    subst hy
    exact ⟨by simp [I64], by simp [I64], by simp [I64], by simp [I64]⟩
theorem five (w : World) (o0 o1 o2 o3 o4 : Obj) : ((((((w.alloc o0).alloc o1).alloc o2).alloc o3).alloc o4).heap[w.heap.size]? = some o0) ∧ ((((((w.alloc o0).alloc o1).alloc o2).alloc o3).alloc o4).heap[w.heap.size + 1]? = some o1) ∧ ((((((w.alloc o0).alloc o1).alloc o2).alloc o3).alloc o4).heap[w.heap.size + 1 + 1 + 1]? = some o3) ∧ ((((((w.alloc o0).alloc o1).alloc o2).alloc o3).alloc o4).heap[w.heap.size + 1 + 1 + 1 + 1]? = some o4) ∧ Below w.heap.size w (((((w.alloc o0).alloc o1).alloc o2).alloc o3).alloc o4) := by
  have hs : ∀ (W : World) (o : Obj), (W.alloc o).heap.size = W.heap.size + 1 := fun W o => by simp
  have hb : ∀ (W : World) (o : Obj), Below W.heap.size W (W.alloc o) := fun W o => (Below.refl _ W).alloc (Nat.le_refl _) o
  have k1 := hs w o0
  have k2 := hs (w.alloc o0) o1
  have k3 := hs ((w.alloc o0).alloc o1) o2
  have k4 := hs (((w.alloc o0).alloc o1).alloc o2) o3
  have a0 := heap_alloc_new w o0
  have a1 := heap_alloc_new (w.alloc o0) o1
  have a3 := heap_alloc_new (((w.alloc o0).alloc o1).alloc o2) o3
  have a4 := heap_alloc_new ((((w.alloc o0).alloc o1).alloc o2).alloc o3) o4
  have b1 := hb (w.alloc o0) o1
  have b2 := hb ((w.alloc o0).alloc o1) o2
  have b3 := hb (((w.alloc o0).alloc o1).alloc o2) o3
  have b4 := hb ((((w.alloc o0).alloc o1).alloc o2).alloc o3) o4
  rw [k1] at a1
  rw [k3, k2, k1] at a3
  rw [k4, k3, k2, k1] at a4
  refine ⟨?_, ?_, ?_, a4, below_then (hb w o0) (below_then b1 (below_then b2 (below_then b3 b4)))⟩
  · exact (b4.block _ (by omega)).trans ((b3.block _ (by omega)).trans ((b2.block _ (by omega)).trans ((b1.block _ (by omega)).trans a0)))
  · exact (b4.block _ (by omega)).trans ((b3.block _ (by omega)).trans ((b2.block _ (by omega)).trans a1))
  · exact (b4.block _ (by omega)).trans a3
set_option maxRecDepth 100000 in
set_option maxHeartbeats 4000000 in
theorem plain_in (w : World) : Calls Try.prog 24 #[] w fun e w' => ∃ g1 g2 g3, e = .returned (plV g2 g3) ∧ Hid (Fit w' (plC g1 g2 g3) ∧ OwnB w' w.heap.size (.slice (some ⟨g2, 0, none⟩) 1 1) [plB g1] ∧ (w.heap.size ≤ g1 ∧ g1 < g2 ∧ g2 < g3 ∧ g3 < w'.heap.size) ∧ Below w.heap.size w w') := by
  go_enter Try.func24, Try.ntmps24
  go_wp2_with fail
  obtain ⟨h0, h1, h3, h4, hb⟩ := five w (.cells #[.int .i64 3, .slice (some ⟨w.heap.size + 1 + 1 + 1, 0, none⟩) 1 1, .int .i64 1, .slice (some ⟨w.heap.size + 1 + 1 + 1 + 1, 0, none⟩) 1 1, .int .i64 2, .int .i64 0, .int .i64 0, .int .i64 0] 27) (.cells #[.int .i64 1, .int .i64 2, .int .i64 2, .int .i64 1] 54) (.cells #[.int .i64 3, .int .i64 1, .int .i64 10, .slice (some ⟨w.heap.size + 1, 0, none⟩) 2 2, .int .i64 0, .int .i64 0, .int .i64 5] 35) (.cells #[.int .i64 3, .int .i64 1, .int .i64 10, .slice (some ⟨w.heap.size + 1, 0, none⟩) 2 2, .int .i64 0, .int .i64 0, .int .i64 5] 35) (.cells #[.int .i64 1, .int .i64 1, .int .i64 0, .int .i64 0] 40)
  generalize World.alloc _ _ = W at *
  refine ret_cat (g := w.heap.size) rfl rfl rfl h0 ⟨w.heap.size + 1, w.heap.size + 1 + 1 + 1, w.heap.size + 1 + 1 + 1 + 1, rfl, Lib.hid ⟨⟨⟨⟨rfl, blues_lay [plB (w.heap.size + 1)] h3 rfl, fun b hm => ?_⟩, rfl, bays_lay [⟨1, 1, 0, 0⟩] h4 rfl⟩, ⟨fun b hm => ?_, by show 1 ≤ 20; omega, by show 1 ≤ 12; omega⟩, pl_in _ _ _⟩, ?_, ⟨by omega, by omega, by omega, (Array.getElem?_eq_some_iff.1 h4).1⟩, hb⟩⟩
  · rw [List.mem_singleton.1 hm]
    exact ⟨rfl, sts_lay [⟨1, 2⟩, ⟨2, 1⟩] h1 rfl⟩
  · rw [List.mem_singleton.1 hm]
    show 2 ≤ 12
    omega
  · exact ⟨rfl, .inr ⟨_, 1, _, rfl, by omega, h3, by show 1 ≤ 1; omega, by unfold maxLen; omega, rfl, rfl⟩⟩
end Go.Proofs.Yteaclacbdelinaa.Cat
namespace Go.Proofs.Yteaclacbdelinaa.Cat
open Go.RowKit Go.Lib
open Goods (St Sts OwnS)
open Recipe (BlIn blV)
open Graph (Nd Nds OwnN)

theorem pl_take : takE ⟨#[3, 1, 3, 1, 10, 2, 1, 2, 2, 1, 0, 0, 5, 1, 1, 1, 1, 0, 0, 2, 0, 0, 0]⟩ = 0 ∧ takV ⟨#[3, 1, 3, 1, 10, 2, 1, 2, 2, 1, 0, 0, 5, 1, 1, 1, 1, 0, 0, 2, 0, 0, 0]⟩ = (plC 0 0 0).p := by
  have h := tak_put (pl_put 0 0 0).1
  rw [(pl_put 0 0 0).2] at h
  exact h
set_option maxRecDepth 100000 in
set_option maxHeartbeats 8000000 in
theorem awake_in (I : Impl) (w : World) : Calls Try.prog 7 #[] w fun e w' => e = .returned (.bool true) ∧ Below w.heap.size w w' := by
  go_enter Try.func7, Try.ntmps7
  go_wp2_with fail
  refine (plain_in w).mono ?_
  rintro e w1 ⟨g1, g2, g3, rfl, P1⟩
  go_upto_region 2 with fail
  obtain ⟨V1, hV1⟩ : ∃ V, w1.heap.size = V := ⟨_, rfl⟩
  obtain ⟨X1, hX1⟩ : ∃ X, w1.alloc (.cells #[.int .i64 3, .slice (some ⟨g2, 0, none⟩) 1 1, .int .i64 1, .slice (some ⟨g3, 0, none⟩) 1 1, .int .i64 2, .int .i64 0, .int .i64 0, .int .i64 0] 27) = X := ⟨_, rfl⟩
  have HX1 : Hid (Below w1.heap.size w1 X1 ∧ X1.heap[V1]? = some (.cells #[.int .i64 3, .slice (some ⟨g2, 0, none⟩) 1 1, .int .i64 1, .slice (some ⟨g3, 0, none⟩) 1 1, .int .i64 2, .int .i64 0, .int .i64 0, .int .i64 0] 27 (0, 0))) := Lib.hid ⟨by rw [← hX1]; exact (Below.refl _ w1).alloc (Nat.le_refl _) _, by rw [← hX1, ← hV1]; exact heap_alloc_new w1 _⟩
  rw [hX1, hV1]
  clear hX1 hV1
  have HC1 : Hid (∀ W, Below X1.heap.size X1 W → W.heap[V1]? = some (.cells #[.int .i64 3, .slice (some ⟨g2, 0, none⟩) 1 1, .int .i64 1, .slice (some ⟨g3, 0, none⟩) 1 1, .int .i64 2, .int .i64 0, .int .i64 0, .int .i64 0] 27 (0, 0))) := Lib.hid fun W hW => (hW.block V1 (Array.getElem?_eq_some_iff.1 HX1.out.2).1).trans HX1.out.2
  have HF1 : Hid (∀ W, Below X1.heap.size X1 W → Fit W (plC g1 g2 g3)) := Lib.hid fun W hW => (P1.out.1.under HX1.out.1).under hW
  have HW1 : Hid (∀ W, Below X1.heap.size X1 W → Below w.heap.size w W) := Lib.hid fun W hW => below_then P1.out.2.2.2 (below_then HX1.out.1 hW)
  have HPUT : Hid (Calls Try.prog 19 #[.agg #[.int .i64 3, .slice (some ⟨g2, 0, none⟩) 1 1, .int .i64 1, .slice (some ⟨g3, 0, none⟩) 1 1, .int .i64 2, .int .i64 0, .int .i64 0, .int .i64 0]] X1 fun e w' => e = .returned (.tuple #[.string ⟨#[3, 1, 3, 1, 10, 2, 1, 2, 2, 1, 0, 0, 5, 1, 1, 1, 1, 0, 0, 2, 0, 0, 0]⟩, .int .i64 0]) ∧ Hid (Below X1.heap.size X1 w')) := Lib.hid (by
    have := I.put (plC g1 g2 g3) X1 (HF1.out X1 (Below.refl _ _))
    rw [(pl_put g1 g2 g3).1, (pl_put g1 g2 g3).2] at this
    exact this.mono fun _ _ ⟨e, h⟩ => ⟨e, Lib.hid h⟩)
  obtain ⟨⟨k0, k1, k2, k3, k4, k5, k6, k7⟩, _⟩ := blk8 HX1.out.2
  go_wp2_with fail
  refine HPUT.out.mono ?_
  rintro e w2 ⟨rfl, B2⟩
  clear k0 k1 k2 k3 k4 k5 k6 k7
  have HTAKE : Hid (Calls Try.prog 21 #[.string ⟨#[3, 1, 3, 1, 10, 2, 1, 2, 2, 1, 0, 0, 5, 1, 1, 1, 1, 0, 0, 2, 0, 0, 0]⟩] w2 fun e w' => ∃ D : CM, e = .returned (.tuple #[.agg #[.int .i64 D.ty, .slice D.ba D.bn D.bc, .int .i64 D.pl, .slice D.ya D.yn D.yc, .int .i64 D.ch, .int .i64 D.f.broker, .int .i64 D.f.least, .int .i64 D.f.sales], .int .i64 0]) ∧ Hid (D.p = (plC g1 g2 g3).p ∧ CatAt w' D ∧ Lim D ∧ Below w2.heap.size w2 w')) := Lib.hid (by
    have := I.take ⟨#[3, 1, 3, 1, 10, 2, 1, 2, 2, 1, 0, 0, 5, 1, 1, 1, 1, 0, 0, 2, 0, 0, 0]⟩ w2 (by decide)
    rw [pl_take.1, pl_take.2] at this
    exact this)
  go_wp2_with fail
  refine HTAKE.out.mono ?_
  rintro e w3 ⟨D, rfl, HD⟩
  go_upto_region 4 with fail
  obtain ⟨V2, hV2⟩ : ∃ V, w3.heap.size = V := ⟨_, rfl⟩
  obtain ⟨X3, hX3⟩ : ∃ X, w3.alloc (.cells #[.int .i64 D.ty, .slice D.ba D.bn D.bc, .int .i64 D.pl, .slice D.ya D.yn D.yc, .int .i64 D.ch, .int .i64 D.f.broker, .int .i64 D.f.least, .int .i64 D.f.sales] 27) = X := ⟨_, rfl⟩
  have HX3 : Hid (Below w3.heap.size w3 X3 ∧ X3.heap[V2]? = some (.cells #[.int .i64 D.ty, .slice D.ba D.bn D.bc, .int .i64 D.pl, .slice D.ya D.yn D.yc, .int .i64 D.ch, .int .i64 D.f.broker, .int .i64 D.f.least, .int .i64 D.f.sales] 27 (0, 0))) := Lib.hid ⟨by rw [← hX3]; exact (Below.refl _ w3).alloc (Nat.le_refl _) _, by rw [← hX3, ← hV2]; exact heap_alloc_new w3 _⟩
  rw [hX3, hV2]
  clear hX3 hV2
  have HB3 : Hid (∀ W, Below X3.heap.size X3 W → Below X1.heap.size X1 W) := Lib.hid fun W hW => below_then B2.out (below_then HD.out.2.2.2 (below_then HX3.out.1 hW))
  have HC2 : Hid (∀ W, Below X3.heap.size X3 W → W.heap[V2]? = some (.cells #[.int .i64 D.ty, .slice D.ba D.bn D.bc, .int .i64 D.pl, .slice D.ya D.yn D.yc, .int .i64 D.ch, .int .i64 D.f.broker, .int .i64 D.f.least, .int .i64 D.f.sales] 27 (0, 0))) := Lib.hid fun W hW => (hW.block V2 (Array.getElem?_eq_some_iff.1 HX3.out.2).1).trans HX3.out.2
  have HF2 : Hid (∀ W, Below X3.heap.size X3 W → CatAt W D) := Lib.hid fun W hW => (HD.out.2.1.under HX3.out.1).under hW
  go_wp2_with fail
  refine (plain_in X3).mono ?_
  rintro e w4 ⟨h1, h2, h3, rfl, P4⟩
  go_upto_region 5 with fail
  obtain ⟨V3, hV3⟩ : ∃ V, w4.heap.size = V := ⟨_, rfl⟩
  obtain ⟨X4, hX4⟩ : ∃ X, w4.alloc (.cells #[.int .i64 3, .slice (some ⟨h2, 0, none⟩) 1 1, .int .i64 1, .slice (some ⟨h3, 0, none⟩) 1 1, .int .i64 2, .int .i64 0, .int .i64 0, .int .i64 0] 27) = X := ⟨_, rfl⟩
  have HX4 : Hid (Below w4.heap.size w4 X4 ∧ X4.heap[V3]? = some (.cells #[.int .i64 3, .slice (some ⟨h2, 0, none⟩) 1 1, .int .i64 1, .slice (some ⟨h3, 0, none⟩) 1 1, .int .i64 2, .int .i64 0, .int .i64 0, .int .i64 0] 27 (0, 0)) ∧ V3 = w4.heap.size) := Lib.hid ⟨by rw [← hX4]; exact (Below.refl _ w4).alloc (Nat.le_refl _) _, by rw [← hX4, ← hV3]; exact heap_alloc_new w4 _, hV3.symm⟩
  rw [hX4, hV3]
  clear hX4 hV3
  obtain ⟨g4, hg4⟩ : ∃ g, X4.heap.size = g := ⟨_, rfl⟩
  obtain ⟨Y4, hY4⟩ : ∃ X, X4.alloc (.cells #[.int .i64 3, .int .i64 1] 54) = X := ⟨_, rfl⟩
  have HY4 : Hid (Below X4.heap.size X4 Y4 ∧ Y4.heap[g4]? = some (.cells #[.int .i64 3, .int .i64 1] 54 (0, 0)) ∧ g4 = X4.heap.size) := Lib.hid ⟨by rw [← hY4]; exact (Below.refl _ X4).alloc (Nat.le_refl _) _, by rw [← hY4, ← hg4]; exact heap_alloc_new X4 _, hg4.symm⟩
  have HO4 : Hid (OwnB Y4 X3.heap.size (.slice (some ⟨h2, 0, none⟩) 1 1) [plB h1]) := Lib.hid (Goods.own_under (Goods.own_under P4.out.2.1 HX4.out.1) HY4.out.1)
  obtain ⟨a5, c5, W5, hr5, ho5, hgr5⟩ := app_b Y4 (rdB g4) HO4.out (by omega) (by have h1 := P4.out.2.2.2.size; have h2 := HX4.out.1.size; have h3 := HY4.out.1.size; omega)
  have HR5 : Hid ((Builtin.append_ #[22, 22] 22 #[.slice (some ⟨h2, 0, none⟩) 1 1, .slice (some ⟨Y4.heap.size, 0, none⟩) 1 1]).run Try.prog (Y4.alloc (.cells #[.int .i64 1, .int .i64 1, .int .i64 1, .slice (some ⟨g4, 0, none⟩) 1 1, .int .i64 0, .int .i64 0, .int .i64 1] 35)) = .ok (.slice a5 2 c5) W5) := hr5
  have HO5 : Hid (OwnB W5 X3.heap.size (.slice a5 2 c5) [plB h1, rdB g4]) := Lib.hid ho5
  have HG5 : Hid (Y4.grownBy W5 (some h2)) := Lib.hid hgr5
  have HLT : Hid (X3.heap.size ≤ h1 ∧ h1 < h2 ∧ h2 < h3 ∧ h3 < V3 ∧ V3 < g4 ∧ g4 < Y4.heap.size) := Lib.hid (by
    obtain ⟨q1, q2, q3, q4⟩ := P4.out.2.2.1
    have e1 := HX4.out.2.2
    have e2 := HY4.out.2.2
    have e3 := (Array.getElem?_eq_some_iff.1 HX4.out.2.1).1
    have e4 := (Array.getElem?_eq_some_iff.1 HY4.out.2.1).1
    omega)
  have HV5 : Hid (W5.heap[V3]? = some (.cells #[.int .i64 3, .slice (some ⟨h2, 0, none⟩) 1 1, .int .i64 1, .slice (some ⟨h3, 0, none⟩) 1 1, .int .i64 2, .int .i64 0, .int .i64 0, .int .i64 0] 27 (0, 0))) := Lib.hid (grown_block HG5.out ((HY4.out.1.block V3 (by have := HLT.out; have := HY4.out.2.2; omega)).trans HX4.out.2.1) (fun e => by injection e with e; have := HLT.out; omega))
  obtain ⟨W6, hW6⟩ : ∃ W, W5.setCell ⟨V3, 1, none⟩ (.slice a5 2 c5) = W := ⟨_, rfl⟩
  have HG6 : Hid (Y4.grownBy W5 (some h2) ∧ W5.grownBy W6 (some V3)) := Lib.hid ⟨HG5.out, by rw [← hW6]; exact only_setCell (only_refl W5 (some V3)) 1 _⟩
  have HV6 : Hid (W6.heap[V3]? = some (.cells #[.int .i64 3, .slice a5 2 c5, .int .i64 1, .slice (some ⟨h3, 0, none⟩) 1 1, .int .i64 2, .int .i64 0, .int .i64 0, .int .i64 0] 27 (0, 0))) := Lib.hid (by rw [← hW6]; exact heap_setCell_same W5 V3 1 _ _ _ HV5.out)
  have HB6 : Hid (Below X3.heap.size X3 W6) := Lib.hid (by
    have e1 := HLT.out
    have b4 := below_then P4.out.2.2.2 (below_then HX4.out.1 HY4.out.1)
    exact below_of_only (below_of_only b4 (by omega) HG6.out.1) (by omega) HG6.out.2)
  have HF6 : Hid (Fit W6 (rdC h1 g4 a5 c5 h3)) := Lib.hid (by
    have e1 := HLT.out
    have hF : Fit Y4 (plC h1 h2 h3) := (P4.out.1.under HX4.out.1).under HY4.out.1
    have hst : Sts Y4 (some ⟨h1, 0, none⟩) [⟨1, 2⟩, ⟨2, 1⟩] := (hF.1.1.2.2 (plB h1) (List.mem_singleton.2 rfl)).2
    have hst2 := sts_by (sts_by hst HG6.out.1 (fun e => by injection e with e; omega)) HG6.out.2 (fun e => by injection e with e; omega)
    have hsg : Sts Y4 (some ⟨g4, 0, none⟩) [⟨3, 1⟩] := sts_lay [⟨3, 1⟩] HY4.out.2.1 rfl
    have hsg2 := sts_by (sts_by hsg HG6.out.1 (fun e => by injection e with e; omega)) HG6.out.2 (fun e => by injection e with e; omega)
    have hby : Bays Y4 (some ⟨h3, 0, none⟩) [⟨1, 1, 0, 0⟩] := hF.1.2.2
    have hby2 := bays_by (bays_by hby HG6.out.1 (fun e => by injection e with e; omega)) HG6.out.2 (fun e => by injection e with e; omega)
    have ho6 : OwnB W6 X3.heap.size (.slice a5 2 c5) [plB h1, rdB g4] := own_by HO5.out HG6.out.2 fun g cur e hb => by
      injection e with e
      subst e
      rw [HV5.out] at hb
      injection hb with hb
      injection hb with _ hT
      exact absurd hT (by decide)
    obtain ⟨q1, q2⟩ := blues_own ho6
    refine ⟨⟨⟨q1, q2, fun b hb => ?_⟩, rfl, hby2⟩, ⟨fun b hb => ?_, by show 2 ≤ 20; omega, by show 1 ≤ 12; omega⟩, rd_in _ _ _ _ _⟩
    · simp at hb
      rcases hb with rfl | rfl
      · exact ⟨rfl, hst2⟩
      · exact ⟨rfl, hsg2⟩
    · simp at hb
      rcases hb with rfl | rfl
      · show 2 ≤ 12
        omega
      · show 1 ≤ 12
        omega)
  obtain ⟨⟨k0, k1, k2, k3, k4, k5, k6, k7⟩, f0, f1, f2, f3, f4, f5, f6, f7⟩ := blk8 HX4.out.2.1
  obtain ⟨⟨q0, q1, q2, q3, q4, q5, q6, q7⟩, e0, e1, e2, e3, e4, e5, e6, e7⟩ := blk8 HV5.out
  obtain ⟨⟨z0, z1, z2, z3, z4, z5, z6, z7⟩, _⟩ := blk8 (HC1.out W6 (HB3.out W6 HB6.out))
  have HBLU : Hid (Calls Try.prog 10 #[.agg #[.int .i64 3, .slice (some ⟨g2, 0, none⟩) 1 1, .int .i64 1, .slice (some ⟨g3, 0, none⟩) 1 1, .int .i64 2, .int .i64 0, .int .i64 0, .int .i64 0], .int .i64 2] W6 fun e w' => ∃ b : Recipe.Bl, e = .returned (.tuple #[.agg #[.int .i64 b.ot, .int .i64 b.per, .int .i64 b.tm, .slice b.sa b.sm b.sc, .int .i64 b.cp, .int .i64 b.st, .int .i64 b.mo], .int .i64 3]) ∧ Hid (Below W6.heap.size W6 w')) := Lib.hid (by
    have h := I.blue (plC g1 g2 g3) 2 W6 (HF1.out W6 (HB3.out W6 HB6.out)) (by simp [I64])
    rw [(blu_no (C := (plC g1 g2 g3).p) (n := 2) (by simp [CM.p])).1] at h
    exact h.mono fun _ _ ⟨b, e, h⟩ => ⟨b, e, Lib.hid h.out.2.2.2⟩)
  clear ho5 hgr5
  go_wp2_with (at_builtin; refine walk_run (v' := .slice a5 2 c5) (w' := W5) rfl _ _ _ _ rfl _ _ rfl rfl ?_ ?_; exact HR5.out)
  refine HBLU.out.mono ?_
  rintro e w7 ⟨b, rfl, H7⟩
  clear k0 k1 k2 k3 k4 k5 k6 k7 f0 f1 f2 f3 f4 f5 f6 f7 q0 q1 q2 q3 q4 q5 q6 q7 e0 e1 e2 e3 e4 e5 e6 e7 z0 z1 z2 z3 z4 z5 z6 z7 hW6
  go_upto_region 7 with fail
  obtain ⟨X7, hX7⟩ : ∃ X, w7.alloc (.cells #[.int .i64 b.ot, .int .i64 b.per, .int .i64 b.tm, .slice b.sa b.sm b.sc, .int .i64 b.cp, .int .i64 b.st, .int .i64 b.mo] 35) = X := ⟨_, rfl⟩
  have HX7 : Hid (Below W6.heap.size W6 X7) := Lib.hid (by rw [← hX7]; exact below_then H7.out ((Below.refl _ w7).alloc (Nat.le_refl _) _))
  rw [hX7]
  clear hX7
  have HB7 : Hid (∀ W, Below X7.heap.size X7 W → Below X3.heap.size X3 W) := Lib.hid fun W hW => below_then HB6.out (below_then HX7.out hW)
  have HC3 : Hid (∀ W, Below X7.heap.size X7 W → W.heap[V3]? = some (.cells #[.int .i64 3, .slice a5 2 c5, .int .i64 1, .slice (some ⟨h3, 0, none⟩) 1 1, .int .i64 2, .int .i64 0, .int .i64 0, .int .i64 0] 27 (0, 0))) := Lib.hid fun W hW => ((below_then HX7.out hW).block V3 (Array.getElem?_eq_some_iff.1 HV6.out).1).trans HV6.out
  have HSAME : Hid (Calls Try.prog 23 #[.agg #[.int .i64 3, .slice (some ⟨g2, 0, none⟩) 1 1, .int .i64 1, .slice (some ⟨g3, 0, none⟩) 1 1, .int .i64 2, .int .i64 0, .int .i64 0, .int .i64 0], .agg #[.int .i64 D.ty, .slice D.ba D.bn D.bc, .int .i64 D.pl, .slice D.ya D.yn D.yc, .int .i64 D.ch, .int .i64 D.f.broker, .int .i64 D.f.least, .int .i64 D.f.sales]] X7 fun e w' => e = .returned (.bool true) ∧ Hid (Below X7.heap.size X7 w')) := Lib.hid (by
    have hb := HB7.out X7 (Below.refl _ _)
    have hf := HF1.out X7 (HB3.out X7 hb)
    exact (dsame (plC g1 g2 g3) D X7 hf.1 (HF2.out X7 hb) hf.2.1 HD.out.2.2.1 HD.out.1.symm).mono fun _ _ ⟨e, h⟩ => ⟨e, Lib.hid h⟩)
  have HCHK : Hid (∀ W, Below X7.heap.size X7 W → Calls Try.prog 14 #[.agg #[.int .i64 3, .slice a5 2 c5, .int .i64 1, .slice (some ⟨h3, 0, none⟩) 1 1, .int .i64 2, .int .i64 0, .int .i64 0, .int .i64 0]] W fun e w' => e = .returned (.int .i64 9) ∧ Hid (Below X7.heap.size X7 w')) := Lib.hid fun W hW => by
    have := I.check (rdC h1 g4 a5 c5 h3) W (HF6.out.under (below_then HX7.out hW))
    rw [rd_chk] at this
    exact this.mono fun _ _ ⟨e, h⟩ => ⟨e, Lib.hid (below_then hW h)⟩
  have HMK : Hid (∀ W k z, Below X7.heap.size X7 W → (k = 3 ∧ z = 1 ∨ k = 1 ∧ z = 0) → Calls Try.prog 16 #[.agg #[.int .i64 3, .slice (some ⟨g2, 0, none⟩) 1 1, .int .i64 1, .slice (some ⟨g3, 0, none⟩) 1 1, .int .i64 2, .int .i64 0, .int .i64 0, .int .i64 0], .int .i64 k] W fun e w' => e = .returned (.int .i64 z) ∧ Hid (Below X7.heap.size X7 w')) := Lib.hid fun W k z hW hk => by
    have h := I.maker (plC g1 g2 g3) k W (HF1.out W (HB3.out W (HB7.out W hW))) (by unfold I64; omega)
    have e : mkr k (plC g1 g2 g3).p.bs 0 = z := by
      rcases hk with ⟨rfl, rfl⟩ | ⟨rfl, rfl⟩ <;> simp [CM.p, mkr, pOf]
    rw [e] at h
    exact h.mono fun _ _ ⟨e, h⟩ => ⟨e, Lib.hid (below_then hW h)⟩
  have HEND : Hid (∀ W, Below X7.heap.size X7 W → Below w.heap.size w W) := Lib.hid fun W hW => HW1.out W (HB3.out W (HB7.out W hW))
  have HM3 : Hid (∀ W, Below X7.heap.size X7 W → Calls Try.prog 16 #[.agg #[.int .i64 3, .slice (some ⟨g2, 0, none⟩) 1 1, .int .i64 1, .slice (some ⟨g3, 0, none⟩) 1 1, .int .i64 2, .int .i64 0, .int .i64 0, .int .i64 0], .int .i64 3] W fun e w' => e = .returned (.int .i64 1) ∧ Hid (Below X7.heap.size X7 w')) := Lib.hid fun W hW => HMK.out W 3 1 hW (.inl ⟨rfl, rfl⟩)
  have HM1 : Hid (∀ W, Below X7.heap.size X7 W → Calls Try.prog 16 #[.agg #[.int .i64 3, .slice (some ⟨g2, 0, none⟩) 1 1, .int .i64 1, .slice (some ⟨g3, 0, none⟩) 1 1, .int .i64 2, .int .i64 0, .int .i64 0, .int .i64 0], .int .i64 1] W fun e w' => e = .returned (.int .i64 0) ∧ Hid (Below X7.heap.size X7 w')) := Lib.hid fun W hW => HMK.out W 1 0 hW (.inr ⟨rfl, rfl⟩)
  obtain ⟨⟨k0, k1, k2, k3, k4, k5, k6, k7⟩, _⟩ := blk8 (HC1.out X7 (HB3.out X7 (HB7.out X7 (Below.refl _ _))))
  obtain ⟨⟨q0, q1, q2, q3, q4, q5, q6, q7⟩, _⟩ := blk8 (HC2.out X7 (HB7.out X7 (Below.refl _ _)))
  go_wp2_with fail
  refine HSAME.out.mono ?_
  rintro e w8 ⟨rfl, H8⟩
  clear k0 k1 k2 k3 k4 k5 k6 k7 q0 q1 q2 q3 q4 q5 q6 q7
  obtain ⟨⟨k0, k1, k2, k3, k4, k5, k6, k7⟩, _⟩ := blk8 (HC3.out w8 H8.out)
  go_wp2_with fail
  refine (HCHK.out w8 H8.out).mono ?_
  rintro e w9 ⟨rfl, H9⟩
  clear k0 k1 k2 k3 k4 k5 k6 k7
  obtain ⟨⟨k0, k1, k2, k3, k4, k5, k6, k7⟩, _⟩ := blk8 (HC1.out w9 (HB3.out w9 (HB7.out w9 H9.out)))
  go_wp2_with fail
  refine (HM3.out w9 H9.out).mono ?_
  rintro e wA ⟨rfl, HA⟩
  clear k0 k1 k2 k3 k4 k5 k6 k7
  obtain ⟨⟨k0, k1, k2, k3, k4, k5, k6, k7⟩, _⟩ := blk8 (HC1.out wA (HB3.out wA (HB7.out wA HA.out)))
  go_wp2_with fail
  refine (HM1.out wA HA.out).mono ?_
  rintro e wB ⟨rfl, HB⟩
  clear k0 k1 k2 k3 k4 k5 k6 k7
  go_wp2_with fail
  go_ret
  exact ⟨rfl, HEND.out wB HB.out⟩
/-- As walks want it. -/
theorem awake_at (I : Impl) (w : World) : Hid (∀ W, Below w.heap.size w W → Calls Try.prog 7 #[] W fun e w' => e = .returned (.bool true) ∧ Hid (Below w.heap.size w w')) := Lib.hid (fun W hW => (awake_in I W).mono fun _ _ ⟨e, h⟩ => ⟨e, Lib.hid (below_then hW h)⟩)
end Go.Proofs.Yteaclacbdelinaa.Cat
