/- The law on what is needed. -/
import Derived.Test.YtohlkaoophbinaaZBomArgs
namespace Go.Proofs.Ytohlkaoophbinaa.Bom
open Go.RowKit Go.Lib IRows
open Goods (St Sts OwnS cnt)
open Cat (Cat PB CM CatAt Lim I64 pOf InC)
open Recipe (needsE needsL needL up nd BlIn)

theorem box_ask (w : World) (k n lv : Int) : ∃ V X, w.heap.size = V ∧ w.alloc (.cells #[.int .i64 k, .int .i64 n, .int .i64 lv] 29) = X ∧ Hid (Below w.heap.size w X) ∧ Hid (∀ W, Below X.heap.size X W → W.cell? ⟨V, 0, none⟩ = some (.int .i64 k) ∧ W.cell? ⟨V, 1, none⟩ = some (.int .i64 n) ∧ W.cell? ⟨V, 2, none⟩ = some (.int .i64 lv)) := by
  refine ⟨_, _, rfl, rfl, Lib.hid ((Below.refl _ w).alloc (Nat.le_refl _) _), Lib.hid (fun W hW => ?_)⟩
  have h0 := heap_alloc_new w (.cells #[.int .i64 k, .int .i64 n, .int .i64 lv] 29)
  have h1 := (hW.block _ (Array.getElem?_eq_some_iff.1 h0).1).trans h0
  exact ⟨cell_block (j := 0) h1 rfl, cell_block (j := 1) h1 rfl, cell_block (j := 2) h1 rfl⟩
theorem awake_at (I : Impl) (w : World) : Hid (∀ W, Below w.heap.size w W → Calls Try.prog 8 #[] W fun e w' => e = .returned (.bool true) ∧ Hid (Below w.heap.size w w')) :=
  Lib.hid fun W hW => (awake_in I W).mono fun _ _ ⟨e, h⟩ => ⟨e, Lib.hid (below_then hW h)⟩
open Classical in
set_option maxRecDepth 100000 in
set_option maxHeartbeats 16000000 in
theorem bomExpands_in (I : Impl) (C : CM) (k n lv : Int) (a : Option Addr) (m c : Nat) (hv : List St) (w : World) (h : CatAt w C) (hin : InC C) (hb : C.bn ≤ 9223372036854775807) (hy : C.yn ≤ 9223372036854775807) (hs : ∀ b ∈ C.bs, b.sm ≤ 9223372036854775807) (hm : hv.length = m) (hst : Sts w a hv) (hi : InS hv) (hk : I64 k) (hn : I64 n) (hlv : I64 lv) :
    Calls Try.prog 3 #[C.v, .agg #[.int .i64 k, .int .i64 n, .int .i64 lv], .slice a m c] w fun e w' => e = .returned (.bool true) ∧ Below w.heap.size w w' := by
  obtain ⟨V, X, hV, hX, HXB, HP⟩ := Cat.box_cat w C
  obtain ⟨U, Y, hU, hY, HYB, HQ⟩ := box_ask X k n lv
  have HAW := awake_at I Y
  have HXY : Hid (Below w.heap.size w Y) := Lib.hid (below_then HXB.out HYB.out)
  have HNO : Hid (∀ W, Below Y.heap.size Y W → Below w.heap.size w W) := Lib.hid fun W hW => below_then HXY.out hW
  have HCE : Hid (∀ W, Below Y.heap.size Y W → W.cell? ⟨V, 0, none⟩ = some (.int .i64 C.ty) ∧ W.cell? ⟨V, 1, none⟩ = some (.slice C.ba C.bn C.bc) ∧ W.cell? ⟨V, 2, none⟩ = some (.int .i64 C.pl) ∧ W.cell? ⟨V, 3, none⟩ = some (.slice C.ya C.yn C.yc) ∧ W.cell? ⟨V, 4, none⟩ = some (.int .i64 C.ch) ∧ W.cell? ⟨V, 5, none⟩ = some (.int .i64 C.f.broker) ∧ W.cell? ⟨V, 6, none⟩ = some (.int .i64 C.f.least) ∧ W.cell? ⟨V, 7, none⟩ = some (.int .i64 C.f.sales)) := Lib.hid fun W hW => HP.out W (below_then HYB.out hW)
  have HFEW : Hid (∀ t, decide (Lim C) = t → Calls Try.prog 7 #[.agg #[.int .i64 C.ty, .slice C.ba C.bn C.bc, .int .i64 C.pl, .slice C.ya C.yn C.yc, .int .i64 C.ch, .int .i64 C.f.broker, .int .i64 C.f.least, .int .i64 C.f.sales]] Y fun e w' => e = .returned (.bool t) ∧ Hid (Below Y.heap.size Y w')) := Lib.hid fun t ht => by
    have := Cat.dfew C Y (h.under HXY.out) hb hy hs
    rw [ht] at this
    exact this.mono fun _ _ ⟨e, h⟩ => ⟨e, Lib.hid h⟩
  have HAT : Hid (CatAt Y C ∧ Sts Y a hv) := Lib.hid ⟨h.under HXY.out, hst.under HXY.out⟩
  obtain ⟨k0, k1, k2, k3, k4, k5, k6, k7⟩ := HCE.out Y (Below.refl _ _)
  by_cases hl : Lim C
  case neg =>
    have HF := Lib.hid (HFEW.out false (decide_eq_false hl))
    clear hl hb hy h hin hs hm hst hi hk hn hlv I HFEW HAT
    go_enter Try.func3, Try.ntmps3
    go_wp2_with fail
    clear hX hV hU hY
    refine HF.out.mono ?_
    rintro e w1 ⟨rfl, H1⟩
    go_wp2_with fail
    refine (HAW.out w1 H1.out).mono ?_
    rintro e w2 ⟨rfl, H2⟩
    go_wp2_with fail
    go_ret
    exact ⟨rfl, HNO.out _ H2.out⟩
  have HF := Lib.hid (HFEW.out true (decide_eq_true hl))
  by_cases hm2 : (12 : Int) < (m : Int)
  · clear hl hb hy h hin hs hm hst hi hk hn hlv I HFEW HAT
    go_enter Try.func3, Try.ntmps3
    go_wp2_with fail
    clear hX hV hU hY
    refine HF.out.mono ?_
    rintro e w1 ⟨rfl, H1⟩
    go_wp2_with fail
    refine (HAW.out w1 H1.out).mono ?_
    rintro e w2 ⟨rfl, H2⟩
    go_wp2_with fail
    go_ret
    exact ⟨rfl, HNO.out _ H2.out⟩
  obtain ⟨er, her⟩ : ∃ z, expE C.p k n lv hv = z := ⟨_, rfl⟩
  have HE1 : Hid (∀ W, Below Y.heap.size Y W → Calls Try.prog 9 #[.agg #[.int .i64 C.ty, .slice C.ba C.bn C.bc, .int .i64 C.pl, .slice C.ya C.yn C.yc, .int .i64 C.ch, .int .i64 C.f.broker, .int .i64 C.f.least, .int .i64 C.f.sales], .int .i64 k, .int .i64 n, .int .i64 lv, .slice a m c] W fun e w' => ∃ b : BM, e = .returned (.tuple #[.agg #[.slice b.ra b.rn b.rc, .slice b.ua b.un b.uc, .slice b.la b.ln b.lc], .int .i64 er]) ∧ Hid (BomAt w' b ∧ Says b (bill C.p k n lv hv) ∧ Below Y.heap.size Y w')) := Lib.hid fun W hW => by
    refine (I.expand C k n lv a m c hv W ⟨HAT.out.1.under hW, hl, hin⟩ hm (HAT.out.2.under hW) (by omega) hi hk hn hlv).mono ?_
    rintro e w' ⟨b, rfl, H⟩
    rw [her]
    exact ⟨b, rfl, Lib.hid ⟨H.out.1, H.out.2.1, below_then hW H.out.2.2⟩⟩
  have HE2 : Hid (∀ W, Below Y.heap.size Y W → Calls Try.prog 10 #[.agg #[.int .i64 C.ty, .slice C.ba C.bn C.bc, .int .i64 C.pl, .slice C.ya C.yn C.yc, .int .i64 C.ch, .int .i64 C.f.broker, .int .i64 C.f.least, .int .i64 C.f.sales], .int .i64 k, .int .i64 n, .int .i64 lv, .slice a m c] W fun e w' => ∃ b : BM, e = .returned (.tuple #[.agg #[.slice b.ra b.rn b.rc, .slice b.ua b.un b.uc, .slice b.la b.ln b.lc], .int .i64 er]) ∧ Hid (BomAt w' b ∧ Says b (bill C.p k n lv hv) ∧ Below Y.heap.size Y w' ∧ Below W.heap.size W w')) := Lib.hid fun W hW => by
    refine (dexpand C k n lv a m c hv W (HAT.out.1.under hW) hl hm (HAT.out.2.under hW) (by omega)).mono ?_
    rintro e w' ⟨b, rfl, H⟩
    rw [her]
    exact ⟨b, rfl, Lib.hid ⟨H.out.1, H.out.2.1, below_then hW H.out.2.2, H.out.2.2⟩⟩
  have e1 : (er == er) = true := by simp
  clear hl hb hy h hin hs hm hst hi hk hn hlv I HFEW HAT her
  go_enter Try.func3, Try.ntmps3
  go_wp2_with fail
  clear hX hV hU hY
  refine HF.out.mono ?_
  rintro e w1 ⟨rfl, H1⟩
  clear k0 k1 k2 k3 k4 k5 k6 k7
  obtain ⟨k0, k1, k2, k3, k4, k5, k6, k7⟩ := HCE.out w1 H1.out
  have HQE : Hid (∀ W, Below Y.heap.size Y W → W.cell? ⟨U, 0, none⟩ = some (.int .i64 k) ∧ W.cell? ⟨U, 1, none⟩ = some (.int .i64 n) ∧ W.cell? ⟨U, 2, none⟩ = some (.int .i64 lv)) := Lib.hid fun W hW => HQ.out W hW
  obtain ⟨q0, q1, q2⟩ := HQE.out w1 H1.out
  go_wp2_with fail
  refine (HE1.out w1 H1.out).mono ?_
  rintro e w2 ⟨b1, rfl, H2⟩
  clear k0 k1 k2 k3 k4 k5 k6 k7 q0 q1 q2
  go_upto_region 4 with fail
  obtain ⟨V1, X1, hV1, hX1, HB1, HP1⟩ := box_bom w2 b1
  have HX1 : Hid (Below Y.heap.size Y X1 ∧ BomAt X1 b1) := Lib.hid ⟨below_then H2.out.2.2 HB1.out, H2.out.1.under HB1.out⟩
  rw [hV1, hX1]
  clear hV1 hX1
  obtain ⟨k0, k1, k2, k3, k4, k5, k6, k7⟩ := HCE.out X1 HX1.out.1
  obtain ⟨q0, q1, q2⟩ := HQE.out X1 HX1.out.1
  go_wp2_with fail
  refine (HE2.out X1 HX1.out.1).mono ?_
  rintro e w3 ⟨b2, rfl, H3⟩
  clear k0 k1 k2 k3 k4 k5 k6 k7 q0 q1 q2
  go_upto_region 5 with fail
  obtain ⟨V2, X2, hV2, hX2, HB2, HP2⟩ := box_bom w3 b2
  have HX2 : Hid (Below Y.heap.size Y X2 ∧ BomAt X2 b2 ∧ BomAt X2 b1) := Lib.hid ⟨below_then H3.out.2.2.1 HB2.out, H3.out.1.under HB2.out, HX1.out.2.under (below_then H3.out.2.2.2 HB2.out)⟩
  have HC1 : Hid (∀ W, Below X2.heap.size X2 W → W.cell? ⟨V1, 0, none⟩ = some (.slice b1.ra b1.rn b1.rc) ∧ W.cell? ⟨V1, 1, none⟩ = some (.slice b1.ua b1.un b1.uc) ∧ W.cell? ⟨V1, 2, none⟩ = some (.slice b1.la b1.ln b1.lc)) := Lib.hid fun W hW => HP1.out W (below_then H3.out.2.2.2 (below_then HB2.out hW))
  have HC2 : Hid (∀ W, Below X2.heap.size X2 W → W.cell? ⟨V2, 0, none⟩ = some (.slice b2.ra b2.rn b2.rc) ∧ W.cell? ⟨V2, 1, none⟩ = some (.slice b2.ua b2.un b2.uc) ∧ W.cell? ⟨V2, 2, none⟩ = some (.slice b2.la b2.ln b2.lc)) := Lib.hid fun W hW => HP2.out W hW
  have HSA : Hid (Calls Try.prog 11 #[.agg #[.slice b1.ra b1.rn b1.rc, .slice b1.ua b1.un b1.uc, .slice b1.la b1.ln b1.lc], .agg #[.slice b2.ra b2.rn b2.rc, .slice b2.ua b2.un b2.uc, .slice b2.la b2.ln b2.lc]] X2 fun e w' => e = .returned (.bool true) ∧ Hid (Below Y.heap.size Y w')) := Lib.hid (by
    have := dsameB b1 b2 X2 HX2.out.2.2 HX2.out.2.1
    rw [decide_eq_true (show SameB b1 b2 from ⟨H2.out.2.1.1.trans H3.out.2.1.1.symm, H2.out.2.1.2.1.trans H3.out.2.1.2.1.symm, H2.out.2.1.2.2.trans H3.out.2.1.2.2.symm⟩)] at this
    exact this.mono fun _ _ ⟨e, h⟩ => ⟨e, Lib.hid (below_then HX2.out.1 h)⟩)
  rw [hV2, hX2]
  clear hV2 hX2 HE1 HE2 H1 H2 H3
  obtain ⟨k0, k1, k2⟩ := HC1.out X2 (Below.refl _ _)
  obtain ⟨q0, q1, q2⟩ := HC2.out X2 (Below.refl _ _)
  go_wp2_with fail
  refine HSA.out.mono ?_
  rintro e w4 ⟨rfl, H4⟩
  go_wp2_with fail
  refine (HAW.out w4 H4.out).mono ?_
  rintro e w5 ⟨rfl, H5⟩
  go_wp2_with fail
  go_ret
  exact ⟨rfl, HNO.out _ H5.out⟩
end Go.Proofs.Ytohlkaoophbinaa.Bom
