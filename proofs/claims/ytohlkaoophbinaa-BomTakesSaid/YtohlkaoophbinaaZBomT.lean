/- The law on how long it takes. -/
import Derived.Test.YtohlkaoophbinaaZBomK
import Derived.Deep.RegionHeld3
namespace Go.Proofs.Ytohlkaoophbinaa.Bom
open Go.RowKit Go.Lib IRows
open Goods (St Sts OwnS cnt)
open Cat (Cat PB CM CatAt Lim I64 pOf InC)

theorem box_rest (w : World) (ra : Option Addr) (rn rc : Nat) (sa : Option Addr) (sn sc : Nat) : ∃ V X, w.heap.size = V ∧ w.alloc (.cells #[.slice ra rn rc, .slice sa sn sc] 42) = X ∧ Hid (Below w.heap.size w X) ∧ Hid (∀ W, Below X.heap.size X W → W.cell? ⟨V, 0, none⟩ = some (.slice ra rn rc) ∧ W.cell? ⟨V, 1, none⟩ = some (.slice sa sn sc)) := by
  refine ⟨_, _, rfl, rfl, Lib.hid ((Below.refl _ w).alloc (Nat.le_refl _) _), Lib.hid (fun W hW => ?_)⟩
  have h0 := heap_alloc_new w (.cells #[.slice ra rn rc, .slice sa sn sc] 42)
  have h1 := (hW.block _ (Array.getElem?_eq_some_iff.1 h0).1).trans h0
  exact ⟨cell_block (j := 0) h1 rfl, cell_block (j := 1) h1 rfl⟩
open Classical in
set_option maxRecDepth 100000 in
set_option maxHeartbeats 16000000 in
theorem bomTakes_in (I : Impl) (C : CM) (k n lv : Int) (ra : Option Addr) (rn rc : Nat) (rs : List Int) (sa : Option Addr) (sn sc : Nat) (raw : List St) (w : World) (h : CatAt w C) (hin : InC C) (hb : C.bn ≤ 9223372036854775807) (hy : C.yn ≤ 9223372036854775807) (hs : ∀ b ∈ C.bs, b.sm ≤ 9223372036854775807) (hr : rs.length = rn) (hrs : IRow w ra rs) (hri : InL rs) (hm : raw.length = sn) (hst : Sts w sa raw) (hi : InS raw) (hk : I64 k) (hn : I64 n) (hlv : I64 lv) :
    Calls Try.prog 4 #[C.v, .agg #[.int .i64 k, .int .i64 n, .int .i64 lv], .agg #[.slice ra rn rc, .slice sa sn sc]] w fun e w' => e = .returned (.bool true) ∧ Below w.heap.size w w' := by
  obtain ⟨V, X, hV, hX, HXB, HP⟩ := Cat.box_cat w C
  obtain ⟨U, Z, hU, hZ, HZB, HQ⟩ := box_ask X k n lv
  obtain ⟨T, Y, hT, hY, HYB, HR⟩ := box_rest Z ra rn rc sa sn sc
  have HAW := awake_at I Y
  have HXY : Hid (Below w.heap.size w Y) := Lib.hid (below_then HXB.out (below_then HZB.out HYB.out))
  have HNO : Hid (∀ W, Below Y.heap.size Y W → Below w.heap.size w W) := Lib.hid fun W hW => below_then HXY.out hW
  have HALL : Hid (∀ W, Below Y.heap.size Y W → W.cell? ⟨V, 0, none⟩ = some (.int .i64 C.ty) ∧ W.cell? ⟨V, 1, none⟩ = some (.slice C.ba C.bn C.bc) ∧ W.cell? ⟨V, 2, none⟩ = some (.int .i64 C.pl) ∧ W.cell? ⟨V, 3, none⟩ = some (.slice C.ya C.yn C.yc) ∧ W.cell? ⟨V, 4, none⟩ = some (.int .i64 C.ch) ∧ W.cell? ⟨V, 5, none⟩ = some (.int .i64 C.f.broker) ∧ W.cell? ⟨V, 6, none⟩ = some (.int .i64 C.f.least) ∧ W.cell? ⟨V, 7, none⟩ = some (.int .i64 C.f.sales) ∧ W.cell? ⟨U, 0, none⟩ = some (.int .i64 k) ∧ W.cell? ⟨U, 1, none⟩ = some (.int .i64 n) ∧ W.cell? ⟨U, 2, none⟩ = some (.int .i64 lv) ∧ W.cell? ⟨T, 0, none⟩ = some (.slice ra rn rc) ∧ W.cell? ⟨T, 1, none⟩ = some (.slice sa sn sc)) := Lib.hid fun W hW => by
    obtain ⟨k0, k1, k2, k3, k4, k5, k6, k7⟩ := HP.out W (below_then HZB.out (below_then HYB.out hW))
    obtain ⟨q0, q1, q2⟩ := HQ.out W (below_then HYB.out hW)
    obtain ⟨r0, r1⟩ := HR.out W hW
    exact ⟨k0, k1, k2, k3, k4, k5, k6, k7, q0, q1, q2, r0, r1⟩
  have HFEW : Hid (∀ t, decide (Lim C) = t → Calls Try.prog 7 #[.agg #[.int .i64 C.ty, .slice C.ba C.bn C.bc, .int .i64 C.pl, .slice C.ya C.yn C.yc, .int .i64 C.ch, .int .i64 C.f.broker, .int .i64 C.f.least, .int .i64 C.f.sales]] Y fun e w' => e = .returned (.bool t) ∧ Hid (Below Y.heap.size Y w')) := Lib.hid fun t ht => by
    have := Cat.dfew C Y (h.under HXY.out) hb hy hs
    rw [ht] at this
    exact this.mono fun _ _ ⟨e, h⟩ => ⟨e, Lib.hid h⟩
  have HAT : Hid (CatAt Y C ∧ IRow Y ra rs ∧ Sts Y sa raw) := Lib.hid ⟨h.under HXY.out, hrs.under HXY.out, hst.under HXY.out⟩
  obtain ⟨k0, k1, k2, k3, k4, k5, k6, k7, q0, q1, q2, r0, r1⟩ := HALL.out Y (Below.refl _ _)
  by_cases hl : Lim C
  case neg =>
    have HF := Lib.hid (HFEW.out false (decide_eq_false hl))
    clear hl hb hy h hin hs hr hrs hri hm hst hi hk hn hlv I HFEW HAT
    go_enter Try.func4, Try.ntmps4
    go_wp2_with fail
    clear hX hV hU hY hT hZ
    refine HF.out.mono ?_
    rintro e w1 ⟨rfl, H1⟩
    go_wp2_with fail
    refine (HAW.out w1 H1.out).mono ?_
    rintro e w2 ⟨rfl, H2⟩
    go_wp2_with fail
    go_ret
    exact ⟨rfl, HNO.out _ H2.out⟩
  have HF := Lib.hid (HFEW.out true (decide_eq_true hl))
  by_cases hm1 : (20 : Int) < (rn : Int)
  · clear hl hb hy h hin hs hr hrs hri hm hst hi hk hn hlv I HFEW HAT
    go_enter Try.func4, Try.ntmps4
    go_wp2_with fail
    clear hX hV hU hY hT hZ
    refine HF.out.mono ?_
    rintro e w1 ⟨rfl, H1⟩
    clear k0 k1 k2 k3 k4 k5 k6 k7 q0 q1 q2 r0 r1
    obtain ⟨k0, k1, k2, k3, k4, k5, k6, k7, q0, q1, q2, r0, r1⟩ := HALL.out w1 H1.out
    go_wp2_with fail
    refine (HAW.out w1 H1.out).mono ?_
    rintro e w2 ⟨rfl, H2⟩
    go_wp2_with fail
    go_ret
    exact ⟨rfl, HNO.out _ H2.out⟩
  by_cases hm2 : (12 : Int) < (sn : Int)
  · clear hl hb hy h hin hs hr hrs hri hm hst hi hk hn hlv I HFEW HAT
    go_enter Try.func4, Try.ntmps4
    go_wp2_with fail
    clear hX hV hU hY hT hZ
    refine HF.out.mono ?_
    rintro e w1 ⟨rfl, H1⟩
    clear k0 k1 k2 k3 k4 k5 k6 k7 q0 q1 q2 r0 r1
    obtain ⟨k0, k1, k2, k3, k4, k5, k6, k7, q0, q1, q2, r0, r1⟩ := HALL.out w1 H1.out
    go_wp2_with fail
    refine (HAW.out w1 H1.out).mono ?_
    rintro e w2 ⟨rfl, H2⟩
    go_wp2_with fail
    go_ret
    exact ⟨rfl, HNO.out _ H2.out⟩
  obtain ⟨pv, hpv⟩ : ∃ z, pathA C.p k rs lv = z := ⟨_, rfl⟩
  obtain ⟨pe, hpe⟩ : ∃ z, pathE C.p k rs lv = z := ⟨_, rfl⟩
  obtain ⟨wv, hwv⟩ : ∃ z, wholeV C.p rs lv = z := ⟨_, rfl⟩
  obtain ⟨we, hwe⟩ : ∃ z, wholeE C.p rs lv = z := ⟨_, rfl⟩
  obtain ⟨ft, hft⟩ : ∃ z, decide (FitsP C.p k n lv raw rs) = z := ⟨_, rfl⟩
  have HP1 : Hid (∀ W, Below Y.heap.size Y W → Calls Try.prog 12 #[.agg #[.int .i64 C.ty, .slice C.ba C.bn C.bc, .int .i64 C.pl, .slice C.ya C.yn C.yc, .int .i64 C.ch, .int .i64 C.f.broker, .int .i64 C.f.least, .int .i64 C.f.sales], .int .i64 k, .slice ra rn rc, .int .i64 lv] W fun e w' => e = .returned (.tuple #[.int .i64 pv, .int .i64 pe]) ∧ Hid (Below Y.heap.size Y w')) := Lib.hid fun W hW => by
    refine (I.path C k ra rn rc rs lv W ⟨HAT.out.1.under hW, hl, hin⟩ hr (HAT.out.2.1.under hW) (by omega) hri hk hlv).mono ?_
    rintro e w' ⟨rfl, H⟩
    exact ⟨by simp only [hpv, hpe], Lib.hid (below_then hW H)⟩
  have HP2 : Hid (∀ W, Below Y.heap.size Y W → Calls Try.prog 13 #[.agg #[.int .i64 C.ty, .slice C.ba C.bn C.bc, .int .i64 C.pl, .slice C.ya C.yn C.yc, .int .i64 C.ch, .int .i64 C.f.broker, .int .i64 C.f.least, .int .i64 C.f.sales], .int .i64 k, .slice ra rn rc, .int .i64 lv] W fun e w' => e = .returned (.tuple #[.int .i64 pv, .int .i64 pe]) ∧ Hid (Below Y.heap.size Y w')) := Lib.hid fun W hW => by
    refine (dpathf C k ra rn rc rs lv W (HAT.out.1.under hW) hl hr (HAT.out.2.1.under hW) (by omega)).mono ?_
    rintro e w' ⟨rfl, H⟩
    exact ⟨by simp only [hpv, hpe], Lib.hid (below_then hW H)⟩
  have HW1 : Hid (∀ W, Below Y.heap.size Y W → Calls Try.prog 14 #[.agg #[.int .i64 C.ty, .slice C.ba C.bn C.bc, .int .i64 C.pl, .slice C.ya C.yn C.yc, .int .i64 C.ch, .int .i64 C.f.broker, .int .i64 C.f.least, .int .i64 C.f.sales], .slice ra rn rc, .int .i64 lv] W fun e w' => e = .returned (.tuple #[.int .i64 wv, .int .i64 we]) ∧ Hid (Below Y.heap.size Y w')) := Lib.hid fun W hW => by
    refine (I.whole C ra rn rc rs lv W ⟨HAT.out.1.under hW, hl, hin⟩ hr (HAT.out.2.1.under hW) (by omega) hri hlv).mono ?_
    rintro e w' ⟨rfl, H⟩
    exact ⟨by simp only [hwv, hwe], Lib.hid (below_then hW H)⟩
  have HW2 : Hid (∀ W, Below Y.heap.size Y W → Calls Try.prog 15 #[.agg #[.int .i64 C.ty, .slice C.ba C.bn C.bc, .int .i64 C.pl, .slice C.ya C.yn C.yc, .int .i64 C.ch, .int .i64 C.f.broker, .int .i64 C.f.least, .int .i64 C.f.sales], .slice ra rn rc, .int .i64 lv] W fun e w' => e = .returned (.tuple #[.int .i64 wv, .int .i64 we]) ∧ Hid (Below Y.heap.size Y w')) := Lib.hid fun W hW => by
    refine (dwhole C ra rn rc rs lv W (HAT.out.1.under hW) hl hr (HAT.out.2.1.under hW) (by omega)).mono ?_
    rintro e w' ⟨rfl, H⟩
    exact ⟨by simp only [hwv, hwe], Lib.hid (below_then hW H)⟩
  have HF1 : Hid (∀ W, Below Y.heap.size Y W → Calls Try.prog 16 #[.agg #[.int .i64 C.ty, .slice C.ba C.bn C.bc, .int .i64 C.pl, .slice C.ya C.yn C.yc, .int .i64 C.ch, .int .i64 C.f.broker, .int .i64 C.f.least, .int .i64 C.f.sales], .int .i64 k, .int .i64 n, .int .i64 lv, .slice sa sn sc, .slice ra rn rc] W fun e w' => e = .returned (.bool ft) ∧ Hid (Below Y.heap.size Y w')) := Lib.hid fun W hW => by
    refine (I.fits C k n lv sa sn sc raw ra rn rc rs W ⟨HAT.out.1.under hW, hl, hin⟩ hm (HAT.out.2.2.under hW) (by omega) hi hr (HAT.out.2.1.under hW) (by omega) hri hk hn hlv).mono ?_
    rintro e w' ⟨rfl, H⟩
    exact ⟨by simp only [hft], Lib.hid (below_then hW H)⟩
  have HF2 : Hid (∀ W, Below Y.heap.size Y W → Calls Try.prog 17 #[.agg #[.int .i64 C.ty, .slice C.ba C.bn C.bc, .int .i64 C.pl, .slice C.ya C.yn C.yc, .int .i64 C.ch, .int .i64 C.f.broker, .int .i64 C.f.least, .int .i64 C.f.sales], .int .i64 k, .int .i64 n, .int .i64 lv, .slice sa sn sc, .slice ra rn rc] W fun e w' => e = .returned (.bool ft) ∧ Hid (Below Y.heap.size Y w')) := Lib.hid fun W hW => by
    refine (dfits C k n lv sa sn sc raw ra rn rc rs W (HAT.out.1.under hW) hl hm (HAT.out.2.2.under hW) (by omega) hr (HAT.out.2.1.under hW) (by omega)).mono ?_
    rintro e w' ⟨rfl, H⟩
    exact ⟨by simp only [hft], Lib.hid (below_then hW H)⟩
  have e1 : (pv == pv) = true := by simp
  have e2 : (pe == pe) = true := by simp
  have e3 : (wv == wv) = true := by simp
  have e4 : (we == we) = true := by simp
  have e5 : (ft == ft) = true := by simp
  clear hl hb hy h hin hs hr hrs hri hm hst hi hk hn hlv I HFEW HAT hpv hpe hwv hwe hft
  go_enter Try.func4, Try.ntmps4
  go_wp2_with fail
  clear hX hV hU hY hT hZ
  refine HF.out.mono ?_
  rintro e w1 ⟨rfl, H1⟩
  clear k0 k1 k2 k3 k4 k5 k6 k7 q0 q1 q2 r0 r1
  obtain ⟨k0, k1, k2, k3, k4, k5, k6, k7, q0, q1, q2, r0, r1⟩ := HALL.out w1 H1.out
  go_wp2_with fail
  refine (HP1.out w1 H1.out).mono ?_
  rintro e w2 ⟨rfl, H2⟩
  clear k0 k1 k2 k3 k4 k5 k6 k7 q0 q1 q2 r0 r1
  obtain ⟨k0, k1, k2, k3, k4, k5, k6, k7, q0, q1, q2, r0, r1⟩ := HALL.out w2 H2.out
  go_wp2_with fail
  refine (HP2.out w2 H2.out).mono ?_
  rintro e w3 ⟨rfl, H3⟩
  clear k0 k1 k2 k3 k4 k5 k6 k7 q0 q1 q2 r0 r1
  obtain ⟨k0, k1, k2, k3, k4, k5, k6, k7, q0, q1, q2, r0, r1⟩ := HALL.out w3 H3.out
  go_wp2_with fail
  refine (HW1.out w3 H3.out).mono ?_
  rintro e w4 ⟨rfl, H4⟩
  clear k0 k1 k2 k3 k4 k5 k6 k7 q0 q1 q2 r0 r1
  obtain ⟨k0, k1, k2, k3, k4, k5, k6, k7, q0, q1, q2, r0, r1⟩ := HALL.out w4 H4.out
  go_wp2_with fail
  refine (HW2.out w4 H4.out).mono ?_
  rintro e w5 ⟨rfl, H5⟩
  clear k0 k1 k2 k3 k4 k5 k6 k7 q0 q1 q2 r0 r1
  have D5 : Hid (Below Y.heap.size Y w5.drew) := Lib.hid H5.out.drew
  go_upto_region 7 with fail
  go_region_held3 (fun W => W.cell? ⟨V, 0, none⟩ = some (.int .i64 C.ty) ∧ W.cell? ⟨V, 1, none⟩ = some (.slice C.ba C.bn C.bc) ∧ W.cell? ⟨V, 2, none⟩ = some (.int .i64 C.pl) ∧ W.cell? ⟨V, 3, none⟩ = some (.slice C.ya C.yn C.yc) ∧ W.cell? ⟨V, 4, none⟩ = some (.int .i64 C.ch) ∧ W.cell? ⟨V, 5, none⟩ = some (.int .i64 C.f.broker) ∧ W.cell? ⟨V, 6, none⟩ = some (.int .i64 C.f.least) ∧ W.cell? ⟨V, 7, none⟩ = some (.int .i64 C.f.sales) ∧ W.cell? ⟨U, 0, none⟩ = some (.int .i64 k) ∧ W.cell? ⟨U, 1, none⟩ = some (.int .i64 n) ∧ W.cell? ⟨U, 2, none⟩ = some (.int .i64 lv) ∧ W.cell? ⟨T, 0, none⟩ = some (.slice ra rn rc) ∧ W.cell? ⟨T, 1, none⟩ = some (.slice sa sn sc))
    (first
      | exact HALL.out _ D5.out
      | exact HALL.out _ H5.out
      | exact HALL.out _ H6.out
      | exact HALL.out _ H7.out
      | exact HALL.out _ H8.out
      | fail)
    (first
      | (go_at_call 16; with_reducible (refine (HF1.out _ D5.out).mono ?_); rintro e w6 ⟨rfl, H6⟩)
      | (go_at_call 17; with_reducible (refine (HF2.out _ H6.out).mono ?_); rintro e w7 ⟨rfl, H7⟩)
      | (go_at_call 8; with_reducible (refine (HAW.out _ H7.out).mono ?_); rintro e w8 ⟨rfl, H8⟩)
      | fail)
  all_goals
    go_wp2_with fail
    go_ret
    exact ⟨rfl, HNO.out _ H8.out⟩
end Go.Proofs.Ytohlkaoophbinaa.Bom
