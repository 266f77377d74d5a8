/- The law on what fits. -/
import Derived.Test.YtohlkaoophbinaaZBomK
import Derived.Test.YtohlkaoophbinaaZBomM
namespace Go.Proofs.Ytohlkaoophbinaa.Bom
open Go.RowKit Go.Lib IRows
open Goods (St Sts OwnS cnt)
open Cat (Cat PB CM CatAt Lim I64 pOf InC)

theorem box_bill (w : World) (ra : Option Addr) (rn rc : Nat) (ua : Option Addr) (un uc : Nat) (la : Option Addr) (ln lc : Nat) : ∃ V X, w.heap.size = V ∧ w.alloc (.cells #[.slice ra rn rc, .slice ua un uc, .slice la ln lc] 35) = X ∧ Hid (Below w.heap.size w X) ∧ Hid (∀ W, Below X.heap.size X W → W.cell? ⟨V, 0, none⟩ = some (.slice ra rn rc) ∧ W.cell? ⟨V, 1, none⟩ = some (.slice ua un uc) ∧ W.cell? ⟨V, 2, none⟩ = some (.slice la ln lc)) := by
  refine ⟨_, _, rfl, rfl, Lib.hid ((Below.refl _ w).alloc (Nat.le_refl _) _), Lib.hid (fun W hW => ?_)⟩
  have h0 := heap_alloc_new w (.cells #[.slice ra rn rc, .slice ua un uc, .slice la ln lc] 35)
  have h1 := (hW.block _ (Array.getElem?_eq_some_iff.1 h0).1).trans h0
  exact ⟨cell_block (j := 0) h1 rfl, cell_block (j := 1) h1 rfl, cell_block (j := 2) h1 rfl⟩
open Classical in
set_option maxRecDepth 100000 in
set_option maxHeartbeats 16000000 in
theorem bomFits_in (I : Impl) (C : CM) (k n lv : Int) (a : Option Addr) (m c : Nat) (hv : List St) (w : World) (h : CatAt w C) (hin : InC C) (hb : C.bn ≤ 9223372036854775807) (hy : C.yn ≤ 9223372036854775807) (hs : ∀ b ∈ C.bs, b.sm ≤ 9223372036854775807) (hm : hv.length = m) (hst : Sts w a hv) (hi : InS hv) (hk : I64 k) (hn : I64 n) (hlv : I64 lv) :
    Calls Try.prog 5 #[C.v, .agg #[.int .i64 k, .int .i64 n, .int .i64 lv], .slice a m c] w fun e w' => e = .returned (.bool true) ∧ Below w.heap.size w w' := by
  obtain ⟨V, X, hV, hX, HXB, HP⟩ := Cat.box_cat w C
  obtain ⟨U, Y, hU, hY, HYB, HQ⟩ := box_ask X k n lv
  have HAW := awake_at I Y
  have HXY : Hid (Below w.heap.size w Y) := Lib.hid (below_then HXB.out HYB.out)
  have HNO : Hid (∀ W, Below Y.heap.size Y W → Below w.heap.size w W) := Lib.hid fun W hW => below_then HXY.out hW
  have HALL : Hid (∀ W, Below Y.heap.size Y W → W.cell? ⟨V, 0, none⟩ = some (.int .i64 C.ty) ∧ W.cell? ⟨V, 1, none⟩ = some (.slice C.ba C.bn C.bc) ∧ W.cell? ⟨V, 2, none⟩ = some (.int .i64 C.pl) ∧ W.cell? ⟨V, 3, none⟩ = some (.slice C.ya C.yn C.yc) ∧ W.cell? ⟨V, 4, none⟩ = some (.int .i64 C.ch) ∧ W.cell? ⟨V, 5, none⟩ = some (.int .i64 C.f.broker) ∧ W.cell? ⟨V, 6, none⟩ = some (.int .i64 C.f.least) ∧ W.cell? ⟨V, 7, none⟩ = some (.int .i64 C.f.sales) ∧ W.cell? ⟨U, 0, none⟩ = some (.int .i64 k) ∧ W.cell? ⟨U, 1, none⟩ = some (.int .i64 n) ∧ W.cell? ⟨U, 2, none⟩ = some (.int .i64 lv)) := Lib.hid fun W hW => by
    obtain ⟨k0, k1, k2, k3, k4, k5, k6, k7⟩ := HP.out W (below_then HYB.out hW)
    obtain ⟨q0, q1, q2⟩ := HQ.out W hW
    exact ⟨k0, k1, k2, k3, k4, k5, k6, k7, q0, q1, q2⟩
  have HFEW : Hid (∀ t, decide (Lim C) = t → Calls Try.prog 7 #[.agg #[.int .i64 C.ty, .slice C.ba C.bn C.bc, .int .i64 C.pl, .slice C.ya C.yn C.yc, .int .i64 C.ch, .int .i64 C.f.broker, .int .i64 C.f.least, .int .i64 C.f.sales]] Y fun e w' => e = .returned (.bool t) ∧ Hid (Below Y.heap.size Y w')) := Lib.hid fun t ht => by
    have := Cat.dfew C Y (h.under HXY.out) hb hy hs
    rw [ht] at this
    exact this.mono fun _ _ ⟨e, h⟩ => ⟨e, Lib.hid h⟩
  have HAT : Hid (CatAt Y C ∧ Sts Y a hv) := Lib.hid ⟨h.under HXY.out, hst.under HXY.out⟩
  obtain ⟨k0, k1, k2, k3, k4, k5, k6, k7, q0, q1, q2⟩ := HALL.out Y (Below.refl _ _)
  by_cases hl : Lim C
  case neg =>
    have HF := Lib.hid (HFEW.out false (decide_eq_false hl))
    clear hl hb hy h hin hs hm hst hi hk hn hlv I HFEW HAT
    go_enter Try.func5, Try.ntmps5
    go_wp2_with fail
    clear hX hV hU hY
    refine HF.out.mono ?_
    rintro e w1 ⟨rfl, H1⟩
    go_wp2_with fail
    refine (HAW.out w1 H1.out).mono ?_
    rintro e w9 ⟨rfl, H9⟩
    go_wp2_with fail
    go_ret
    exact ⟨rfl, HNO.out _ H9.out⟩
  have HF := Lib.hid (HFEW.out true (decide_eq_true hl))
  by_cases hm2 : (8 : Int) < (m : Int)
  · clear hl hb hy h hin hs hm hst hi hk hn hlv I HFEW HAT
    go_enter Try.func5, Try.ntmps5
    go_wp2_with fail
    clear hX hV hU hY
    refine HF.out.mono ?_
    rintro e w1 ⟨rfl, H1⟩
    go_wp2_with fail
    refine (HAW.out w1 H1.out).mono ?_
    rintro e w9 ⟨rfl, H9⟩
    go_wp2_with fail
    go_ret
    exact ⟨rfl, HNO.out _ H9.out⟩
  obtain ⟨er, her⟩ : ∃ z, expE C.p k n lv hv = z := ⟨_, rfl⟩
  by_cases he : er = 0
  case neg =>
    have HE1 : Hid (∀ W, Below Y.heap.size Y W → Calls Try.prog 9 #[.agg #[.int .i64 C.ty, .slice C.ba C.bn C.bc, .int .i64 C.pl, .slice C.ya C.yn C.yc, .int .i64 C.ch, .int .i64 C.f.broker, .int .i64 C.f.least, .int .i64 C.f.sales], .int .i64 k, .int .i64 n, .int .i64 lv, .slice a m c] W fun e w' => ∃ ra rc ua uc la lc, e = .returned (.tuple #[.agg #[.slice ra 0 rc, .slice ua 0 uc, .slice la 0 lc], .int .i64 er]) ∧ Hid (Below Y.heap.size Y w')) := Lib.hid fun W hW => by
      refine (I.expand C k n lv a m c hv W ⟨HAT.out.1.under hW, hl, hin⟩ hm (HAT.out.2.under hW) (by omega) hi hk hn hlv).mono ?_
      rintro e w' ⟨b, rfl, H⟩
      obtain ⟨h1, h2, h3⟩ := H.out
      rw [bill_not (by rw [her]; exact he)] at h2
      obtain ⟨ra, rn, rc, rl, ua, un, uc, ul, la, ln, lc, ll⟩ := b
      obtain ⟨e1, e2, e3⟩ := h2
      obtain ⟨⟨f1, _, _⟩, ⟨f2, _, _⟩, f3, _, _⟩ := h1
      dsimp only at e1 e2 e3 f1 f2 f3
      subst e1 e2 e3
      subst f1 f2 f3
      rw [her]
      exact ⟨ra, rc, ua, uc, la, lc, rfl, Lib.hid (below_then hW h3)⟩
    have n1 : (er == 0) = false := by simpa using he
    have n2 : (er != 0) = true := by simpa using he
    clear hl hb hy h hin hs hm hst hi hk hn hlv I HFEW HAT her he
    go_enter Try.func5, Try.ntmps5
    go_wp2_with fail
    clear hX hV hU hY
    refine HF.out.mono ?_
    rintro e w1 ⟨rfl, H1⟩
    clear k0 k1 k2 k3 k4 k5 k6 k7 q0 q1 q2
    obtain ⟨k0, k1, k2, k3, k4, k5, k6, k7, q0, q1, q2⟩ := HALL.out w1 H1.out
    go_wp2_with fail
    refine (HE1.out w1 H1.out).mono ?_
    rintro e w2 ⟨ra, rc, ua, uc, la, lc, rfl, H2⟩
    clear k0 k1 k2 k3 k4 k5 k6 k7 q0 q1 q2
    go_upto_region 4 with fail
    obtain ⟨V1, X1, hV1, hX1, HB1, HP1⟩ := box_bill w2 ra 0 rc ua 0 uc la 0 lc
    have HX1 : Hid (Below Y.heap.size Y X1) := Lib.hid (below_then H2.out HB1.out)
    rw [hV1, hX1]
    clear hV1 hX1
    obtain ⟨r0, r1, r2⟩ := HP1.out X1 (Below.refl _ _)
    go_wp2_with fail
    refine (HAW.out X1 HX1.out).mono ?_
    rintro e w9 ⟨rfl, H9⟩
    go_wp2_with fail
    go_ret
    exact ⟨rfl, HNO.out _ H9.out⟩
  subst he
  obtain ⟨S, hr, hme, hnr, hbl⟩ := told her
  obtain ⟨hle1, hle2, hle3⟩ := told_len hme hnr hr
  have hpw := path_whole hme hnr hr
  have hhad := had (hv := hv) hme hnr
  have hall := all_fits hme hnr hr
  obtain ⟨rsl, hrs⟩ : ∃ z, S.rs = z := ⟨_, rfl⟩
  obtain ⟨raw, hraw⟩ : ∃ z, Goods.valN S.raw = z := ⟨_, rfl⟩
  obtain ⟨al, hal⟩ : ∃ z, Goods.valA raw hv = z := ⟨_, rfl⟩
  obtain ⟨fe, hfe⟩ : ∃ z, Goods.errA raw hv = z := ⟨_, rfl⟩
  obtain ⟨nz, hnz⟩ : ∃ z, al.length = z := ⟨_, rfl⟩
  rw [hraw, hrs] at hbl
  rw [hraw, hal, hfe, hrs, hnz] at hall
  rw [hraw] at hle1
  rw [hrs] at hle2 hle3 hpw
  have HE1 : Hid (∀ W, Below Y.heap.size Y W → Calls Try.prog 9 #[.agg #[.int .i64 C.ty, .slice C.ba C.bn C.bc, .int .i64 C.pl, .slice C.ya C.yn C.yc, .int .i64 C.ch, .int .i64 C.f.broker, .int .i64 C.f.least, .int .i64 C.f.sales], .int .i64 k, .int .i64 n, .int .i64 lv, .slice a m c] W fun e w' => ∃ ra rn rc ua un uc la ln lc, e = .returned (.tuple #[.agg #[.slice ra rn rc, .slice ua un uc, .slice la ln lc], .int .i64 0]) ∧ Hid ((raw.length = rn ∧ Sts w' ra raw) ∧ (rsl.length = un ∧ IRow w' ua rsl) ∧ Below Y.heap.size Y w')) := Lib.hid fun W hW => by
    refine (I.expand C k n lv a m c hv W ⟨HAT.out.1.under hW, hl, hin⟩ hm (HAT.out.2.under hW) (by omega) hi hk hn hlv).mono ?_
    rintro e w' ⟨b, rfl, H⟩
    obtain ⟨h1, h2, h3⟩ := H.out
    rw [hbl] at h2
    obtain ⟨ra, rn, rc, rl, ua, un, uc, ul, la, ln, lc, ll⟩ := b
    obtain ⟨e1, e2, e3⟩ := h2
    obtain ⟨⟨f1, g1, _⟩, ⟨f2, g2, _⟩, f3, _, _⟩ := h1
    dsimp only at e1 e2 e3 f1 f2 f3 g1 g2
    subst e1 e2
    rw [her]
    exact ⟨ra, rn, rc, ua, un, uc, la, ln, lc, rfl, Lib.hid ⟨⟨f1, g1⟩, ⟨f2, g2⟩, below_then hW h3⟩⟩
  have HAD : Hid (∀ W ra rn rc, Below Y.heap.size Y W → raw.length = rn → Sts W ra raw → Calls Try.prog 18 #[.slice ra rn rc, .slice a m c] W fun e w' => ∃ a3 c3, e = .returned (.tuple #[.slice a3 nz c3, .int .i64 fe]) ∧ Hid (Sts w' a3 al ∧ Below W.heap.size W w')) := Lib.hid fun W ra rn rc hW h1 h2 => by
    refine (Goods.dadd ra rn rc raw a m c hv W h1 h2 (by omega) hm (HAT.out.2.under hW) (by omega)).mono ?_
    rintro e w' ⟨a', z, c', rfl, h3, h4, h5⟩
    rw [hal] at h3 h4
    rw [hnz] at h3
    subst h3
    obtain ⟨a2, c2, q, s⟩ := Goods.sts_own h4
    injection q with q1 _ q2
    subst q1 q2
    rw [hfe]
    exact ⟨_, _, rfl, Lib.hid ⟨s, h5⟩⟩
  by_cases hf0 : fe = 0
  case neg =>
    have n1 : (fe == 0) = false := by simpa using hf0
    have n2 : (fe != 0) = true := by simpa using hf0
    clear hl hb hy h hin hs hm hst hi hk hn hlv I HFEW HAT her hr hme hnr hbl hle1 hle2 hle3 hpw hhad hall hrs hraw hal hfe hnz hf0
    go_enter Try.func5, Try.ntmps5
    go_wp2_with fail
    clear hX hV hU hY
    refine HF.out.mono ?_
    rintro e w1 ⟨rfl, H1⟩
    clear k0 k1 k2 k3 k4 k5 k6 k7 q0 q1 q2
    obtain ⟨k0, k1, k2, k3, k4, k5, k6, k7, q0, q1, q2⟩ := HALL.out w1 H1.out
    go_wp2_with fail
    refine (HE1.out w1 H1.out).mono ?_
    rintro e w2 ⟨ra, rn, rc, ua, un, uc, la, ln, lc, rfl, H2⟩
    clear k0 k1 k2 k3 k4 k5 k6 k7 q0 q1 q2
    go_upto_region 4 with fail
    obtain ⟨V1, X1, hV1, hX1, HB1, HP1⟩ := box_bill w2 ra rn rc ua un uc la ln lc
    have HX1 : Hid (Below Y.heap.size Y X1 ∧ Sts X1 ra raw ∧ IRow X1 ua rsl) := Lib.hid ⟨below_then H2.out.2.2 HB1.out, H2.out.1.2.under HB1.out, H2.out.2.1.2.under HB1.out⟩
    rw [hV1, hX1]
    clear hV1 hX1
    obtain ⟨r0, r1, r2⟩ := HP1.out X1 (Below.refl _ _)
    go_wp2_with fail
    refine (HAD.out X1 ra rn rc HX1.out.1 H2.out.1.1 HX1.out.2.1).mono ?_
    rintro e w3 ⟨a3, c3, rfl, H3⟩
    have HB3 : Hid (Below Y.heap.size Y w3) := Lib.hid (below_then HX1.out.1 H3.out.2)
    go_wp2_with fail
    refine (HAW.out w3 HB3.out).mono ?_
    rintro e w9 ⟨rfl, H9⟩
    go_wp2_with fail
    go_ret
    exact ⟨rfl, HNO.out _ H9.out⟩
  subst hf0
  by_cases hz : (8 : Int) < (nz : Int)
  · clear hl hb hy h hin hs hm hst hi hk hn hlv I HFEW HAT her hr hme hnr hbl hle1 hle2 hle3 hpw hhad hall hrs hraw hal hfe hnz
    go_enter Try.func5, Try.ntmps5
    go_wp2_with fail
    clear hX hV hU hY
    refine HF.out.mono ?_
    rintro e w1 ⟨rfl, H1⟩
    clear k0 k1 k2 k3 k4 k5 k6 k7 q0 q1 q2
    obtain ⟨k0, k1, k2, k3, k4, k5, k6, k7, q0, q1, q2⟩ := HALL.out w1 H1.out
    go_wp2_with fail
    refine (HE1.out w1 H1.out).mono ?_
    rintro e w2 ⟨ra, rn, rc, ua, un, uc, la, ln, lc, rfl, H2⟩
    clear k0 k1 k2 k3 k4 k5 k6 k7 q0 q1 q2
    go_upto_region 4 with fail
    obtain ⟨V1, X1, hV1, hX1, HB1, HP1⟩ := box_bill w2 ra rn rc ua un uc la ln lc
    have HX1 : Hid (Below Y.heap.size Y X1 ∧ Sts X1 ra raw ∧ IRow X1 ua rsl) := Lib.hid ⟨below_then H2.out.2.2 HB1.out, H2.out.1.2.under HB1.out, H2.out.2.1.2.under HB1.out⟩
    rw [hV1, hX1]
    clear hV1 hX1
    obtain ⟨r0, r1, r2⟩ := HP1.out X1 (Below.refl _ _)
    go_wp2_with fail
    refine (HAD.out X1 ra rn rc HX1.out.1 H2.out.1.1 HX1.out.2.1).mono ?_
    rintro e w3 ⟨a3, c3, rfl, H3⟩
    have HB3 : Hid (Below Y.heap.size Y w3) := Lib.hid (below_then HX1.out.1 H3.out.2)
    go_wp2_with fail
    refine (HAW.out w3 HB3.out).mono ?_
    rintro e w9 ⟨rfl, H9⟩
    go_wp2_with fail
    go_ret
    exact ⟨rfl, HNO.out _ H9.out⟩
  obtain ⟨⟨hfp, hia⟩, hless⟩ := hall rfl (by omega)
  have HFT : Hid (∀ W a3 c3 ua un uc, Below Y.heap.size Y W → Sts W a3 al → rsl.length = un → IRow W ua rsl → Calls Try.prog 16 #[.agg #[.int .i64 C.ty, .slice C.ba C.bn C.bc, .int .i64 C.pl, .slice C.ya C.yn C.yc, .int .i64 C.ch, .int .i64 C.f.broker, .int .i64 C.f.least, .int .i64 C.f.sales], .int .i64 k, .int .i64 n, .int .i64 lv, .slice a3 nz c3, .slice ua un uc] W fun e w' => e = .returned (.bool true) ∧ Hid (Below W.heap.size W w')) := Lib.hid fun W a3 c3 ua un uc hW h1 h2 h3 => by
    have := I.fits C k n lv a3 nz c3 al ua un uc rsl W ⟨HAT.out.1.under hW, hl, hin⟩ hnz h1 (by omega) hia h2 h3 (by omega) hle3 hk hn hlv
    rw [decide_eq_true hfp] at this
    exact this.mono fun _ _ ⟨e, h⟩ => ⟨e, Lib.hid h⟩
  have HFF : Hid (∀ W (t : St) a3 n3 c3 ua un uc, t ∈ raw → Below Y.heap.size Y W → Sts W a3 (Goods.valS al [⟨t.kind, 1⟩]) → (Goods.valS al [⟨t.kind, 1⟩]).length = n3 → rsl.length = un → IRow W ua rsl → Calls Try.prog 16 #[.agg #[.int .i64 C.ty, .slice C.ba C.bn C.bc, .int .i64 C.pl, .slice C.ya C.yn C.yc, .int .i64 C.ch, .int .i64 C.f.broker, .int .i64 C.f.least, .int .i64 C.f.sales], .int .i64 k, .int .i64 n, .int .i64 lv, .slice a3 n3 c3, .slice ua un uc] W fun e w' => e = .returned (.bool false) ∧ Hid (Below W.heap.size W w')) := Lib.hid fun W t a3 n3 c3 ua un uc ht hW h1 h0 h2 h3 => by
    obtain ⟨_, q2, q3, q4⟩ := hless t ht
    have := I.fits C k n lv a3 n3 c3 (Goods.valS al [⟨t.kind, 1⟩]) ua un uc rsl W ⟨HAT.out.1.under hW, hl, hin⟩ h0 h1 (by omega) q3 h2 h3 (by omega) hle3 hk hn hlv
    rw [decide_eq_false q2] at this
    exact this.mono fun _ _ ⟨e, h⟩ => ⟨e, Lib.hid h⟩
  have HSU : Hid (∀ W (t : St) B a3 c3, t ∈ raw → Below Y.heap.size Y W → Sts W a3 al → W.heap[B]? = some (.cells #[.int .i64 t.kind, .int .i64 1] 51 (0, 0)) → Calls Try.prog 19 #[.slice a3 nz c3, .slice (some ⟨B, 0, none⟩) 1 1] W fun e w' => ∃ a6 n6 c6, e = .returned (.tuple #[.slice a6 n6 c6, .int .i64 0]) ∧ Hid ((Sts w' a6 (Goods.valS al [⟨t.kind, 1⟩]) ∧ (Goods.valS al [⟨t.kind, 1⟩]).length = n6) ∧ Below W.heap.size W w')) := Lib.hid fun W t B a3 c3 ht hW h1 h2 => by
    obtain ⟨q1, _, _, _⟩ := hless t ht
    have := Goods.dsub a3 nz c3 al (some ⟨B, 0, none⟩) 1 1 [⟨t.kind, 1⟩] W hnz h1 (by omega) rfl (Cat.sts_lay [⟨t.kind, 1⟩] h2 rfl) (by omega)
    rw [q1] at this
    refine this.mono ?_
    rintro e w' ⟨v, rfl, h4, h5⟩
    obtain ⟨a2, c2, q, s⟩ := Goods.sts_own h4
    subst q
    exact ⟨_, _, _, rfl, Lib.hid ⟨⟨s, rfl⟩, h5⟩⟩
  obtain ⟨pv, hpv⟩ : ∃ z, pathA C.p k rsl lv = z := ⟨_, rfl⟩
  obtain ⟨wv, hwv⟩ : ∃ z, wholeV C.p rsl lv = z := ⟨_, rfl⟩
  rw [hpv, hwv] at hpw
  obtain ⟨hp0, hw0, hpwle⟩ := hpw
  have d5 : decide (pv ≤ wv) = true := decide_eq_true hpwle
  have HPT : Hid (∀ W ua un uc, Below Y.heap.size Y W → rsl.length = un → IRow W ua rsl → Calls Try.prog 12 #[.agg #[.int .i64 C.ty, .slice C.ba C.bn C.bc, .int .i64 C.pl, .slice C.ya C.yn C.yc, .int .i64 C.ch, .int .i64 C.f.broker, .int .i64 C.f.least, .int .i64 C.f.sales], .int .i64 k, .slice ua un uc, .int .i64 lv] W fun e w' => e = .returned (.tuple #[.int .i64 pv, .int .i64 0]) ∧ Hid (Below W.heap.size W w')) := Lib.hid fun W ua un uc hW h2 h3 => by
    have := I.path C k ua un uc rsl lv W ⟨HAT.out.1.under hW, hl, hin⟩ h2 h3 (by omega) hle3 hk hlv
    rw [hpv, hp0] at this
    exact this.mono fun _ _ ⟨e, h⟩ => ⟨e, Lib.hid h⟩
  have HWT : Hid (∀ W ua un uc, Below Y.heap.size Y W → rsl.length = un → IRow W ua rsl → Calls Try.prog 14 #[.agg #[.int .i64 C.ty, .slice C.ba C.bn C.bc, .int .i64 C.pl, .slice C.ya C.yn C.yc, .int .i64 C.ch, .int .i64 C.f.broker, .int .i64 C.f.least, .int .i64 C.f.sales], .slice ua un uc, .int .i64 lv] W fun e w' => e = .returned (.tuple #[.int .i64 wv, .int .i64 0]) ∧ Hid (Below W.heap.size W w')) := Lib.hid fun W ua un uc hW h2 h3 => by
    have := I.whole C ua un uc rsl lv W ⟨HAT.out.1.under hW, hl, hin⟩ h2 h3 (by omega) hle3 hlv
    rw [hwv, hw0] at this
    exact this.mono fun _ _ ⟨e, h⟩ => ⟨e, Lib.hid h⟩
  have HE2 : Hid (∀ W B, Below Y.heap.size Y W → W.heap[B]? = some (.cells #[.int .i64 k, .int .i64 n] 51 (0, 0)) → Calls Try.prog 9 #[.agg #[.int .i64 C.ty, .slice C.ba C.bn C.bc, .int .i64 C.pl, .slice C.ya C.yn C.yc, .int .i64 C.ch, .int .i64 C.f.broker, .int .i64 C.f.least, .int .i64 C.f.sales], .int .i64 k, .int .i64 n, .int .i64 lv, .slice (some ⟨B, 0, none⟩) 1 1] W fun e w' => ∃ ra rc ua un uc la lc, e = .returned (.tuple #[.agg #[.slice ra 0 rc, .slice ua un uc, .slice la 0 lc], .int .i64 0]) ∧ Hid (Below W.heap.size W w')) := Lib.hid fun W B hW h2 => by
    refine (I.expand C k n lv (some ⟨B, 0, none⟩) 1 1 [⟨k, n⟩] W ⟨HAT.out.1.under hW, hl, hin⟩ rfl (Cat.sts_lay [⟨k, n⟩] h2 rfl) (by omega) (fun t ht => by rw [List.mem_singleton.1 ht]; exact ⟨hk, hn⟩) hk hn hlv).mono ?_
    rintro e w' ⟨b, rfl, H⟩
    obtain ⟨h1, h2, h3⟩ := H.out
    obtain ⟨ra, rn, rc, rl, ua, un, uc, ul, la, ln, lc, ll⟩ := b
    obtain ⟨e1, e2, e3⟩ := h2
    obtain ⟨⟨f1, _, _⟩, ⟨f2, _, _⟩, f3, _, _⟩ := h1
    rw [hhad.2.1] at e1
    rw [hhad.2.2] at e3
    dsimp only at e1 e3 f1 f3
    subst e1 e3
    subst f1 f3
    rw [hhad.1]
    exact ⟨ra, rc, ua, un, uc, la, lc, rfl, Lib.hid h3⟩
  have HRN : Hid (raw.length ≤ 32) := Lib.hid hle1
  clear hl hb hy h hin hs hm hst hi hk hn hlv I HFEW HAT her hr hme hnr hbl hle1 hle2 hle3 hhad hless hfp hia hrs hraw hal hfe hnz hpv hwv hp0 hw0 hpwle
  go_enter Try.func5, Try.ntmps5
  go_wp2_with fail
  clear hX hV hU hY
  refine HF.out.mono ?_
  rintro e w1 ⟨rfl, H1⟩
  clear k0 k1 k2 k3 k4 k5 k6 k7 q0 q1 q2
  obtain ⟨k0, k1, k2, k3, k4, k5, k6, k7, q0, q1, q2⟩ := HALL.out w1 H1.out
  go_wp2_with fail
  refine (HE1.out w1 H1.out).mono ?_
  rintro e w2 ⟨ra, rn, rc, ua, un, uc, la, ln, lc, rfl, H2⟩
  clear k0 k1 k2 k3 k4 k5 k6 k7 q0 q1 q2
  go_upto_region 4 with fail
  obtain ⟨V1, X1, hV1, hX1, HB1, HP1⟩ := box_bill w2 ra rn rc ua un uc la ln lc
  have HX1 : Hid (Below Y.heap.size Y X1 ∧ Sts X1 ra raw ∧ IRow X1 ua rsl) := Lib.hid ⟨below_then H2.out.2.2 HB1.out, H2.out.1.2.under HB1.out, H2.out.2.1.2.under HB1.out⟩
  rw [hV1, hX1]
  clear hV1 hX1
  obtain ⟨r0, r1, r2⟩ := HP1.out X1 (Below.refl _ _)
  go_wp2_with fail
  refine (HAD.out X1 ra rn rc HX1.out.1 H2.out.1.1 HX1.out.2.1).mono ?_
  rintro e w3 ⟨a3, c3, rfl, H3⟩
  have HB3 : Hid (Below Y.heap.size Y w3) := Lib.hid (below_then HX1.out.1 H3.out.2)
  have HCE : Hid (∀ W, Below w3.heap.size w3 W → (W.cell? ⟨V, 0, none⟩ = some (.int .i64 C.ty) ∧ W.cell? ⟨V, 1, none⟩ = some (.slice C.ba C.bn C.bc) ∧ W.cell? ⟨V, 2, none⟩ = some (.int .i64 C.pl) ∧ W.cell? ⟨V, 3, none⟩ = some (.slice C.ya C.yn C.yc) ∧ W.cell? ⟨V, 4, none⟩ = some (.int .i64 C.ch) ∧ W.cell? ⟨V, 5, none⟩ = some (.int .i64 C.f.broker) ∧ W.cell? ⟨V, 6, none⟩ = some (.int .i64 C.f.least) ∧ W.cell? ⟨V, 7, none⟩ = some (.int .i64 C.f.sales) ∧ W.cell? ⟨U, 0, none⟩ = some (.int .i64 k) ∧ W.cell? ⟨U, 1, none⟩ = some (.int .i64 n) ∧ W.cell? ⟨U, 2, none⟩ = some (.int .i64 lv) ∧ W.cell? ⟨V1, 0, none⟩ = some (.slice ra rn rc) ∧ W.cell? ⟨V1, 1, none⟩ = some (.slice ua un uc) ∧ W.cell? ⟨V1, 2, none⟩ = some (.slice la ln lc)) ∧ Below Y.heap.size Y W ∧ Sts W a3 al ∧ IRow W ua rsl) := Lib.hid fun W hW => by
    obtain ⟨k0, k1, k2, k3, k4, k5, k6, k7, q0, q1, q2⟩ := HALL.out W (below_then HB3.out hW)
    obtain ⟨r0, r1, r2⟩ := HP1.out W (below_then H3.out.2 hW)
    exact ⟨⟨k0, k1, k2, k3, k4, k5, k6, k7, q0, q1, q2, r0, r1, r2⟩, below_then HB3.out hW, H3.out.1.under hW, (HX1.out.2.2.under H3.out.2).under hW⟩
  have HTR := Goods.sts_at (HX1.out.2.1.under H3.out.2)
  clear r0 r1 r2
  obtain ⟨⟨k0, k1, k2, k3, k4, k5, k6, k7, q0, q1, q2, r0, r1, r2⟩, c1, c2, c3'⟩ := HCE.out w3 (Below.refl _ _)
  have HC1 := Lib.hid c1
  have HC2 := Lib.hid c2
  have HC3 := Lib.hid c3'
  clear c1 c2 c3'
  go_wp2_with fail
  refine (HFT.out w3 a3 c3 ua un uc HC1.out HC2.out H2.out.2.1.1 HC3.out).mono ?_
  rintro e w4 ⟨rfl, H4⟩
  clear k0 k1 k2 k3 k4 k5 k6 k7 q0 q1 q2 r0 r1 r2 HC1 HC2 HC3
  go_wp2_with fail
  go_loopw [11] (fun v wr => ∃ i : Nat, v = .int .i64 (i : Int) ∧ i ≤ rn ∧ Hid (Below w3.heap.size w3 wr)) (fun v _ => rn - (RowKit.intOf v).toNat)
  case atStart => exact ⟨0, rfl, by omega, H4⟩
  case round =>
    obtain ⟨i, rfl, hi, HI⟩ := hrel
    have hi0 : (0 : Int) ≤ (i : Int) := by omega
    obtain ⟨⟨k0, k1, k2, k3, k4, k5, k6, k7, q0, q1, q2, r0, r1, r2⟩, c1, c2, c3'⟩ := HCE.out wr HI.out
    have HC1 := Lib.hid c1
    have HC2 := Lib.hid c2
    have HC3 := Lib.hid c3'
    clear c1 c2 c3'
    by_cases hlt : i < rn
    · have hlt2 : (i : Int) < (rn : Int) := by omega
      have hd1 : decide (i < rn) = true := decide_eq_true hlt
      have wi : IntKind.i64.wrap ((i : Int) + 1) = (i : Int) + 1 := IntWalk.i64_in _ (by have := HRN.out; rw [H2.out.1.1] at this; omega)
      obtain ⟨g, off, t, hra, ht, x0, x1⟩ := HTR.out wr i HI.out (by rw [H2.out.1.1]; exact hlt)
      subst hra
      have HTM : Hid (t ∈ raw) := Lib.hid (List.mem_of_getElem? ht.out)
      have HN : Hid (Below wr.heap.size wr (wr.alloc (.cells #[.int .i64 t.kind, .int .i64 1] 51))) := Lib.hid ((Below.refl _ wr).alloc (Nat.le_refl _) _)
      have HS5 := Lib.hid (HSU.out (wr.alloc (.cells #[.int .i64 t.kind, .int .i64 1] 51)) t wr.heap.size a3 c3 HTM.out (below_then HC1.out HN.out) (HC2.out.under HN.out) (heap_alloc_new _ _))
      go_wp2_with fail
      refine HS5.out.mono ?_
      rintro e w6 ⟨a6, n6, c6, rfl, H6⟩
      have H6W : Hid (Below w3.heap.size w3 w6) := Lib.hid (below_then HI.out (below_then HN.out H6.out.2))
      clear k0 k1 k2 k3 k4 k5 k6 k7 q0 q1 q2 r0 r1 r2 x0 x1 HC1 HC2 HC3
      obtain ⟨⟨k0, k1, k2, k3, k4, k5, k6, k7, q0, q1, q2, r0, r1, r2⟩, c1, _, c3'⟩ := HCE.out w6 H6W.out
      have HC1 := Lib.hid c1
      have HC3 := Lib.hid c3'
      clear c1 c3'
      go_wp2_with fail
      refine (HFF.out w6 t a6 n6 c6 ua un uc HTM.out HC1.out H6.out.1.1 H6.out.1.2 H2.out.2.1.1 HC3.out).mono ?_
      rintro e w7 ⟨rfl, H7⟩
      have H7W : Hid (Below w3.heap.size w3 w7) := Lib.hid (below_then H6W.out H7.out)
      clear k0 k1 k2 k3 k4 k5 k6 k7 q0 q1 q2 r0 r1 r2
      go_wp2_with fail
      go_roundw
      case rel => exact ⟨i + 1, by go_num, by omega, H7W⟩
      case measure => simp [RowKit.intOf]; omega
    · have hlt2 : ¬ (i : Int) < (rn : Int) := by omega
      have hd1 : decide (i < rn) = false := decide_eq_false hlt
      go_wp2_with fail
      refine (HPT.out wr ua un uc HC1.out H2.out.2.1.1 HC3.out).mono ?_
      rintro e w5 ⟨rfl, H5⟩
      have H5W : Hid (Below w3.heap.size w3 w5) := Lib.hid (below_then HI.out H5.out)
      clear k0 k1 k2 k3 k4 k5 k6 k7 q0 q1 q2 r0 r1 r2 HC1 HC2 HC3
      obtain ⟨⟨k0, k1, k2, k3, k4, k5, k6, k7, q0, q1, q2, r0, r1, r2⟩, c1, _, c3'⟩ := HCE.out w5 H5W.out
      have HC1 := Lib.hid c1
      have HC3 := Lib.hid c3'
      clear c1 c3'
      go_wp2_with fail
      refine (HWT.out w5 ua un uc HC1.out H2.out.2.1.1 HC3.out).mono ?_
      rintro e w6 ⟨rfl, H6⟩
      have H6W : Hid (Below w3.heap.size w3 w6) := Lib.hid (below_then H5W.out H6.out)
      clear k0 k1 k2 k3 k4 k5 k6 k7 q0 q1 q2 r0 r1 r2 HC1 HC3
      obtain ⟨⟨k0, k1, k2, k3, k4, k5, k6, k7, q0, q1, q2, r0, r1, r2⟩, c1, _, _⟩ := HCE.out w6 H6W.out
      have HC1 := Lib.hid c1
      clear c1
      have HN : Hid (Below w6.heap.size w6 (w6.alloc (.cells #[.int .i64 k, .int .i64 n] 51))) := Lib.hid ((Below.refl _ w6).alloc (Nat.le_refl _) _)
      have HS7 := Lib.hid (HE2.out (w6.alloc (.cells #[.int .i64 k, .int .i64 n] 51)) w6.heap.size (below_then HC1.out HN.out) (heap_alloc_new _ _))
      go_wp2_with fail
      refine HS7.out.mono ?_
      rintro e w7 ⟨ra7, rc7, ua7, un7, uc7, la7, lc7, rfl, H7⟩
      clear k0 k1 k2 k3 k4 k5 k6 k7 q0 q1 q2 r0 r1 r2
      go_upto_region 20 with fail
      obtain ⟨V8, X8, hV8, hX8, HB8, HP8⟩ := box_bill w7 ra7 0 rc7 ua7 un7 uc7 la7 0 lc7
      have HX8 : Hid (Below Y.heap.size Y X8) := Lib.hid (below_then HC1.out (below_then HN.out (below_then H7.out HB8.out)))
      rw [hV8, hX8]
      clear hV8 hX8
      obtain ⟨r0, r1, r2⟩ := HP8.out X8 (Below.refl _ _)
      go_wp2_with fail
      refine (HAW.out X8 HX8.out).mono ?_
      rintro e w9 ⟨rfl, H9⟩
      go_wp2_with fail
      go_ret
      exact ⟨rfl, HNO.out _ H9.out⟩
end Go.Proofs.Ytohlkaoophbinaa.Bom
