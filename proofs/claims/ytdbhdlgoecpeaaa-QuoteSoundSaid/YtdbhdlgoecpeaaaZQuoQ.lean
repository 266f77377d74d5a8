/- The laws on plans, and on what fits. The law on what fits. What is asked of a plan without the document's plans; said without a program. -/
import Derived.Test.YtdbhdlgoecpeaaaZQuoArgs
import Derived.Test.YtdbhdlgoecpeaaaZQuoE
import Derived.Deep.RegionHeld3
import Derived.Test.YtdbhdlgoecpeaaaZCatOrd
import Derived.Test.YtdbhdlgoecpeaaaZBomMy
namespace Go.Proofs.Ytdbhdlgoecpeaaa.Quo
open Go.RowKit Go.Lib IRows
open Goods (St Sts OwnS)
open Cat (Cat PB Ba CM CatAt Lim I64 pOf)
open Bom (RunsOk tim tim_le tim_nonneg)

theorem box_num (w : World) (x y : Int) : ∃ V X, w.heap.size = V ∧ w.alloc (.cells #[.int .i64 x, .int .i64 y] 28) = X ∧ Hid (Below w.heap.size w X) ∧ Hid (∀ W, Below X.heap.size X W → W.cell? ⟨V, 0, none⟩ = some (.int .i64 x) ∧ W.cell? ⟨V, 1, none⟩ = some (.int .i64 y)) := by
  refine ⟨_, _, rfl, rfl, Lib.hid ((Below.refl _ w).alloc (Nat.le_refl _) _), Lib.hid (fun W hW => ?_)⟩
  have h0 := heap_alloc_new w (.cells #[.int .i64 x, .int .i64 y] 28)
  have h1 := (hW.block _ (Array.getElem?_eq_some_iff.1 h0).1).trans h0
  exact ⟨cell_block (j := 0) h1 rfl, cell_block (j := 1) h1 rfl⟩
theorem box_rest (w : World) (ra : Option Addr) (rn rc : Nat) (sa : Option Addr) (sn sc : Nat) : ∃ V X, w.heap.size = V ∧ w.alloc (.cells #[.slice ra rn rc, .slice sa sn sc] 42) = X ∧ Hid (Below w.heap.size w X) ∧ Hid (∀ W, Below X.heap.size X W → W.cell? ⟨V, 0, none⟩ = some (.slice ra rn rc) ∧ W.cell? ⟨V, 1, none⟩ = some (.slice sa sn sc)) := by
  refine ⟨_, _, rfl, rfl, Lib.hid ((Below.refl _ w).alloc (Nat.le_refl _) _), Lib.hid (fun W hW => ?_)⟩
  have h0 := heap_alloc_new w (.cells #[.slice ra rn rc, .slice sa sn sc] 42)
  have h1 := (hW.block _ (Array.getElem?_eq_some_iff.1 h0).1).trans h0
  exact ⟨cell_block (j := 0) h1 rfl, cell_block (j := 1) h1 rfl⟩
theorem awake_at (I : Impl) (w : World) : Hid (∀ W, Below w.heap.size w W → Calls Try.prog 7 #[] W fun e w' => e = .returned (.bool true) ∧ Hid (Below w.heap.size w w')) :=
  Lib.hid fun W hW => (awake_in I W).mono fun _ _ ⟨e, h⟩ => ⟨e, Lib.hid (below_then hW h)⟩
theorem planL_len (C : Cat) (bay : Int) (rs : List Int) (lv : Int) : (planL C bay rs lv).length ≤ C.bs.length := by
  by_cases h : planE C bay rs lv = 0
  · rw [(plan_told h).2.1, spans_len]
    exact Nat.le_refl _
  · rw [plan_none h]
    exact Nat.zero_le _
open Classical in
set_option maxRecDepth 100000 in
set_option maxHeartbeats 16000000 in
theorem quotePlans_in (I : Impl) (C : CM) (n v : Int) (a : Option Addr) (m c : Nat) (rs : List Int) (w : World) (h : CatAt w C) (hb : C.bn ≤ 9223372036854775807) (hy : C.yn ≤ 9223372036854775807) (hs : ∀ b ∈ C.bs, b.sm ≤ 9223372036854775807) (hr : rs.length = m) (hrs : IRow w a rs) :
    Calls Try.prog 3 #[C.v, .agg #[.int .i64 n, .int .i64 v], .slice a m c] w fun e w' => e = .returned (.bool true) ∧ Below w.heap.size w w' := by
  obtain ⟨V, X, hV, hX, HXB, HP⟩ := Cat.box_cat w C
  obtain ⟨U, Y, hU, hY, HYB, HQ⟩ := box_num X n v
  have HAW := awake_at I Y
  have HXY : Hid (Below w.heap.size w Y) := Lib.hid (below_then HXB.out HYB.out)
  have HNO : Hid (∀ W, Below Y.heap.size Y W → Below w.heap.size w W) := Lib.hid fun W hW => below_then HXY.out hW
  have HALL : Hid (∀ W, Below Y.heap.size Y W → W.cell? ⟨V, 0, none⟩ = some (.int .i64 C.ty) ∧ W.cell? ⟨V, 1, none⟩ = some (.slice C.ba C.bn C.bc) ∧ W.cell? ⟨V, 2, none⟩ = some (.int .i64 C.pl) ∧ W.cell? ⟨V, 3, none⟩ = some (.slice C.ya C.yn C.yc) ∧ W.cell? ⟨V, 4, none⟩ = some (.int .i64 C.ch) ∧ W.cell? ⟨V, 5, none⟩ = some (.int .i64 C.f.broker) ∧ W.cell? ⟨V, 6, none⟩ = some (.int .i64 C.f.least) ∧ W.cell? ⟨V, 7, none⟩ = some (.int .i64 C.f.sales) ∧ W.cell? ⟨U, 0, none⟩ = some (.int .i64 n) ∧ W.cell? ⟨U, 1, none⟩ = some (.int .i64 v)) := Lib.hid fun W hW => by
    obtain ⟨k0, k1, k2, k3, k4, k5, k6, k7⟩ := HP.out W (below_then HYB.out hW)
    obtain ⟨q0, q1⟩ := HQ.out W hW
    exact ⟨k0, k1, k2, k3, k4, k5, k6, k7, q0, q1⟩
  have HFEW : Hid (∀ t, decide (Lim C) = t → Calls Try.prog 6 #[.agg #[.int .i64 C.ty, .slice C.ba C.bn C.bc, .int .i64 C.pl, .slice C.ya C.yn C.yc, .int .i64 C.ch, .int .i64 C.f.broker, .int .i64 C.f.least, .int .i64 C.f.sales]] Y fun e w' => e = .returned (.bool t) ∧ Hid (Below Y.heap.size Y w')) := Lib.hid fun t ht => by
    have := Cat.dfew C Y (h.under HXY.out) hb hy hs
    rw [ht] at this
    exact this.mono fun _ _ ⟨e, h⟩ => ⟨e, Lib.hid h⟩
  have HAT : Hid (CatAt Y C ∧ IRow Y a rs) := Lib.hid ⟨h.under HXY.out, hrs.under HXY.out⟩
  obtain ⟨k0, k1, k2, k3, k4, k5, k6, k7, q0, q1⟩ := HALL.out Y (Below.refl _ _)
  by_cases hl : Lim C
  case neg =>
    have HF := Lib.hid (HFEW.out false (decide_eq_false hl))
    clear hl hb hy h hs hr hrs I HFEW HAT
    go_enter Try.func3, Try.ntmps3
    go_wp2_with fail
    clear hX hV hU hY
    refine HF.out.mono ?_
    rintro e w1 ⟨rfl, H1⟩
    go_wp2_with fail
    refine (HAW.out w1 H1.out).mono ?_
    rintro e w2 ⟨rfl, H2⟩
    go_wp2_with fail
    go_ret
    exact ⟨rfl, HNO.out _ H2.out⟩
  have HF := Lib.hid (HFEW.out true (decide_eq_true hl))
  by_cases hm1 : (20 : Int) < (m : Int)
  · clear hl hb hy h hs hr hrs I HFEW HAT
    go_enter Try.func3, Try.ntmps3
    go_wp2_with fail
    clear hX hV hU hY
    refine HF.out.mono ?_
    rintro e w1 ⟨rfl, H1⟩
    go_wp2_with fail
    refine (HAW.out w1 H1.out).mono ?_
    rintro e w2 ⟨rfl, H2⟩
    go_wp2_with fail
    go_ret
    exact ⟨rfl, HNO.out _ H2.out⟩
  have hbn : C.p.bs.length ≤ 20 := by rw [blues_len C w h]; exact hl.2.1
  obtain ⟨N, hN⟩ : ∃ z, (planL C.p n rs v).length = z := ⟨_, rfl⟩
  have hN1 : N ≤ 20 := by have := planL_len C.p n rs v; omega
  obtain ⟨l, hL⟩ : ∃ z, planL C.p n rs v = z := ⟨_, rfl⟩
  have hN2 : l.length = N := by rw [← hL]; exact hN
  obtain ⟨pe, hpe⟩ : ∃ z, planE C.p n rs v = z := ⟨_, rfl⟩
  obtain ⟨fv, hfv⟩ : ∃ z, feeQ C.p n rs v = z := ⟨_, rfl⟩
  obtain ⟨fe, hfe⟩ : ∃ z, mayQ C.p n rs v = z := ⟨_, rfl⟩
  obtain ⟨cv, hcv⟩ : ∃ z, cheapV C.p rs v = z := ⟨_, rfl⟩
  obtain ⟨ce, hce⟩ : ∃ z, cheapE C.p rs v = z := ⟨_, rfl⟩
  have HP1 : Hid (∀ W, Below Y.heap.size Y W → Calls Try.prog 8 #[.agg #[.int .i64 C.ty, .slice C.ba C.bn C.bc, .int .i64 C.pl, .slice C.ya C.yn C.yc, .int .i64 C.ch, .int .i64 C.f.broker, .int .i64 C.f.least, .int .i64 C.f.sales], .int .i64 n, .slice a m c, .int .i64 v] W fun e w' => ∃ a' c', e = .returned (.tuple #[.slice a' N c', .int .i64 pe]) ∧ Hid (Spa w' a' l ∧ Below Y.heap.size Y w')) := Lib.hid fun W hW => by
    refine (I.plan C n a m c rs v W (HAT.out.1.under hW) hl hr (HAT.out.2.under hW) (by omega)).mono ?_
    rintro e w' ⟨a', n', c', rfl, H⟩
    have H := H.out
    rw [hL, hN2] at H
    obtain ⟨rfl, h2, h3⟩ := H
    exact ⟨a', c', by simp only [hpe], Lib.hid ⟨h2, below_then hW h3⟩⟩
  have HP2 : Hid (∀ W, Below Y.heap.size Y W → Calls Try.prog 9 #[.agg #[.int .i64 C.ty, .slice C.ba C.bn C.bc, .int .i64 C.pl, .slice C.ya C.yn C.yc, .int .i64 C.ch, .int .i64 C.f.broker, .int .i64 C.f.least, .int .i64 C.f.sales], .int .i64 n, .slice a m c, .int .i64 v] W fun e w' => ∃ a' c', e = .returned (.tuple #[.slice a' N c', .int .i64 pe]) ∧ Hid (Spa w' a' l ∧ Below W.heap.size W w')) := Lib.hid fun W hW => by
    refine (dplan C n a m c rs v W (HAT.out.1.under hW) hl hr (HAT.out.2.under hW) (by omega)).mono ?_
    rintro e w' ⟨a', n', c', rfl, H⟩
    have H := H.out
    rw [hL, hN2] at H
    obtain ⟨rfl, h2, h3⟩ := H
    exact ⟨a', c', by simp only [hpe], Lib.hid ⟨h2, h3⟩⟩
  have HF1 : Hid (∀ W, Below Y.heap.size Y W → Calls Try.prog 10 #[.agg #[.int .i64 C.ty, .slice C.ba C.bn C.bc, .int .i64 C.pl, .slice C.ya C.yn C.yc, .int .i64 C.ch, .int .i64 C.f.broker, .int .i64 C.f.least, .int .i64 C.f.sales], .int .i64 n, .slice a m c, .int .i64 v] W fun e w' => e = .returned (.tuple #[.int .i64 fv, .int .i64 fe]) ∧ Hid (Below W.heap.size W w')) := Lib.hid fun W hW => by
    refine (I.fee C n a m c rs v W (HAT.out.1.under hW) hl hr (HAT.out.2.under hW) (by omega)).mono ?_
    rintro e w' ⟨rfl, H⟩
    exact ⟨by simp only [hfv, hfe], Lib.hid H⟩
  have HF2 : Hid (∀ W, Below Y.heap.size Y W → Calls Try.prog 11 #[.agg #[.int .i64 C.ty, .slice C.ba C.bn C.bc, .int .i64 C.pl, .slice C.ya C.yn C.yc, .int .i64 C.ch, .int .i64 C.f.broker, .int .i64 C.f.least, .int .i64 C.f.sales], .int .i64 n, .slice a m c, .int .i64 v] W fun e w' => e = .returned (.tuple #[.int .i64 fv, .int .i64 fe]) ∧ Hid (Below W.heap.size W w')) := Lib.hid fun W hW => by
    refine (dfeeq C n a m c rs v W (HAT.out.1.under hW) hl hr (HAT.out.2.under hW) (by omega)).mono ?_
    rintro e w' ⟨rfl, H⟩
    exact ⟨by simp only [hfv, hfe], Lib.hid H⟩
  have HC1 : Hid (∀ W, Below Y.heap.size Y W → Calls Try.prog 12 #[.agg #[.int .i64 C.ty, .slice C.ba C.bn C.bc, .int .i64 C.pl, .slice C.ya C.yn C.yc, .int .i64 C.ch, .int .i64 C.f.broker, .int .i64 C.f.least, .int .i64 C.f.sales], .slice a m c, .int .i64 v] W fun e w' => e = .returned (.tuple #[.int .i64 cv, .int .i64 ce]) ∧ Hid (Below W.heap.size W w')) := Lib.hid fun W hW => by
    refine (I.cheap C a m c rs v W (HAT.out.1.under hW) hl hr (HAT.out.2.under hW) (by omega)).mono ?_
    rintro e w' ⟨rfl, H⟩
    exact ⟨by simp only [hcv, hce], Lib.hid H⟩
  have HC2 : Hid (∀ W, Below Y.heap.size Y W → Calls Try.prog 13 #[.agg #[.int .i64 C.ty, .slice C.ba C.bn C.bc, .int .i64 C.pl, .slice C.ya C.yn C.yc, .int .i64 C.ch, .int .i64 C.f.broker, .int .i64 C.f.least, .int .i64 C.f.sales], .slice a m c, .int .i64 v] W fun e w' => e = .returned (.tuple #[.int .i64 cv, .int .i64 ce]) ∧ Hid (Below W.heap.size W w')) := Lib.hid fun W hW => by
    refine (dcheap C a m c rs v W (HAT.out.1.under hW) hl hr (HAT.out.2.under hW) (by omega)).mono ?_
    rintro e w' ⟨rfl, H⟩
    exact ⟨by simp only [hcv, hce], Lib.hid H⟩
  have HSA : Hid (∀ W a1 c1 a2 c2, Spa W a1 l → Spa W a2 l → Calls Try.prog 14 #[.slice a1 N c1, .slice a2 N c2] W fun e w' => e = .returned (.bool true) ∧ Hid (Below W.heap.size W w')) := Lib.hid fun W a1 c1 a2 c2 h1 h2 =>
    (dsameq a1 N c1 a2 c2 l W hN2 h1 h2 (by omega)).mono fun _ _ ⟨e, h⟩ => ⟨e, Lib.hid h⟩
  have e1 : (pe == pe) = true := by simp
  have e2 : (fv == fv) = true := by simp
  have e3 : (fe == fe) = true := by simp
  have e4 : (cv == cv) = true := by simp
  have e5 : (ce == ce) = true := by simp
  clear hl hb hy h hs hr hrs I HFEW HAT hpe hfv hfe hcv hce hbn hN hL hN2 hN1
  go_enter Try.func3, Try.ntmps3
  go_wp2_with fail
  clear hX hV hU hY
  refine HF.out.mono ?_
  rintro e w1 ⟨rfl, H1⟩
  clear k0 k1 k2 k3 k4 k5 k6 k7 q0 q1
  obtain ⟨k0, k1, k2, k3, k4, k5, k6, k7, q0, q1⟩ := HALL.out w1 H1.out
  go_wp2_with fail
  refine (HP1.out w1 H1.out).mono ?_
  rintro e w2 ⟨a1, c1, rfl, P2⟩
  clear k0 k1 k2 k3 k4 k5 k6 k7 q0 q1
  obtain ⟨k0, k1, k2, k3, k4, k5, k6, k7, q0, q1⟩ := HALL.out w2 P2.out.2
  go_wp2_with fail
  refine (HP2.out w2 P2.out.2).mono ?_
  rintro e w3 ⟨a2, c2, rfl, P3⟩
  have G3 : Hid (Below Y.heap.size Y w3 ∧ Spa w3 a1 l ∧ Spa w3 a2 l) := Lib.hid ⟨below_then P2.out.2 P3.out.2, P2.out.1.under P3.out.2, P3.out.1⟩
  clear k0 k1 k2 k3 k4 k5 k6 k7 q0 q1 P2 P3
  obtain ⟨k0, k1, k2, k3, k4, k5, k6, k7, q0, q1⟩ := HALL.out w3 G3.out.1
  go_wp2_with fail
  refine (HF1.out w3 G3.out.1).mono ?_
  rintro e w4 ⟨rfl, P4⟩
  have G4 : Hid (Below Y.heap.size Y w4 ∧ Spa w4 a1 l ∧ Spa w4 a2 l) := Lib.hid ⟨below_then G3.out.1 P4.out, G3.out.2.1.under P4.out, G3.out.2.2.under P4.out⟩
  clear k0 k1 k2 k3 k4 k5 k6 k7 q0 q1 G3 P4
  obtain ⟨k0, k1, k2, k3, k4, k5, k6, k7, q0, q1⟩ := HALL.out w4 G4.out.1
  go_wp2_with fail
  refine (HF2.out w4 G4.out.1).mono ?_
  rintro e w5 ⟨rfl, P5⟩
  have G5 : Hid (Below Y.heap.size Y w5 ∧ Spa w5 a1 l ∧ Spa w5 a2 l) := Lib.hid ⟨below_then G4.out.1 P5.out, G4.out.2.1.under P5.out, G4.out.2.2.under P5.out⟩
  clear k0 k1 k2 k3 k4 k5 k6 k7 q0 q1 G4 P5
  obtain ⟨k0, k1, k2, k3, k4, k5, k6, k7, q0, q1⟩ := HALL.out w5 G5.out.1
  go_wp2_with fail
  refine (HC1.out w5 G5.out.1).mono ?_
  rintro e w6 ⟨rfl, P6⟩
  have G6 : Hid (Below Y.heap.size Y w6 ∧ Spa w6 a1 l ∧ Spa w6 a2 l) := Lib.hid ⟨below_then G5.out.1 P6.out, G5.out.2.1.under P6.out, G5.out.2.2.under P6.out⟩
  clear k0 k1 k2 k3 k4 k5 k6 k7 q0 q1 G5 P6
  obtain ⟨k0, k1, k2, k3, k4, k5, k6, k7, q0, q1⟩ := HALL.out w6 G6.out.1
  go_wp2_with fail
  refine (HC2.out w6 G6.out.1).mono ?_
  rintro e w7 ⟨rfl, P7⟩
  have G7 : Hid (Below Y.heap.size Y w7 ∧ Spa w7 a1 l ∧ Spa w7 a2 l) := Lib.hid ⟨below_then G6.out.1 P7.out, G6.out.2.1.under P7.out, G6.out.2.2.under P7.out⟩
  clear k0 k1 k2 k3 k4 k5 k6 k7 q0 q1 G6 P7
  go_wp2_with fail
  refine (HSA.out w7 a1 c1 a2 c2 G7.out.2.1 G7.out.2.2).mono ?_
  rintro e w8 ⟨rfl, P8⟩
  have G8 : Hid (Below Y.heap.size Y w8) := Lib.hid (below_then G7.out.1 P8.out)
  clear G7 P8
  go_wp2_with fail
  refine (HAW.out w8 G8.out).mono ?_
  rintro e w9 ⟨rfl, H9⟩
  go_wp2_with fail
  go_ret
  exact ⟨rfl, HNO.out _ H9.out⟩
end Go.Proofs.Ytdbhdlgoecpeaaa.Quo
namespace Go.Proofs.Ytdbhdlgoecpeaaa.Quo
open Go.RowKit Go.Lib IRows
open Goods (St Sts OwnS)
open Cat (Cat PB Ba CM CatAt Lim I64 pOf)
open Bom (RunsOk tim tim_le tim_nonneg)

open Classical in
set_option maxRecDepth 100000 in
set_option maxHeartbeats 16000000 in
theorem quoteFits_in (I : Impl) (C : CM) (n v : Int) (a : Option Addr) (m c : Nat) (rs : List Int) (la : Option Addr) (ln lc : Nat) (l : List Sp) (w : World) (h : CatAt w C) (hb : C.bn ≤ 9223372036854775807) (hy : C.yn ≤ 9223372036854775807) (hs : ∀ b ∈ C.bs, b.sm ≤ 9223372036854775807) (hr : rs.length = m) (hrs : IRow w a rs) (hll : l.length = ln) (hls : Spa w la l) (hli : InSp l) :
    Calls Try.prog 4 #[C.v, .agg #[.int .i64 n, .int .i64 v], .agg #[.slice a m c, .slice la ln lc]] w fun e w' => e = .returned (.bool true) ∧ Below w.heap.size w w' := by
  obtain ⟨V, X, hV, hX, HXB, HP⟩ := Cat.box_cat w C
  obtain ⟨U, Z, hU, hZ, HZB, HQ⟩ := box_num X n v
  obtain ⟨T, Y, hT, hY, HYB, HR⟩ := box_rest Z a m c la ln lc
  have HAW := awake_at I Y
  have HXY : Hid (Below w.heap.size w Y) := Lib.hid (below_then HXB.out (below_then HZB.out HYB.out))
  have HNO : Hid (∀ W, Below Y.heap.size Y W → Below w.heap.size w W) := Lib.hid fun W hW => below_then HXY.out hW
  have HALL : Hid (∀ W, Below Y.heap.size Y W → W.cell? ⟨V, 0, none⟩ = some (.int .i64 C.ty) ∧ W.cell? ⟨V, 1, none⟩ = some (.slice C.ba C.bn C.bc) ∧ W.cell? ⟨V, 2, none⟩ = some (.int .i64 C.pl) ∧ W.cell? ⟨V, 3, none⟩ = some (.slice C.ya C.yn C.yc) ∧ W.cell? ⟨V, 4, none⟩ = some (.int .i64 C.ch) ∧ W.cell? ⟨V, 5, none⟩ = some (.int .i64 C.f.broker) ∧ W.cell? ⟨V, 6, none⟩ = some (.int .i64 C.f.least) ∧ W.cell? ⟨V, 7, none⟩ = some (.int .i64 C.f.sales) ∧ W.cell? ⟨U, 0, none⟩ = some (.int .i64 n) ∧ W.cell? ⟨U, 1, none⟩ = some (.int .i64 v) ∧ W.cell? ⟨T, 0, none⟩ = some (.slice a m c) ∧ W.cell? ⟨T, 1, none⟩ = some (.slice la ln lc)) := Lib.hid fun W hW => by
    obtain ⟨k0, k1, k2, k3, k4, k5, k6, k7⟩ := HP.out W (below_then HZB.out (below_then HYB.out hW))
    obtain ⟨q0, q1⟩ := HQ.out W (below_then HYB.out hW)
    obtain ⟨r0, r1⟩ := HR.out W hW
    exact ⟨k0, k1, k2, k3, k4, k5, k6, k7, q0, q1, r0, r1⟩
  have HFEW : Hid (∀ t, decide (Lim C) = t → Calls Try.prog 6 #[.agg #[.int .i64 C.ty, .slice C.ba C.bn C.bc, .int .i64 C.pl, .slice C.ya C.yn C.yc, .int .i64 C.ch, .int .i64 C.f.broker, .int .i64 C.f.least, .int .i64 C.f.sales]] Y fun e w' => e = .returned (.bool t) ∧ Hid (Below Y.heap.size Y w')) := Lib.hid fun t ht => by
    have := Cat.dfew C Y (h.under HXY.out) hb hy hs
    rw [ht] at this
    exact this.mono fun _ _ ⟨e, h⟩ => ⟨e, Lib.hid h⟩
  have HAT : Hid (CatAt Y C ∧ IRow Y a rs ∧ Spa Y la l) := Lib.hid ⟨h.under HXY.out, hrs.under HXY.out, hls.under HXY.out⟩
  obtain ⟨k0, k1, k2, k3, k4, k5, k6, k7, q0, q1, r0, r1⟩ := HALL.out Y (Below.refl _ _)
  by_cases hl : Lim C
  case neg =>
    have HF := Lib.hid (HFEW.out false (decide_eq_false hl))
    clear hl hb hy h hs hr hrs hll hls hli I HFEW HAT
    go_enter Try.func4, Try.ntmps4
    go_wp2_with fail
    clear hX hV hU hY hT hZ
    refine HF.out.mono ?_
    rintro e w1 ⟨rfl, H1⟩
    go_wp2_with fail
    refine (HAW.out w1 H1.out).mono ?_
    rintro e w2 ⟨rfl, H2⟩
    go_wp2_with fail
    go_ret
    exact ⟨rfl, HNO.out _ H2.out⟩
  have HF := Lib.hid (HFEW.out true (decide_eq_true hl))
  by_cases hm1 : (20 : Int) < (m : Int)
  · clear hl hb hy h hs hr hrs hll hls hli I HFEW HAT
    go_enter Try.func4, Try.ntmps4
    go_wp2_with fail
    clear hX hV hU hY hT hZ
    refine HF.out.mono ?_
    rintro e w1 ⟨rfl, H1⟩
    clear k0 k1 k2 k3 k4 k5 k6 k7 q0 q1 r0 r1
    obtain ⟨k0, k1, k2, k3, k4, k5, k6, k7, q0, q1, r0, r1⟩ := HALL.out w1 H1.out
    go_wp2_with fail
    refine (HAW.out w1 H1.out).mono ?_
    rintro e w2 ⟨rfl, H2⟩
    go_wp2_with fail
    go_ret
    exact ⟨rfl, HNO.out _ H2.out⟩
  by_cases hm2 : (20 : Int) < (ln : Int)
  · clear hl hb hy h hs hr hrs hll hls hli I HFEW HAT
    go_enter Try.func4, Try.ntmps4
    go_wp2_with fail
    clear hX hV hU hY hT hZ
    refine HF.out.mono ?_
    rintro e w1 ⟨rfl, H1⟩
    clear k0 k1 k2 k3 k4 k5 k6 k7 q0 q1 r0 r1
    obtain ⟨k0, k1, k2, k3, k4, k5, k6, k7, q0, q1, r0, r1⟩ := HALL.out w1 H1.out
    go_wp2_with fail
    refine (HAW.out w1 H1.out).mono ?_
    rintro e w2 ⟨rfl, H2⟩
    go_wp2_with fail
    go_ret
    exact ⟨rfl, HNO.out _ H2.out⟩
  obtain ⟨ft, hft⟩ : ∃ z, decide (FitsQ C.p n rs v l) = z := ⟨_, rfl⟩
  have HF1 : Hid (∀ W, Below Y.heap.size Y W → Calls Try.prog 15 #[.agg #[.int .i64 C.ty, .slice C.ba C.bn C.bc, .int .i64 C.pl, .slice C.ya C.yn C.yc, .int .i64 C.ch, .int .i64 C.f.broker, .int .i64 C.f.least, .int .i64 C.f.sales], .int .i64 n, .slice a m c, .int .i64 v, .slice la ln lc] W fun e w' => e = .returned (.bool ft) ∧ Hid (Below Y.heap.size Y w')) := Lib.hid fun W hW => by
    refine (I.fits C n a m c rs v la ln lc l W (HAT.out.1.under hW) hl hr (HAT.out.2.1.under hW) (by omega) hll (HAT.out.2.2.under hW) hli (by omega)).mono ?_
    rintro e w' ⟨rfl, H⟩
    exact ⟨by simp only [hft], Lib.hid (below_then hW H)⟩
  have HF2 : Hid (∀ W, Below Y.heap.size Y W → Calls Try.prog 16 #[.agg #[.int .i64 C.ty, .slice C.ba C.bn C.bc, .int .i64 C.pl, .slice C.ya C.yn C.yc, .int .i64 C.ch, .int .i64 C.f.broker, .int .i64 C.f.least, .int .i64 C.f.sales], .int .i64 n, .slice a m c, .int .i64 v, .slice la ln lc] W fun e w' => e = .returned (.bool ft) ∧ Hid (Below Y.heap.size Y w')) := Lib.hid fun W hW => by
    refine (dfitsq C n a m c rs v la ln lc l W (HAT.out.1.under hW) hl hr (HAT.out.2.1.under hW) (by omega) hll (HAT.out.2.2.under hW) hli (by omega)).mono ?_
    rintro e w' ⟨rfl, H⟩
    exact ⟨by simp only [hft], Lib.hid (below_then hW H)⟩
  have e5 : (ft == ft) = true := by simp
  clear hl hb hy h hs hr hrs hll hls hli I HFEW HAT hft
  go_enter Try.func4, Try.ntmps4
  go_wp2_with fail
  clear hX hV hU hY hT hZ
  refine HF.out.mono ?_
  rintro e w1 ⟨rfl, H1⟩
  clear k0 k1 k2 k3 k4 k5 k6 k7 q0 q1 r0 r1
  obtain ⟨k0, k1, k2, k3, k4, k5, k6, k7, q0, q1, r0, r1⟩ := HALL.out w1 H1.out
  have D1 : Hid (Below Y.heap.size Y w1.drew) := Lib.hid H1.out.drew
  go_upto_region 3 with fail
  clear k0 k1 k2 k3 k4 k5 k6 k7 q0 q1 r0 r1
  go_region_held3 (fun W => W.cell? ⟨V, 0, none⟩ = some (.int .i64 C.ty) ∧ W.cell? ⟨V, 1, none⟩ = some (.slice C.ba C.bn C.bc) ∧ W.cell? ⟨V, 2, none⟩ = some (.int .i64 C.pl) ∧ W.cell? ⟨V, 3, none⟩ = some (.slice C.ya C.yn C.yc) ∧ W.cell? ⟨V, 4, none⟩ = some (.int .i64 C.ch) ∧ W.cell? ⟨V, 5, none⟩ = some (.int .i64 C.f.broker) ∧ W.cell? ⟨V, 6, none⟩ = some (.int .i64 C.f.least) ∧ W.cell? ⟨V, 7, none⟩ = some (.int .i64 C.f.sales) ∧ W.cell? ⟨U, 0, none⟩ = some (.int .i64 n) ∧ W.cell? ⟨U, 1, none⟩ = some (.int .i64 v) ∧ W.cell? ⟨T, 0, none⟩ = some (.slice a m c) ∧ W.cell? ⟨T, 1, none⟩ = some (.slice la ln lc))
    (first
      | exact HALL.out _ D1.out
      | exact HALL.out _ H1.out
      | exact HALL.out _ H6.out
      | exact HALL.out _ H7.out
      | exact HALL.out _ H8.out
      | fail)
    (first
      | (go_at_call 15; with_reducible (refine (HF1.out _ D1.out).mono ?_); rintro e w6 ⟨rfl, H6⟩)
      | (go_at_call 16; with_reducible (refine (HF2.out _ H6.out).mono ?_); rintro e w7 ⟨rfl, H7⟩)
      | (go_at_call 7; with_reducible (refine (HAW.out _ H7.out).mono ?_); rintro e w8 ⟨rfl, H8⟩)
      | fail)
  all_goals
    go_wp2_with fail
    go_ret
    exact ⟨rfl, HNO.out _ H8.out⟩
end Go.Proofs.Ytdbhdlgoecpeaaa.Quo
namespace Go.Proofs.Ytdbhdlgoecpeaaa.Quo
open Cat (Cat PB Ba CM CatAt Lim I64 pOf)
open Bom (RunsOk tim tim_le tim_nonneg)

theorem all_whl {C : Cat} {rs : List Int} {lv m : Int} (h : RunsOk C rs) : ∀ i, i ≤ C.bs.length → allT (jbOf C rs lv m) i = Bom.whl lv (C.bs.take i) (rs.take i)
  | 0, _ => by simp [allT, Bom.whl]
  | i + 1, hi => by
    have hb := List.getElem?_eq_getElem (show i < C.bs.length by omega)
    have hr := List.getElem?_eq_getElem (show i < rs.length by rw [h.1]; omega)
    rw [allT, all_whl h i (by omega), Bom.whl_take lv hb hr, jb_tk hb hr, jb_j hr]
    by_cases h0 : 0 < rs[i]'(by rw [h.1]; omega)
    · rw [if_pos (by simpa using h0)]
    · rw [if_neg (by simpa using h0)]
      have h1 := (h.2 _ (List.getElem_mem (show i < rs.length by rw [h.1]; omega))).1
      have e : rs[i]'(by rw [h.1]; omega) = 0 := by omega
      rw [e]
      unfold tim
      rw [if_pos rfl]
theorem listed_nil (ty : Int) : Goods.Listed [] ty := by
  have hN : Goods.Norm [] := ⟨.nil, fun s hs => (by cases hs), fun s hs => (by cases hs)⟩
  have hov : ¬ Goods.Over [] := fun ⟨j, hj⟩ => by
    rw [Goods.cnt_nil] at hj
    unfold Goods.mq at hj
    omega
  exact ⟨by simp, Goods.errN_ok (Goods.fine_norm hN) hov, Goods.nl_norm hN, fun s hs => (by cases hs)⟩
theorem whole_is {C : Cat} {bay lv : Int} {rs : List Int} (h : mayQ C bay rs lv = 0) : Bom.wholeE C rs lv = 0 ∧ Bom.wholeV C rs lv = Bom.whl lv C.bs rs := by
  obtain ⟨hc, _, hR, hlv⟩ := may_zero h
  have hm : Bom.mayE C 1 lv [] = 0 := Bom.mayE_ok hc ⟨by omega, (Cat.chk_zero hc).1.1.1⟩ hlv (listed_nil _)
  exact ⟨by unfold Bom.wholeE; rw [if_pos hm, if_pos hR], by unfold Bom.wholeV; rw [if_pos ⟨hm, hR⟩]⟩
theorem plan_sound {C : Cat} {bay lv : Int} {rs : List Int} (h : planE C bay rs lv = 0) : (∀ k, k < C.bs.length → eAt (planL C bay rs lv) k ≤ Bom.wholeV C rs lv) ∧ ∀ k, k < C.bs.length → sAt (planL C bay rs lv) k = 0 ∨ ∃ x, x < C.bs.length ∧ 0 < rs.getD x 0 ∧ eAt (planL C bay rs lv) x = sAt (planL C bay rs lv) k := by
  obtain ⟨hm, hl, hF, hq⟩ := plan_told h
  obtain ⟨_, _, hR, _⟩ := may_zero hm
  obtain ⟨_, h2, h3⟩ := pl_sound hF hq
  have e : allT (jbB C bay rs lv) (jbB C bay rs lv).n = Bom.wholeV C rs lv := by
    rw [(whole_is hm).2]
    have := all_whl (C := C) (rs := rs) (lv := lv) (m := (Cat.bayV C bay).mf) hR C.bs.length (Nat.le_refl _)
    rw [List.take_of_length_le (Nat.le_refl _), List.take_of_length_le (by rw [hR.1]; exact Nat.le_refl _)] at this
    exact this
  rw [hl]
  refine ⟨fun k hk => ?_, fun k hk => ?_⟩
  · rw [(spans_sAt hk).2, ← e]
    exact h2 k hk
  · rw [(spans_sAt hk).1]
    rcases h3 k hk with h4 | ⟨x, hx, hj, he⟩
    · exact .inl h4
    · have hx : x < C.bs.length := hx
      exact .inr ⟨x, hx, of_decide_eq_true hj, by rw [(spans_sAt hx).2]; exact he⟩
theorem plan_in {C : Cat} {bay lv : Int} {rs : List Int} (hn : C.bs.length ≤ 20) (h : planE C bay rs lv = 0) : InSp (planL C bay rs lv) := fun t ht => by
  obtain ⟨_, hl, hF, hq⟩ := plan_told h
  have hO := (pl_ok hF hq).1
  have hA := (jb_all (C := C) rs lv (Cat.bayV C bay).mf hn).2
  rw [hl] at ht
  unfold spans at ht
  rw [List.mem_map] at ht
  obtain ⟨k, _, rfl⟩ := ht
  have h1 := hO.e_in hF.t0 k
  have h2 : 0 ≤ (planP C bay rs lv).s k ∧ (planP C bay rs lv).s k ≤ (planP C bay rs lv).e k := by
    cases hb : (planP C bay rs lv).b k with
    | false =>
      rw [(hO.none k hb).1, (hO.none k hb).2]
      omega
    | true =>
      obtain ⟨_, _, g1, _, g2⟩ := hO.job k hb
      have := hF.t0 k
      omega
  have h3 : (planP C bay rs lv).e k ≤ 2097152000000 := Int.le_trans h1.2 hA
  show I64 ((planP C bay rs lv).s k) ∧ I64 ((planP C bay rs lv).e k)
  unfold I64
  omega
/-- Whether one begins at 0, or where one of the first so many is over. -/
def okF (l : List Sp) (rs : List Int) (k : Nat) : Nat → Bool
  | 0 => decide (sAt l k = 0)
  | x + 1 => okF l rs k x || (decide (0 < rs.getD x 0) && decide (eAt l x = sAt l k))
theorem okF_zero {l : List Sp} {rs : List Int} {k : Nat} (h : sAt l k = 0) : ∀ n, okF l rs k n = true
  | 0 => decide_eq_true h
  | n + 1 => by rw [okF, okF_zero h n]; rfl
theorem okF_one {l : List Sp} {rs : List Int} {k x : Nat} (h : 0 < rs.getD x 0) (h2 : eAt l x = sAt l k) : ∀ n, x < n → okF l rs k n = true
  | 0, h0 => by omega
  | n + 1, h0 => by
    rw [okF]
    by_cases e : x = n
    · rw [← e, decide_eq_true h, decide_eq_true h2]
      simp
    · rw [okF_one h h2 n (by omega)]
      rfl
theorem okF_all {C : Cat} {bay lv : Int} {rs : List Int} (h : planE C bay rs lv = 0) {k : Nat} (hk : k < C.bs.length) : okF (planL C bay rs lv) rs k C.bs.length = true := by
  rcases (plan_sound h).2 k hk with h1 | ⟨x, hx, h1, h2⟩
  · exact okF_zero h1 _
  · exact okF_one h1 h2 _ hx
end Go.Proofs.Ytdbhdlgoecpeaaa.Quo
