/- The law on plans without the document's. -/
import Derived.Test.YtdbhdlgoecpeaaaZQuoQ
import Derived.BigQuiet
import Derived.Deep.CutRange
namespace Go.Proofs.Ytdbhdlgoecpeaaa.Quo
open Go.RowKit Go.Lib IRows
open Goods (St Sts OwnS)
open Cat (Cat PB Ba CM CatAt Lim I64 pOf)
open Bom (RunsOk tim tim_le tim_nonneg)

open Classical in
set_option maxRecDepth 100000 in
set_option maxHeartbeats 32000000 in
theorem quoteSound_in (I : Impl) (C : CM) (n v : Int) (a : Option Addr) (m c : Nat) (rs : List Int) (w : World) (h : CatAt w C) (hb : C.bn ≤ 9223372036854775807) (hy : C.yn ≤ 9223372036854775807) (hs : ∀ b ∈ C.bs, b.sm ≤ 9223372036854775807) (hr : rs.length = m) (hrs : IRow w a rs) :
    Calls Try.prog 5 #[C.v, .agg #[.int .i64 n, .int .i64 v], .slice a m c] w fun e w' => e = .returned (.bool true) ∧ Below w.heap.size w w' := by
  obtain ⟨V, X, hV, hX, HXB, HP⟩ := Cat.box_cat w C
  obtain ⟨U, Y, hU, hY, HYB, HQ⟩ := box_num X n v
  have HAW := awake_at I Y
  have HXY : Hid (Below w.heap.size w Y) := Lib.hid (below_then HXB.out HYB.out)
  have HNO : Hid (∀ W, Below Y.heap.size Y W → Below w.heap.size w W) := Lib.hid fun W hW => below_then HXY.out hW
  have HALL : Hid (∀ W, Below Y.heap.size Y W → W.cell? ⟨V, 0, none⟩ = some (.int .i64 C.ty) ∧ W.cell? ⟨V, 1, none⟩ = some (.slice C.ba C.bn C.bc) ∧ W.cell? ⟨V, 2, none⟩ = some (.int .i64 C.pl) ∧ W.cell? ⟨V, 3, none⟩ = some (.slice C.ya C.yn C.yc) ∧ W.cell? ⟨V, 4, none⟩ = some (.int .i64 C.ch) ∧ W.cell? ⟨V, 5, none⟩ = some (.int .i64 C.f.broker) ∧ W.cell? ⟨V, 6, none⟩ = some (.int .i64 C.f.least) ∧ W.cell? ⟨V, 7, none⟩ = some (.int .i64 C.f.sales) ∧ W.cell? ⟨U, 0, none⟩ = some (.int .i64 n) ∧ W.cell? ⟨U, 1, none⟩ = some (.int .i64 v)) := Lib.hid fun W hW => by
    obtain ⟨k0, k1, k2, k3, k4, k5, k6, k7⟩ := HP.out W (below_then HYB.out hW)
    obtain ⟨q0, q1⟩ := HQ.out W hW
    exact ⟨k0, k1, k2, k3, k4, k5, k6, k7, q0, q1⟩
  have HFEW : Hid (∀ t, decide (Lim C) = t → Calls Try.prog 6 #[.agg #[.int .i64 C.ty, .slice C.ba C.bn C.bc, .int .i64 C.pl, .slice C.ya C.yn C.yc, .int .i64 C.ch, .int .i64 C.f.broker, .int .i64 C.f.least, .int .i64 C.f.sales]] Y fun e w' => e = .returned (.bool t) ∧ Hid (Below Y.heap.size Y w')) := Lib.hid fun t ht => by
    have := Cat.dfew C Y (h.under HXY.out) hb hy hs
    rw [ht] at this
    exact this.mono fun _ _ ⟨e, h⟩ => ⟨e, Lib.hid h⟩
  have HAT : Hid (CatAt Y C ∧ IRow Y a rs) := Lib.hid ⟨h.under HXY.out, hrs.under HXY.out⟩
  obtain ⟨k0, k1, k2, k3, k4, k5, k6, k7, q0, q1⟩ := HALL.out Y (Below.refl _ _)
  by_cases hl : Lim C
  case neg =>
    have HF := Lib.hid (HFEW.out false (decide_eq_false hl))
    clear hl hb hy h hs hr hrs I HFEW HAT
    go_enter Try.func5, Try.ntmps5
    go_wp2_with fail
    clear hX hV hU hY
    refine HF.out.mono ?_
    rintro e w1 ⟨rfl, H1⟩
    go_wp2_with fail
    refine (HAW.out w1 H1.out).mono ?_
    rintro e w2 ⟨rfl, H2⟩
    go_wp2_with fail
    go_ret
    exact ⟨rfl, HNO.out _ H2.out⟩
  have HF := Lib.hid (HFEW.out true (decide_eq_true hl))
  by_cases hm1 : (20 : Int) < (m : Int)
  · clear hl hb hy h hs hr hrs I HFEW HAT
    go_enter Try.func5, Try.ntmps5
    go_wp2_with fail
    clear hX hV hU hY
    refine HF.out.mono ?_
    rintro e w1 ⟨rfl, H1⟩
    go_wp2_with fail
    refine (HAW.out w1 H1.out).mono ?_
    rintro e w2 ⟨rfl, H2⟩
    go_wp2_with fail
    go_ret
    exact ⟨rfl, HNO.out _ H2.out⟩
  have hbn : C.p.bs.length ≤ 20 := by rw [blues_len C w h]; exact hl.2.1
  have HPL : Hid (∀ W, Below Y.heap.size Y W → Calls Try.prog 8 #[.agg #[.int .i64 C.ty, .slice C.ba C.bn C.bc, .int .i64 C.pl, .slice C.ya C.yn C.yc, .int .i64 C.ch, .int .i64 C.f.broker, .int .i64 C.f.least, .int .i64 C.f.sales], .int .i64 n, .slice a m c, .int .i64 v] W fun e w' => ∃ a' n' c', e = .returned (.tuple #[.slice a' n' c', .int .i64 (planE C.p n rs v)]) ∧ Hid ((planL C.p n rs v).length = n' ∧ Spa w' a' (planL C.p n rs v) ∧ Below Y.heap.size Y w')) := Lib.hid fun W hW =>
    (I.plan C n a m c rs v W (HAT.out.1.under hW) hl hr (HAT.out.2.under hW) (by omega)).mono fun _ _ ⟨a', n', c', e, H⟩ => ⟨a', n', c', e, Lib.hid ⟨H.out.1, H.out.2.1, below_then hW H.out.2.2⟩⟩
  obtain ⟨l, hL⟩ : ∃ z, planL C.p n rs v = z := ⟨_, rfl⟩
  obtain ⟨pe, hpe⟩ : ∃ z, planE C.p n rs v = z := ⟨_, rfl⟩
  by_cases hp : pe = 0
  case neg =>
    have e1 : (pe == 0) = false := by simpa using hp
    have e2 : (pe != 0) = true := by simpa using hp
    have HP1 : Hid (∀ W, Below Y.heap.size Y W → Calls Try.prog 8 #[.agg #[.int .i64 C.ty, .slice C.ba C.bn C.bc, .int .i64 C.pl, .slice C.ya C.yn C.yc, .int .i64 C.ch, .int .i64 C.f.broker, .int .i64 C.f.least, .int .i64 C.f.sales], .int .i64 n, .slice a m c, .int .i64 v] W fun e w' => ∃ a' c', e = .returned (.tuple #[.slice a' 0 c', .int .i64 pe]) ∧ Hid (Below Y.heap.size Y w')) := Lib.hid fun W hW => by
      refine (HPL.out W hW).mono ?_
      rintro e w' ⟨a', n', c', rfl, H⟩
      have H := H.out
      rw [plan_none (by rw [hpe]; exact hp)] at H
      obtain ⟨rfl, _, h3⟩ := H
      exact ⟨a', c', by rw [hpe]; rfl, Lib.hid h3⟩
    clear hl hb hy h hs hr hrs I HFEW HAT hpe hp hL HPL hbn
    go_enter Try.func5, Try.ntmps5
    go_wp2_with fail
    clear hX hV hU hY
    refine HF.out.mono ?_
    rintro e w1 ⟨rfl, H1⟩
    clear k0 k1 k2 k3 k4 k5 k6 k7 q0 q1
    obtain ⟨k0, k1, k2, k3, k4, k5, k6, k7, q0, q1⟩ := HALL.out w1 H1.out
    go_wp2_with fail
    refine (HP1.out w1 H1.out).mono ?_
    rintro e w2 ⟨a1, c1, rfl, P2⟩
    clear k0 k1 k2 k3 k4 k5 k6 k7 q0 q1
    go_wp2_with fail
    refine (HAW.out w2 P2.out).mono ?_
    rintro e w3 ⟨rfl, H3⟩
    go_wp2_with fail
    go_ret
    exact ⟨rfl, HNO.out _ H3.out⟩
  subst hp
  obtain ⟨hmy, hln, _, _⟩ := plan_told hpe
  obtain ⟨hch, hbay, hR, hlv⟩ := may_zero hmy
  have HBN := Lib.hid (blues_len C w h)
  obtain rfl : m = C.bn := by rw [← hr, hR.1, HBN.out]
  have HLL : Hid (l.length = C.bn) := Lib.hid (by rw [← hL, hln, spans_len, HBN.out])
  have HL : Hid (rs.length = C.bn) := Lib.hid hr
  have hb1 : C.bn ≤ 20 := hl.2.1
  have hb2 : (C.bn : Int) ≤ 20 := by omega
  obtain ⟨wv, hwv⟩ : ∃ z, Bom.wholeV C.p rs v = z := ⟨_, rfl⟩
  have HEND : Hid (∀ k, k < C.bn → eAt l k ≤ wv) := Lib.hid fun k hk => by
    rw [← hL, ← hwv]
    exact (plan_sound hpe).1 k (by rw [HBN.out]; exact hk)
  have HOKF : Hid (∀ k, k < C.bn → okF l rs k C.bn = true) := Lib.hid fun k hk => by
    have := okF_all hpe (k := k) (by rw [HBN.out]; exact hk)
    rw [hL, HBN.out] at this
    exact this
  have HP1 : Hid (∀ W, Below Y.heap.size Y W → Calls Try.prog 8 #[.agg #[.int .i64 C.ty, .slice C.ba C.bn C.bc, .int .i64 C.pl, .slice C.ya C.yn C.yc, .int .i64 C.ch, .int .i64 C.f.broker, .int .i64 C.f.least, .int .i64 C.f.sales], .int .i64 n, .slice a C.bn c, .int .i64 v] W fun e w' => ∃ a' c', e = .returned (.tuple #[.slice a' C.bn c', .int .i64 0]) ∧ Hid (Spa w' a' l ∧ Below Y.heap.size Y w')) := Lib.hid fun W hW => by
    refine (HPL.out W hW).mono ?_
    rintro e w' ⟨a', n', c', rfl, H⟩
    have H := H.out
    rw [hL, HLL.out] at H
    obtain ⟨rfl, h2, h3⟩ := H
    exact ⟨a', c', by rw [hpe], Lib.hid ⟨h2, h3⟩⟩
  have HFI : Hid (∀ W a' c', Below Y.heap.size Y W → Spa W a' l → Calls Try.prog 15 #[.agg #[.int .i64 C.ty, .slice C.ba C.bn C.bc, .int .i64 C.pl, .slice C.ya C.yn C.yc, .int .i64 C.ch, .int .i64 C.f.broker, .int .i64 C.f.least, .int .i64 C.f.sales], .int .i64 n, .slice a C.bn c, .int .i64 v, .slice a' C.bn c'] W fun e w' => e = .returned (.bool true) ∧ Hid (Below W.heap.size W w')) := Lib.hid fun W a' c' hW hsp => by
    have := I.fits C n a C.bn c rs v a' C.bn c' l W (HAT.out.1.under hW) hl hr (HAT.out.2.under hW) (by omega) HLL.out hsp (by rw [← hL]; exact plan_in hbn hpe) (by omega)
    rw [decide_eq_true (show FitsQ C.p n rs v l by rw [← hL]; exact plan_fits hpe)] at this
    exact this.mono fun _ _ ⟨e, h⟩ => ⟨e, Lib.hid h⟩
  have HWH : Hid (∀ W, Below Y.heap.size Y W → Calls Try.prog 17 #[.agg #[.int .i64 C.ty, .slice C.ba C.bn C.bc, .int .i64 C.pl, .slice C.ya C.yn C.yc, .int .i64 C.ch, .int .i64 C.f.broker, .int .i64 C.f.least, .int .i64 C.f.sales], .slice a C.bn c, .int .i64 v] W fun e w' => e = .returned (.tuple #[.int .i64 wv, .int .i64 0]) ∧ Hid (Below W.heap.size W w')) := Lib.hid fun W hW => by
    have := Bom.dwhole C a C.bn c rs v W (HAT.out.1.under hW) hl hr (HAT.out.2.under hW) (by omega)
    rw [(whole_is hmy).1, hwv] at this
    exact this.mono fun _ _ ⟨e, h⟩ => ⟨e, Lib.hid h⟩
  have hyl : C.p.ys.length = C.yn := h.2.1
  obtain ⟨j, hj⟩ := Int.eq_ofNat_of_zero_le (show 0 ≤ n - 1 by omega)
  obtain rfl : n = (j : Int) + 1 := by omega
  have hjl : j < C.yn := by omega
  have hyb : (C.yn : Int) ≤ 12 := by have := hl.2.2; omega
  obtain ⟨gy, oy, y, HYA, _, HYC⟩ := bay_cells HP (h.under HXB.out) j hjl
  obtain ⟨mf, hmf⟩ : ∃ z, y.mf = z := ⟨_, rfl⟩
  rw [hmf] at HYC
  have hj0 : (0 : Int) ≤ (j : Int) := by omega
  have hj1 : (j : Int) < (C.yn : Int) := by omega
  have d1 : decide ((j : Int) + 1 < 1) = false := decide_eq_false (by omega)
  have d2 : decide ((C.yn : Int) < (j : Int) + 1) = false := decide_eq_false (by omega)
  have wj : IntKind.i64.wrap ((j : Int) + 1 - 1) = (j : Int) := by rw [show (j : Int) + 1 - 1 = (j : Int) by omega]; exact IntWalk.i64_in _ (by omega)
  have neq0 : ((C.bn : Int) != (C.bn : Int)) = false := by simp
  have HROW : Hid (IRow Y a rs) := Lib.hid HAT.out.2
  clear hl hb hy h hs hr hrs I HFEW HAT hpe hL HPL hbn hmy hln hch hbay hR hlv hyl hjl hmf hj hwv
  go_enter Try.func5, Try.ntmps5
  go_wp2_with fail
  clear hX hV hU hY
  refine HF.out.mono ?_
  rintro e w1 ⟨rfl, H1⟩
  clear k0 k1 k2 k3 k4 k5 k6 k7 q0 q1
  obtain ⟨k0, k1, k2, k3, k4, k5, k6, k7, q0, q1⟩ := HALL.out w1 H1.out
  go_wp2_with fail
  refine (HP1.out w1 H1.out).mono ?_
  rintro e w2 ⟨a1, c1, rfl, P2⟩
  clear k0 k1 k2 k3 k4 k5 k6 k7 q0 q1
  obtain ⟨k0, k1, k2, k3, k4, k5, k6, k7, q0, q1⟩ := HALL.out w2 P2.out.2
  go_wp2_with fail
  refine (HFI.out w2 a1 c1 P2.out.2 P2.out.1).mono ?_
  rintro e w3 ⟨rfl, P3⟩
  have HT := irow_at (HROW.out.under P2.out.2)
  have HS := spa_at P2.out.1
  have H2 : Hid (∀ W, Below w2.heap.size w2 W → Below Y.heap.size Y W) := Lib.hid fun W hW => below_then P2.out.2 hW
  clear k0 k1 k2 k3 k4 k5 k6 k7 q0 q1
  obtain ⟨k0, k1, k2, k3, k4, k5, k6, k7, q0, q1⟩ := HALL.out w3 (H2.out _ P3.out)
  go_wp2_with fail
  refine (HWH.out w3 (H2.out _ P3.out)).mono ?_
  rintro e w4 ⟨rfl, P4⟩
  have H4 : Hid (Below w2.heap.size w2 w4) := Lib.hid (below_then P3.out P4.out)
  clear k0 k1 k2 k3 k4 k5 k6 k7 q0 q1 P3 P4 P2
  go_wp2_with fail
  go_loopw [11, 12] (fun u t wr => ∃ (k i : Nat), u = .int .i64 (i : Int) ∧ t = .int .i64 (k : Int) ∧ k ≤ C.bn ∧ i ≤ k ∧ Hid (Below w2.heap.size w2 wr)) (fun _ t _ => C.bn - (RowKit.intOf t).toNat)
  case atStart => exact ⟨0, 0, rfl, rfl, by omega, by omega, H4⟩
  case round =>
    obtain ⟨k, i, rfl, rfl, hk, hi, HW⟩ := hrel
    have hk0 : (0 : Int) ≤ (k : Int) := by omega
    have hi0 : (0 : Int) ≤ (i : Int) := by omega
    by_cases hkn : k < C.bn
    · have hkn2 : (k : Int) < (C.bn : Int) := by omega
      have dx : decide ((k : Int) < (C.bn : Int)) = true := decide_eq_true hkn2
      have dxb : decide (k < C.bn) = true := decide_eq_true hkn
      have wk : IntKind.i64.wrap ((k : Int) + 1) = (k : Int) + 1 := IntWalk.i64_in _ (by omega)
      have wi : IntKind.i64.wrap ((i : Int) + 1) = (i : Int) + 1 := IntWalk.i64_in _ (by omega)
      obtain ⟨g2, off2, r, rfl, hr, z0⟩ := HT.out wr k HW.out (by rw [HL.out]; exact hkn)
      obtain ⟨g, off, t, rfl, ht, p0, p1⟩ := HS.out wr k HW.out (by rw [HLL.out]; exact hkn)
      have de : decide (wv < t.e) = false := decide_eq_false (by have h1 := HEND.out k hkn; rw [(at_is ht.out).2] at h1; omega)
      by_cases hr0 : 0 < r
      · have dr : decide (0 < r) = true := decide_eq_true hr0
        clear hr0
        go_wp2_with fail
        go_roundw
        case rel => exact ⟨k + 1, i + 1, by go_num, by go_num, by omega, by omega, HW⟩
        case measure => simp [RowKit.intOf]; omega
      · have dr : decide (0 < r) = false := decide_eq_false hr0
        clear hr0
        go_wp2_with fail
        go_roundw
        case rel => exact ⟨k + 1, i, rfl, by go_num, by omega, by omega, HW⟩
        case measure => simp [RowKit.intOf]; omega
    obtain rfl : k = C.bn := by omega
    have dx : decide ((C.bn : Int) < (C.bn : Int)) = false := by simp
    have dxb : decide (C.bn < C.bn) = false := by simp
    obtain ⟨v3, vm, _⟩ := HYC.out wr (below_then HYB.out (H2.out _ HW.out))
    obtain ⟨q0, q1⟩ := HQ.out wr (H2.out _ HW.out)
    by_cases hmf : mf < (i : Int)
    · have dm : decide (mf < (i : Int)) = true := decide_eq_true hmf
      clear hmf
      go_wp2_with fail
      refine (HAW.out wr (H2.out _ HW.out)).mono ?_
      rintro e w5 ⟨rfl, H5⟩
      go_wp2_with fail
      go_ret
      exact ⟨rfl, HNO.out _ H5.out⟩
    have dm : decide (mf < (i : Int)) = false := decide_eq_false hmf
    clear hmf
    go_wp2_with fail
    clear dx dxb dm v3 vm q0 q1
    go_loopw [13] (fun t wr2 => ∃ k : Nat, t = .int .i64 (k : Int) ∧ k ≤ C.bn ∧ Hid (Below w2.heap.size w2 wr2)) (fun t _ => C.bn - (RowKit.intOf t).toNat)
    case atStart => exact ⟨0, rfl, by omega, HW⟩
    case round =>
      obtain ⟨wr2, rfl⟩ : ∃ W, W = wr := ⟨_, rfl⟩
      clear HW
      obtain ⟨k, rfl, hk, HW⟩ := hrel
      have hk0 : (0 : Int) ≤ (k : Int) := by omega
      by_cases hkn : k < C.bn
      case neg =>
        obtain rfl : k = C.bn := by omega
        have dx : decide ((C.bn : Int) < (C.bn : Int)) = false := by simp
        have dxb : decide (C.bn < C.bn) = false := by simp
        go_wp2_with fail
        refine (HAW.out wr2 (H2.out _ HW.out)).mono ?_
        rintro e w5 ⟨rfl, H5⟩
        go_wp2_with fail
        go_ret
        exact ⟨rfl, HNO.out _ H5.out⟩
      have hkn2 : (k : Int) < (C.bn : Int) := by omega
      have dx : decide ((k : Int) < (C.bn : Int)) = true := decide_eq_true hkn2
      have dxb : decide (k < C.bn) = true := decide_eq_true hkn
      have wk : IntKind.i64.wrap ((k : Int) + 1) = (k : Int) + 1 := IntWalk.i64_in _ (by omega)
      obtain ⟨g, off, t, rfl, ht, p0, p1⟩ := HS.out wr2 k HW.out (by rw [HLL.out]; exact hkn)
      obtain ⟨ok0, hok0⟩ : ∃ z, (t.s == 0) = z := ⟨_, rfl⟩
      have HO0 : Hid (okF l rs k 0 = ok0) := Lib.hid (by
        rw [← hok0]
        show decide (sAt l k = 0) = _
        rw [(at_is ht.out).1]
        by_cases e : t.s = 0 <;> simp [e])
      go_wp2_with fail
      clear dx dxb p0 p1
      go_loopw [14, 15] (fun u t wq => ∃ (o : Bool) (x : Nat), u = .bool o ∧ t = .int .i64 (x : Int) ∧ x ≤ C.bn ∧ Hid (okF l rs k x = o) ∧ Hid (Below w2.heap.size w2 wq)) (fun _ t _ => C.bn - (RowKit.intOf t).toNat)
      case atStart => exact ⟨ok0, 0, by first | rfl | simp [hok0], rfl, by omega, HO0, HW⟩
      case round =>
        obtain ⟨wq, rfl⟩ : ∃ W, W = wr := ⟨_, rfl⟩
        clear HW HO0 hok0
        obtain ⟨o, x, rfl, rfl, hx, HO, HW⟩ := hrel
        have hx0 : (0 : Int) ≤ (x : Int) := by omega
        by_cases hxn : x < C.bn
        case neg =>
          obtain rfl : x = C.bn := by omega
          have dx : decide ((C.bn : Int) < (C.bn : Int)) = false := by simp
          have dxb : decide (C.bn < C.bn) = false := by simp
          obtain rfl : o = true := by rw [← HO.out]; exact HOKF.out k hkn
          go_wp2_with fail
          go_roundw
          case rel => exact ⟨k + 1, by go_num, by omega, HW⟩
          case measure => simp [RowKit.intOf]; omega
        have hxn2 : (x : Int) < (C.bn : Int) := by omega
        have dx : decide ((x : Int) < (C.bn : Int)) = true := decide_eq_true hxn2
        have dxb : decide (x < C.bn) = true := decide_eq_true hxn
        have wx : IntKind.i64.wrap ((x : Int) + 1) = (x : Int) + 1 := IntWalk.i64_in _ (by omega)
        obtain ⟨g3, off3, r, rfl, hr, z0⟩ := HT.out wq x HW.out (by rw [HL.out]; exact hxn)
        obtain ⟨g4, off4, t2, e4, ht2, q2, q3⟩ := HS.out wq x HW.out (by rw [HLL.out]; exact hxn)
        cases e4
        obtain ⟨g5, off5, t3, e5, ht3, q4, q5⟩ := HS.out wq k HW.out (by rw [HLL.out]; exact hkn)
        cases e5
        obtain rfl : t3 = t := by have h1 := ht3.out; rw [ht.out] at h1; injection h1 with h1; exact h1.symm
        clear q2 q5
        have HN : Hid (okF l rs k (x + 1) = (o || (decide (0 < r) && decide (t2.e = t3.s)))) := Lib.hid (by
          rw [okF, HO.out, (at_is ht2.out).2, (at_is ht.out).1, List.getD_eq_getElem?_getD, hr.out]
          rfl)
        cases o with
        | true =>
          have HN2 : Hid (okF l rs k (x + 1) = true) := Lib.hid (by rw [HN.out]; rfl)
          clear HN
          go_wp2_with fail
          go_quiet (fail)
          go_wp2_with fail
          go_roundw
          case rel => exact ⟨true, x + 1, rfl, by go_num, by omega, HN2, Lib.hid (below_drewN HW.out _)⟩
          case measure => simp [RowKit.intOf]; omega
        | false =>
          by_cases hr0 : 0 < r
          case neg =>
            have dr : decide (0 < r) = false := decide_eq_false hr0
            have HN2 : Hid (okF l rs k (x + 1) = false) := Lib.hid (by rw [HN.out, dr]; rfl)
            clear HN hr0
            go_wp2_with fail
            go_quiet (fail)
            go_wp2_with fail
            go_roundw
            case rel => exact ⟨false, x + 1, rfl, by go_num, by omega, HN2, Lib.hid (below_drewN HW.out _)⟩
            case measure => simp [RowKit.intOf]; omega
          have dr : decide (0 < r) = true := decide_eq_true hr0
          by_cases he : t2.e = t3.s
          · have d5 : (t2.e == t3.s) = true := by simpa using he
            have HN2 : Hid (okF l rs k (x + 1) = true) := Lib.hid (by rw [HN.out, dr, decide_eq_true he]; rfl)
            clear HN hr0 he
            go_wp2_with fail
            go_quiet (fail)
            go_wp2_with fail
            go_roundw
            case rel => exact ⟨true, x + 1, rfl, by go_num, by omega, HN2, Lib.hid (below_drewN HW.out _)⟩
            case measure => simp [RowKit.intOf]; omega
          · have d5 : (t2.e == t3.s) = false := by simpa using he
            have HN2 : Hid (okF l rs k (x + 1) = false) := Lib.hid (by rw [HN.out, dr, decide_eq_false he]; rfl)
            clear HN hr0 he
            go_wp2_with fail
            go_quiet (fail)
            go_wp2_with fail
            go_roundw
            case rel => exact ⟨false, x + 1, rfl, by go_num, by omega, HN2, Lib.hid (below_drewN HW.out _)⟩
            case measure => simp [RowKit.intOf]; omega
end Go.Proofs.Ytdbhdlgoecpeaaa.Quo
