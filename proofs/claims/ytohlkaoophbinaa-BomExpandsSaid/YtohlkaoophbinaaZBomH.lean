/- The document's Expand. -/
import Derived.Test.YtohlkaoophbinaaZBomX
import Derived.Test.YtohlkaoophbinaaZBomD
import Derived.Test.YtohlkaoophbinaaZRecC
import Derived.Test.YtohlkaoophbinaaZCatMath
import Derived.BigRegion
namespace Go.Proofs.Ytohlkaoophbinaa.Bom
open Go.RowKit Go.Lib IRows
open Goods (St Sts OwnS cnt)
open Cat (Cat PB CM CatAt Lim box_cat pOf)
open Recipe (needsE needsL needL up nd BlIn)

/-- A bill that says what is told. -/
def Says (b : BM) (S : Sx) : Prop := b.raw = S.raw ∧ b.rs = S.rs ∧ b.left = S.left
set_option maxRecDepth 100000 in
set_option maxHeartbeats 16000000 in
theorem dexp_go (C : CM) (kind n lv : Int) (a : Option Addr) (m c : Nat) (hv : List St) (w : World) (h : CatAt w C) (hl : Lim C) (hm : hv.length = m) (hs : Sts w a hv) (h4 : m ≤ 4096) (her : mayE C.p kind lv hv = 0) (hn : 1 ≤ n ∧ n ≤ Recipe.mq) :
    Calls Try.prog 10 #[C.v, .int .i64 kind, .int .i64 n, .int .i64 lv, .slice a m c] w fun e w' => ∃ b : BM, e = .returned (.tuple #[b.v, .int .i64 (expE C.p kind n lv hv)]) ∧ Hid (BomAt w' b ∧ Says b (bill C.p kind n lv hv) ∧ Below w.heap.size w w') := by
  obtain ⟨V, X, R, Z, hV, hX, hR, hZ, HWZ, HRW, HP, HK⟩ := two_boxes w C
  obtain ⟨hc, hkr, hlr, hli⟩ := mayE_zero her
  have hco := Cat.chk_zero hc
  obtain ⟨hT, hT32, -⟩ := chk_top hc
  have HT := Lib.hid hT
  have HM : Hid (Calls Try.prog 28 #[.agg #[.int .i64 C.ty, .slice C.ba C.bn C.bc, .int .i64 C.pl, .slice C.ya C.yn C.yc, .int .i64 C.ch, .int .i64 C.f.broker, .int .i64 C.f.least, .int .i64 C.f.sales], .int .i64 kind, .int .i64 lv, .slice a m c] Z fun e w' => e = .returned (.int .i64 0) ∧ Hid (Below Z.heap.size Z w')) := Lib.hid (by
    rw [← her]
    exact (dmay C kind lv a m c hv Z (h.under HWZ.out) hl hm (hs.under HWZ.out) h4).mono fun _ _ ⟨e, h⟩ => ⟨e, Lib.hid h⟩)
  have HTOP : Hid (∀ W, Below Z.heap.size Z W → Calls Try.prog 29 #[.agg #[.int .i64 C.ty, .slice C.ba C.bn C.bc, .int .i64 C.pl, .slice C.ya C.yn C.yc, .int .i64 C.ch, .int .i64 C.f.broker, .int .i64 C.f.least, .int .i64 C.f.sales]] W fun e w' => ∃ a n c, e = .returned (.slice a n c) ∧ Hid ((topV C.p).length = n ∧ n ≤ 64 ∧ KS w' W.heap.size (.slice a n c) (topV C.p) ∧ Below W.heap.size W w')) := Lib.hid fun W hW => dtop C W ((h.under HWZ.out).under hW) hl
  have HCO : Hid (∀ W k, Below Z.heap.size Z W → Calls Try.prog 30 #[.slice a m c, .int .i64 k] W fun e w' => e = .returned (.int .i64 (cnt hv k)) ∧ Hid (Below W.heap.size W w')) := Lib.hid fun W k hW => by
    have := Goods.dcount a m c hv k W hm ((hs.under HWZ.out).under hW) h4
    rw [cnt_listed hli] at this
    exact this.mono fun _ _ ⟨e, h⟩ => ⟨e, Lib.hid h⟩
  have HMK : Hid (∀ W k z, Below Z.heap.size Z W → Cat.mkr k C.p.bs 0 = z → Calls Try.prog 31 #[.agg #[.int .i64 C.ty, .slice C.ba C.bn C.bc, .int .i64 C.pl, .slice C.ya C.yn C.yc, .int .i64 C.ch, .int .i64 C.f.broker, .int .i64 C.f.least, .int .i64 C.f.sales], .int .i64 k] W fun e w' => e = .returned (.int .i64 z) ∧ Hid (Below W.heap.size W w')) := Lib.hid fun W k z hW hz => by
    subst hz
    exact (Cat.dmaker C k W ((h.under HWZ.out).under hW) (by have := hl.2.1; omega)).mono fun _ _ ⟨e, h⟩ => ⟨e, Lib.hid h⟩
  have HB := Cat.blue_at (h.under HWZ.out)
  have HSM : Hid (∀ b ∈ C.bs, b.sm ≤ 12) := Lib.hid hl.1
  have HBN : Hid (C.p.bs.length = C.bn) := Lib.hid (by unfold CM.p; rw [List.length_map]; exact h.1.1)
  have hbn : C.bn ≤ 20 := hl.2.1
  have HBOK : Hid (∀ b ∈ C.p.bs, Recipe.BlOk b.b C.ty) := Lib.hid hco.2.1
  have HPER : Hid (∀ b ∈ C.p.bs, 1 ≤ b.per) := Lib.hid fun b hb => (hco.2.1 b hb).2.2.1.1
  have HCAP := Lib.hid hn
  have HER := Lib.hid her
  have HQ0 := Lib.hid (qty_listed hli)
  have HLV := Lib.hid hlr
  have hty := hco.1.1
  obtain ⟨N, hN⟩ := Int.eq_ofNat_of_zero_le (show 0 ≤ C.p.ty by omega)
  have hN : C.ty = (N : Int) := hN
  obtain ⟨K, rfl⟩ := Int.eq_ofNat_of_zero_le (show 0 ≤ kind by omega)
  have hNb : 1 ≤ (N : Int) ∧ (N : Int) ≤ 32 := by have : C.p.ty = (N : Int) := hN; omega
  have hKN : (K : Int) < (N : Int) + 1 := by have : C.p.ty = (N : Int) := hN; omega
  have hK0 : (0 : Int) ≤ (K : Int) := by omega
  have hnb : 1 ≤ n ∧ n ≤ 1125899906842624 := hn
  have HTY : Hid (C.p.ty = (N : Int)) := Lib.hid hN
  have HNO : Hid (∀ W x y z, Below Z.heap.size Z W → Below w.heap.size w (((W.setCell ⟨R, 0, none⟩ x).setCell ⟨R, 1, none⟩ y).setCell ⟨R, 2, none⟩ z)) := Lib.hid (fun W x y z hW => below_of_only (below_then HWZ.out hW) HRW.out.1 (only_setCell (only_setCell (only_setCell (only_refl W (some R)) 0 x) 1 y) 2 z))
  have HRC : Hid (∀ W, Below Z.heap.size Z W → W.cell? ⟨R, 0, none⟩ = some (.slice none 0 0) ∧ W.cell? ⟨R, 1, none⟩ = some (.slice none 0 0) ∧ W.cell? ⟨R, 2, none⟩ = some (.slice none 0 0) ∧ W.frozen? ⟨R, 0, none⟩ = false ∧ W.frozen? ⟨R, 1, none⟩ = false ∧ W.frozen? ⟨R, 2, none⟩ = false) := Lib.hid (fun W hW => by
    have h1 := HK.out W hW
    exact ⟨cell_block (j := 0) h1 rfl, cell_block (j := 1) h1 rfl, cell_block (j := 2) h1 rfl, free_block 0 h1, free_block 1 h1, free_block 2 h1⟩)
  obtain ⟨T, hTV⟩ : ∃ T, topV C.p = T := ⟨_, rfl⟩
  rw [hTV] at HTOP HT hT32
  have HTL : Hid (T.length ≤ 32) := Lib.hid hT32
  have HRUN : Hid (runE C.p K n lv hv = rn C.p.bs lv hv T (s0 C.p K n)) := Lib.hid (by unfold runE; rw [hTV])
  have HBAD : Hid (∀ W x y z, Below Z.heap.size Z W → rn C.p.bs lv hv T (s0 C.p K n) = none → ∃ b : BM, Ending.returned (.tuple #[.agg #[.slice none 0 0, .slice none 0 0, .slice none 0 0], .int .i64 5]) = .returned (.tuple #[b.v, .int .i64 (expE C.p K n lv hv)]) ∧ Hid (BomAt (((W.setCell ⟨R, 0, none⟩ x).setCell ⟨R, 1, none⟩ y).setCell ⟨R, 2, none⟩ z) b ∧ Says b (bill C.p K n lv hv) ∧ Below w.heap.size w (((W.setCell ⟨R, 0, none⟩ x).setCell ⟨R, 1, none⟩ y).setCell ⟨R, 2, none⟩ z))) := Lib.hid fun W x y z hW hr => by
    have e5 := exp_none HER.out HCAP.out (HRUN.out.trans hr)
    refine ⟨⟨none, 0, 0, [], none, 0, 0, [], none, 0, 0, []⟩, by rw [e5], Lib.hid ⟨⟨⟨rfl, sts_nil _, Nat.zero_le _⟩, ⟨rfl, fun i x hi => by simp at hi, Nat.zero_le _⟩, rfl, sts_nil _, Nat.zero_le _⟩, ?_, HNO.out W x y z hW⟩⟩
    rw [bill_not (by rw [e5]; omega)]
    exact ⟨rfl, rfl, rfl⟩
  obtain ⟨k0, k1, k2, k3, k4, k5, k6, k7⟩ := HP.out Z (Below.refl _ _)
  have dn1 : decide (n < 1) = false := decide_eq_false (by omega)
  have dn2 : decide (1125899906842624 < n) = false := decide_eq_false (by omega)
  have HNE := Lib.hid hN
  clear h hl hm hs h4 her hn hc hkr hlr hli hco hT hT32 hty hTV hN
  go_enter Try.func10, Try.ntmps10
  go_wp2_with fail
  clear hX hV hZ hR
  refine HM.out.mono ?_
  rintro e w1 ⟨rfl, H1⟩
  obtain ⟨y0, y1, y2, y3, y4, y5, y6, y7⟩ := HP.out w1 H1.out
  clear k0 k1 k2 k3 k4 k5 k6 k7
  obtain ⟨A, W2, W3, G, W4, O, W5, hA, hW2, ⟨u0, u1⟩, hW3, hG, hW4, hO, hW5, HWB, HEX⟩ := lay3 w1 Z N C.bn K n H1.out (by omega)
  obtain ⟨_, z1, _⟩ := HP.out W3 HWB.out.2.1
  obtain ⟨x0, x1, x2, x3, x4, x5, x6, x7⟩ := HP.out W5 HWB.out.2.2.2
  obtain ⟨M, hM⟩ : ∃ M, N + 1 = M := ⟨_, rfl⟩
  rw [hM] at hW2
  have hMI : (N : Int) + 1 = (M : Int) := by omega
  have hM0 : (M : Int) ≤ 33 := by omega
  have hKM : (K : Int) < (M : Int) := by omega
  have wM : IntKind.i64.wrap (M : Int) = (M : Int) := IntWalk.i64_in _ (by omega)
  have HMN := Lib.hid hM
  have hmk1 := run_make_row' (P := Try.prog) 33 3 (.int .i64 0) 8 Try.underlying33 info_int rfl .i64 .i64 M (by omega) (by omega)
  have hmk2 := run_make_row' (P := Try.prog) 33 3 (.int .i64 0) 8 Try.underlying33 info_int rfl .i64 .i64 C.bn (by omega) (by omega)
  rw [HNE.out] at y0
  have HW5 := Lib.hid hW5
  clear hM hKN hW5
  go_upto_region 9 with fail
  rw [HW5.out]
  clear hW2 hW3 hW4 hA hG hO u0 u1 z1 hmk1 hmk2 y0 y1 y2 y3 y4 y5 y6 y7 hMI wM HW5
  go_wp2_with fail
  refine (HTOP.out W5 HWB.out.2.2.2).mono ?_
  rintro e Y ⟨ta, tn, tc, rfl, H7⟩
  obtain ⟨B, hB⟩ : ∃ B, Y.heap.size = B := ⟨_, rfl⟩
  have HEY : Hid (Ey Y Z Y N C.bn A G O B (s0 C.p K n).w (s0 C.p K n).rs (.slice none 0 0) [] (.slice none 0 0) []) := Lib.hid (by
    have h := HEX.out.2 Y H7.out.2.2.2
    rw [hB] at h
    refine ⟨?_, fun _ _ _ => rfl⟩
    show Ex Y Z N C.bn A G O B (upd (fun _ => 0) K n) (List.replicate C.p.bs.length 0) _ _ _ _
    rw [HBN.out]
    exact h)
  have HTR : Hid (∀ (W : World) (i : Nat), (∀ b, O < b → b < B → W.heap[b]? = Y.heap[b]?) → i < tn → ∃ g k, ta = some ⟨g, 0, none⟩ ∧ Hid (T[i]? = some ((k : Nat) : Int) ∧ 1 ≤ k ∧ k ≤ N) ∧ W.cell? ⟨g, i, none⟩ = some (.int .i64 ((k : Nat) : Int))) := Lib.hid (fun W i hW hi => by
    obtain ⟨a3, c4, e3, hg, hat⟩ := H7.out.2.2.1.at
    injection e3 with e3 e4 _
    subst e3
    have hi2 : i < T.length := by rw [H7.out.1]; exact hi
    obtain ⟨g, e, gl, k0, _⟩ := hat i T[i] (List.getElem?_eq_getElem hi2)
    have hb := (HT.out.all T[i]).1 (List.getElem_mem hi2)
    have hty : C.p.ty = (N : Int) := HTY.out
    obtain ⟨k, hk⟩ := Int.eq_ofNat_of_zero_le (show 0 ≤ T[i] by omega)
    obtain ⟨g2, e2, g3, g4⟩ := hg (by omega)
    rw [e] at e2
    injection e2 with e2
    injection e2 with e2 _ _
    subst e2
    refine ⟨g, k, e, Lib.hid ⟨by rw [List.getElem?_eq_getElem hi2, hk], by omega, by omega⟩, ?_⟩
    have := hW g (by have := HEX.out.1; omega) (by omega)
    rw [← hk, ← k0]
    unfold World.cell?
    simp only [this])
  have HTN : Hid (T.length = tn ∧ tn ≤ 32) := Lib.hid ⟨H7.out.1, by rw [← H7.out.1]; exact HTL.out⟩
  have htn : (tn : Int) ≤ 32 := by have := HTN.out.2; omega
  clear hB x0 x1 x2 x3 x4 x5 x6 x7
  go_wp2_with fail
  go_loopw [16, 17, 18] (fun v u t wr => ∃ (i : Nat) (S : Sx) (a1 : Option Addr) (m1 c1 : Nat) (a2 : Option Addr) (m2 c2 : Nat), v = .slice a1 m1 c1 ∧ u = .slice a2 m2 c2 ∧ t = .int .i64 (i : Int) ∧ i ≤ tn ∧ m1 ≤ i ∧ m2 ≤ i ∧ Hid (Ey wr Z Y N C.bn A G O B S.w S.rs (.slice a1 m1 c1) S.raw (.slice a2 m2 c2) S.left) ∧ Hid (rn C.p.bs lv hv (T.take i) (s0 C.p K n) = some S ∧ J C.p K n lv hv (T.take i) S)) (fun _ _ t _ => tn - (RowKit.intOf t).toNat)
  case atStart => exact ⟨0, s0 C.p K n, none, 0, 0, none, 0, 0, rfl, rfl, rfl, by omega, by omega, by omega, HEY, Lib.hid ⟨rfl, by have := HCAP.out; exact J.start ⟨by omega, this.2⟩⟩⟩
  case round =>
    clear HEY
    obtain ⟨i, S, a1, m1, c1, a2, m2, c2, rfl, rfl, rfl, hi, hm1, hm2, HEW, HS⟩ := hrel
    have hi0 : (0 : Int) ≤ (i : Int) := by omega
    have HBZ : Hid (Below Z.heap.size Z wr) := Lib.hid HEW.out.ex.base
    by_cases hlt : i < tn
    · have hlt2 : (i : Int) < (tn : Int) := by omega
      have wi : IntKind.i64.wrap ((i : Int) + 1) = (i : Int) + 1 := IntWalk.i64_in _ (by omega)
      obtain ⟨g0, k, rfl, HKK, q0⟩ := HTR.out wr i HEW.out.mid hlt
      have hk0 : (0 : Int) ≤ (k : Int) := by omega
      have hkM : (k : Int) < (M : Int) := by have := HKK.out.2.2; have := HMN.out; omega
      obtain ⟨u0, u1⟩ := HEW.out.ex.want k HKK.out.2.2
      have hcap := HS.out.2.cap (k : Int)
      have hmq : Recipe.mq = 1125899906842624 := rfl
      have hcv := cnt_hv HQ0.out (k : Int)
      obtain ⟨wv, hwv⟩ : ∃ wv, S.w (k : Int) = wv := ⟨_, rfl⟩
      obtain ⟨cv, hcvv⟩ : ∃ cv, cnt hv (k : Int) = cv := ⟨_, rfl⟩
      obtain ⟨mn, hmn⟩ : ∃ mn, min wv cv = mn := ⟨_, rfl⟩
      obtain ⟨mv, hmv⟩ : ∃ mv, wv - mn = mv := ⟨_, rfl⟩
      have hmn2 : (if wv < cv then wv else cv) = mn := by rw [← hmn]; split <;> omega
      have hmn3 : (if cv < wv then cv else wv) = mn := by rw [← hmn]; split <;> omega
      rw [hwv] at u0 hcap
      rw [hcvv] at hcv
      have hmvb : 0 ≤ mv ∧ mv ≤ 1125899906842624 := by omega
      have wm : IntKind.i64.wrap (wv - mn) = mv := by rw [hmv]; exact IntWalk.i64_in _ (by omega)
      have wm2 : wrap64 mv = mv := IntWalk.wrap64_in _ (by omega)
      have wm3 : IntKind.i64.wrap mv = mv := IntWalk.i64_in _ (by omega)
      have HMO : Hid (mo hv (k : Int) S = mv) := Lib.hid (by unfold mo; rw [hwv, hcvv, hmn, hmv])
      have HC1 : Hid (Calls Try.prog 30 #[.slice a m c, .int .i64 (k : Int)] wr.drew fun e w' => e = .returned (.int .i64 cv) ∧ Hid (Below wr.heap.size wr w')) := Lib.hid (by
        rw [← hcvv]
        exact (HCO.out wr.drew k HBZ.out.drew).mono fun _ _ ⟨e, h⟩ => ⟨e, Lib.hid (((Below.refl _ wr).drew).trans h.out)⟩)
      have HCS : Hid (∀ W, Below wr.heap.size wr W → W.cell? ⟨A, k, none⟩ = some (.int .i64 wv)) := Lib.hid fun W hW => by
        rw [← hwv]
        exact ((HEW.out.under hW).ex.want k HKK.out.2.2).1
      clear hcap hcv hwv hcvv hmq
      go_wp2_with fail
      go_region_held3 (fun W => W.cell? ⟨A, k, none⟩ = some (.int .i64 wv))
        (first | exact HCS.out _ (Below.refl _ wr).drew | exact HCS.out _ H6.out)
        (first
          | (go_at_call 30; refine HC1.out.mono ?_; rintro e w6 ⟨rfl, H6⟩))
      have HEY6 := Lib.hid (HEW.out.under H6.out)
      have HBZ6 : Hid (Below Z.heap.size Z w6) := Lib.hid HEY6.out.ex.base
      obtain ⟨y0, y1, y2, y3, y4, y5, y6, y7⟩ := HP.out w6 HBZ6.out
      have HNEXT : Hid (∀ S', stp C.p.bs lv hv (k : Int) S = some S' → rn C.p.bs lv hv (T.take (i + 1)) (s0 C.p K n) = some S' ∧ J C.p K n lv hv (T.take (i + 1)) S') := Lib.hid fun S' h => by
        rw [take_snoc HKK.out.1]
        exact ⟨(rn_snoc _ HS.out.1).trans h, HS.out.2.step HT.out (take_split HKK.out.1) HQ0.out HPER.out h⟩
      have HSTOP : Hid (stp C.p.bs lv hv (k : Int) S = none → rn C.p.bs lv hv T (s0 C.p K n) = none) := Lib.hid fun h => by
        rw [take_split HKK.out.1]
        exact rn_fail _ HS.out.1 h
      obtain ⟨z, hz⟩ : ∃ z, Cat.mkr (k : Int) C.p.bs 0 = z := ⟨_, rfl⟩
      have HMK1 := Lib.hid (HMK.out w6 k z HBZ6.out hz)
      by_cases hm0 : mv = 0
      · subst hm0
        have HS2 := Lib.hid (HNEXT.out S (stp_zero HMO.out))
        clear hz hmn hmv hmn2 hmn3 wm wm2 wm3 hmvb u0 u1 q0
        go_wp2_with fail
        refine HMK1.out.mono ?_
        rintro e w7 ⟨rfl, H7'⟩
        have HEY7 := Lib.hid (HEY6.out.under H7'.out)
        clear y0 y1 y2 y3 y4 y5 y6 y7
        go_wp2_with fail
        go_roundw
        case rel => exact ⟨i + 1, S, a1, m1, c1, a2, m2, c2, rfl, rfl, by go_num, by omega, by omega, by omega, HEY7, HS2⟩
        case measure => simp [RowKit.intOf]; omega
      have hm0b : (mv == 0) = false := by simpa using hm0
      have HM0 := Lib.hid hm0
      have HMP : Hid (0 < mv) := Lib.hid (by omega)
      cases hfm : fm (k : Int) C.p.bs with
      | none =>
        obtain rfl : z = 0 := by rw [← hz, mkr_fm, hfm]
        have HST := Lib.hid (stp_raw (bs := C.p.bs) (lv := lv) (hv := hv) (by rw [HMO.out]; exact hm0) hfm)
        have HS2 := Lib.hid (HNEXT.out _ HST.out)
        rw [HMO.out] at HS2
        clear hz hfm hmn hmv hmn2 hmn3 wm wm2 wm3 hmvb u0 u1 q0 hm0
        go_wp2_with fail
        refine HMK1.out.mono ?_
        rintro e w7 ⟨rfl, H7'⟩
        have HEY7 := Lib.hid (HEY6.out.under H7'.out)
        clear y0 y1 y2 y3 y4 y5 y6 y7
        obtain ⟨a3, c3, W8, HR8, h8⟩ := HEY7.out.app1 ⟨k, mv⟩ (by omega)
        have HEY8 := Lib.hid h8
        clear h8
        go_wp2_with (at_builtin; refine walk_run (v' := .slice a3 (m1 + 1) c3) (w' := W8) rfl _ _ _ _ rfl _ _ rfl rfl ?_ ?_; exact HR8.out)
        go_roundw
        case rel => exact ⟨i + 1, _, a3, m1 + 1, c3, a2, m2, c2, rfl, rfl, by go_num, by omega, by omega, by omega, HEY8, HS2⟩
        case measure => simp [RowKit.intOf]; omega
      | some p =>
        obtain ⟨j, b⟩ := p
        obtain rfl : z = (j : Int) + 1 := by rw [← hz, mkr_fm, hfm]; show (0 : Int) + j + 1 = j + 1; omega
        have hmade := stp_made (bs := C.p.bs) (lv := lv) (hv := hv) (by rw [HMO.out]; exact hm0) hfm
        rw [HMO.out] at hmade
        have HMD := Lib.hid hmade
        obtain ⟨hb, hot⟩ := fm_some hfm
        have hjlen : j < C.p.bs.length := (List.getElem?_eq_some_iff.1 hb).1
        have hjb : j < C.bn := by rw [← HBN.out]; exact hjlen
        have hjb2 : (j : Int) < (C.bn : Int) := by omega
        have hj0 : (0 : Int) ≤ (j : Int) := by omega
        have wj : IntKind.i64.wrap ((j : Int) + 1 - 1) = (j : Int) := by rw [show (j : Int) + 1 - 1 = (j : Int) by omega]; exact IntWalk.i64_in _ (by omega)
        have wj2 : IntKind.i64.wrap (j : Int) = (j : Int) := IntWalk.i64_in _ (by omega)
        have hz1 : (((j : Int) + 1) == 0) = false := by simp; omega
        have HBB : ∃ b2 : Recipe.Bl, pOf b2 = b ∧ C.bs[j]? = some b2 := by
          have : (C.bs.map pOf)[j]? = some b := hb
          rw [List.getElem?_map] at this
          cases h2 : C.bs[j]? with
          | none => rw [h2] at this; cases this
          | some x => rw [h2] at this; injection this with this; exact ⟨x, this, rfl⟩
        obtain ⟨b2, rfl, hb2⟩ := HBB
        have HOKB : Hid (Recipe.BlOk b2 C.ty ∧ Recipe.BlOk b2 32) := Lib.hid (by
          have := HBOK.out _ (List.mem_of_getElem? hb)
          exact ⟨this, blok_32 this⟩)
        have HBI : Hid (∀ W, Below Z.heap.size Z W → ∃ g off, C.ba = some ⟨g, off, none⟩ ∧ BlIn W b2 ∧ Cat.CellsB W g (off + j * 7) b2) := Lib.hid (fun W hW => by
          obtain ⟨g3, off3, b3, hba3, ht3, c⟩ := HB.out W j hW hjb
          have e2 := ht3.out.1
          rw [hb2] at e2
          cases e2
          exact ⟨g3, off3, hba3, ⟨ht3.out.2.1, ht3.out.2.2, by have := HSM.out b2 (List.mem_of_getElem? hb2); omega⟩, c⟩)
        obtain ⟨r, hr⟩ : ∃ r, up mv b2.per = r := ⟨_, rfl⟩
        have hper := HOKB.out.1.2.2.1
        have hrp : 0 < r := by rw [← hr]; exact up_pos HMP.out (by omega)
        have HRN : Hid (∀ W, Below Z.heap.size Z W → Calls Try.prog 32 #[.agg #[.int .i64 b2.ot, .int .i64 b2.per, .int .i64 b2.tm, .slice b2.sa b2.sm b2.sc, .int .i64 b2.cp, .int .i64 b2.st, .int .i64 b2.mo], .int .i64 mv] W fun e w' => e = .returned (.tuple #[.int .i64 r, .int .i64 0]) ∧ Hid (Below W.heap.size W w')) := Lib.hid fun W hW => by
          obtain ⟨q1, q2⟩ := Recipe.runs_ok HOKB.out.2 (n := mv) ⟨by omega, by have : Recipe.mq = 1125899906842624 := rfl; omega⟩
          obtain ⟨_, _, _, hin, _⟩ := HBI.out W hW
          have := Recipe.druns b2 mv W hin
          rw [q1, q2, hr] at this
          exact this.mono fun _ _ ⟨e, h⟩ => ⟨e, Lib.hid h⟩
        have HUPR : Hid (up mv (pOf b2).per = r) := Lib.hid hr
        have HR0 : Hid (∃ r0, S.rs[j]? = some r0) := Lib.hid ⟨_, List.getElem?_eq_getElem (by rw [HS.out.2.len]; exact hjlen)⟩
        clear hz hfm hmn hmv hmn2 hmn3 wm wm2 wm3 u0 u1 q0 hm0 hmade hb hb2 hr hot hjlen
        go_wp2_with fail
        refine HMK1.out.mono ?_
        rintro e w7 ⟨rfl, H7'⟩
        have HEY7 := Lib.hid (HEY6.out.under H7'.out)
        have HBZ7 : Hid (Below Z.heap.size Z w7) := Lib.hid HEY7.out.ex.base
        clear y0 y1 y2 y3 y4 y5 y6 y7
        obtain ⟨y0, y1, y2, y3, y4, y5, y6, y7⟩ := HP.out w7 HBZ7.out
        obtain ⟨g, off, hba, _, q0, q1, q2, q3, q4, q5, q6⟩ := HBI.out w7 HBZ7.out
        rw [hba] at y1
        clear hba
        go_upto_region 21 with fail
        obtain ⟨U, X2, hU, hX2, HX2, HCU⟩ := Recipe.box_blue w7 b2
        rw [hU, hX2]
        have HEYX := Lib.hid (HEY7.out.under HX2.out)
        have HBZX : Hid (Below Z.heap.size Z X2) := Lib.hid HEYX.out.ex.base
        have HUG : Hid (B ≤ U ∧ U < X2.heap.size) := Lib.hid ⟨by have := HEY7.out.ex.size; omega, by rw [← hX2, ← hU]; simp⟩
        have HCU2 : Hid (∀ W : World, W.heap[U]? = X2.heap[U]? → W.cell? ⟨U, 0, none⟩ = some (.int .i64 b2.ot) ∧ W.cell? ⟨U, 1, none⟩ = some (.int .i64 b2.per) ∧ W.cell? ⟨U, 2, none⟩ = some (.int .i64 b2.tm) ∧ W.cell? ⟨U, 3, none⟩ = some (.slice b2.sa b2.sm b2.sc) ∧ W.cell? ⟨U, 4, none⟩ = some (.int .i64 b2.cp) ∧ W.cell? ⟨U, 5, none⟩ = some (.int .i64 b2.st) ∧ W.cell? ⟨U, 6, none⟩ = some (.int .i64 b2.mo)) := Lib.hid fun W hW => by
          have h := HCU.out X2 (Below.refl _ _)
          unfold Recipe.CellsU World.cell? at h
          unfold World.cell?
          simp only [hW]
          exact h
        clear y0 y1 y2 y3 y4 y5 y6 y7 q0 q1 q2 q3 q4 q5 q6 hU hX2
        obtain ⟨v0, v1, v2, v3, v4, v5, v6⟩ := HCU2.out X2 rfl
        go_wp2_with fail
        refine (HRN.out X2 HBZX.out).mono ?_
        rintro e w8 ⟨rfl, H8⟩
        have HEY8 := Lib.hid (HEYX.out.under H8.out)
        have HBZ8 : Hid (Below Z.heap.size Z w8) := Lib.hid HEY8.out.ex.base
        clear v0 v1 v2 v3 v4 v5 v6
        by_cases h1000 : 1000 < r
        · have d1 : decide (1000 < r) = true := decide_eq_true h1000
          have HN := Lib.hid (HSTOP.out (HMD.out.trans (made_runs (by rw [HUPR.out]; exact h1000))))
          obtain ⟨c0, c1', c2', f0, f1, f2⟩ := HRC.out w8 HBZ8.out
          go_wp2_with fail
          (try simp only [Exit.inBlock, Exit.then])
          exact ret_bm2 rfl rfl rfl rfl (bm_set (HK.out w8 HBZ8.out)) (HBAD.out w8 _ _ _ HBZ8.out HN.out)
        have d1 : decide (1000 < r) = false := decide_eq_false h1000
        obtain ⟨r0, hr0⟩ := HR0.out
        obtain ⟨s0', s1'⟩ := HEY8.out.ex.runs j r0 hr0
        obtain ⟨_, o1, _⟩ := HEY8.out.ex.out
        have HEY9 := Lib.hid (HEY8.out.setR j hjb r)
        obtain ⟨W9, hW9⟩ : ∃ W9, w8.setCell ⟨G, j, none⟩ (.int .i64 r) = W9 := ⟨_, rfl⟩
        rw [hW9] at HEY9
        have HU9 : Hid (W9.heap[U]? = X2.heap[U]?) := Lib.hid (by
          rw [← hW9]
          refine (heap_setCell_other w8 ⟨G, j, none⟩ U _ ?_).trans (H8.out.block U HUG.out.2)
          have := HEY8.out.ex.go; have := HEY8.out.ex.ob; have := HUG.out.1
          show U ≠ G
          omega)
        have HBZ9 : Hid (Below Z.heap.size Z W9) := Lib.hid HEY9.out.ex.base
        obtain ⟨v0, v1, v2, v3, v4, v5, v6⟩ := HCU2.out W9 HU9.out
        obtain ⟨ne, hne⟩ : ∃ ne, needsE b2 lv r = ne := ⟨_, rfl⟩
        have HND : Hid (Calls Try.prog 33 #[.agg #[.int .i64 b2.ot, .int .i64 b2.per, .int .i64 b2.tm, .slice b2.sa b2.sm b2.sc, .int .i64 b2.cp, .int .i64 b2.st, .int .i64 b2.mo], .int .i64 lv, .int .i64 r] W9 fun e w' => ∃ a' m' c', e = .returned (.tuple #[.slice a' m' c', .int .i64 ne]) ∧ Hid (OwnS w' B (.slice a' m' c') (needsL b2 lv r) ∧ Below W9.heap.size W9 w')) := Lib.hid (by
          obtain ⟨_, _, _, hin, _⟩ := HBI.out W9 HBZ9.out
          rw [← hne]
          refine (Recipe.dneeds b2 lv r W9 hin).mono ?_
          rintro e w' ⟨a', m', c', rfl, H⟩
          exact ⟨a', m', c', rfl, Lib.hid ⟨World.ownsRow.mono H.out.1 HEY9.out.ex.size, H.out.2⟩⟩)
        go_wp2_with fail
        clear hW9 s0' s1' o1
        refine HND.out.mono ?_
        rintro e w10 ⟨na, nm, nc, rfl, H10⟩
        clear v0 v1 v2 v3 v4 v5 v6
        have HEY10 := Lib.hid (HEY9.out.under H10.out.2)
        have HBZ10 : Hid (Below Z.heap.size Z w10) := Lib.hid HEY10.out.ex.base
        by_cases hne0 : ne = 0
        case neg =>
          have n1 : (ne == 0) = false := by simpa using hne0
          have n2 : (ne != 0) = true := by simpa using hne0
          obtain rfl : ne = 5 := by rw [← hne]; exact needs_5 HOKB.out.2 HLV.out (by omega) (by rw [hne]; exact hne0)
          have HN := Lib.hid (HSTOP.out (HMD.out.trans (made_needs (by rw [HUPR.out]; show needsE b2 lv r ≠ 0; rw [hne]; omega))))
          obtain ⟨c0, c1', c2', f0, f1, f2⟩ := HRC.out w10 HBZ10.out
          clear hne hne0
          go_wp2_with fail
          (try simp only [Exit.inBlock, Exit.then])
          exact ret_bm2 rfl rfl rfl rfl (bm_set (HK.out w10 HBZ10.out)) (HBAD.out w10 _ _ _ HBZ10.out HN.out)
        subst hne0
        obtain ⟨NL, hNL⟩ : ∃ NL, needL b2.s lv r = NL := ⟨_, rfl⟩
        have HNZ := Lib.hid hne
        have hnl : needsL b2 lv r = NL := by rw [(Recipe.needsE_zero hne).2.2, hNL]
        have HON : Hid (OwnS w10 B (.slice na nm nc) NL) := Lib.hid (by rw [← hnl]; exact H10.out.1)
        have HQ : Hid (∀ s ∈ NL, (1 ≤ s.qty ∧ s.qty ≤ 1125899906842624) ∧ ∃ x : Nat, s.kind = (x : Int) ∧ x ≤ N) := Lib.hid fun s hs => by
          rw [← hNL] at hs
          obtain ⟨u, hu, rfl⟩ := List.mem_map.1 hs
          have h1 := Recipe.nd_run u.qty lv r
          have h2 : nd u.qty lv r ≤ Recipe.mq := by
            by_cases hq : ∀ t ∈ b2.s, nd t.qty lv r ≤ Recipe.mq
            · exact hq u hu
            · have := (Recipe.needsE_over HOKB.out.2 (Recipe.needsE_zero HNZ.out).2.1 hq).1
              rw [HNZ.out] at this
              cases this
          have h3 := kind_listed HOKB.out.1.2.2.2.2.2.2.2.1 u hu
          have hty : C.p.ty = (N : Int) := HTY.out
          have hty2 : C.ty = (N : Int) := hty
          rw [hty2] at h3
          refine ⟨⟨by show 1 ≤ nd u.qty lv r; omega, h2⟩, ?_⟩
          obtain ⟨x, hx⟩ := Int.eq_ofNat_of_zero_le (show 0 ≤ u.kind by omega)
          exact ⟨x, hx, by omega⟩
        have HNM : Hid (NL.length = nm ∧ nm ≤ 8) := Lib.hid (by
          obtain ⟨a', c', e, _⟩ := Goods.rowS HON.out
          injection e with _ e2 _
          refine ⟨e2.symm, ?_⟩
          rw [e2, ← hNL]
          show (b2.s.map _).length ≤ 8
          rw [List.length_map]
          exact HOKB.out.1.2.2.2.2.2.2.2.1.1)
        have hnm : (nm : Int) ≤ 8 := by have := HNM.out.2; omega
        have HU10 : Hid (w10.heap[U]? = X2.heap[U]?) := Lib.hid ((H10.out.2.block U (same_lt HU9.out HUG.out.2)).trans HU9.out)
        have HNLD : Hid (needL b2.s lv r = NL) := Lib.hid hNL
        clear hne hNL hnl
        go_wp2_with fail
        go_loopw [27] (fun s wx => ∃ (q : Nat) (f : Int → Int), s = .int .i64 (q : Int) ∧ q ≤ nm ∧ Hid (addW S.w (NL.take q) = some f) ∧ Hid (Ey wx Z Y N C.bn A G O B f (S.rs.set j r) (.slice a1 m1 c1) S.raw (.slice a2 m2 c2) S.left ∧ OwnS wx B (.slice na nm nc) NL) ∧ Hid (wx.heap[U]? = X2.heap[U]?)) (fun s _ => nm - (RowKit.intOf s).toNat)
        case atStart => exact ⟨0, S.w, rfl, by omega, Lib.hid rfl, Lib.hid ⟨HEY10.out, HON.out⟩, HU10⟩
        case round =>
          obtain ⟨q, f, rfl, hq, HA, HE, HUU⟩ := hrel
          obtain ⟨wx, rfl⟩ : ∃ wx, wx = wr := ⟨_, rfl⟩
          have hq0 : (0 : Int) ≤ (q : Int) := by omega
          have HBX : Hid (Below Z.heap.size Z wx) := Lib.hid HE.out.1.ex.base
          by_cases hqn : q < nm
          · have hqn2 : (q : Int) < (nm : Int) := by omega
            have wq : IntKind.i64.wrap ((q : Int) + 1) = (q : Int) + 1 := IntWalk.i64_in _ (by omega)
            have hrow : ∃ g4 s, na = some ⟨g4, 0, none⟩ ∧ Hid (NL[q]? = some s) ∧ wx.cell? ⟨g4, q * 2, none⟩ = some (.int .i64 s.kind) ∧ wx.cell? ⟨g4, q * 2 + 1, none⟩ = some (.int .i64 s.qty) := by
              obtain ⟨a', c', e, _, hat⟩ := Goods.row_st HE.out.2
              injection e with e1 _ _
              subst e1
              have hlt3 : q < NL.length := by rw [HNM.out.1]; exact hqn
              obtain ⟨g4, e4, _, p0, p1⟩ := hat q NL[q] (List.getElem?_eq_getElem hlt3)
              exact ⟨g4, NL[q], e4, Lib.hid (List.getElem?_eq_getElem hlt3), p0, p1⟩
            obtain ⟨g4, s4, rfl, HS4, p0, p1⟩ := hrow
            obtain ⟨hsq, x, hx, hxN⟩ := HQ.out s4 (List.mem_of_getElem? HS4.out)
            have HX4 := Lib.hid hx
            have HXN := Lib.hid hxN
            obtain ⟨sq, hsqv⟩ : ∃ sq, s4.qty = sq := ⟨_, rfl⟩
            have HSQ := Lib.hid hsqv
            rw [hx] at p0
            rw [hsqv] at p1 hsq
            have hx0 : (0 : Int) ≤ (x : Int) := by omega
            have hxM : (x : Int) < (M : Int) := by have := HMN.out; omega
            obtain ⟨e0, e1⟩ := HE.out.1.ex.want x hxN
            have hfb : 0 ≤ f (x : Int) ∧ f (x : Int) ≤ 1125899906842624 := by
              obtain ⟨t1, t2⟩ := addW_some _ _ _ HA.out
              have t3 := t2 (fun y => (HS.out.2.cap y).2) (x : Int)
              have t4 := (HS.out.2.cap (x : Int)).1
              have t5 : 0 ≤ cnt (NL.take q) (x : Int) := Goods.cnt_nonneg (fun u hu => by have := (HQ.out u (List.mem_of_mem_take hu)).1.1; omega) _
              rw [t1] at t3 ⊢
              exact ⟨by omega, t3⟩
            obtain ⟨fv, hfv⟩ : ∃ fv, f (x : Int) = fv := ⟨_, rfl⟩
            have HFV := Lib.hid hfv
            rw [hfv] at e0 hfb
            obtain ⟨dv, hdv⟩ : ∃ dv, 1125899906842624 - fv = dv := ⟨_, rfl⟩
            have HDV := Lib.hid hdv
            have wd : IntKind.i64.wrap (1125899906842624 - fv) = dv := by rw [hdv]; exact IntWalk.i64_in _ (by omega)
            have wd2 : wrap64 dv = dv := IntWalk.wrap64_in _ (by omega)
            have wd3 : IntKind.i64.wrap dv = dv := IntWalk.i64_in _ (by omega)
            have hsn := addW_snoc s4 HA.out
            rw [← take_snoc HS4.out, HX4.out, HFV.out, HSQ.out] at hsn
            have HSN := Lib.hid hsn
            clear hx hsqv hfv hdv hsn hxN
            by_cases hov : dv < sq
            · have dov : decide (dv < sq) = true := decide_eq_true hov
              have HN : Hid (rn C.p.bs lv hv T (s0 C.p K n) = none) := Lib.hid (HSTOP.out (HMD.out.trans (made_over (by
                rw [HUPR.out]
                show addW S.w (needL b2.s lv r) = none
                have h := HSN.out
                rw [if_pos (by show Recipe.mq - fv < sq; rw [show Recipe.mq = 1125899906842624 from rfl, HDV.out]; exact hov)] at h
                rw [HNLD.out]
                have := addW_fail (k := NL.drop (q + 1)) h
                rw [List.take_append_drop] at this
                exact this))))
              clear hov
              go_wp2_with fail
              go_quiet (fail)
              generalize hY2 : World.drewN _ _ = Y2
              have HBY : Hid (Below Z.heap.size Z Y2) := Lib.hid (by rw [← hY2]; exact Graph.below_drewN HBX.out _)
              clear hY2
              obtain ⟨c0, c1', c2', f0, f1, f2⟩ := HRC.out Y2 HBY.out
              go_wp2_with fail
              (try simp only [Exit.inBlock, Exit.then])
              exact ret_bm2 rfl rfl rfl rfl (bm_set (HK.out Y2 HBY.out)) (HBAD.out Y2 _ _ _ HBY.out HN.out)
            · have dov : decide (dv < sq) = false := decide_eq_false hov
              obtain ⟨nv, hnv⟩ : ∃ nv, fv + sq = nv := ⟨_, rfl⟩
              have hnvb : 0 ≤ nv ∧ nv ≤ 1125899906842624 := by have := HDV.out; omega
              have wnv : IntKind.i64.wrap (fv + sq) = nv := by rw [hnv]; exact IntWalk.i64_in _ (by omega)
              have wnv2 : wrap64 nv = nv := IntWalk.wrap64_in _ (by omega)
              have wnv3 : IntKind.i64.wrap nv = nv := IntWalk.i64_in _ (by omega)
              have HA2 : Hid (addW S.w (NL.take (q + 1)) = some (upd f (x : Int) nv)) := Lib.hid (by
                have h := HSN.out
                rw [if_neg (by show ¬ Recipe.mq - fv < sq; rw [show Recipe.mq = 1125899906842624 from rfl, HDV.out]; exact hov), hnv] at h
                exact h)
              clear hov hnv
              go_wp2_with fail
              go_quiet (fail)
              generalize hY2 : World.drewN _ _ = Y2
              have hbY : Below wx.heap.size wx Y2 := by rw [← hY2]; exact Graph.below_drewN (Below.refl _ wx) _
              have HEY2 : Hid (Ey Y2 Z Y N C.bn A G O B f (S.rs.set j r) (.slice a1 m1 c1) S.raw (.slice a2 m2 c2) S.left ∧ OwnS Y2 B (.slice (some ⟨g4, 0, none⟩) nm nc) NL) := Lib.hid ⟨HE.out.1.under hbY, Goods.own_under HE.out.2 hbY⟩
              have HUY : Hid (Y2.heap[U]? = X2.heap[U]?) := Lib.hid ((hbY.block U (same_lt HUU.out HUG.out.2)).trans HUU.out)
              have p0' : Y2.cell? ⟨g4, q * 2, none⟩ = some (.int .i64 (x : Int)) := by rw [← hY2]; exact p0
              have p1' : Y2.cell? ⟨g4, q * 2 + 1, none⟩ = some (.int .i64 sq) := by rw [← hY2]; exact p1
              have e0' : Y2.cell? ⟨A, x, none⟩ = some (.int .i64 fv) := by rw [← hY2]; exact e0
              have e1' : Y2.frozen? ⟨A, x, none⟩ = false := by rw [← hY2]; exact e1
              clear hY2 hbY p0 p1 e0 e1
              have HE2 : Hid (Ey (Y2.setCell ⟨A, x, none⟩ (.int .i64 nv)).drew Z Y N C.bn A G O B (upd f (x : Int) nv) (S.rs.set j r) (.slice a1 m1 c1) S.raw (.slice a2 m2 c2) S.left ∧ OwnS (Y2.setCell ⟨A, x, none⟩ (.int .i64 nv)).drew B (.slice (some ⟨g4, 0, none⟩) nm nc) NL) := Lib.hid (by
                have hAB : A < B := by have := HEY2.out.1.ex.ag; have := HEY2.out.1.ex.go; have := HEY2.out.1.ex.ob; omega
                refine ⟨(HEY2.out.1.setW x HXN.out nv).under (Below.refl _ _).drew, Goods.own_under (Goods.own_same HEY2.out.2 fun b hb => heap_setCell_other Y2 ⟨A, x, none⟩ b _ ?_) (Below.refl _ _).drew⟩
                have := (HEY2.out.2.lt b hb).1
                show b ≠ A
                omega)
              have HU2 : Hid ((Y2.setCell ⟨A, x, none⟩ (.int .i64 nv)).drew.heap[U]? = X2.heap[U]?) := Lib.hid (by
                refine (heap_setCell_other Y2 ⟨A, x, none⟩ U _ ?_).trans HUY.out
                have := HEY2.out.1.ex.ag; have := HEY2.out.1.ex.go; have := HEY2.out.1.ex.ob; have := HUG.out.1
                show U ≠ A
                omega)
              go_wp2_with fail
              go_region
              go_wp2_with fail
              go_roundw
              case rel => exact ⟨q + 1, upd f (x : Int) nv, by go_num, by omega, HA2, HE2, HU2⟩
              case measure => simp [RowKit.intOf]; omega
          · obtain rfl : q = nm := by omega
            have HAF : Hid (addW S.w (needL b2.s lv r) = some f) := Lib.hid (by
              have h := HA.out
              rw [List.take_of_length_le (by rw [HNM.out.1]; exact Nat.le_refl _)] at h
              rw [HNLD.out]
              exact h)
            obtain ⟨_, v1, _⟩ := HCU2.out wx HUU.out
            have hrb : 1 ≤ r ∧ r ≤ 1000 := by omega
            obtain ⟨pr, hpr⟩ : ∃ pr, r * b2.per = pr := ⟨_, rfl⟩
            have hprb : 0 ≤ pr ∧ pr ≤ 1048576000 := by
              rw [← hpr]
              have h1 := Int.mul_le_mul hrb.2 hper.2 (by omega) (by omega)
              have h2 : 0 ≤ r * b2.per := Int.mul_nonneg (by omega) (by omega)
              omega
            have wpr : IntKind.i64.wrap (r * b2.per) = pr := by rw [hpr]; exact IntWalk.i64_in _ (by omega)
            have wpr2 : wrap64 pr = pr := IntWalk.wrap64_in _ (by omega)
            have wpr3 : IntKind.i64.wrap pr = pr := IntWalk.i64_in _ (by omega)
            obtain ⟨ov, hov⟩ : ∃ ov, pr - mv = ov := ⟨_, rfl⟩
            have wov : IntKind.i64.wrap (pr - mv) = ov := by rw [hov]; exact IntWalk.i64_in _ (by omega)
            have wov2 : wrap64 ov = ov := IntWalk.wrap64_in _ (by omega)
            have wov3 : IntKind.i64.wrap ov = ov := IntWalk.i64_in _ (by omega)
            have hfin := made_fine (bs := C.p.bs) (lv := lv) (m := mv) (t := (k : Int)) (i := j) (b := pOf b2) (S := S) (w' := f) (by rw [HUPR.out]; omega) (by rw [HUPR.out]; exact HNZ.out) (by rw [HUPR.out]; exact HAF.out)
            rw [HUPR.out] at hfin
            have hfin2 : stp C.p.bs lv hv (k : Int) S = some ⟨f, S.rs.set j r, S.raw, if 0 < ov then S.left ++ [⟨k, ov⟩] else S.left⟩ := by
              rw [HMD.out, hfin]
              show some (⟨f, S.rs.set j r, S.raw, if 0 < r * b2.per - mv then S.left ++ [⟨(k : Int), r * b2.per - mv⟩] else S.left⟩ : Sx) = _
              rw [hpr, hov]
            by_cases hov0 : 0 < ov
            · have dov : decide (0 < ov) = true := decide_eq_true hov0
              rw [if_pos hov0] at hfin2
              have HS2 := Lib.hid (HNEXT.out _ hfin2)
              obtain ⟨a3, c3, W8, HR8, h8⟩ := HE.out.1.app2 ⟨k, ov⟩ (by omega)
              have HEY8' := Lib.hid h8
              clear h8 hfin hfin2 hov hpr hov0 HEY8
              go_wp2_with (at_builtin; refine walk_run (v' := .slice a3 (m2 + 1) c3) (w' := W8) rfl _ _ _ _ rfl _ _ rfl rfl ?_ ?_; exact HR8.out)
              go_roundw
              case rel => exact ⟨i + 1, _, a1, m1, c1, a3, m2 + 1, c3, rfl, rfl, by go_num, by omega, by omega, by omega, HEY8', HS2⟩
              case measure => simp [RowKit.intOf]; omega
            · have dov : decide (0 < ov) = false := decide_eq_false hov0
              rw [if_neg hov0] at hfin2
              have HS2 := Lib.hid (HNEXT.out _ hfin2)
              have HEY8' := Lib.hid HE.out.1
              clear hfin hfin2 hov hpr hov0
              go_wp2_with fail
              go_roundw
              case rel => exact ⟨i + 1, _, a1, m1, c1, a2, m2, c2, rfl, rfl, by go_num, by omega, by omega, by omega, HEY8', HS2⟩
              case measure => simp [RowKit.intOf]; omega
    · obtain rfl : i = tn := by omega
      have hfin := HS.out.1
      rw [List.take_of_length_le (by rw [HTN.out.1]; exact Nat.le_refl _)] at hfin
      have hrun := HRUN.out.trans hfin
      have HE0 := Lib.hid (exp_some HER.out HCAP.out hrun)
      have HBL := Lib.hid (bill_some HER.out HCAP.out hrun)
      have hi32 : i ≤ 32 := HTN.out.2
      have HN1 : Hid (Calls Try.prog 34 #[.slice a1 m1 c1] wr fun e w' => ∃ a' m' c' er, e = .returned (.tuple #[.slice a' m' c', .int .i64 er]) ∧ Hid ((m' ≤ 1048576 ∧ OwnS w' B (.slice a' m' c') (Goods.valN S.raw)) ∧ Below wr.heap.size wr w')) := Lib.hid (by
        obtain ⟨a', c', e, hs⟩ := Goods.sts_own HEW.out.ex.one
        injection e with e1 e2 _
        subst e1
        refine (Goods.dnorm2 a1 m1 c1 S.raw wr e2.symm hs (by omega)).mono ?_
        rintro e w' ⟨a3, m3, c3, rfl, _, H⟩
        refine ⟨a3, m3, c3, _, rfl, Lib.hid ⟨⟨?_, World.ownsRow.mono H.out.2.2.1 HEW.out.ex.size⟩, H.out.2.2.2⟩⟩
        have := H.out.1
        have := Goods.len_valN S.raw
        omega)
      have HN2 : Hid (∀ W, Below wr.heap.size wr W → Calls Try.prog 34 #[.slice a2 m2 c2] W fun e w' => ∃ a' m' c' er, e = .returned (.tuple #[.slice a' m' c', .int .i64 er]) ∧ Hid ((m' ≤ 1048576 ∧ OwnS w' B (.slice a' m' c') (Goods.valN S.left)) ∧ Below W.heap.size W w')) := Lib.hid fun W hW => by
        obtain ⟨a', c', e, hs⟩ := Goods.sts_own HEW.out.ex.two
        injection e with e1 e2 _
        subst e1
        refine (Goods.dnorm2 a2 m2 c2 S.left W e2.symm (hs.under hW) (by omega)).mono ?_
        rintro e w' ⟨a3, m3, c3, rfl, _, H⟩
        refine ⟨a3, m3, c3, _, rfl, Lib.hid ⟨⟨?_, World.ownsRow.mono H.out.2.2.1 (Nat.le_trans HEW.out.ex.size hW.size)⟩, H.out.2.2.2⟩⟩
        have := H.out.1
        have := Goods.len_valN S.left
        omega
      clear hfin hrun
      go_wp2_with fail
      refine HN1.out.mono ?_
      rintro e w11 ⟨a3, m3, c3, er3, rfl, H11⟩
      go_wp2_with fail
      refine (HN2.out w11 H11.out.2).mono ?_
      rintro e w12 ⟨a4, m4, c4, er4, rfl, H12⟩
      have HEY12 := Lib.hid ((HEW.out.under H11.out.2).under H12.out.2)
      obtain ⟨o0, o1, o2⟩ := HEY12.out.ex.out
      have of0 := HEY12.out.ex.outf 0
      have of2 := HEY12.out.ex.outf 2
      obtain ⟨W13, hW13⟩ : ∃ W13, (w12.setCell ⟨O, 0, none⟩ (.slice a3 m3 c3)).setCell ⟨O, 2, none⟩ (.slice a4 m4 c4) = W13 := ⟨_, rfl⟩
      have of2' : (w12.setCell ⟨O, 0, none⟩ (.slice a3 m3 c3)).frozen? ⟨O, 2, none⟩ = false := by rw [World.frozen?_setCell]; exact of2
      have o2' : (w12.setCell ⟨O, 0, none⟩ (.slice a3 m3 c3)).cell? ⟨O, 2, none⟩ = some (.slice none 0 0) := by rw [World.cell?_setCell_other (h := addr_ne (.inr (by omega)))]; exact o2
      have t0 : W13.cell? ⟨O, 0, none⟩ = some (.slice a3 m3 c3) := by rw [← hW13, World.cell?_setCell_other (h := addr_ne (.inr (by omega)))]; exact World.cell?_setCell_same (h := o0) ..
      have t1 : W13.cell? ⟨O, 1, none⟩ = some (.slice (some ⟨G, 0, none⟩) C.bn C.bn) := by rw [← hW13, World.cell?_setCell_other (h := addr_ne (.inr (by omega))), World.cell?_setCell_other (h := addr_ne (.inr (by omega)))]; exact o1
      have t2 : W13.cell? ⟨O, 2, none⟩ = some (.slice a4 m4 c4) := by rw [← hW13]; exact World.cell?_setCell_same (h := o2') ..
      have HBZ13 : Hid (Below Z.heap.size Z W13) := Lib.hid (by
        have hO : Z.heap.size ≤ O := by have := HEY12.out.ex.lo; have := HEY12.out.ex.ag; have := HEY12.out.ex.go; omega
        rw [← hW13]
        exact (HEY12.out.ex.base.setCell (p := ⟨O, 0, none⟩) hO _).setCell (p := ⟨O, 2, none⟩) hO _)
      have HFIN : Hid (∀ x y z, ∃ b : BM, Ending.returned (.tuple #[.agg #[.slice a3 m3 c3, .slice (some ⟨G, 0, none⟩) C.bn C.bn, .slice a4 m4 c4], .int .i64 0]) = .returned (.tuple #[b.v, .int .i64 (expE C.p K n lv hv)]) ∧ Hid (BomAt (((W13.setCell ⟨R, 0, none⟩ x).setCell ⟨R, 1, none⟩ y).setCell ⟨R, 2, none⟩ z) b ∧ Says b (bill C.p K n lv hv) ∧ Below w.heap.size w (((W13.setCell ⟨R, 0, none⟩ x).setCell ⟨R, 1, none⟩ y).setCell ⟨R, 2, none⟩ z))) := Lib.hid fun x y z => by
        refine ⟨⟨a3, m3, c3, Goods.valN S.raw, some ⟨G, 0, none⟩, C.bn, C.bn, S.rs, a4, m4, c4, Goods.valN S.left⟩, by rw [HE0.out], Lib.hid ⟨?_, ?_, HNO.out W13 x y z HBZ13.out⟩⟩
        · rw [← hW13]
          exact bill_at HEY12.out HRW.out.2 (Goods.own_under H11.out.1.2 H12.out.2) H12.out.1.2 H11.out.1.1 H12.out.1.1 (by omega) _ _ x y z
        · rw [HBL.out]
          exact ⟨rfl, rfl, rfl⟩
      obtain ⟨c0, c1', c2', f0, f1, f2⟩ := HRC.out W13 HBZ13.out
      go_wp2_with fail
      exact ret_bm2 rfl rfl rfl rfl (bm_set (HK.out W13 HBZ13.out)) (HFIN.out _ _ _)
end Go.Proofs.Ytohlkaoophbinaa.Bom
