/- The document's Fits: the whole. -/
import Derived.Test.YtohlkaoophbinaaZBomF
namespace Go.Proofs.Ytohlkaoophbinaa.Bom
open Go.RowKit Go.Lib IRows
open Goods (St Sts OwnS cnt)
open Cat (Cat PB CM CatAt Lim box_cat pOf)
open Recipe (needsE needsL needL up nd BlIn)

open Classical in
set_option maxRecDepth 100000 in
set_option maxHeartbeats 8000000 in
theorem dfits (C : CM) (kind n lv : Int) (a : Option Addr) (m c : Nat) (raw : List St) (ra : Option Addr) (rm rc : Nat) (rs : List Int) (w : World) (h : CatAt w C) (hl : Lim C) (hm : raw.length = m) (hs : Sts w a raw) (h4 : m ≤ 4096) (hr : rs.length = rm) (hrs : IRow w ra rs) (hrm : rm ≤ 1000) :
    Calls Try.prog 17 #[C.v, .int .i64 kind, .int .i64 n, .int .i64 lv, .slice a m c, .slice ra rm rc] w fun e w' => e = .returned (.bool (decide (FitsP C.p kind n lv raw rs))) ∧ Below w.heap.size w w' := by
  obtain ⟨V, X, hV, hX, HXB, HP⟩ := box_cat w C
  have HPE : Hid (∀ W, Below X.heap.size X W → W.cell? ⟨V, 0, none⟩ = some (.int .i64 C.ty) ∧ W.cell? ⟨V, 1, none⟩ = some (.slice C.ba C.bn C.bc) ∧ W.cell? ⟨V, 2, none⟩ = some (.int .i64 C.pl) ∧ W.cell? ⟨V, 3, none⟩ = some (.slice C.ya C.yn C.yc) ∧ W.cell? ⟨V, 4, none⟩ = some (.int .i64 C.ch) ∧ W.cell? ⟨V, 5, none⟩ = some (.int .i64 C.f.broker) ∧ W.cell? ⟨V, 6, none⟩ = some (.int .i64 C.f.least) ∧ W.cell? ⟨V, 7, none⟩ = some (.int .i64 C.f.sales)) := Lib.hid fun W hW => HP.out W hW
  obtain ⟨k0, k1, k2, k3, k4, k5, k6, k7⟩ := HPE.out X (Below.refl _ _)
  obtain ⟨er, her⟩ : ∃ er, mayE C.p kind lv raw = er := ⟨_, rfl⟩
  have HM : Hid (Calls Try.prog 28 #[.agg #[.int .i64 C.ty, .slice C.ba C.bn C.bc, .int .i64 C.pl, .slice C.ya C.yn C.yc, .int .i64 C.ch, .int .i64 C.f.broker, .int .i64 C.f.least, .int .i64 C.f.sales], .int .i64 kind, .int .i64 lv, .slice a m c] X fun e w' => e = .returned (.int .i64 er) ∧ Hid (Below X.heap.size X w')) := Lib.hid (by
    rw [← her]
    exact (dmay C kind lv a m c raw X (h.under HXB.out) hl hm (hs.under HXB.out) h4).mono fun _ _ ⟨e, h⟩ => ⟨e, Lib.hid h⟩)
  have HNO : Hid (∀ W, Below X.heap.size X W → Below w.heap.size w W) := Lib.hid fun W hW => below_then HXB.out hW
  have HRU : Hid (∀ W t, Below X.heap.size X W → decide (RunsOk C.p rs) = t → Calls Try.prog 41 #[.agg #[.int .i64 C.ty, .slice C.ba C.bn C.bc, .int .i64 C.pl, .slice C.ya C.yn C.yc, .int .i64 C.ch, .int .i64 C.f.broker, .int .i64 C.f.least, .int .i64 C.f.sales], .slice ra rm rc] W fun e w' => e = .returned (.bool t) ∧ Hid (Below X.heap.size X w')) := Lib.hid fun W t hW ht => by
    subst ht
    exact (druns15 C ra rm rc rs W h.1.1 hr (hrs.under (below_then HXB.out hW)) hrm).mono fun _ _ ⟨e, h⟩ => ⟨by rw [e], Lib.hid (below_then hW h)⟩
  have HFN : Hid (¬ FitsA C.p kind n lv raw rs → decide (FitsP C.p kind n lv raw rs) = false) := Lib.hid fun h => decide_eq_false (fits_not h)
  by_cases he : er = 0
  case neg =>
    have n1 : (er == 0) = false := by simpa using he
    have n2 : (er != 0) = true := by simpa using he
    have HF := Lib.hid (HFN.out fun h => he (by rw [← her]; exact h.1))
    clear her h hl hm hs hr hrs hrm he
    go_enter Try.func17, Try.ntmps17
    go_wp2_with fail
    clear hX hV
    refine HM.out.mono ?_
    rintro e w1 ⟨rfl, H1⟩
    go_wp2_with fail
    go_ret
    exact ⟨by rw [HF.out]; rfl, HNO.out _ H1.out⟩
  subst he
  have hmq : Recipe.mq = 1125899906842624 := rfl
  by_cases c1 : n < 1
  · have d1 : decide (n < 1) = true := decide_eq_true c1
    have HF := Lib.hid (HFN.out fun h => by have := h.2.1; omega)
    clear her h hl hm hs hr hrs hrm hmq
    go_enter Try.func17, Try.ntmps17
    go_wp2_with fail
    clear hX hV
    refine HM.out.mono ?_
    rintro e w1 ⟨rfl, H1⟩
    go_wp2_with fail
    go_ret
    exact ⟨by rw [HF.out]; rfl, HNO.out _ H1.out⟩
  have d1 : decide (n < 1) = false := decide_eq_false c1
  by_cases c2 : 1125899906842624 < n
  · have d2 : decide (1125899906842624 < n) = true := decide_eq_true c2
    have HF := Lib.hid (HFN.out fun h => by have := h.2.1; omega)
    clear her h hl hm hs hr hrs hrm hmq
    go_enter Try.func17, Try.ntmps17
    go_wp2_with fail
    clear hX hV
    refine HM.out.mono ?_
    rintro e w1 ⟨rfl, H1⟩
    go_wp2_with fail
    go_ret
    exact ⟨by rw [HF.out]; rfl, HNO.out _ H1.out⟩
  have d2 : decide (1125899906842624 < n) = false := decide_eq_false c2
  by_cases hk : RunsOk C.p rs
  case neg =>
    have HF := Lib.hid (HFN.out fun h => hk h.2.2)
    have HZ := Lib.hid (HRU.out · false · (decide_eq_false hk))
    clear her h hl hm hs hr hrs hrm hmq hk
    go_enter Try.func17, Try.ntmps17
    go_wp2_with fail
    clear hX hV
    refine HM.out.mono ?_
    rintro e w1 ⟨rfl, H1⟩
    obtain ⟨y0, y1, y2, y3, y4, y5, y6, y7⟩ := HPE.out w1 H1.out
    clear k0 k1 k2 k3 k4 k5 k6 k7
    go_wp2_with fail
    refine (HZ.out w1 H1.out).mono ?_
    rintro e w2 ⟨rfl, H2⟩
    go_wp2_with fail
    go_ret
    exact ⟨by rw [HF.out]; rfl, HNO.out _ H2.out⟩
  have HZ := Lib.hid (HRU.out · true · (decide_eq_true hk))
  obtain ⟨hc, hkr, hlr, hli⟩ := mayE_zero her
  have hco := Cat.chk_zero hc
  have HA : Hid (FitsA C.p kind n lv raw rs) := Lib.hid ⟨her, by omega, hk⟩
  have HCO : Hid (∀ W k, Below X.heap.size X W → Calls Try.prog 30 #[.slice a m c, .int .i64 k] W fun e w' => e = .returned (.int .i64 (cnt raw k)) ∧ Hid (Below X.heap.size X w')) := Lib.hid fun W k hW => by
    have := Goods.dcount a m c raw k W hm ((hs.under HXB.out).under hW) h4
    rw [cnt_listed hli] at this
    exact this.mono fun _ _ ⟨e, h⟩ => ⟨e, Lib.hid (below_then hW h)⟩
  have HCB : Hid (∀ k, 0 ≤ cnt raw k ∧ cnt raw k ≤ 1125899906842624) := Lib.hid fun k => ⟨cnt_hv (qty_listed hli) k, by
    have := (Goods.errN_zero hli.2.1).2
    refine Int.not_lt.1 fun hh => this ⟨k, hh⟩⟩
  have HB := Cat.blue_at (h.under HXB.out)
  have HSM : Hid (∀ b ∈ C.bs, b.sm ≤ 12) := Lib.hid hl.1
  have HBN : Hid (C.p.bs.length = C.bn) := Lib.hid (by unfold CM.p; rw [List.length_map]; exact h.1.1)
  have HBP : Hid (∀ (i : Nat) (b : Recipe.Bl), C.bs[i]? = some b → C.p.bs[i]? = some (pOf b)) := Lib.hid fun i b h => by unfold CM.p; simp [h]
  have HBOK : Hid (∀ b ∈ C.p.bs, Recipe.BlOk b.b C.ty) := Lib.hid hco.2.1
  have hbn : C.bn ≤ 20 := hl.2.1
  have HT := irow_at (hrs.under HXB.out)
  have HL := Lib.hid hr
  have HNN : Hid (∀ r ∈ rs, 0 ≤ r ∧ r ≤ 1000) := Lib.hid hk.2
  obtain rfl : rm = C.bn := by rw [← HL.out, hk.1, HBN.out]
  have hty := hco.1.1
  obtain ⟨N, hN⟩ := Int.eq_ofNat_of_zero_le (show 0 ≤ C.p.ty by omega)
  have hNb : 1 ≤ (N : Int) ∧ (N : Int) ≤ 32 := by have : C.p.ty = (N : Int) := hN; omega
  have HTY : Hid (C.p.ty = (N : Int)) := Lib.hid hN
  have HNE : Hid (C.ty = (N : Int)) := Lib.hid hN
  clear her h hl hm hs hr hrs hrm hmq hk hc hkr hlr hli hco hty hN
  go_enter Try.func17, Try.ntmps17
  go_wp2_with fail
  clear hX hV
  refine HM.out.mono ?_
  rintro e w1 ⟨rfl, H1⟩
  obtain ⟨y0, y1, y2, y3, y4, y5, y6, y7⟩ := HPE.out w1 H1.out
  clear k0 k1 k2 k3 k4 k5 k6 k7
  go_wp2_with fail
  refine (HZ.out w1 H1.out).mono ?_
  rintro e w2 ⟨rfl, H2⟩
  clear y0 y1 y2 y3 y4 y5 y6 y7
  go_wp2_with fail
  go_loopw [13] (fun s wr => ∃ (p : Nat) (t : Int), s = .int .i64 t ∧ Hid (t = (p : Int) + 1) ∧ p ≤ N ∧ Hid (Below X.heap.size X wr) ∧ Hid ((∀ u : Int, 1 ≤ u → u ≤ p → (if u = kind then n else 0) + nS lv u C.p.bs rs ≤ cnt raw u + mS u C.p.bs rs) ∧ (1 ≤ p → ∀ (i : Nat) (b : PB) (r : Int), C.p.bs[i]? = some b → rs[i]? = some r → r ≠ 0 → needsE b.b lv r = 0))) (fun s _ => N + 1 - (RowKit.intOf s).toNat)
  case atStart => exact ⟨0, 1, rfl, Lib.hid (by omega), by omega, H2, Lib.hid ⟨fun u h1 h2 => by omega, fun h => by omega⟩⟩
  case round =>
    obtain ⟨p, t, rfl, HTP, hp, HW, HI⟩ := hrel
    have htp := HTP.out
    have ht1 : 1 ≤ t := by omega
    obtain ⟨y0, y1, y2, y3, y4, y5, y6, y7⟩ := HPE.out wr HW.out
    rw [HNE.out] at y0
    by_cases hlt : p < N
    · have d3 : decide (t ≤ (N : Int)) = true := decide_eq_true (by omega)
      have wt : IntKind.i64.wrap (t + 1) = t + 1 := IntWalk.i64_in _ (by omega)
      obtain ⟨cv, hcv⟩ : ∃ cv, cnt raw t = cv := ⟨_, rfl⟩
      have HCV := Lib.hid hcv
      have hcb := HCB.out t
      rw [hcv] at hcb
      have HC1 := Lib.hid (HCO.out wr t HW.out)
      rw [hcv] at HC1
      have htN : t ≤ N := by omega
      have HTN := Lib.hid htN
      clear hcv htp
      by_cases hkt : t = kind
      · have hkt2 : (t == kind) = true := by simpa using hkt
        have HNS0 : Hid ((if t = kind then n else 0) = n) := Lib.hid (if_pos hkt)
        clear hkt
        go_wp2_with fail
        refine HC1.out.mono ?_
        rintro e w3 ⟨rfl, H3⟩
        clear y0 y1 y2 y3 y4 y5 y6 y7
        go_wp2_with fail
        go_loopw [14, 15, 16] (fun v u s wx => ∃ (i : Nat) (hs ns : Int), v = .int .i64 hs ∧ u = .int .i64 ns ∧ s = .int .i64 (i : Int) ∧ i ≤ C.bn ∧ Hid (hs = cv + mS t (C.p.bs.take i) (rs.take i) ∧ ns = n + nS lv t (C.p.bs.take i) (rs.take i)) ∧ Hid ((0 ≤ hs ∧ hs ≤ 1125899906842624 + i * 1048576000) ∧ 0 ≤ ns ∧ ns ≤ 1125899906842624 * (i + 1)) ∧ Hid (Below X.heap.size X wx) ∧ Hid (∀ (k : Nat) (b : PB) (r : Int), k < i → C.p.bs[k]? = some b → rs[k]? = some r → r ≠ 0 → needsE b.b lv r = 0)) (fun _ _ s _ => C.bn - (RowKit.intOf s).toNat)
        case atStart => exact ⟨0, cv, n, rfl, rfl, rfl, by omega, Lib.hid ⟨by simp [mS], by simp [nS]⟩, Lib.hid ⟨by omega, by omega⟩, H3, Lib.hid (fun k b r h => by omega)⟩
        case round =>
          obtain ⟨wq, rfl⟩ : ∃ wq, wq = wr := ⟨_, rfl⟩
          obtain ⟨i, hs, ns, rfl, rfl, rfl, hi, HV, HBD, HX, HOKS⟩ := hrel
          have hi0 : (0 : Int) ≤ (i : Int) := by omega
          obtain ⟨y0, y1, y2, y3, y4, y5, y6, y7⟩ := HPE.out wq HX.out
          by_cases hil : i < C.bn
          · have hil2 : (i : Int) < (C.bn : Int) := by omega
            have hd1 : decide (i < C.bn) = true := decide_eq_true hil
            have wi : IntKind.i64.wrap ((i : Int) + 1) = (i : Int) + 1 := IntWalk.i64_in _ (by omega)
            obtain ⟨g, off, b, hba, ht, q0, q1, q2, q3, q4, q5, q6⟩ := HB.out wq i HX.out hil
            obtain ⟨g2, off2, r, rfl, hr, z0⟩ := HT.out wq i HX.out (by rw [HL.out]; exact hil)
            have hrb := HNN.out r (List.mem_of_getElem? hr.out)
            have hpb := HBP.out i b ht.out.1
            have HPB := Lib.hid hpb
            have HMT := Lib.hid (mS_take (x := t) hpb hr.out)
            have HNT := Lib.hid (nS_take (lv := lv) (x := t) hpb hr.out)
            have hokb := HBOK.out _ (List.mem_of_getElem? hpb)
            have hper : 1 ≤ b.per ∧ b.per ≤ 1048576 := hokb.2.2.1
            have HOKB : Hid (Recipe.BlOk b 32) := Lib.hid (blok_32 hokb)
            have HOKT : Hid (Recipe.BlOk b C.ty) := Lib.hid hokb
            have hba2 : C.ba = some ⟨g, off, none⟩ := hba
            have HBA := Lib.hid hba2
            rw [hba] at y1
            clear hba hba2 hpb hokb
            by_cases hr0 : r = 0
            · have hr0b : (r == 0) = true := by simpa using hr0
              have HV2 : Hid (hs = cv + mS t (C.p.bs.take (i + 1)) (rs.take (i + 1)) ∧ ns = n + nS lv t (C.p.bs.take (i + 1)) (rs.take (i + 1))) := Lib.hid (by
                rw [HMT.out, HNT.out, hr0]
                simpa using HV.out)
              have HBD2 : Hid ((0 ≤ hs ∧ hs ≤ 1125899906842624 + (i + 1 : Nat) * 1048576000) ∧ 0 ≤ ns ∧ ns ≤ 1125899906842624 * ((i + 1 : Nat) + 1)) := Lib.hid (by have := HBD.out; omega)
              have HOKS2 : Hid (∀ (k : Nat) (b : PB) (r : Int), k < i + 1 → C.p.bs[k]? = some b → rs[k]? = some r → r ≠ 0 → needsE b.b lv r = 0) := Lib.hid fun k b' r' h1 h2 h3 h4 => by
                by_cases e : k = i
                · subst e
                  rw [hr.out] at h3
                  injection h3 with h3
                  omega
                · exact HOKS.out k b' r' (by omega) h2 h3 h4
              clear hr0
              go_wp2_with fail
              go_roundw
              case rel => exact ⟨i + 1, hs, ns, rfl, rfl, by go_num, by omega, HV2, HBD2, HX, HOKS2⟩
              case measure => simp [RowKit.intOf]; omega
            have hr0b : (r == 0) = false := by simpa using hr0
            have hrp : 0 < r := by omega
            obtain ⟨ne, hne⟩ : ∃ ne, needsE b lv r = ne := ⟨_, rfl⟩
            have HNEE := Lib.hid hne
            have HCS : Hid (∀ W, Below wq.heap.size wq W → W.cell? ⟨V, 1, none⟩ = some (.slice (some ⟨g, off, none⟩) C.bn C.bc) ∧ W.cell? ⟨g, off + i * 7, none⟩ = some (.int .i64 b.ot) ∧ W.cell? ⟨g, off + i * 7 + 1, none⟩ = some (.int .i64 b.per) ∧ W.cell? ⟨g, off + i * 7 + 2, none⟩ = some (.int .i64 b.tm) ∧ W.cell? ⟨g, off + i * 7 + 3, none⟩ = some (.slice b.sa b.sm b.sc) ∧ W.cell? ⟨g, off + i * 7 + 4, none⟩ = some (.int .i64 b.cp) ∧ W.cell? ⟨g, off + i * 7 + 5, none⟩ = some (.int .i64 b.st) ∧ W.cell? ⟨g, off + i * 7 + 6, none⟩ = some (.int .i64 b.mo) ∧ W.cell? ⟨g2, off2 + i, none⟩ = some (.int .i64 r)) := Lib.hid (fun W hW => by
              have hX2 := below_then HX.out hW
              obtain ⟨g3, off3, b3, e3, ht3, p0, p1, p2, p3, p4, p5, p6⟩ := HB.out W i hX2 hil
              rw [HBA.out] at e3
              injection e3 with e3
              cases e3
              have e4 := ht3.out.1
              rw [ht.out.1] at e4
              cases e4
              obtain ⟨g5, off5, r5, e5, hr5, c5⟩ := HT.out W i hX2 (by rw [HL.out]; exact hil)
              cases e5
              have e6 := hr5.out
              rw [hr.out] at e6
              cases e6
              obtain ⟨_, v1, _⟩ := HPE.out W hX2
              rw [HBA.out] at v1
              exact ⟨v1, p0, p1, p2, p3, p4, p5, p6, c5⟩)
            have HND : Hid (∀ W, Below wq.heap.size wq W → Calls Try.prog 33 #[.agg #[.int .i64 b.ot, .int .i64 b.per, .int .i64 b.tm, .slice b.sa b.sm b.sc, .int .i64 b.cp, .int .i64 b.st, .int .i64 b.mo], .int .i64 lv, .int .i64 r] W fun e w' => ∃ a' m' c', e = .returned (.tuple #[.slice a' m' c', .int .i64 ne]) ∧ Hid (((needsL b lv r).length = m' ∧ m' ≤ 12 ∧ Sts w' a' (needsL b lv r)) ∧ Below wq.heap.size wq w')) := Lib.hid (fun W hW => by
              obtain ⟨g3, off3, b3, e3, ht3, _⟩ := HB.out W i (below_then HX.out hW) hil
              have e4 := ht3.out.1
              rw [ht.out.1] at e4
              cases e4
              have h12 := HSM.out b (List.mem_of_getElem? ht.out.1)
              rw [← hne]
              refine (Recipe.dneeds b lv r W ⟨ht3.out.2.1, ht3.out.2.2, by omega⟩).mono ?_
              rintro e w' ⟨a', m', c', rfl, H⟩
              obtain ⟨a2, c2, q, s⟩ := Goods.sts_own H.out.1
              injection q with q1 q2 _
              subst q1
              refine ⟨_, m', c', rfl, Lib.hid ⟨⟨q2.symm, ?_, s⟩, below_then hW H.out.2⟩⟩
              rw [q2]
              unfold needsL
              split
              · rw [Recipe.needL_length, ht3.out.2.1]
                exact h12
              · exact Nat.zero_le _)
            clear hne
            by_cases hmk : b.ot = t
            · have hmk2 : (b.ot == t) = true := by simpa using hmk
              obtain ⟨pr, hpr⟩ : ∃ pr, r * b.per = pr := ⟨_, rfl⟩
              have hprb : 0 ≤ pr ∧ pr ≤ 1048576000 := by
                rw [← hpr]
                have h1 := Int.mul_le_mul hrb.2 hper.2 (by omega) (by omega)
                have h2 : 0 ≤ r * b.per := Int.mul_nonneg (by omega) (by omega)
                omega
              have wpr : IntKind.i64.wrap (r * b.per) = pr := by rw [hpr]; exact IntWalk.i64_in _ (by omega)
              have wpr2 : wrap64 pr = pr := IntWalk.wrap64_in _ (by omega)
              have wpr3 : IntKind.i64.wrap pr = pr := IntWalk.i64_in _ (by omega)
              obtain ⟨hs2, hhs2⟩ : ∃ hs2, hs + pr = hs2 := ⟨_, rfl⟩
              have whs : IntKind.i64.wrap (hs + pr) = hs2 := by rw [hhs2]; exact IntWalk.i64_in _ (by have := HBD.out; omega)
              have whs2 : wrap64 hs2 = hs2 := IntWalk.wrap64_in _ (by have := HBD.out; omega)
              have whs3 : IntKind.i64.wrap hs2 = hs2 := IntWalk.i64_in _ (by have := HBD.out; omega)
              have HVM : Hid (hs2 = cv + mS t (C.p.bs.take (i + 1)) (rs.take (i + 1)) ∧ 0 ≤ hs2 ∧ hs2 ≤ 1125899906842624 + (i + 1 : Nat) * 1048576000) := Lib.hid (by
                rw [HMT.out]
                have e1 : (if (pOf b).ot = t then r * (pOf b).per else 0) = pr := by
                  show (if b.ot = t then r * b.per else 0) = pr
                  rw [if_pos hmk]
                  exact hpr
                rw [e1]
                have := HV.out.1
                have := HBD.out
                omega)
              clear hmk hpr hhs2
              go_wp2_with fail
              go_quiet (fail)
              generalize hY2 : World.drewN _ _ = Y2
              have hbY : Below wq.heap.size wq Y2 := by rw [← hY2]; exact Graph.below_drewN (Below.refl _ wq) _
              clear hY2 y0 y1 y2 y3 y4 y5 y6 y7 q0 q1 q2 q3 q4 q5 q6 z0
              have HBY := Lib.hid hbY
              clear hbY
              have HVN := HVM
              go_wp2_with fail
              go_region_held3 (fun W => W.cell? ⟨V, 1, none⟩ = some (.slice (some ⟨g, off, none⟩) C.bn C.bc) ∧ W.cell? ⟨g, off + i * 7, none⟩ = some (.int .i64 b.ot) ∧ W.cell? ⟨g, off + i * 7 + 1, none⟩ = some (.int .i64 b.per) ∧ W.cell? ⟨g, off + i * 7 + 2, none⟩ = some (.int .i64 b.tm) ∧ W.cell? ⟨g, off + i * 7 + 3, none⟩ = some (.slice b.sa b.sm b.sc) ∧ W.cell? ⟨g, off + i * 7 + 4, none⟩ = some (.int .i64 b.cp) ∧ W.cell? ⟨g, off + i * 7 + 5, none⟩ = some (.int .i64 b.st) ∧ W.cell? ⟨g, off + i * 7 + 6, none⟩ = some (.int .i64 b.mo) ∧ W.cell? ⟨g2, off2 + i, none⟩ = some (.int .i64 r))
                (first | exact HCS.out _ HBY.out.drew | exact HCS.out _ N6.out.2)
                (first
                  | (go_at_call 33; refine (HND.out _ HBY.out.drew).mono ?_; rintro e w6 ⟨na, nm, nc, rfl, N6⟩))
              all_goals
                by_cases hne0 : ne = 0
                case neg =>
                  have n1 : (ne == 0) = false := by simpa using hne0
                  have n2 : (ne != 0) = true := by simpa using hne0
                  have HF : Hid (decide (FitsP C.p kind n lv raw rs) = false) := Lib.hid (decide_eq_false fun h => hne0 (by rw [← HNEE.out]; exact h.2.2.2.1 i (pOf b) r HPB.out hr.out hr0))
                  clear hne0
                  go_wp2_with fail
                  go_ret
                  exact ⟨by rw [HF.out]; rfl, HNO.out _ (below_then HX.out N6.out.2)⟩
                subst hne0
                obtain ⟨e1, e2⟩ := needs_norm HNEE.out
                obtain ⟨xv, hxv⟩ : ∃ xv, cnt (needL b.s lv r) t = xv := ⟨_, rfl⟩
                have hxb := e2 t
                rw [hxv] at hxb
                have HC2 : Hid (Calls Try.prog 30 #[.slice na nm nc, .int .i64 t] w6 fun e w' => e = .returned (.int .i64 xv) ∧ Hid (Below w6.heap.size w6 w')) := Lib.hid (by
                  have := Goods.dcount na nm nc (needsL b lv r) t w6 N6.out.1.1 N6.out.1.2.2 (by have := N6.out.1.2.1; omega)
                  rw [(Recipe.needsE_zero HNEE.out).2.2, e1, hxv] at this
                  exact this.mono fun _ _ ⟨e, h⟩ => ⟨e, Lib.hid h⟩)
                obtain ⟨ns2, hns2⟩ : ∃ ns2, ns + xv = ns2 := ⟨_, rfl⟩
                have HAD : Hid (∀ W, Calls Try.prog 48 #[.int .i64 ns, .int .i64 xv] W fun e w' => e = .returned (.tuple #[.int .i64 ns2, .int .i64 0]) ∧ W = w') := Lib.hid fun W => by
                  rw [← hns2]
                  exact radd_yes ns xv HBD.out.2.1 hxb.1 (by have := HBD.out; omega) W
                have HV2 : Hid (hs2 = cv + mS t (C.p.bs.take (i + 1)) (rs.take (i + 1)) ∧ ns2 = n + nS lv t (C.p.bs.take (i + 1)) (rs.take (i + 1))) := Lib.hid ⟨HVN.out.1, by
                  rw [HNT.out, if_pos hrp]
                  have e3 : cnt (needL (pOf b).s lv r) t = xv := hxv
                  rw [e3]
                  have := HV.out.2
                  omega⟩
                have HBD2 : Hid ((0 ≤ hs2 ∧ hs2 ≤ 1125899906842624 + (i + 1 : Nat) * 1048576000) ∧ 0 ≤ ns2 ∧ ns2 ≤ 1125899906842624 * ((i + 1 : Nat) + 1)) := Lib.hid (by have := HBD.out; have := HVN.out.2; omega)
                have HOKS2 : Hid (∀ (k : Nat) (b : PB) (r : Int), k < i + 1 → C.p.bs[k]? = some b → rs[k]? = some r → r ≠ 0 → needsE b.b lv r = 0) := Lib.hid fun k b' r' h1 h2 h3 h4 => by
                  by_cases e : k = i
                  · subst e
                    rw [HPB.out] at h2
                    rw [hr.out] at h3
                    injection h2 with h2
                    injection h3 with h3
                    subst h2 h3
                    exact HNEE.out
                  · exact HOKS.out k b' r' (by omega) h2 h3 h4
                clear hns2 hxv e1 e2 hr0
                go_wp2_with fail
                refine HC2.out.mono ?_
                rintro e w7 ⟨rfl, H7⟩
                go_wp2_with fail
                refine (HAD.out _).mono ?_
                rintro e w' ⟨rfl, rfl⟩
                have HX2 : Hid (Below X.heap.size X w7) := Lib.hid (below_then (below_then HX.out N6.out.2) H7.out)
                go_wp2_with fail
                go_roundw
                case rel => exact ⟨i + 1, hs2, ns2, rfl, rfl, by go_num, by omega, HV2, HBD2, HX2, HOKS2⟩
                case measure => simp [RowKit.intOf]; omega
            · have hmk2 : (b.ot == t) = false := by simpa using hmk
              have HVM : Hid (hs = cv + mS t (C.p.bs.take (i + 1)) (rs.take (i + 1)) ∧ 0 ≤ hs ∧ hs ≤ 1125899906842624 + (i + 1 : Nat) * 1048576000) := Lib.hid (by
                rw [HMT.out]
                have e1 : (if (pOf b).ot = t then r * (pOf b).per else 0) = 0 := if_neg hmk
                rw [e1]
                have := HV.out.1
                have := HBD.out
                omega)
              obtain ⟨Y2, hY2⟩ : ∃ Y2, wq = Y2 := ⟨_, rfl⟩
              have HBY : Hid (Below wq.heap.size wq Y2) := Lib.hid (by rw [← hY2]; exact Below.refl _ _)
              clear hmk hY2
              have HVN := HVM
              go_wp2_with fail
              clear y0 y1 y2 y3 y4 y5 y6 y7 q0 q1 q2 q3 q4 q5 q6 z0
              go_region_held3 (fun W => W.cell? ⟨V, 1, none⟩ = some (.slice (some ⟨g, off, none⟩) C.bn C.bc) ∧ W.cell? ⟨g, off + i * 7, none⟩ = some (.int .i64 b.ot) ∧ W.cell? ⟨g, off + i * 7 + 1, none⟩ = some (.int .i64 b.per) ∧ W.cell? ⟨g, off + i * 7 + 2, none⟩ = some (.int .i64 b.tm) ∧ W.cell? ⟨g, off + i * 7 + 3, none⟩ = some (.slice b.sa b.sm b.sc) ∧ W.cell? ⟨g, off + i * 7 + 4, none⟩ = some (.int .i64 b.cp) ∧ W.cell? ⟨g, off + i * 7 + 5, none⟩ = some (.int .i64 b.st) ∧ W.cell? ⟨g, off + i * 7 + 6, none⟩ = some (.int .i64 b.mo) ∧ W.cell? ⟨g2, off2 + i, none⟩ = some (.int .i64 r))
                (first | exact HCS.out _ (Below.refl _ wq).drew | exact HCS.out _ N6.out.2)
                (first
                  | (go_at_call 33; refine (HND.out _ (Below.refl _ wq).drew).mono ?_; rintro e w6 ⟨na, nm, nc, rfl, N6⟩))
              all_goals
                by_cases hne0 : ne = 0
                case neg =>
                  have n1 : (ne == 0) = false := by simpa using hne0
                  have n2 : (ne != 0) = true := by simpa using hne0
                  have HF : Hid (decide (FitsP C.p kind n lv raw rs) = false) := Lib.hid (decide_eq_false fun h => hne0 (by rw [← HNEE.out]; exact h.2.2.2.1 i (pOf b) r HPB.out hr.out hr0))
                  clear hne0
                  go_wp2_with fail
                  go_ret
                  exact ⟨by rw [HF.out]; rfl, HNO.out _ (below_then HX.out N6.out.2)⟩
                subst hne0
                obtain ⟨e1, e2⟩ := needs_norm HNEE.out
                obtain ⟨xv, hxv⟩ : ∃ xv, cnt (needL b.s lv r) t = xv := ⟨_, rfl⟩
                have hxb := e2 t
                rw [hxv] at hxb
                have HC2 : Hid (Calls Try.prog 30 #[.slice na nm nc, .int .i64 t] w6 fun e w' => e = .returned (.int .i64 xv) ∧ Hid (Below w6.heap.size w6 w')) := Lib.hid (by
                  have := Goods.dcount na nm nc (needsL b lv r) t w6 N6.out.1.1 N6.out.1.2.2 (by have := N6.out.1.2.1; omega)
                  rw [(Recipe.needsE_zero HNEE.out).2.2, e1, hxv] at this
                  exact this.mono fun _ _ ⟨e, h⟩ => ⟨e, Lib.hid h⟩)
                obtain ⟨ns2, hns2⟩ : ∃ ns2, ns + xv = ns2 := ⟨_, rfl⟩
                have HAD : Hid (∀ W, Calls Try.prog 48 #[.int .i64 ns, .int .i64 xv] W fun e w' => e = .returned (.tuple #[.int .i64 ns2, .int .i64 0]) ∧ W = w') := Lib.hid fun W => by
                  rw [← hns2]
                  exact radd_yes ns xv HBD.out.2.1 hxb.1 (by have := HBD.out; omega) W
                have HV2 : Hid (hs = cv + mS t (C.p.bs.take (i + 1)) (rs.take (i + 1)) ∧ ns2 = n + nS lv t (C.p.bs.take (i + 1)) (rs.take (i + 1))) := Lib.hid ⟨HVN.out.1, by
                  rw [HNT.out, if_pos hrp]
                  have e3 : cnt (needL (pOf b).s lv r) t = xv := hxv
                  rw [e3]
                  have := HV.out.2
                  omega⟩
                have HBD2 : Hid ((0 ≤ hs ∧ hs ≤ 1125899906842624 + (i + 1 : Nat) * 1048576000) ∧ 0 ≤ ns2 ∧ ns2 ≤ 1125899906842624 * ((i + 1 : Nat) + 1)) := Lib.hid (by have := HBD.out; have := HVN.out.2; omega)
                have HOKS2 : Hid (∀ (k : Nat) (b : PB) (r : Int), k < i + 1 → C.p.bs[k]? = some b → rs[k]? = some r → r ≠ 0 → needsE b.b lv r = 0) := Lib.hid fun k b' r' h1 h2 h3 h4 => by
                  by_cases e : k = i
                  · subst e
                    rw [HPB.out] at h2
                    rw [hr.out] at h3
                    injection h2 with h2
                    injection h3 with h3
                    subst h2 h3
                    exact HNEE.out
                  · exact HOKS.out k b' r' (by omega) h2 h3 h4
                clear hns2 hxv e1 e2 hr0
                go_wp2_with fail
                refine HC2.out.mono ?_
                rintro e w7 ⟨rfl, H7⟩
                go_wp2_with fail
                refine (HAD.out _).mono ?_
                rintro e w' ⟨rfl, rfl⟩
                have HX2 : Hid (Below X.heap.size X w7) := Lib.hid (below_then (below_then HX.out N6.out.2) H7.out)
                go_wp2_with fail
                go_roundw
                case rel => exact ⟨i + 1, hs, ns2, rfl, rfl, by go_num, by omega, HV2, HBD2, HX2, HOKS2⟩
                case measure => simp [RowKit.intOf]; omega
          · obtain rfl : i = C.bn := by omega
            have hd1 : decide (C.bn < C.bn) = false := by simp
            have HFULL : Hid (hs = cv + mS t C.p.bs rs ∧ ns = n + nS lv t C.p.bs rs) := Lib.hid (by
              have := HV.out
              rw [List.take_of_length_le (by rw [HBN.out]; exact Nat.le_refl _), List.take_of_length_le (by rw [HL.out]; exact Nat.le_refl _)] at this
              exact this)
            by_cases hlt3 : hs < ns
            · have d5 : decide (hs < ns) = true := decide_eq_true hlt3
              have HF : Hid (decide (FitsP C.p kind n lv raw rs) = false) := Lib.hid (decide_eq_false fun h => by
                have h1 := h.2.2.2.2 t ht1 (by have := HTY.out; have := HTN.out; omega)
                have h2 := HFULL.out
                have h3 := HCV.out
                have h4 := HNS0.out
                rw [h3, h4] at h1
                omega)
              go_wp2_with fail
              go_ret
              exact ⟨by rw [HF.out]; rfl, HNO.out _ HX.out⟩
            · have d5 : decide (hs < ns) = false := decide_eq_false hlt3
              have HI2 : Hid ((∀ u : Int, 1 ≤ u → u ≤ ((p + 1 : Nat) : Int) → (if u = kind then n else 0) + nS lv u C.p.bs rs ≤ cnt raw u + mS u C.p.bs rs) ∧ (1 ≤ p + 1 → ∀ (i : Nat) (b : PB) (r : Int), C.p.bs[i]? = some b → rs[i]? = some r → r ≠ 0 → needsE b.b lv r = 0)) := Lib.hid ⟨fun u h1 h2 => by
                by_cases e : u = t
                · subst e
                  have h2 := HFULL.out
                  rw [HNS0.out, HCV.out]
                  omega
                · exact HI.out.1 u h1 (by have := HTP.out; omega), fun _ k b r h1 h2 h3 => HOKS.out k b r (by have := (List.getElem?_eq_some_iff.1 h1).1; rw [HBN.out] at this; exact this) h1 h2 h3⟩
              have HTP2 : Hid (t + 1 = ((p + 1 : Nat) : Int) + 1) := Lib.hid (by have := HTP.out; omega)
              go_wp2_with fail
              go_roundw
              case rel => exact ⟨p + 1, t + 1, rfl, HTP2, by omega, HX, HI2⟩
              case measure => simp [RowKit.intOf]; omega
      · have hkt2 : (t == kind) = false := by simpa using hkt
        have HNS0 : Hid ((if t = kind then n else 0) = 0) := Lib.hid (if_neg hkt)
        clear hkt
        go_wp2_with fail
        refine HC1.out.mono ?_
        rintro e w3 ⟨rfl, H3⟩
        clear y0 y1 y2 y3 y4 y5 y6 y7
        go_wp2_with fail
        go_loopw [14, 15, 16] (fun v u s wx => ∃ (i : Nat) (hs ns : Int), v = .int .i64 hs ∧ u = .int .i64 ns ∧ s = .int .i64 (i : Int) ∧ i ≤ C.bn ∧ Hid (hs = cv + mS t (C.p.bs.take i) (rs.take i) ∧ ns = 0 + nS lv t (C.p.bs.take i) (rs.take i)) ∧ Hid ((0 ≤ hs ∧ hs ≤ 1125899906842624 + i * 1048576000) ∧ 0 ≤ ns ∧ ns ≤ 1125899906842624 * (i + 1)) ∧ Hid (Below X.heap.size X wx) ∧ Hid (∀ (k : Nat) (b : PB) (r : Int), k < i → C.p.bs[k]? = some b → rs[k]? = some r → r ≠ 0 → needsE b.b lv r = 0)) (fun _ _ s _ => C.bn - (RowKit.intOf s).toNat)
        case atStart => exact ⟨0, cv, 0, rfl, rfl, rfl, by omega, Lib.hid ⟨by simp [mS], by simp [nS]⟩, Lib.hid ⟨by omega, by omega⟩, H3, Lib.hid (fun k b r h => by omega)⟩
        case round =>
          obtain ⟨wq, rfl⟩ : ∃ wq, wq = wr := ⟨_, rfl⟩
          obtain ⟨i, hs, ns, rfl, rfl, rfl, hi, HV, HBD, HX, HOKS⟩ := hrel
          have hi0 : (0 : Int) ≤ (i : Int) := by omega
          obtain ⟨y0, y1, y2, y3, y4, y5, y6, y7⟩ := HPE.out wq HX.out
          by_cases hil : i < C.bn
          · have hil2 : (i : Int) < (C.bn : Int) := by omega
            have hd1 : decide (i < C.bn) = true := decide_eq_true hil
            have wi : IntKind.i64.wrap ((i : Int) + 1) = (i : Int) + 1 := IntWalk.i64_in _ (by omega)
            obtain ⟨g, off, b, hba, ht, q0, q1, q2, q3, q4, q5, q6⟩ := HB.out wq i HX.out hil
            obtain ⟨g2, off2, r, rfl, hr, z0⟩ := HT.out wq i HX.out (by rw [HL.out]; exact hil)
            have hrb := HNN.out r (List.mem_of_getElem? hr.out)
            have hpb := HBP.out i b ht.out.1
            have HPB := Lib.hid hpb
            have HMT := Lib.hid (mS_take (x := t) hpb hr.out)
            have HNT := Lib.hid (nS_take (lv := lv) (x := t) hpb hr.out)
            have hokb := HBOK.out _ (List.mem_of_getElem? hpb)
            have hper : 1 ≤ b.per ∧ b.per ≤ 1048576 := hokb.2.2.1
            have HOKB : Hid (Recipe.BlOk b 32) := Lib.hid (blok_32 hokb)
            have HOKT : Hid (Recipe.BlOk b C.ty) := Lib.hid hokb
            have hba2 : C.ba = some ⟨g, off, none⟩ := hba
            have HBA := Lib.hid hba2
            rw [hba] at y1
            clear hba hba2 hpb hokb
            by_cases hr0 : r = 0
            · have hr0b : (r == 0) = true := by simpa using hr0
              have HV2 : Hid (hs = cv + mS t (C.p.bs.take (i + 1)) (rs.take (i + 1)) ∧ ns = 0 + nS lv t (C.p.bs.take (i + 1)) (rs.take (i + 1))) := Lib.hid (by
                rw [HMT.out, HNT.out, hr0]
                simpa using HV.out)
              have HBD2 : Hid ((0 ≤ hs ∧ hs ≤ 1125899906842624 + (i + 1 : Nat) * 1048576000) ∧ 0 ≤ ns ∧ ns ≤ 1125899906842624 * ((i + 1 : Nat) + 1)) := Lib.hid (by have := HBD.out; omega)
              have HOKS2 : Hid (∀ (k : Nat) (b : PB) (r : Int), k < i + 1 → C.p.bs[k]? = some b → rs[k]? = some r → r ≠ 0 → needsE b.b lv r = 0) := Lib.hid fun k b' r' h1 h2 h3 h4 => by
                by_cases e : k = i
                · subst e
                  rw [hr.out] at h3
                  injection h3 with h3
                  omega
                · exact HOKS.out k b' r' (by omega) h2 h3 h4
              clear hr0
              go_wp2_with fail
              go_roundw
              case rel => exact ⟨i + 1, hs, ns, rfl, rfl, by go_num, by omega, HV2, HBD2, HX, HOKS2⟩
              case measure => simp [RowKit.intOf]; omega
            have hr0b : (r == 0) = false := by simpa using hr0
            have hrp : 0 < r := by omega
            obtain ⟨ne, hne⟩ : ∃ ne, needsE b lv r = ne := ⟨_, rfl⟩
            have HNEE := Lib.hid hne
            have HCS : Hid (∀ W, Below wq.heap.size wq W → W.cell? ⟨V, 1, none⟩ = some (.slice (some ⟨g, off, none⟩) C.bn C.bc) ∧ W.cell? ⟨g, off + i * 7, none⟩ = some (.int .i64 b.ot) ∧ W.cell? ⟨g, off + i * 7 + 1, none⟩ = some (.int .i64 b.per) ∧ W.cell? ⟨g, off + i * 7 + 2, none⟩ = some (.int .i64 b.tm) ∧ W.cell? ⟨g, off + i * 7 + 3, none⟩ = some (.slice b.sa b.sm b.sc) ∧ W.cell? ⟨g, off + i * 7 + 4, none⟩ = some (.int .i64 b.cp) ∧ W.cell? ⟨g, off + i * 7 + 5, none⟩ = some (.int .i64 b.st) ∧ W.cell? ⟨g, off + i * 7 + 6, none⟩ = some (.int .i64 b.mo) ∧ W.cell? ⟨g2, off2 + i, none⟩ = some (.int .i64 r)) := Lib.hid (fun W hW => by
              have hX2 := below_then HX.out hW
              obtain ⟨g3, off3, b3, e3, ht3, p0, p1, p2, p3, p4, p5, p6⟩ := HB.out W i hX2 hil
              rw [HBA.out] at e3
              injection e3 with e3
              cases e3
              have e4 := ht3.out.1
              rw [ht.out.1] at e4
              cases e4
              obtain ⟨g5, off5, r5, e5, hr5, c5⟩ := HT.out W i hX2 (by rw [HL.out]; exact hil)
              cases e5
              have e6 := hr5.out
              rw [hr.out] at e6
              cases e6
              obtain ⟨_, v1, _⟩ := HPE.out W hX2
              rw [HBA.out] at v1
              exact ⟨v1, p0, p1, p2, p3, p4, p5, p6, c5⟩)
            have HND : Hid (∀ W, Below wq.heap.size wq W → Calls Try.prog 33 #[.agg #[.int .i64 b.ot, .int .i64 b.per, .int .i64 b.tm, .slice b.sa b.sm b.sc, .int .i64 b.cp, .int .i64 b.st, .int .i64 b.mo], .int .i64 lv, .int .i64 r] W fun e w' => ∃ a' m' c', e = .returned (.tuple #[.slice a' m' c', .int .i64 ne]) ∧ Hid (((needsL b lv r).length = m' ∧ m' ≤ 12 ∧ Sts w' a' (needsL b lv r)) ∧ Below wq.heap.size wq w')) := Lib.hid (fun W hW => by
              obtain ⟨g3, off3, b3, e3, ht3, _⟩ := HB.out W i (below_then HX.out hW) hil
              have e4 := ht3.out.1
              rw [ht.out.1] at e4
              cases e4
              have h12 := HSM.out b (List.mem_of_getElem? ht.out.1)
              rw [← hne]
              refine (Recipe.dneeds b lv r W ⟨ht3.out.2.1, ht3.out.2.2, by omega⟩).mono ?_
              rintro e w' ⟨a', m', c', rfl, H⟩
              obtain ⟨a2, c2, q, s⟩ := Goods.sts_own H.out.1
              injection q with q1 q2 _
              subst q1
              refine ⟨_, m', c', rfl, Lib.hid ⟨⟨q2.symm, ?_, s⟩, below_then hW H.out.2⟩⟩
              rw [q2]
              unfold needsL
              split
              · rw [Recipe.needL_length, ht3.out.2.1]
                exact h12
              · exact Nat.zero_le _)
            clear hne
            by_cases hmk : b.ot = t
            · have hmk2 : (b.ot == t) = true := by simpa using hmk
              obtain ⟨pr, hpr⟩ : ∃ pr, r * b.per = pr := ⟨_, rfl⟩
              have hprb : 0 ≤ pr ∧ pr ≤ 1048576000 := by
                rw [← hpr]
                have h1 := Int.mul_le_mul hrb.2 hper.2 (by omega) (by omega)
                have h2 : 0 ≤ r * b.per := Int.mul_nonneg (by omega) (by omega)
                omega
              have wpr : IntKind.i64.wrap (r * b.per) = pr := by rw [hpr]; exact IntWalk.i64_in _ (by omega)
              have wpr2 : wrap64 pr = pr := IntWalk.wrap64_in _ (by omega)
              have wpr3 : IntKind.i64.wrap pr = pr := IntWalk.i64_in _ (by omega)
              obtain ⟨hs2, hhs2⟩ : ∃ hs2, hs + pr = hs2 := ⟨_, rfl⟩
              have whs : IntKind.i64.wrap (hs + pr) = hs2 := by rw [hhs2]; exact IntWalk.i64_in _ (by have := HBD.out; omega)
              have whs2 : wrap64 hs2 = hs2 := IntWalk.wrap64_in _ (by have := HBD.out; omega)
              have whs3 : IntKind.i64.wrap hs2 = hs2 := IntWalk.i64_in _ (by have := HBD.out; omega)
              have HVM : Hid (hs2 = cv + mS t (C.p.bs.take (i + 1)) (rs.take (i + 1)) ∧ 0 ≤ hs2 ∧ hs2 ≤ 1125899906842624 + (i + 1 : Nat) * 1048576000) := Lib.hid (by
                rw [HMT.out]
                have e1 : (if (pOf b).ot = t then r * (pOf b).per else 0) = pr := by
                  show (if b.ot = t then r * b.per else 0) = pr
                  rw [if_pos hmk]
                  exact hpr
                rw [e1]
                have := HV.out.1
                have := HBD.out
                omega)
              clear hmk hpr hhs2
              go_wp2_with fail
              go_quiet (fail)
              generalize hY2 : World.drewN _ _ = Y2
              have hbY : Below wq.heap.size wq Y2 := by rw [← hY2]; exact Graph.below_drewN (Below.refl _ wq) _
              clear hY2 y0 y1 y2 y3 y4 y5 y6 y7 q0 q1 q2 q3 q4 q5 q6 z0
              have HBY := Lib.hid hbY
              clear hbY
              have HVN := HVM
              go_wp2_with fail
              go_region_held3 (fun W => W.cell? ⟨V, 1, none⟩ = some (.slice (some ⟨g, off, none⟩) C.bn C.bc) ∧ W.cell? ⟨g, off + i * 7, none⟩ = some (.int .i64 b.ot) ∧ W.cell? ⟨g, off + i * 7 + 1, none⟩ = some (.int .i64 b.per) ∧ W.cell? ⟨g, off + i * 7 + 2, none⟩ = some (.int .i64 b.tm) ∧ W.cell? ⟨g, off + i * 7 + 3, none⟩ = some (.slice b.sa b.sm b.sc) ∧ W.cell? ⟨g, off + i * 7 + 4, none⟩ = some (.int .i64 b.cp) ∧ W.cell? ⟨g, off + i * 7 + 5, none⟩ = some (.int .i64 b.st) ∧ W.cell? ⟨g, off + i * 7 + 6, none⟩ = some (.int .i64 b.mo) ∧ W.cell? ⟨g2, off2 + i, none⟩ = some (.int .i64 r))
                (first | exact HCS.out _ HBY.out.drew | exact HCS.out _ N6.out.2)
                (first
                  | (go_at_call 33; refine (HND.out _ HBY.out.drew).mono ?_; rintro e w6 ⟨na, nm, nc, rfl, N6⟩))
              all_goals
                by_cases hne0 : ne = 0
                case neg =>
                  have n1 : (ne == 0) = false := by simpa using hne0
                  have n2 : (ne != 0) = true := by simpa using hne0
                  have HF : Hid (decide (FitsP C.p kind n lv raw rs) = false) := Lib.hid (decide_eq_false fun h => hne0 (by rw [← HNEE.out]; exact h.2.2.2.1 i (pOf b) r HPB.out hr.out hr0))
                  clear hne0
                  go_wp2_with fail
                  go_ret
                  exact ⟨by rw [HF.out]; rfl, HNO.out _ (below_then HX.out N6.out.2)⟩
                subst hne0
                obtain ⟨e1, e2⟩ := needs_norm HNEE.out
                obtain ⟨xv, hxv⟩ : ∃ xv, cnt (needL b.s lv r) t = xv := ⟨_, rfl⟩
                have hxb := e2 t
                rw [hxv] at hxb
                have HC2 : Hid (Calls Try.prog 30 #[.slice na nm nc, .int .i64 t] w6 fun e w' => e = .returned (.int .i64 xv) ∧ Hid (Below w6.heap.size w6 w')) := Lib.hid (by
                  have := Goods.dcount na nm nc (needsL b lv r) t w6 N6.out.1.1 N6.out.1.2.2 (by have := N6.out.1.2.1; omega)
                  rw [(Recipe.needsE_zero HNEE.out).2.2, e1, hxv] at this
                  exact this.mono fun _ _ ⟨e, h⟩ => ⟨e, Lib.hid h⟩)
                obtain ⟨ns2, hns2⟩ : ∃ ns2, ns + xv = ns2 := ⟨_, rfl⟩
                have HAD : Hid (∀ W, Calls Try.prog 48 #[.int .i64 ns, .int .i64 xv] W fun e w' => e = .returned (.tuple #[.int .i64 ns2, .int .i64 0]) ∧ W = w') := Lib.hid fun W => by
                  rw [← hns2]
                  exact radd_yes ns xv HBD.out.2.1 hxb.1 (by have := HBD.out; omega) W
                have HV2 : Hid (hs2 = cv + mS t (C.p.bs.take (i + 1)) (rs.take (i + 1)) ∧ ns2 = 0 + nS lv t (C.p.bs.take (i + 1)) (rs.take (i + 1))) := Lib.hid ⟨HVN.out.1, by
                  rw [HNT.out, if_pos hrp]
                  have e3 : cnt (needL (pOf b).s lv r) t = xv := hxv
                  rw [e3]
                  have := HV.out.2
                  omega⟩
                have HBD2 : Hid ((0 ≤ hs2 ∧ hs2 ≤ 1125899906842624 + (i + 1 : Nat) * 1048576000) ∧ 0 ≤ ns2 ∧ ns2 ≤ 1125899906842624 * ((i + 1 : Nat) + 1)) := Lib.hid (by have := HBD.out; have := HVN.out.2; omega)
                have HOKS2 : Hid (∀ (k : Nat) (b : PB) (r : Int), k < i + 1 → C.p.bs[k]? = some b → rs[k]? = some r → r ≠ 0 → needsE b.b lv r = 0) := Lib.hid fun k b' r' h1 h2 h3 h4 => by
                  by_cases e : k = i
                  · subst e
                    rw [HPB.out] at h2
                    rw [hr.out] at h3
                    injection h2 with h2
                    injection h3 with h3
                    subst h2 h3
                    exact HNEE.out
                  · exact HOKS.out k b' r' (by omega) h2 h3 h4
                clear hns2 hxv e1 e2 hr0
                go_wp2_with fail
                refine HC2.out.mono ?_
                rintro e w7 ⟨rfl, H7⟩
                go_wp2_with fail
                refine (HAD.out _).mono ?_
                rintro e w' ⟨rfl, rfl⟩
                have HX2 : Hid (Below X.heap.size X w7) := Lib.hid (below_then (below_then HX.out N6.out.2) H7.out)
                go_wp2_with fail
                go_roundw
                case rel => exact ⟨i + 1, hs2, ns2, rfl, rfl, by go_num, by omega, HV2, HBD2, HX2, HOKS2⟩
                case measure => simp [RowKit.intOf]; omega
            · have hmk2 : (b.ot == t) = false := by simpa using hmk
              have HVM : Hid (hs = cv + mS t (C.p.bs.take (i + 1)) (rs.take (i + 1)) ∧ 0 ≤ hs ∧ hs ≤ 1125899906842624 + (i + 1 : Nat) * 1048576000) := Lib.hid (by
                rw [HMT.out]
                have e1 : (if (pOf b).ot = t then r * (pOf b).per else 0) = 0 := if_neg hmk
                rw [e1]
                have := HV.out.1
                have := HBD.out
                omega)
              obtain ⟨Y2, hY2⟩ : ∃ Y2, wq = Y2 := ⟨_, rfl⟩
              have HBY : Hid (Below wq.heap.size wq Y2) := Lib.hid (by rw [← hY2]; exact Below.refl _ _)
              clear hmk hY2
              have HVN := HVM
              go_wp2_with fail
              clear y0 y1 y2 y3 y4 y5 y6 y7 q0 q1 q2 q3 q4 q5 q6 z0
              go_region_held3 (fun W => W.cell? ⟨V, 1, none⟩ = some (.slice (some ⟨g, off, none⟩) C.bn C.bc) ∧ W.cell? ⟨g, off + i * 7, none⟩ = some (.int .i64 b.ot) ∧ W.cell? ⟨g, off + i * 7 + 1, none⟩ = some (.int .i64 b.per) ∧ W.cell? ⟨g, off + i * 7 + 2, none⟩ = some (.int .i64 b.tm) ∧ W.cell? ⟨g, off + i * 7 + 3, none⟩ = some (.slice b.sa b.sm b.sc) ∧ W.cell? ⟨g, off + i * 7 + 4, none⟩ = some (.int .i64 b.cp) ∧ W.cell? ⟨g, off + i * 7 + 5, none⟩ = some (.int .i64 b.st) ∧ W.cell? ⟨g, off + i * 7 + 6, none⟩ = some (.int .i64 b.mo) ∧ W.cell? ⟨g2, off2 + i, none⟩ = some (.int .i64 r))
                (first | exact HCS.out _ (Below.refl _ wq).drew | exact HCS.out _ N6.out.2)
                (first
                  | (go_at_call 33; refine (HND.out _ (Below.refl _ wq).drew).mono ?_; rintro e w6 ⟨na, nm, nc, rfl, N6⟩))
              all_goals
                by_cases hne0 : ne = 0
                case neg =>
                  have n1 : (ne == 0) = false := by simpa using hne0
                  have n2 : (ne != 0) = true := by simpa using hne0
                  have HF : Hid (decide (FitsP C.p kind n lv raw rs) = false) := Lib.hid (decide_eq_false fun h => hne0 (by rw [← HNEE.out]; exact h.2.2.2.1 i (pOf b) r HPB.out hr.out hr0))
                  clear hne0
                  go_wp2_with fail
                  go_ret
                  exact ⟨by rw [HF.out]; rfl, HNO.out _ (below_then HX.out N6.out.2)⟩
                subst hne0
                obtain ⟨e1, e2⟩ := needs_norm HNEE.out
                obtain ⟨xv, hxv⟩ : ∃ xv, cnt (needL b.s lv r) t = xv := ⟨_, rfl⟩
                have hxb := e2 t
                rw [hxv] at hxb
                have HC2 : Hid (Calls Try.prog 30 #[.slice na nm nc, .int .i64 t] w6 fun e w' => e = .returned (.int .i64 xv) ∧ Hid (Below w6.heap.size w6 w')) := Lib.hid (by
                  have := Goods.dcount na nm nc (needsL b lv r) t w6 N6.out.1.1 N6.out.1.2.2 (by have := N6.out.1.2.1; omega)
                  rw [(Recipe.needsE_zero HNEE.out).2.2, e1, hxv] at this
                  exact this.mono fun _ _ ⟨e, h⟩ => ⟨e, Lib.hid h⟩)
                obtain ⟨ns2, hns2⟩ : ∃ ns2, ns + xv = ns2 := ⟨_, rfl⟩
                have HAD : Hid (∀ W, Calls Try.prog 48 #[.int .i64 ns, .int .i64 xv] W fun e w' => e = .returned (.tuple #[.int .i64 ns2, .int .i64 0]) ∧ W = w') := Lib.hid fun W => by
                  rw [← hns2]
                  exact radd_yes ns xv HBD.out.2.1 hxb.1 (by have := HBD.out; omega) W
                have HV2 : Hid (hs = cv + mS t (C.p.bs.take (i + 1)) (rs.take (i + 1)) ∧ ns2 = 0 + nS lv t (C.p.bs.take (i + 1)) (rs.take (i + 1))) := Lib.hid ⟨HVN.out.1, by
                  rw [HNT.out, if_pos hrp]
                  have e3 : cnt (needL (pOf b).s lv r) t = xv := hxv
                  rw [e3]
                  have := HV.out.2
                  omega⟩
                have HBD2 : Hid ((0 ≤ hs ∧ hs ≤ 1125899906842624 + (i + 1 : Nat) * 1048576000) ∧ 0 ≤ ns2 ∧ ns2 ≤ 1125899906842624 * ((i + 1 : Nat) + 1)) := Lib.hid (by have := HBD.out; have := HVN.out.2; omega)
                have HOKS2 : Hid (∀ (k : Nat) (b : PB) (r : Int), k < i + 1 → C.p.bs[k]? = some b → rs[k]? = some r → r ≠ 0 → needsE b.b lv r = 0) := Lib.hid fun k b' r' h1 h2 h3 h4 => by
                  by_cases e : k = i
                  · subst e
                    rw [HPB.out] at h2
                    rw [hr.out] at h3
                    injection h2 with h2
                    injection h3 with h3
                    subst h2 h3
                    exact HNEE.out
                  · exact HOKS.out k b' r' (by omega) h2 h3 h4
                clear hns2 hxv e1 e2 hr0
                go_wp2_with fail
                refine HC2.out.mono ?_
                rintro e w7 ⟨rfl, H7⟩
                go_wp2_with fail
                refine (HAD.out _).mono ?_
                rintro e w' ⟨rfl, rfl⟩
                have HX2 : Hid (Below X.heap.size X w7) := Lib.hid (below_then (below_then HX.out N6.out.2) H7.out)
                go_wp2_with fail
                go_roundw
                case rel => exact ⟨i + 1, hs, ns2, rfl, rfl, by go_num, by omega, HV2, HBD2, HX2, HOKS2⟩
                case measure => simp [RowKit.intOf]; omega
          · obtain rfl : i = C.bn := by omega
            have hd1 : decide (C.bn < C.bn) = false := by simp
            have HFULL : Hid (hs = cv + mS t C.p.bs rs ∧ ns = 0 + nS lv t C.p.bs rs) := Lib.hid (by
              have := HV.out
              rw [List.take_of_length_le (by rw [HBN.out]; exact Nat.le_refl _), List.take_of_length_le (by rw [HL.out]; exact Nat.le_refl _)] at this
              exact this)
            by_cases hlt3 : hs < ns
            · have d5 : decide (hs < ns) = true := decide_eq_true hlt3
              have HF : Hid (decide (FitsP C.p kind n lv raw rs) = false) := Lib.hid (decide_eq_false fun h => by
                have h1 := h.2.2.2.2 t ht1 (by have := HTY.out; have := HTN.out; omega)
                have h2 := HFULL.out
                have h3 := HCV.out
                have h4 := HNS0.out
                rw [h3, h4] at h1
                omega)
              go_wp2_with fail
              go_ret
              exact ⟨by rw [HF.out]; rfl, HNO.out _ HX.out⟩
            · have d5 : decide (hs < ns) = false := decide_eq_false hlt3
              have HI2 : Hid ((∀ u : Int, 1 ≤ u → u ≤ ((p + 1 : Nat) : Int) → (if u = kind then n else 0) + nS lv u C.p.bs rs ≤ cnt raw u + mS u C.p.bs rs) ∧ (1 ≤ p + 1 → ∀ (i : Nat) (b : PB) (r : Int), C.p.bs[i]? = some b → rs[i]? = some r → r ≠ 0 → needsE b.b lv r = 0)) := Lib.hid ⟨fun u h1 h2 => by
                by_cases e : u = t
                · subst e
                  have h2 := HFULL.out
                  rw [HNS0.out, HCV.out]
                  omega
                · exact HI.out.1 u h1 (by have := HTP.out; omega), fun _ k b r h1 h2 h3 => HOKS.out k b r (by have := (List.getElem?_eq_some_iff.1 h1).1; rw [HBN.out] at this; exact this) h1 h2 h3⟩
              have HTP2 : Hid (t + 1 = ((p + 1 : Nat) : Int) + 1) := Lib.hid (by have := HTP.out; omega)
              go_wp2_with fail
              go_roundw
              case rel => exact ⟨p + 1, t + 1, rfl, HTP2, by omega, HX, HI2⟩
              case measure => simp [RowKit.intOf]; omega
    · obtain rfl : p = N := by omega
      have d3 : decide (t ≤ (p : Int)) = false := decide_eq_false (by omega)
      have HF : Hid (decide (FitsP C.p kind n lv raw rs) = true) := Lib.hid (decide_eq_true ⟨HA.out.1, HA.out.2.1, HA.out.2.2, HI.out.2 (by omega), fun u h1 h2 => HI.out.1 u h1 (by have := HTY.out; omega)⟩)
      go_wp2_with fail
      go_ret
      exact ⟨by rw [HF.out]; rfl, HNO.out _ HW.out⟩
end Go.Proofs.Ytohlkaoophbinaa.Bom
