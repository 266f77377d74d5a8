/- The program's Fits. -/
import Derived.Test.YtdbhdlgoecpeaaaZQuoImL
import Derived.Test.YtdbhdlgoecpeaaaZQuoF
import Derived.Deep.RegionHeld
namespace Go.Proofs.Ytdbhdlgoecpeaaa.Quo.Im
open Go.RowKit Go.Lib IRows
open Cat (Cat PB Ba CM CatAt Lim box_cat pOf I64 baV)
open Bom (RunsOk tim tim_blue tim_le tim_nonneg)

open Classical in
set_option maxRecDepth 100000 in
set_option maxHeartbeats 32000000 in
theorem fitsq_im (C : CM) (bay : Int) (a : Option Addr) (n c : Nat) (rs : List Int) (lv : Int) (la : Option Addr) (ln lc : Nat) (l : List Sp) (w : World) (h : CatAt w C) (hl : Lim C) (hr : rs.length = n) (hs : IRow w a rs) (hm : n ≤ 1000) (hll : l.length = ln) (hls : Spa w la l) (hli : InSp l) (h5 : ln ≤ 1000) :
    Calls Try.prog 15 #[C.v, .int .i64 bay, .slice a n c, .int .i64 lv, .slice la ln lc] w fun e w' => e = .returned (.bool (decide (FitsQ C.p bay rs lv l))) ∧ Below w.heap.size w w' := by
  obtain ⟨V, X, hV, hX, HXB, HP⟩ := box_cat w C
  have HPE : Hid (∀ W, Below X.heap.size X W → W.cell? ⟨V, 0, none⟩ = some (.int .i64 C.ty) ∧ W.cell? ⟨V, 1, none⟩ = some (.slice C.ba C.bn C.bc) ∧ W.cell? ⟨V, 2, none⟩ = some (.int .i64 C.pl) ∧ W.cell? ⟨V, 3, none⟩ = some (.slice C.ya C.yn C.yc) ∧ W.cell? ⟨V, 4, none⟩ = some (.int .i64 C.ch) ∧ W.cell? ⟨V, 5, none⟩ = some (.int .i64 C.f.broker) ∧ W.cell? ⟨V, 6, none⟩ = some (.int .i64 C.f.least) ∧ W.cell? ⟨V, 7, none⟩ = some (.int .i64 C.f.sales)) := Lib.hid fun W hW => HP.out W hW
  obtain ⟨k0, k1, k2, k3, k4, k5, k6, k7⟩ := HPE.out X (Below.refl _ _)
  have HA0 := ask_im C bay a n c rs lv X (h.under HXB.out) hl hr (hs.under HXB.out) hm
  have HBN := Lib.hid (blues_len C w h)
  have hb1 : C.bn ≤ 20 := hl.2.1
  have hb2 : (C.bn : Int) ≤ 20 := by omega
  have hl2 : (ln : Int) ≤ 1000 := by omega
  obtain ⟨er, her⟩ : ∃ er, mayQ C.p bay rs lv = er := ⟨_, rfl⟩
  rw [her] at HA0
  have HA := Lib.hid HA0
  by_cases he : er = 0
  case neg =>
    have n1 : (er == 0) = false := by simpa using he
    have n2 : (er != 0) = true := by simpa using he
    have HF : Hid (decide (FitsQ C.p bay rs lv l) = false) := Lib.hid (decide_eq_false (fits_no1 (by rw [her]; exact he)))
    clear her HA0 h hl hr hs hm hll hls hli h5
    go_enter Try.func15, Try.ntmps15
    go_wp2_with fail
    clear hX hV
    refine HA.out.mono ?_
    rintro e w1 ⟨y, a1, n1', c1, rfl, H1⟩
    obtain ⟨U, Y, hU, hY, HYB, HUC⟩ := box_by w1 y
    clear k0 k1 k2 k3 k4 k5 k6 k7
    go_wp2_with fail
    clear hU hY
    go_ret
    exact ⟨ret_bool HF.out.symm, below_then HXB.out (below_then H1.out.1 HYB.out)⟩
  subst he
  obtain ⟨hch, hbay, hok⟩ := may_zero her
  obtain ⟨yv, hyv⟩ : ∃ yv, Cat.bayV C.p bay = yv := ⟨_, rfl⟩
  have HYV := Lib.hid hyv
  by_cases hlb : ln = C.bn
  case neg =>
    have n3 : ((ln : Int) != (C.bn : Int)) = true := by simp; omega
    have HF : Hid (decide (FitsQ C.p bay rs lv l) = false) := Lib.hid (decide_eq_false (fits_no2 (by rw [hll, HBN.out]; exact hlb)))
    clear her HA0 h hl hr hs hm hll hls hli h5 hch hbay hok hyv hlb
    go_enter Try.func15, Try.ntmps15
    go_wp2_with fail
    clear hX hV
    refine HA.out.mono ?_
    rintro e w1 ⟨y, a1, n1, c1, rfl, H1⟩
    obtain ⟨h1, rfl, h3⟩ := H1.out.2 (by first | rfl | trivial)
    obtain ⟨U, Y, hU, hY, HYB, HUC⟩ := box_by w1 y
    clear k0 k1 k2 k3 k4 k5 k6 k7 h3 h1
    go_wp2_with fail
    clear hU hY
    go_ret
    exact ⟨ret_bool HF.out.symm, below_then HXB.out (below_then H1.out.1 HYB.out)⟩
  subst hlb
  obtain ⟨m, hmf⟩ : ∃ m, yv.mf = m := ⟨_, rfl⟩
  have hyo : 0 ≤ m ∧ m ≤ 8 := by
    obtain ⟨j, hj⟩ := Int.eq_ofNat_of_zero_le (show 0 ≤ bay - 1 by omega)
    obtain rfl : bay = (j : Int) + 1 := by omega
    have hjl : j < C.p.ys.length := by omega
    have h1 := (Cat.bay_yes (List.getElem?_eq_getElem hjl)).2
    rw [h1] at hyv
    rw [← hmf, ← hyv]
    exact (bay_ok hch (List.getElem?_eq_getElem hjl)).1
  obtain ⟨J, hJ⟩ : ∃ J, jbOf C.p rs lv m = J := ⟨_, rfl⟩
  have hjj : JJ J C.bn (tmJ C.p rs lv) (wsJ C.p rs) := by rw [← hJ]; exact jj_of C rs lv m w h hl hch hok
  have HJJ := Lib.hid hjj
  have HFQ : Hid (FitsQ C.p bay rs lv l ↔ ∀ k, k < C.bn → Good C.bn (tmJ C.p rs lv) (wsJ C.p rs) m l k) := Lib.hid (by
    have hf := jb_ok (lv := lv) (m := m) hch hok
    rw [hJ] at hf
    have h1 := fits_prog (l := l) hjj hf (fun k x hw => by
      rw [← hJ] at hw ⊢
      have h2 := (waits_is (show waitsB C.p.bs rs k x = true from hw)).1
      refine decide_eq_true ?_
      rw [List.getD_eq_getElem?_getD] at h2 ⊢
      cases hx : rs[x]? with
      | none => rw [hx] at h2; exact absurd rfl h2
      | some r =>
        rw [hx] at h2
        have := hok.1.2 r (List.mem_of_getElem? hx)
        have h2 : r ≠ 0 := h2
        show 0 < r
        omega) (fun k hk hj => by
      rw [← hJ] at hj
      have h2 : decide (0 < rs.getD k 0) = false := hj
      unfold wsJ
      rw [if_neg (of_decide_eq_false h2)]) (by rw [← hJ]; exact hyo.1)
    have hjm : J.m = m := by rw [← hJ]; rfl
    rw [hjm] at h1
    rw [← h1]
    unfold FitsQ jbB
    rw [hyv, hmf, hJ]
    exact ⟨fun h => h.2.2, fun h => ⟨her, by rw [hll, HBN.out], h⟩⟩)
  have HT0 : Hid (∀ k, 0 ≤ tmJ C.p rs lv k ∧ tmJ C.p rs lv k ≤ 104857600000) := Lib.hid fun k => jb_t C.p rs lv 0 k
  have HLL := Lib.hid hll
  have HIN := Lib.hid hli
  have HLS := Lib.hid (hls.under HXB.out)
  have n3 : ((C.bn : Int) != (C.bn : Int)) = false := by simp
  clear her HA0 h hl hr hs hm hll hls hli h5 hch hbay hok hyv hJ hjj hyo
  go_enter Try.func15, Try.ntmps15
  go_wp2_with fail
  clear hX hV
  refine HA.out.mono ?_
  rintro e w1 ⟨y, a1, n1, c1, rfl, H1⟩
  obtain ⟨h1, rfl, h3⟩ := H1.out.2 (by first | rfl | trivial)
  rw [HYV.out] at h1
  subst h1
  obtain ⟨H, Z, hH, hZ, HZB, HHC⟩ := box_by w1 y
  have HXZ : Hid (Below X.heap.size X Z) := Lib.hid (below_then H1.out.1 HZB.out)
  have HJC := jobs_at (h3.under HZB.out)
  have HS := spa_at (HLS.out.under HXZ.out)
  have HLZ := Lib.hid (HLS.out.under HXZ.out)
  have HMC : Hid (∀ W, Below Z.heap.size Z W → W.cell? ⟨H, 1, none⟩ = some (.int .i64 m)) := Lib.hid fun W hW => by
    have h4 := (HHC.out W hW).2.1
    rw [hmf] at h4
    exact h4
  clear k0 k1 k2 k3 k4 k5 k6 k7 h3 hmf
  go_wp2_with fail
  clear hH hZ n3
  go_loopw [36] (fun t wr => ∃ k : Nat, t = .int .i64 (k : Int) ∧ k ≤ C.bn ∧ Hid (∀ i, i < k → Good C.bn (tmJ C.p rs lv) (wsJ C.p rs) m l i) ∧ Hid (Below Z.heap.size Z wr)) (fun t _ => C.bn - (RowKit.intOf t).toNat)
  case atStart => exact ⟨0, rfl, by omega, Lib.hid (fun i h => by omega), Lib.hid (Below.refl _ _)⟩
  case round =>
    obtain ⟨k, rfl, hk, HK, HW⟩ := hrel
    have hk0 : (0 : Int) ≤ (k : Int) := by omega
    by_cases hlt : k < C.bn
    case neg =>
      obtain rfl : k = C.bn := by omega
      have hd1 : decide (C.bn < C.bn) = false := by simp
      have HF : Hid (decide (FitsQ C.p bay rs lv l) = true) := Lib.hid (decide_eq_true (HFQ.out.2 HK.out))
      go_wp2_with fail
      go_ret
      exact ⟨ret_bool HF.out.symm, below_then HXB.out (below_then HXZ.out HW.out)⟩
    have hlt2 : (k : Int) < (C.bn : Int) := by omega
    have hd1 : decide (k < C.bn) = true := decide_eq_true hlt
    have wk : IntKind.i64.wrap ((k : Int) + 1) = (k : Int) + 1 := IntWalk.i64_in _ (by omega)
    obtain ⟨gj, ak, ck, HJ1, HJ2⟩ := HJC.out k hlt
    obtain rfl : a1 = some ⟨gj, 0, none⟩ := HJ1.out
    obtain ⟨⟨j0, j1⟩, _⟩ := HJ2.out wr HW.out
    obtain ⟨tk, htk⟩ : ∃ tk, tmJ C.p rs lv k = tk := ⟨_, rfl⟩
    obtain ⟨nk, hnk⟩ : ∃ nk, (wsJ C.p rs k).length = nk := ⟨_, rfl⟩
    rw [htk] at j0
    rw [hnk] at j1
    have htb := HT0.out k
    rw [htk] at htb
    obtain ⟨U, Y, hU, hY, HYB, HUC⟩ := box_job wr tk ak nk ck
    have HZY : Hid (Below Z.heap.size Z Y) := Lib.hid (below_then HW.out HYB.out)
    obtain ⟨u0, u1⟩ := HUC.out Y (Below.refl _ _)
    obtain ⟨g, off, sp, rfl, hsp, q0, q1⟩ := HS.out Y k HZY.out (by rw [HLL.out]; exact hlt)
    obtain ⟨s, hs⟩ : ∃ s, sp.s = s := ⟨_, rfl⟩
    obtain ⟨e, he⟩ : ∃ e, sp.e = e := ⟨_, rfl⟩
    rw [hs] at q0
    rw [he] at q1
    have hin := HIN.out sp (List.mem_of_getElem? hsp.out)
    rw [hs, he] at hin
    have HAT : Hid (sAt l k = s ∧ eAt l k = e) := Lib.hid (by
      have h1 := at_is hsp.out
      rw [hs, he] at h1
      exact h1)
    have HB0 : Hid (Below Y.heap.size Y Y.drew) := Lib.hid (Below.refl _ Y).drew
    have HCS : Hid (∀ W, Below Y.heap.size Y W → W.cell? ⟨U, 0, none⟩ = some (.int .i64 tk) ∧ W.cell? ⟨U, 1, none⟩ = some (.slice ak nk ck) ∧ W.cell? ⟨g, off + k * 2, none⟩ = some (.int .i64 s) ∧ W.cell? ⟨g, off + k * 2 + 1, none⟩ = some (.int .i64 e) ∧ W.cell? ⟨H, 1, none⟩ = some (.int .i64 m)) := Lib.hid fun W hW => by
      have hZW := below_then HZY.out hW
      obtain ⟨g', off', u, e', hu, c0, c1⟩ := HS.out W k hZW (by rw [HLL.out]; exact hlt)
      cases e'
      have h1 := hu.out
      rw [hsp.out] at h1
      injection h1 with h1
      subst h1
      rw [hs] at c0
      rw [he] at c1
      exact ⟨(HUC.out W hW).1, (HUC.out W hW).2, c0, c1, HMC.out W hZW⟩
    obtain ⟨tq, htq⟩ : ∃ q, tkB tk s e = q := ⟨_, rfl⟩
    obtain ⟨mq, hmq⟩ : ∃ q, (wsJ C.p rs k).all (okW l s) = q := ⟨_, rfl⟩
    obtain ⟨cn, hcn⟩ : ∃ q, cntB (onT l s) C.bn = q := ⟨_, rfl⟩
    have hcb : cn ≤ 20 := by
      have := cntB_le (onT l s) C.bn
      omega
    have HTK : Hid (Calls Try.prog 33 #[.agg #[.int .i64 tk, .slice ak nk ck], .agg #[.int .i64 s, .int .i64 e]] Y.drew fun e w' => e = .returned (.bool tq) ∧ Hid (Below Y.heap.size Y w')) := Lib.hid ((takes_im tk ak nk ck s e Y.drew htb hin.1 hin.2 tq (by rw [← htq]; rfl)).mono fun _ _ ⟨e, h⟩ => ⟨e, Lib.hid (HB0.out.trans h)⟩)
    have HMY : Hid (∀ W, Below Y.heap.size Y W → Calls Try.prog 34 #[.agg #[.int .i64 tk, .slice ak nk ck], .slice (some ⟨g, off, none⟩) C.bn lc, .int .i64 s] W fun e w' => e = .returned (.bool mq) ∧ Hid (Below Y.heap.size Y w')) := Lib.hid fun W hW =>
      (may_im tk ak nk ck (wsJ C.p rs k) (some ⟨g, off, none⟩) C.bn lc l s W hnk (HJ2.out W (below_then HZY.out hW)).2 (by rw [← hnk]; exact HJJ.out.few k hlt) HLL.out (HLZ.out.under (below_then HZY.out hW)) (by omega) (HJJ.out.bd k hlt) mq hmq).mono fun _ _ ⟨e, h⟩ => ⟨e, Lib.hid (below_then hW h)⟩
    have HON : Hid (∀ W, Below Y.heap.size Y W → Calls Try.prog 35 #[.slice (some ⟨g, off, none⟩) C.bn lc, .int .i64 s] W fun e w' => e = .returned (.int .i64 (cn : Int)) ∧ Hid (Below Y.heap.size Y w')) := Lib.hid fun W hW => by
      have h1 := once_im (some ⟨g, off, none⟩) C.bn lc l s W HLL.out (HLZ.out.under (below_then HZY.out hW)) (by omega)
      rw [hcn] at h1
      exact h1.mono fun _ _ ⟨e, h⟩ => ⟨e, Lib.hid (below_then hW h)⟩
    have HGD : Hid (Good C.bn (tmJ C.p rs lv) (wsJ C.p rs) m l k ↔ tq = true ∧ mq = true ∧ (cn : Int) ≤ m) := Lib.hid (by
      constructor
      · intro h
        refine ⟨?_, ?_, ?_⟩
        · have h1 := h.tk
          rw [htk, HAT.out.1, HAT.out.2, htq] at h1
          exact h1
        · have h1 := h.ws
          rw [HAT.out.1, hmq] at h1
          exact h1
        · have h1 := h.rm
          rw [HAT.out.1, hcn] at h1
          exact h1
      · rintro ⟨h1, h2, h3⟩
        refine ⟨?_, ?_, ?_⟩
        · rw [htk, HAT.out.1, HAT.out.2, htq]
          exact h1
        · rw [HAT.out.1, hmq]
          exact h2
        · rw [HAT.out.1, hcn]
          exact h3)
    have HNG : Hid (¬ (tq = true ∧ mq = true ∧ (cn : Int) ≤ m) → decide (FitsQ C.p bay rs lv l) = false) := Lib.hid fun h => decide_eq_false fun h2 => h (HGD.out.1 (HFQ.out.1 h2 k hlt))
    clear htk hnk htb hs he hin htq hmq hcn
    rcases tq with _ | _
    · have HF := Lib.hid (HNG.out fun h => by cases h.1)
      go_wp2_with fail
      clear hU hY u0 u1 q0 q1 j0 j1
      refine wp_region_held_drew (S := fun W => W.cell? ⟨U, 0, none⟩ = some (.int .i64 tk) ∧ W.cell? ⟨U, 1, none⟩ = some (.slice ak nk ck) ∧ W.cell? ⟨g, off + k * 2, none⟩ = some (.int .i64 s) ∧ W.cell? ⟨g, off + k * 2 + 1, none⟩ = some (.int .i64 e) ∧ W.cell? ⟨H, 1, none⟩ = some (.int .i64 m)) (by kernel_rfl) (HCS.out _ HB0.out) (fun hHeld => ?_)
      refine wpAnyH_take (i := 0) (v := .agg #[.int .i64 tk, .slice ak nk ck]) rfl (by kernel_rfl) (by kernel_rfl) (by kernel_rfl) (fun _ _ _ h => h) (Or.inl ⟨by rfl, fun V hSV => ?_⟩) (by assumption) ?_
      · obtain ⟨x0, x1, x2, x3, x4⟩ := hSV
        go_simp
      (try simp only [Act.put, List.getElem_toArray, List.getElem_cons_zero, List.setIfInBounds_toArray, List.set_cons_zero, List.set_cons_succ])
      refine wpAnyH_take (i := 1) (v := .slice (some ⟨g, off, none⟩) C.bn lc) rfl (by kernel_rfl) (by kernel_rfl) (by kernel_rfl) (fun _ _ _ h => h) (Or.inl ⟨by rfl, fun V hSV => ?_⟩) (by assumption) ?_
      · obtain ⟨x0, x1, x2, x3, x4⟩ := hSV
        go_simp
      (try simp only [Act.put, List.getElem_toArray, List.getElem_cons_succ, List.getElem_cons_zero, List.setIfInBounds_toArray, List.set_cons_zero, List.set_cons_succ])
      refine wpAnyH_take (i := 2) (v := .int .i64 (k : Int)) rfl (by kernel_rfl) (by kernel_rfl) (by kernel_rfl) (fun _ _ _ h => h) (Or.inl ⟨by rfl, fun V hSV => ?_⟩) (by assumption) ?_
      · obtain ⟨x0, x1, x2, x3, x4⟩ := hSV
        go_simp
      (try simp only [Act.put, List.getElem_toArray, List.getElem_cons_succ, List.getElem_cons_zero, List.setIfInBounds_toArray, List.set_cons_zero, List.set_cons_succ])
      refine wpAnyH_take (i := 3) (v := .pointer (some ⟨g, off + k * 2, none⟩)) rfl (by kernel_rfl) (by kernel_rfl) (by kernel_rfl) (fun _ _ _ h => h) (Or.inl ⟨by rfl, fun V hSV => ?_⟩) (by assumption) ?_
      · obtain ⟨x0, x1, x2, x3, x4⟩ := hSV
        go_simp
      (try simp only [Act.put, List.getElem_toArray, List.getElem_cons_succ, List.getElem_cons_zero, List.setIfInBounds_toArray, List.set_cons_zero, List.set_cons_succ])
      refine wpAnyH_take (i := 4) (v := .agg #[.int .i64 s, .int .i64 e]) rfl (by kernel_rfl) (by kernel_rfl) (by kernel_rfl) (fun _ _ _ h => h) (Or.inl ⟨by rfl, fun V hSV => ?_⟩) (by assumption) ?_
      · obtain ⟨x0, x1, x2, x3, x4⟩ := hSV
        go_simp
      (try simp only [Act.put, List.getElem_toArray, List.getElem_cons_succ, List.getElem_cons_zero, List.setIfInBounds_toArray, List.set_cons_zero, List.set_cons_succ])
      refine wpAnyH_ready (rs := [5]) (by kernel_rfl) (by simp) ?_
      refine AllReadyH.cons (o := _) rfl (fun K hK => ?_) AllReadyH.nil
      go_simp
      refine (HTK.out).mono ?_
      rintro e w5 ⟨rfl, H5⟩
      (try dsimp only)
      refine hK.out _ _ (HCS.out _ H5.out) (fun hHeld => ?_)
      clear hK K
      (try simp only [Act.put, List.getElem_toArray, List.getElem_cons_succ, List.getElem_cons_zero, List.setIfInBounds_toArray, List.set_cons_zero, List.set_cons_succ])
      refine wpAnyH_take (i := 6) (v := .bool true) rfl (by kernel_rfl) (by kernel_rfl) (by kernel_rfl) (fun _ _ _ h => h) (Or.inl ⟨by rfl, fun V hSV => ?_⟩) (by assumption) ?_
      · obtain ⟨x0, x1, x2, x3, x4⟩ := hSV
        go_simp
      (try simp only [Act.put, List.getElem_toArray, List.getElem_cons_succ, List.getElem_cons_zero, List.setIfInBounds_toArray, List.set_cons_zero, List.set_cons_succ])
      refine wpAnyH_take (i := 7) (v := .bool true) rfl (by kernel_rfl) (by kernel_rfl) (by kernel_rfl) (fun _ _ _ h => h) (Or.inl ⟨by rfl, fun V hSV => ?_⟩) (by assumption) ?_
      · obtain ⟨x0, x1, x2, x3, x4⟩ := hSV
        go_simp
      (try simp only [Act.put, List.getElem_toArray, List.getElem_cons_succ, List.getElem_cons_zero, List.setIfInBounds_toArray, List.set_cons_zero, List.set_cons_succ])
      refine wpAnyH_take (i := 8) (v := undef) rfl (by kernel_rfl) (by kernel_rfl) (by kernel_rfl) (fun _ _ _ h => h) (Or.inr ⟨by kernel_rfl, rfl⟩) (by assumption) ?_
      (try simp only [Act.put, List.getElem_toArray, List.getElem_cons_succ, List.getElem_cons_zero, List.setIfInBounds_toArray, List.set_cons_zero, List.set_cons_succ])
      refine wpAnyH_take (i := 9) (v := undef) rfl (by kernel_rfl) (by kernel_rfl) (by kernel_rfl) (fun _ _ _ h => h) (Or.inr ⟨by kernel_rfl, rfl⟩) (by assumption) ?_
      (try simp only [Act.put, List.getElem_toArray, List.getElem_cons_succ, List.getElem_cons_zero, List.setIfInBounds_toArray, List.set_cons_zero, List.set_cons_succ])
      refine wpAnyH_take (i := 10) (v := undef) rfl (by kernel_rfl) (by kernel_rfl) (by kernel_rfl) (fun _ _ _ h => h) (Or.inr ⟨by kernel_rfl, rfl⟩) (by assumption) ?_
      (try simp only [Act.put, List.getElem_toArray, List.getElem_cons_succ, List.getElem_cons_zero, List.setIfInBounds_toArray, List.set_cons_zero, List.set_cons_succ])
      refine wpAnyH_take (i := 11) (v := undef) rfl (by kernel_rfl) (by kernel_rfl) (by kernel_rfl) (fun _ _ _ h => h) (Or.inr ⟨by kernel_rfl, rfl⟩) (by assumption) ?_
      (try simp only [Act.put, List.getElem_toArray, List.getElem_cons_succ, List.getElem_cons_zero, List.setIfInBounds_toArray, List.set_cons_zero, List.set_cons_succ])
      refine wpAnyH_take (i := 12) (v := undef) rfl (by kernel_rfl) (by kernel_rfl) (by kernel_rfl) (fun _ _ _ h => h) (Or.inr ⟨by kernel_rfl, rfl⟩) (by assumption) ?_
      (try simp only [Act.put, List.getElem_toArray, List.getElem_cons_succ, List.getElem_cons_zero, List.setIfInBounds_toArray, List.set_cons_zero, List.set_cons_succ])
      refine wpAnyH_take (i := 13) (v := undef) rfl (by kernel_rfl) (by kernel_rfl) (by kernel_rfl) (fun _ _ _ h => h) (Or.inr ⟨by kernel_rfl, rfl⟩) (by assumption) ?_
      (try simp only [Act.put, List.getElem_toArray, List.getElem_cons_succ, List.getElem_cons_zero, List.setIfInBounds_toArray, List.set_cons_zero, List.set_cons_succ])
      refine wpAnyH_take (i := 14) (v := undef) rfl (by kernel_rfl) (by kernel_rfl) (by kernel_rfl) (fun _ _ _ h => h) (Or.inr ⟨by kernel_rfl, rfl⟩) (by assumption) ?_
      (try simp only [Act.put, List.getElem_toArray, List.getElem_cons_succ, List.getElem_cons_zero, List.setIfInBounds_toArray, List.set_cons_zero, List.set_cons_succ])
      refine wpAnyH_take (i := 15) (v := undef) rfl (by kernel_rfl) (by kernel_rfl) (by kernel_rfl) (fun _ _ _ h => h) (Or.inr ⟨by kernel_rfl, rfl⟩) (by assumption) ?_
      (try simp only [Act.put, List.getElem_toArray, List.getElem_cons_succ, List.getElem_cons_zero, List.setIfInBounds_toArray, List.set_cons_zero, List.set_cons_succ])
      refine wpAnyH_take (i := 16) (v := undef) rfl (by kernel_rfl) (by kernel_rfl) (by kernel_rfl) (fun _ _ _ h => h) (Or.inr ⟨by kernel_rfl, rfl⟩) (by assumption) ?_
      (try simp only [Act.put, List.getElem_toArray, List.getElem_cons_succ, List.getElem_cons_zero, List.setIfInBounds_toArray, List.set_cons_zero, List.set_cons_succ])
      refine wpAnyH_take (i := 17) (v := .bool true) rfl (by kernel_rfl) (by kernel_rfl) (by kernel_rfl) (fun _ _ _ h => h) (Or.inl ⟨by rfl, fun V hSV => ?_⟩) (by assumption) ?_
      · obtain ⟨x0, x1, x2, x3, x4⟩ := hSV
        go_simp
      (try simp only [Act.put, List.getElem_toArray, List.getElem_cons_succ, List.getElem_cons_zero, List.setIfInBounds_toArray, List.set_cons_zero, List.set_cons_succ])
      refine wpAnyH_take (i := 18) (v := .bool true) rfl (by kernel_rfl) (by kernel_rfl) (by kernel_rfl) (fun _ _ _ h => h) (Or.inl ⟨by rfl, fun V hSV => ?_⟩) (by assumption) ?_
      · obtain ⟨x0, x1, x2, x3, x4⟩ := hSV
        go_simp
      (try simp only [Act.put, List.getElem_toArray, List.getElem_cons_succ, List.getElem_cons_zero, List.setIfInBounds_toArray, List.set_cons_zero, List.set_cons_succ])
      refine wpAnyH_take (i := 19) (v := undef) rfl (by kernel_rfl) (by kernel_rfl) (by kernel_rfl) (fun _ _ _ h => h) (Or.inr ⟨by kernel_rfl, rfl⟩) (by assumption) ?_
      (try simp only [Act.put, List.getElem_toArray, List.getElem_cons_succ, List.getElem_cons_zero, List.setIfInBounds_toArray, List.set_cons_zero, List.set_cons_succ])
      refine wpAnyH_take (i := 20) (v := undef) rfl (by kernel_rfl) (by kernel_rfl) (by kernel_rfl) (fun _ _ _ h => h) (Or.inr ⟨by kernel_rfl, rfl⟩) (by assumption) ?_
      (try simp only [Act.put, List.getElem_toArray, List.getElem_cons_succ, List.getElem_cons_zero, List.setIfInBounds_toArray, List.set_cons_zero, List.set_cons_succ])
      refine wpAnyH_take (i := 21) (v := undef) rfl (by kernel_rfl) (by kernel_rfl) (by kernel_rfl) (fun _ _ _ h => h) (Or.inr ⟨by kernel_rfl, rfl⟩) (by assumption) ?_
      (try simp only [Act.put, List.getElem_toArray, List.getElem_cons_succ, List.getElem_cons_zero, List.setIfInBounds_toArray, List.set_cons_zero, List.set_cons_succ])
      refine wpAnyH_take (i := 22) (v := undef) rfl (by kernel_rfl) (by kernel_rfl) (by kernel_rfl) (fun _ _ _ h => h) (Or.inr ⟨by kernel_rfl, rfl⟩) (by assumption) ?_
      (try simp only [Act.put, List.getElem_toArray, List.getElem_cons_succ, List.getElem_cons_zero, List.setIfInBounds_toArray, List.set_cons_zero, List.set_cons_succ])
      refine wpAnyH_take (i := 23) (v := undef) rfl (by kernel_rfl) (by kernel_rfl) (by kernel_rfl) (fun _ _ _ h => h) (Or.inr ⟨by kernel_rfl, rfl⟩) (by assumption) ?_
      (try simp only [Act.put, List.getElem_toArray, List.getElem_cons_succ, List.getElem_cons_zero, List.setIfInBounds_toArray, List.set_cons_zero, List.set_cons_succ])
      refine wpAnyH_take (i := 24) (v := undef) rfl (by kernel_rfl) (by kernel_rfl) (by kernel_rfl) (fun _ _ _ h => h) (Or.inr ⟨by kernel_rfl, rfl⟩) (by assumption) ?_
      (try simp only [Act.put, List.getElem_toArray, List.getElem_cons_succ, List.getElem_cons_zero, List.setIfInBounds_toArray, List.set_cons_zero, List.set_cons_succ])
      refine wpAnyH_take (i := 25) (v := undef) rfl (by kernel_rfl) (by kernel_rfl) (by kernel_rfl) (fun _ _ _ h => h) (Or.inr ⟨by kernel_rfl, rfl⟩) (by assumption) ?_
      (try simp only [Act.put, List.getElem_toArray, List.getElem_cons_succ, List.getElem_cons_zero, List.setIfInBounds_toArray, List.set_cons_zero, List.set_cons_succ])
      refine wpAnyH_take (i := 26) (v := undef) rfl (by kernel_rfl) (by kernel_rfl) (by kernel_rfl) (fun _ _ _ h => h) (Or.inr ⟨by kernel_rfl, rfl⟩) (by assumption) ?_
      (try simp only [Act.put, List.getElem_toArray, List.getElem_cons_succ, List.getElem_cons_zero, List.setIfInBounds_toArray, List.set_cons_zero, List.set_cons_succ])
      refine wpAnyH_take (i := 27) (v := undef) rfl (by kernel_rfl) (by kernel_rfl) (by kernel_rfl) (fun _ _ _ h => h) (Or.inr ⟨by kernel_rfl, rfl⟩) (by assumption) ?_
      (try simp only [Act.put, List.getElem_toArray, List.getElem_cons_succ, List.getElem_cons_zero, List.setIfInBounds_toArray, List.set_cons_zero, List.set_cons_succ])
      refine wpAnyH_take (i := 28) (v := undef) rfl (by kernel_rfl) (by kernel_rfl) (by kernel_rfl) (fun _ _ _ h => h) (Or.inr ⟨by kernel_rfl, rfl⟩) (by assumption) ?_
      (try simp only [Act.put, List.getElem_toArray, List.getElem_cons_succ, List.getElem_cons_zero, List.setIfInBounds_toArray, List.set_cons_zero, List.set_cons_succ])
      refine wpAnyH_take (i := 29) (v := .bool true) rfl (by kernel_rfl) (by kernel_rfl) (by kernel_rfl) (fun _ _ _ h => h) (Or.inl ⟨by rfl, fun V hSV => ?_⟩) (by assumption) ?_
      · obtain ⟨x0, x1, x2, x3, x4⟩ := hSV
        go_simp
      (try simp only [Act.put, List.getElem_toArray, List.getElem_cons_succ, List.getElem_cons_zero, List.setIfInBounds_toArray, List.set_cons_zero, List.set_cons_succ])
      refine wpAnyH_done (by kernel_rfl) ?_ _
      go_wp2_with fail
      go_ret
      exact ⟨ret_bool HF.out.symm, below_then HXB.out (below_then HXZ.out (below_then HZY.out H5.out))⟩
    rcases mq with _ | _
    · have HF := Lib.hid (HNG.out fun h => by cases h.2.1)
      go_wp2_with fail
      clear hU hY u0 u1 q0 q1 j0 j1
      refine wp_region_held_drew (S := fun W => W.cell? ⟨U, 0, none⟩ = some (.int .i64 tk) ∧ W.cell? ⟨U, 1, none⟩ = some (.slice ak nk ck) ∧ W.cell? ⟨g, off + k * 2, none⟩ = some (.int .i64 s) ∧ W.cell? ⟨g, off + k * 2 + 1, none⟩ = some (.int .i64 e) ∧ W.cell? ⟨H, 1, none⟩ = some (.int .i64 m)) (by kernel_rfl) (HCS.out _ HB0.out) (fun hHeld => ?_)
      refine wpAnyH_take (i := 0) (v := .agg #[.int .i64 tk, .slice ak nk ck]) rfl (by kernel_rfl) (by kernel_rfl) (by kernel_rfl) (fun _ _ _ h => h) (Or.inl ⟨by rfl, fun V hSV => ?_⟩) (by assumption) ?_
      · obtain ⟨x0, x1, x2, x3, x4⟩ := hSV
        go_simp
      (try simp only [Act.put, List.getElem_toArray, List.getElem_cons_zero, List.setIfInBounds_toArray, List.set_cons_zero, List.set_cons_succ])
      refine wpAnyH_take (i := 1) (v := .slice (some ⟨g, off, none⟩) C.bn lc) rfl (by kernel_rfl) (by kernel_rfl) (by kernel_rfl) (fun _ _ _ h => h) (Or.inl ⟨by rfl, fun V hSV => ?_⟩) (by assumption) ?_
      · obtain ⟨x0, x1, x2, x3, x4⟩ := hSV
        go_simp
      (try simp only [Act.put, List.getElem_toArray, List.getElem_cons_succ, List.getElem_cons_zero, List.setIfInBounds_toArray, List.set_cons_zero, List.set_cons_succ])
      refine wpAnyH_take (i := 2) (v := .int .i64 (k : Int)) rfl (by kernel_rfl) (by kernel_rfl) (by kernel_rfl) (fun _ _ _ h => h) (Or.inl ⟨by rfl, fun V hSV => ?_⟩) (by assumption) ?_
      · obtain ⟨x0, x1, x2, x3, x4⟩ := hSV
        go_simp
      (try simp only [Act.put, List.getElem_toArray, List.getElem_cons_succ, List.getElem_cons_zero, List.setIfInBounds_toArray, List.set_cons_zero, List.set_cons_succ])
      refine wpAnyH_take (i := 3) (v := .pointer (some ⟨g, off + k * 2, none⟩)) rfl (by kernel_rfl) (by kernel_rfl) (by kernel_rfl) (fun _ _ _ h => h) (Or.inl ⟨by rfl, fun V hSV => ?_⟩) (by assumption) ?_
      · obtain ⟨x0, x1, x2, x3, x4⟩ := hSV
        go_simp
      (try simp only [Act.put, List.getElem_toArray, List.getElem_cons_succ, List.getElem_cons_zero, List.setIfInBounds_toArray, List.set_cons_zero, List.set_cons_succ])
      refine wpAnyH_take (i := 4) (v := .agg #[.int .i64 s, .int .i64 e]) rfl (by kernel_rfl) (by kernel_rfl) (by kernel_rfl) (fun _ _ _ h => h) (Or.inl ⟨by rfl, fun V hSV => ?_⟩) (by assumption) ?_
      · obtain ⟨x0, x1, x2, x3, x4⟩ := hSV
        go_simp
      (try simp only [Act.put, List.getElem_toArray, List.getElem_cons_succ, List.getElem_cons_zero, List.setIfInBounds_toArray, List.set_cons_zero, List.set_cons_succ])
      refine wpAnyH_ready (rs := [5]) (by kernel_rfl) (by simp) ?_
      refine AllReadyH.cons (o := _) rfl (fun K hK => ?_) AllReadyH.nil
      go_simp
      refine (HTK.out).mono ?_
      rintro e w5 ⟨rfl, H5⟩
      (try dsimp only)
      refine hK.out _ _ (HCS.out _ H5.out) (fun hHeld => ?_)
      clear hK K
      (try simp only [Act.put, List.getElem_toArray, List.getElem_cons_succ, List.getElem_cons_zero, List.setIfInBounds_toArray, List.set_cons_zero, List.set_cons_succ])
      refine wpAnyH_take (i := 6) (v := .bool false) rfl (by kernel_rfl) (by kernel_rfl) (by kernel_rfl) (fun _ _ _ h => h) (Or.inl ⟨by rfl, fun V hSV => ?_⟩) (by assumption) ?_
      · obtain ⟨x0, x1, x2, x3, x4⟩ := hSV
        go_simp
      (try simp only [Act.put, List.getElem_toArray, List.getElem_cons_succ, List.getElem_cons_zero, List.setIfInBounds_toArray, List.set_cons_zero, List.set_cons_succ])
      refine wpAnyH_take (i := 7) (v := .bool false) rfl (by kernel_rfl) (by kernel_rfl) (by kernel_rfl) (fun _ _ _ h => h) (Or.inl ⟨by rfl, fun V hSV => ?_⟩) (by assumption) ?_
      · obtain ⟨x0, x1, x2, x3, x4⟩ := hSV
        go_simp
      (try simp only [Act.put, List.getElem_toArray, List.getElem_cons_succ, List.getElem_cons_zero, List.setIfInBounds_toArray, List.set_cons_zero, List.set_cons_succ])
      refine wpAnyH_take (i := 8) (v := .agg #[.int .i64 tk, .slice ak nk ck]) rfl (by kernel_rfl) (by kernel_rfl) (by kernel_rfl) (fun _ _ _ h => h) (Or.inl ⟨by rfl, fun V hSV => ?_⟩) (by assumption) ?_
      · obtain ⟨x0, x1, x2, x3, x4⟩ := hSV
        go_simp
      (try simp only [Act.put, List.getElem_toArray, List.getElem_cons_succ, List.getElem_cons_zero, List.setIfInBounds_toArray, List.set_cons_zero, List.set_cons_succ])
      refine wpAnyH_take (i := 9) (v := .slice (some ⟨g, off, none⟩) C.bn lc) rfl (by kernel_rfl) (by kernel_rfl) (by kernel_rfl) (fun _ _ _ h => h) (Or.inl ⟨by rfl, fun V hSV => ?_⟩) (by assumption) ?_
      · obtain ⟨x0, x1, x2, x3, x4⟩ := hSV
        go_simp
      (try simp only [Act.put, List.getElem_toArray, List.getElem_cons_succ, List.getElem_cons_zero, List.setIfInBounds_toArray, List.set_cons_zero, List.set_cons_succ])
      refine wpAnyH_take (i := 10) (v := .slice (some ⟨g, off, none⟩) C.bn lc) rfl (by kernel_rfl) (by kernel_rfl) (by kernel_rfl) (fun _ _ _ h => h) (Or.inl ⟨by rfl, fun V hSV => ?_⟩) (by assumption) ?_
      · obtain ⟨x0, x1, x2, x3, x4⟩ := hSV
        go_simp
      (try simp only [Act.put, List.getElem_toArray, List.getElem_cons_succ, List.getElem_cons_zero, List.setIfInBounds_toArray, List.set_cons_zero, List.set_cons_succ])
      refine wpAnyH_take (i := 11) (v := .int .i64 (k : Int)) rfl (by kernel_rfl) (by kernel_rfl) (by kernel_rfl) (fun _ _ _ h => h) (Or.inl ⟨by rfl, fun V hSV => ?_⟩) (by assumption) ?_
      · obtain ⟨x0, x1, x2, x3, x4⟩ := hSV
        go_simp
      (try simp only [Act.put, List.getElem_toArray, List.getElem_cons_succ, List.getElem_cons_zero, List.setIfInBounds_toArray, List.set_cons_zero, List.set_cons_succ])
      refine wpAnyH_take (i := 12) (v := .pointer (some ⟨g, off + k * 2, none⟩)) rfl (by kernel_rfl) (by kernel_rfl) (by kernel_rfl) (fun _ _ _ h => h) (Or.inl ⟨by rfl, fun V hSV => ?_⟩) (by assumption) ?_
      · obtain ⟨x0, x1, x2, x3, x4⟩ := hSV
        go_simp
      (try simp only [Act.put, List.getElem_toArray, List.getElem_cons_succ, List.getElem_cons_zero, List.setIfInBounds_toArray, List.set_cons_zero, List.set_cons_succ])
      refine wpAnyH_take (i := 13) (v := .pointer (some ⟨g, off + k * 2, none⟩)) rfl (by kernel_rfl) (by kernel_rfl) (by kernel_rfl) (fun _ _ _ h => h) (Or.inl ⟨by rfl, fun V hSV => ?_⟩) (by assumption) ?_
      · obtain ⟨x0, x1, x2, x3, x4⟩ := hSV
        go_simp
      (try simp only [Act.put, List.getElem_toArray, List.getElem_cons_succ, List.getElem_cons_zero, List.setIfInBounds_toArray, List.set_cons_zero, List.set_cons_succ])
      refine wpAnyH_take (i := 14) (v := .int .i64 s) rfl (by kernel_rfl) (by kernel_rfl) (by kernel_rfl) (fun _ _ _ h => h) (Or.inl ⟨by rfl, fun V hSV => ?_⟩) (by assumption) ?_
      · obtain ⟨x0, x1, x2, x3, x4⟩ := hSV
        go_simp
      (try simp only [Act.put, List.getElem_toArray, List.getElem_cons_succ, List.getElem_cons_zero, List.setIfInBounds_toArray, List.set_cons_zero, List.set_cons_succ])
      refine wpAnyH_ready (rs := [15]) (by kernel_rfl) (by simp) ?_
      refine AllReadyH.cons (o := _) rfl (fun K hK => ?_) AllReadyH.nil
      go_simp
      refine (HMY.out w5 H5.out).mono ?_
      rintro e w6 ⟨rfl, H6⟩
      (try dsimp only)
      refine hK.out _ _ (HCS.out _ H6.out) (fun hHeld => ?_)
      clear hK K
      (try simp only [Act.put, List.getElem_toArray, List.getElem_cons_succ, List.getElem_cons_zero, List.setIfInBounds_toArray, List.set_cons_zero, List.set_cons_succ])
      refine wpAnyH_take (i := 16) (v := .bool true) rfl (by kernel_rfl) (by kernel_rfl) (by kernel_rfl) (fun _ _ _ h => h) (Or.inl ⟨by rfl, fun V hSV => ?_⟩) (by assumption) ?_
      · obtain ⟨x0, x1, x2, x3, x4⟩ := hSV
        go_simp
      (try simp only [Act.put, List.getElem_toArray, List.getElem_cons_succ, List.getElem_cons_zero, List.setIfInBounds_toArray, List.set_cons_zero, List.set_cons_succ])
      refine wpAnyH_take (i := 17) (v := .bool true) rfl (by kernel_rfl) (by kernel_rfl) (by kernel_rfl) (fun _ _ _ h => h) (Or.inl ⟨by rfl, fun V hSV => ?_⟩) (by assumption) ?_
      · obtain ⟨x0, x1, x2, x3, x4⟩ := hSV
        go_simp
      (try simp only [Act.put, List.getElem_toArray, List.getElem_cons_succ, List.getElem_cons_zero, List.setIfInBounds_toArray, List.set_cons_zero, List.set_cons_succ])
      refine wpAnyH_take (i := 18) (v := .bool true) rfl (by kernel_rfl) (by kernel_rfl) (by kernel_rfl) (fun _ _ _ h => h) (Or.inl ⟨by rfl, fun V hSV => ?_⟩) (by assumption) ?_
      · obtain ⟨x0, x1, x2, x3, x4⟩ := hSV
        go_simp
      (try simp only [Act.put, List.getElem_toArray, List.getElem_cons_succ, List.getElem_cons_zero, List.setIfInBounds_toArray, List.set_cons_zero, List.set_cons_succ])
      refine wpAnyH_take (i := 19) (v := undef) rfl (by kernel_rfl) (by kernel_rfl) (by kernel_rfl) (fun _ _ _ h => h) (Or.inr ⟨by kernel_rfl, rfl⟩) (by assumption) ?_
      (try simp only [Act.put, List.getElem_toArray, List.getElem_cons_succ, List.getElem_cons_zero, List.setIfInBounds_toArray, List.set_cons_zero, List.set_cons_succ])
      refine wpAnyH_take (i := 20) (v := undef) rfl (by kernel_rfl) (by kernel_rfl) (by kernel_rfl) (fun _ _ _ h => h) (Or.inr ⟨by kernel_rfl, rfl⟩) (by assumption) ?_
      (try simp only [Act.put, List.getElem_toArray, List.getElem_cons_succ, List.getElem_cons_zero, List.setIfInBounds_toArray, List.set_cons_zero, List.set_cons_succ])
      refine wpAnyH_take (i := 21) (v := undef) rfl (by kernel_rfl) (by kernel_rfl) (by kernel_rfl) (fun _ _ _ h => h) (Or.inr ⟨by kernel_rfl, rfl⟩) (by assumption) ?_
      (try simp only [Act.put, List.getElem_toArray, List.getElem_cons_succ, List.getElem_cons_zero, List.setIfInBounds_toArray, List.set_cons_zero, List.set_cons_succ])
      refine wpAnyH_take (i := 22) (v := undef) rfl (by kernel_rfl) (by kernel_rfl) (by kernel_rfl) (fun _ _ _ h => h) (Or.inr ⟨by kernel_rfl, rfl⟩) (by assumption) ?_
      (try simp only [Act.put, List.getElem_toArray, List.getElem_cons_succ, List.getElem_cons_zero, List.setIfInBounds_toArray, List.set_cons_zero, List.set_cons_succ])
      refine wpAnyH_take (i := 23) (v := undef) rfl (by kernel_rfl) (by kernel_rfl) (by kernel_rfl) (fun _ _ _ h => h) (Or.inr ⟨by kernel_rfl, rfl⟩) (by assumption) ?_
      (try simp only [Act.put, List.getElem_toArray, List.getElem_cons_succ, List.getElem_cons_zero, List.setIfInBounds_toArray, List.set_cons_zero, List.set_cons_succ])
      refine wpAnyH_take (i := 24) (v := undef) rfl (by kernel_rfl) (by kernel_rfl) (by kernel_rfl) (fun _ _ _ h => h) (Or.inr ⟨by kernel_rfl, rfl⟩) (by assumption) ?_
      (try simp only [Act.put, List.getElem_toArray, List.getElem_cons_succ, List.getElem_cons_zero, List.setIfInBounds_toArray, List.set_cons_zero, List.set_cons_succ])
      refine wpAnyH_take (i := 25) (v := undef) rfl (by kernel_rfl) (by kernel_rfl) (by kernel_rfl) (fun _ _ _ h => h) (Or.inr ⟨by kernel_rfl, rfl⟩) (by assumption) ?_
      (try simp only [Act.put, List.getElem_toArray, List.getElem_cons_succ, List.getElem_cons_zero, List.setIfInBounds_toArray, List.set_cons_zero, List.set_cons_succ])
      refine wpAnyH_take (i := 26) (v := undef) rfl (by kernel_rfl) (by kernel_rfl) (by kernel_rfl) (fun _ _ _ h => h) (Or.inr ⟨by kernel_rfl, rfl⟩) (by assumption) ?_
      (try simp only [Act.put, List.getElem_toArray, List.getElem_cons_succ, List.getElem_cons_zero, List.setIfInBounds_toArray, List.set_cons_zero, List.set_cons_succ])
      refine wpAnyH_take (i := 27) (v := undef) rfl (by kernel_rfl) (by kernel_rfl) (by kernel_rfl) (fun _ _ _ h => h) (Or.inr ⟨by kernel_rfl, rfl⟩) (by assumption) ?_
      (try simp only [Act.put, List.getElem_toArray, List.getElem_cons_succ, List.getElem_cons_zero, List.setIfInBounds_toArray, List.set_cons_zero, List.set_cons_succ])
      refine wpAnyH_take (i := 28) (v := undef) rfl (by kernel_rfl) (by kernel_rfl) (by kernel_rfl) (fun _ _ _ h => h) (Or.inr ⟨by kernel_rfl, rfl⟩) (by assumption) ?_
      (try simp only [Act.put, List.getElem_toArray, List.getElem_cons_succ, List.getElem_cons_zero, List.setIfInBounds_toArray, List.set_cons_zero, List.set_cons_succ])
      refine wpAnyH_take (i := 29) (v := .bool true) rfl (by kernel_rfl) (by kernel_rfl) (by kernel_rfl) (fun _ _ _ h => h) (Or.inl ⟨by rfl, fun V hSV => ?_⟩) (by assumption) ?_
      · obtain ⟨x0, x1, x2, x3, x4⟩ := hSV
        go_simp
      (try simp only [Act.put, List.getElem_toArray, List.getElem_cons_succ, List.getElem_cons_zero, List.setIfInBounds_toArray, List.set_cons_zero, List.set_cons_succ])
      refine wpAnyH_done (by kernel_rfl) ?_ _
      go_wp2_with fail
      go_ret
      exact ⟨ret_bool HF.out.symm, below_then HXB.out (below_then HXZ.out (below_then HZY.out H6.out))⟩
    by_cases hcm : m < (cn : Int)
    · have dcm : decide (m < (cn : Int)) = true := decide_eq_true hcm
      have HF := Lib.hid (HNG.out fun h => by have := h.2.2; omega)
      clear hcm
      go_wp2_with fail
      clear hU hY u0 u1 q0 q1 j0 j1
      refine wp_region_held_drew (S := fun W => W.cell? ⟨U, 0, none⟩ = some (.int .i64 tk) ∧ W.cell? ⟨U, 1, none⟩ = some (.slice ak nk ck) ∧ W.cell? ⟨g, off + k * 2, none⟩ = some (.int .i64 s) ∧ W.cell? ⟨g, off + k * 2 + 1, none⟩ = some (.int .i64 e) ∧ W.cell? ⟨H, 1, none⟩ = some (.int .i64 m)) (by kernel_rfl) (HCS.out _ HB0.out) (fun hHeld => ?_)
      refine wpAnyH_take (i := 0) (v := .agg #[.int .i64 tk, .slice ak nk ck]) rfl (by kernel_rfl) (by kernel_rfl) (by kernel_rfl) (fun _ _ _ h => h) (Or.inl ⟨by rfl, fun V hSV => ?_⟩) (by assumption) ?_
      · obtain ⟨x0, x1, x2, x3, x4⟩ := hSV
        go_simp
      (try simp only [Act.put, List.getElem_toArray, List.getElem_cons_zero, List.setIfInBounds_toArray, List.set_cons_zero, List.set_cons_succ])
      refine wpAnyH_take (i := 1) (v := .slice (some ⟨g, off, none⟩) C.bn lc) rfl (by kernel_rfl) (by kernel_rfl) (by kernel_rfl) (fun _ _ _ h => h) (Or.inl ⟨by rfl, fun V hSV => ?_⟩) (by assumption) ?_
      · obtain ⟨x0, x1, x2, x3, x4⟩ := hSV
        go_simp
      (try simp only [Act.put, List.getElem_toArray, List.getElem_cons_succ, List.getElem_cons_zero, List.setIfInBounds_toArray, List.set_cons_zero, List.set_cons_succ])
      refine wpAnyH_take (i := 2) (v := .int .i64 (k : Int)) rfl (by kernel_rfl) (by kernel_rfl) (by kernel_rfl) (fun _ _ _ h => h) (Or.inl ⟨by rfl, fun V hSV => ?_⟩) (by assumption) ?_
      · obtain ⟨x0, x1, x2, x3, x4⟩ := hSV
        go_simp
      (try simp only [Act.put, List.getElem_toArray, List.getElem_cons_succ, List.getElem_cons_zero, List.setIfInBounds_toArray, List.set_cons_zero, List.set_cons_succ])
      refine wpAnyH_take (i := 3) (v := .pointer (some ⟨g, off + k * 2, none⟩)) rfl (by kernel_rfl) (by kernel_rfl) (by kernel_rfl) (fun _ _ _ h => h) (Or.inl ⟨by rfl, fun V hSV => ?_⟩) (by assumption) ?_
      · obtain ⟨x0, x1, x2, x3, x4⟩ := hSV
        go_simp
      (try simp only [Act.put, List.getElem_toArray, List.getElem_cons_succ, List.getElem_cons_zero, List.setIfInBounds_toArray, List.set_cons_zero, List.set_cons_succ])
      refine wpAnyH_take (i := 4) (v := .agg #[.int .i64 s, .int .i64 e]) rfl (by kernel_rfl) (by kernel_rfl) (by kernel_rfl) (fun _ _ _ h => h) (Or.inl ⟨by rfl, fun V hSV => ?_⟩) (by assumption) ?_
      · obtain ⟨x0, x1, x2, x3, x4⟩ := hSV
        go_simp
      (try simp only [Act.put, List.getElem_toArray, List.getElem_cons_succ, List.getElem_cons_zero, List.setIfInBounds_toArray, List.set_cons_zero, List.set_cons_succ])
      refine wpAnyH_ready (rs := [5]) (by kernel_rfl) (by simp) ?_
      refine AllReadyH.cons (o := _) rfl (fun K hK => ?_) AllReadyH.nil
      go_simp
      refine (HTK.out).mono ?_
      rintro e w5 ⟨rfl, H5⟩
      (try dsimp only)
      refine hK.out _ _ (HCS.out _ H5.out) (fun hHeld => ?_)
      clear hK K
      (try simp only [Act.put, List.getElem_toArray, List.getElem_cons_succ, List.getElem_cons_zero, List.setIfInBounds_toArray, List.set_cons_zero, List.set_cons_succ])
      refine wpAnyH_take (i := 6) (v := .bool false) rfl (by kernel_rfl) (by kernel_rfl) (by kernel_rfl) (fun _ _ _ h => h) (Or.inl ⟨by rfl, fun V hSV => ?_⟩) (by assumption) ?_
      · obtain ⟨x0, x1, x2, x3, x4⟩ := hSV
        go_simp
      (try simp only [Act.put, List.getElem_toArray, List.getElem_cons_succ, List.getElem_cons_zero, List.setIfInBounds_toArray, List.set_cons_zero, List.set_cons_succ])
      refine wpAnyH_take (i := 7) (v := .bool false) rfl (by kernel_rfl) (by kernel_rfl) (by kernel_rfl) (fun _ _ _ h => h) (Or.inl ⟨by rfl, fun V hSV => ?_⟩) (by assumption) ?_
      · obtain ⟨x0, x1, x2, x3, x4⟩ := hSV
        go_simp
      (try simp only [Act.put, List.getElem_toArray, List.getElem_cons_succ, List.getElem_cons_zero, List.setIfInBounds_toArray, List.set_cons_zero, List.set_cons_succ])
      refine wpAnyH_take (i := 8) (v := .agg #[.int .i64 tk, .slice ak nk ck]) rfl (by kernel_rfl) (by kernel_rfl) (by kernel_rfl) (fun _ _ _ h => h) (Or.inl ⟨by rfl, fun V hSV => ?_⟩) (by assumption) ?_
      · obtain ⟨x0, x1, x2, x3, x4⟩ := hSV
        go_simp
      (try simp only [Act.put, List.getElem_toArray, List.getElem_cons_succ, List.getElem_cons_zero, List.setIfInBounds_toArray, List.set_cons_zero, List.set_cons_succ])
      refine wpAnyH_take (i := 9) (v := .slice (some ⟨g, off, none⟩) C.bn lc) rfl (by kernel_rfl) (by kernel_rfl) (by kernel_rfl) (fun _ _ _ h => h) (Or.inl ⟨by rfl, fun V hSV => ?_⟩) (by assumption) ?_
      · obtain ⟨x0, x1, x2, x3, x4⟩ := hSV
        go_simp
      (try simp only [Act.put, List.getElem_toArray, List.getElem_cons_succ, List.getElem_cons_zero, List.setIfInBounds_toArray, List.set_cons_zero, List.set_cons_succ])
      refine wpAnyH_take (i := 10) (v := .slice (some ⟨g, off, none⟩) C.bn lc) rfl (by kernel_rfl) (by kernel_rfl) (by kernel_rfl) (fun _ _ _ h => h) (Or.inl ⟨by rfl, fun V hSV => ?_⟩) (by assumption) ?_
      · obtain ⟨x0, x1, x2, x3, x4⟩ := hSV
        go_simp
      (try simp only [Act.put, List.getElem_toArray, List.getElem_cons_succ, List.getElem_cons_zero, List.setIfInBounds_toArray, List.set_cons_zero, List.set_cons_succ])
      refine wpAnyH_take (i := 11) (v := .int .i64 (k : Int)) rfl (by kernel_rfl) (by kernel_rfl) (by kernel_rfl) (fun _ _ _ h => h) (Or.inl ⟨by rfl, fun V hSV => ?_⟩) (by assumption) ?_
      · obtain ⟨x0, x1, x2, x3, x4⟩ := hSV
        go_simp
      (try simp only [Act.put, List.getElem_toArray, List.getElem_cons_succ, List.getElem_cons_zero, List.setIfInBounds_toArray, List.set_cons_zero, List.set_cons_succ])
      refine wpAnyH_take (i := 12) (v := .pointer (some ⟨g, off + k * 2, none⟩)) rfl (by kernel_rfl) (by kernel_rfl) (by kernel_rfl) (fun _ _ _ h => h) (Or.inl ⟨by rfl, fun V hSV => ?_⟩) (by assumption) ?_
      · obtain ⟨x0, x1, x2, x3, x4⟩ := hSV
        go_simp
      (try simp only [Act.put, List.getElem_toArray, List.getElem_cons_succ, List.getElem_cons_zero, List.setIfInBounds_toArray, List.set_cons_zero, List.set_cons_succ])
      refine wpAnyH_take (i := 13) (v := .pointer (some ⟨g, off + k * 2, none⟩)) rfl (by kernel_rfl) (by kernel_rfl) (by kernel_rfl) (fun _ _ _ h => h) (Or.inl ⟨by rfl, fun V hSV => ?_⟩) (by assumption) ?_
      · obtain ⟨x0, x1, x2, x3, x4⟩ := hSV
        go_simp
      (try simp only [Act.put, List.getElem_toArray, List.getElem_cons_succ, List.getElem_cons_zero, List.setIfInBounds_toArray, List.set_cons_zero, List.set_cons_succ])
      refine wpAnyH_take (i := 14) (v := .int .i64 s) rfl (by kernel_rfl) (by kernel_rfl) (by kernel_rfl) (fun _ _ _ h => h) (Or.inl ⟨by rfl, fun V hSV => ?_⟩) (by assumption) ?_
      · obtain ⟨x0, x1, x2, x3, x4⟩ := hSV
        go_simp
      (try simp only [Act.put, List.getElem_toArray, List.getElem_cons_succ, List.getElem_cons_zero, List.setIfInBounds_toArray, List.set_cons_zero, List.set_cons_succ])
      refine wpAnyH_ready (rs := [15]) (by kernel_rfl) (by simp) ?_
      refine AllReadyH.cons (o := _) rfl (fun K hK => ?_) AllReadyH.nil
      go_simp
      refine (HMY.out w5 H5.out).mono ?_
      rintro e w6 ⟨rfl, H6⟩
      (try dsimp only)
      refine hK.out _ _ (HCS.out _ H6.out) (fun hHeld => ?_)
      clear hK K
      (try simp only [Act.put, List.getElem_toArray, List.getElem_cons_succ, List.getElem_cons_zero, List.setIfInBounds_toArray, List.set_cons_zero, List.set_cons_succ])
      refine wpAnyH_take (i := 16) (v := .bool false) rfl (by kernel_rfl) (by kernel_rfl) (by kernel_rfl) (fun _ _ _ h => h) (Or.inl ⟨by rfl, fun V hSV => ?_⟩) (by assumption) ?_
      · obtain ⟨x0, x1, x2, x3, x4⟩ := hSV
        go_simp
      (try simp only [Act.put, List.getElem_toArray, List.getElem_cons_succ, List.getElem_cons_zero, List.setIfInBounds_toArray, List.set_cons_zero, List.set_cons_succ])
      refine wpAnyH_take (i := 17) (v := .bool false) rfl (by kernel_rfl) (by kernel_rfl) (by kernel_rfl) (fun _ _ _ h => h) (Or.inl ⟨by rfl, fun V hSV => ?_⟩) (by assumption) ?_
      · obtain ⟨x0, x1, x2, x3, x4⟩ := hSV
        go_simp
      (try simp only [Act.put, List.getElem_toArray, List.getElem_cons_succ, List.getElem_cons_zero, List.setIfInBounds_toArray, List.set_cons_zero, List.set_cons_succ])
      refine wpAnyH_take (i := 18) (v := .bool false) rfl (by kernel_rfl) (by kernel_rfl) (by kernel_rfl) (fun _ _ _ h => h) (Or.inl ⟨by rfl, fun V hSV => ?_⟩) (by assumption) ?_
      · obtain ⟨x0, x1, x2, x3, x4⟩ := hSV
        go_simp
      (try simp only [Act.put, List.getElem_toArray, List.getElem_cons_succ, List.getElem_cons_zero, List.setIfInBounds_toArray, List.set_cons_zero, List.set_cons_succ])
      refine wpAnyH_take (i := 19) (v := .slice (some ⟨g, off, none⟩) C.bn lc) rfl (by kernel_rfl) (by kernel_rfl) (by kernel_rfl) (fun _ _ _ h => h) (Or.inl ⟨by rfl, fun V hSV => ?_⟩) (by assumption) ?_
      · obtain ⟨x0, x1, x2, x3, x4⟩ := hSV
        go_simp
      (try simp only [Act.put, List.getElem_toArray, List.getElem_cons_succ, List.getElem_cons_zero, List.setIfInBounds_toArray, List.set_cons_zero, List.set_cons_succ])
      refine wpAnyH_take (i := 20) (v := .slice (some ⟨g, off, none⟩) C.bn lc) rfl (by kernel_rfl) (by kernel_rfl) (by kernel_rfl) (fun _ _ _ h => h) (Or.inl ⟨by rfl, fun V hSV => ?_⟩) (by assumption) ?_
      · obtain ⟨x0, x1, x2, x3, x4⟩ := hSV
        go_simp
      (try simp only [Act.put, List.getElem_toArray, List.getElem_cons_succ, List.getElem_cons_zero, List.setIfInBounds_toArray, List.set_cons_zero, List.set_cons_succ])
      refine wpAnyH_take (i := 21) (v := .int .i64 (k : Int)) rfl (by kernel_rfl) (by kernel_rfl) (by kernel_rfl) (fun _ _ _ h => h) (Or.inl ⟨by rfl, fun V hSV => ?_⟩) (by assumption) ?_
      · obtain ⟨x0, x1, x2, x3, x4⟩ := hSV
        go_simp
      (try simp only [Act.put, List.getElem_toArray, List.getElem_cons_succ, List.getElem_cons_zero, List.setIfInBounds_toArray, List.set_cons_zero, List.set_cons_succ])
      refine wpAnyH_take (i := 22) (v := .pointer (some ⟨g, off + k * 2, none⟩)) rfl (by kernel_rfl) (by kernel_rfl) (by kernel_rfl) (fun _ _ _ h => h) (Or.inl ⟨by rfl, fun V hSV => ?_⟩) (by assumption) ?_
      · obtain ⟨x0, x1, x2, x3, x4⟩ := hSV
        go_simp
      (try simp only [Act.put, List.getElem_toArray, List.getElem_cons_succ, List.getElem_cons_zero, List.setIfInBounds_toArray, List.set_cons_zero, List.set_cons_succ])
      refine wpAnyH_take (i := 23) (v := .pointer (some ⟨g, off + k * 2, none⟩)) rfl (by kernel_rfl) (by kernel_rfl) (by kernel_rfl) (fun _ _ _ h => h) (Or.inl ⟨by rfl, fun V hSV => ?_⟩) (by assumption) ?_
      · obtain ⟨x0, x1, x2, x3, x4⟩ := hSV
        go_simp
      (try simp only [Act.put, List.getElem_toArray, List.getElem_cons_succ, List.getElem_cons_zero, List.setIfInBounds_toArray, List.set_cons_zero, List.set_cons_succ])
      refine wpAnyH_take (i := 24) (v := .int .i64 s) rfl (by kernel_rfl) (by kernel_rfl) (by kernel_rfl) (fun _ _ _ h => h) (Or.inl ⟨by rfl, fun V hSV => ?_⟩) (by assumption) ?_
      · obtain ⟨x0, x1, x2, x3, x4⟩ := hSV
        go_simp
      (try simp only [Act.put, List.getElem_toArray, List.getElem_cons_succ, List.getElem_cons_zero, List.setIfInBounds_toArray, List.set_cons_zero, List.set_cons_succ])
      refine wpAnyH_take (i := 26) (v := .pointer (some ⟨H, 1, none⟩)) rfl (by kernel_rfl) (by kernel_rfl) (by kernel_rfl) (fun _ _ _ h => h) (Or.inl ⟨by rfl, fun V hSV => ?_⟩) (by assumption) ?_
      · obtain ⟨x0, x1, x2, x3, x4⟩ := hSV
        go_simp
      (try simp only [Act.put, List.getElem_toArray, List.getElem_cons_succ, List.getElem_cons_zero, List.setIfInBounds_toArray, List.set_cons_zero, List.set_cons_succ])
      refine wpAnyH_take (i := 27) (v := .int .i64 m) rfl (by kernel_rfl) (by kernel_rfl) (by kernel_rfl) (fun _ _ _ h => h) (Or.inl ⟨by rfl, fun V hSV => ?_⟩) (by assumption) ?_
      · obtain ⟨x0, x1, x2, x3, x4⟩ := hSV
        go_simp
      (try simp only [Act.put, List.getElem_toArray, List.getElem_cons_succ, List.getElem_cons_zero, List.setIfInBounds_toArray, List.set_cons_zero, List.set_cons_succ])
      refine wpAnyH_ready (rs := [25]) (by kernel_rfl) (by simp) ?_
      refine AllReadyH.cons (o := _) rfl (fun K hK => ?_) AllReadyH.nil
      go_simp
      refine (HON.out w6 H6.out).mono ?_
      rintro e w7 ⟨rfl, H7⟩
      (try dsimp only)
      refine hK.out _ _ (HCS.out _ H7.out) (fun hHeld => ?_)
      clear hK K
      (try simp only [Act.put, List.getElem_toArray, List.getElem_cons_succ, List.getElem_cons_zero, List.setIfInBounds_toArray, List.set_cons_zero, List.set_cons_succ])
      refine wpAnyH_take (i := 28) (v := .bool true) rfl (by kernel_rfl) (by kernel_rfl) (by kernel_rfl) (fun _ _ _ h => h) (Or.inl ⟨by rfl, fun V hSV => ?_⟩) (by assumption) ?_
      · obtain ⟨x0, x1, x2, x3, x4⟩ := hSV
        go_simp
      (try simp only [Act.put, List.getElem_toArray, List.getElem_cons_succ, List.getElem_cons_zero, List.setIfInBounds_toArray, List.set_cons_zero, List.set_cons_succ])
      refine wpAnyH_take (i := 29) (v := .bool true) rfl (by kernel_rfl) (by kernel_rfl) (by kernel_rfl) (fun _ _ _ h => h) (Or.inl ⟨by rfl, fun V hSV => ?_⟩) (by assumption) ?_
      · obtain ⟨x0, x1, x2, x3, x4⟩ := hSV
        go_simp
      (try simp only [Act.put, List.getElem_toArray, List.getElem_cons_succ, List.getElem_cons_zero, List.setIfInBounds_toArray, List.set_cons_zero, List.set_cons_succ])
      refine wpAnyH_done (by kernel_rfl) ?_ _
      go_wp2_with fail
      go_ret
      exact ⟨ret_bool HF.out.symm, below_then HXB.out (below_then HXZ.out (below_then HZY.out H7.out))⟩
    · have dcm : decide (m < (cn : Int)) = false := decide_eq_false hcm
      have HK2 : Hid (∀ i, i < k + 1 → Good C.bn (tmJ C.p rs lv) (wsJ C.p rs) m l i) := Lib.hid fun i hi => by
        by_cases e : i = k
        · rw [e]
          exact HGD.out.2 ⟨rfl, rfl, by omega⟩
        · exact HK.out i (by omega)
      clear hcm
      go_wp2_with fail
      clear hU hY u0 u1 q0 q1 j0 j1
      refine wp_region_held_drew (S := fun W => W.cell? ⟨U, 0, none⟩ = some (.int .i64 tk) ∧ W.cell? ⟨U, 1, none⟩ = some (.slice ak nk ck) ∧ W.cell? ⟨g, off + k * 2, none⟩ = some (.int .i64 s) ∧ W.cell? ⟨g, off + k * 2 + 1, none⟩ = some (.int .i64 e) ∧ W.cell? ⟨H, 1, none⟩ = some (.int .i64 m)) (by kernel_rfl) (HCS.out _ HB0.out) (fun hHeld => ?_)
      refine wpAnyH_take (i := 0) (v := .agg #[.int .i64 tk, .slice ak nk ck]) rfl (by kernel_rfl) (by kernel_rfl) (by kernel_rfl) (fun _ _ _ h => h) (Or.inl ⟨by rfl, fun V hSV => ?_⟩) (by assumption) ?_
      · obtain ⟨x0, x1, x2, x3, x4⟩ := hSV
        go_simp
      (try simp only [Act.put, List.getElem_toArray, List.getElem_cons_zero, List.setIfInBounds_toArray, List.set_cons_zero, List.set_cons_succ])
      refine wpAnyH_take (i := 1) (v := .slice (some ⟨g, off, none⟩) C.bn lc) rfl (by kernel_rfl) (by kernel_rfl) (by kernel_rfl) (fun _ _ _ h => h) (Or.inl ⟨by rfl, fun V hSV => ?_⟩) (by assumption) ?_
      · obtain ⟨x0, x1, x2, x3, x4⟩ := hSV
        go_simp
      (try simp only [Act.put, List.getElem_toArray, List.getElem_cons_succ, List.getElem_cons_zero, List.setIfInBounds_toArray, List.set_cons_zero, List.set_cons_succ])
      refine wpAnyH_take (i := 2) (v := .int .i64 (k : Int)) rfl (by kernel_rfl) (by kernel_rfl) (by kernel_rfl) (fun _ _ _ h => h) (Or.inl ⟨by rfl, fun V hSV => ?_⟩) (by assumption) ?_
      · obtain ⟨x0, x1, x2, x3, x4⟩ := hSV
        go_simp
      (try simp only [Act.put, List.getElem_toArray, List.getElem_cons_succ, List.getElem_cons_zero, List.setIfInBounds_toArray, List.set_cons_zero, List.set_cons_succ])
      refine wpAnyH_take (i := 3) (v := .pointer (some ⟨g, off + k * 2, none⟩)) rfl (by kernel_rfl) (by kernel_rfl) (by kernel_rfl) (fun _ _ _ h => h) (Or.inl ⟨by rfl, fun V hSV => ?_⟩) (by assumption) ?_
      · obtain ⟨x0, x1, x2, x3, x4⟩ := hSV
        go_simp
      (try simp only [Act.put, List.getElem_toArray, List.getElem_cons_succ, List.getElem_cons_zero, List.setIfInBounds_toArray, List.set_cons_zero, List.set_cons_succ])
      refine wpAnyH_take (i := 4) (v := .agg #[.int .i64 s, .int .i64 e]) rfl (by kernel_rfl) (by kernel_rfl) (by kernel_rfl) (fun _ _ _ h => h) (Or.inl ⟨by rfl, fun V hSV => ?_⟩) (by assumption) ?_
      · obtain ⟨x0, x1, x2, x3, x4⟩ := hSV
        go_simp
      (try simp only [Act.put, List.getElem_toArray, List.getElem_cons_succ, List.getElem_cons_zero, List.setIfInBounds_toArray, List.set_cons_zero, List.set_cons_succ])
      refine wpAnyH_ready (rs := [5]) (by kernel_rfl) (by simp) ?_
      refine AllReadyH.cons (o := _) rfl (fun K hK => ?_) AllReadyH.nil
      go_simp
      refine (HTK.out).mono ?_
      rintro e w5 ⟨rfl, H5⟩
      (try dsimp only)
      refine hK.out _ _ (HCS.out _ H5.out) (fun hHeld => ?_)
      clear hK K
      (try simp only [Act.put, List.getElem_toArray, List.getElem_cons_succ, List.getElem_cons_zero, List.setIfInBounds_toArray, List.set_cons_zero, List.set_cons_succ])
      refine wpAnyH_take (i := 6) (v := .bool false) rfl (by kernel_rfl) (by kernel_rfl) (by kernel_rfl) (fun _ _ _ h => h) (Or.inl ⟨by rfl, fun V hSV => ?_⟩) (by assumption) ?_
      · obtain ⟨x0, x1, x2, x3, x4⟩ := hSV
        go_simp
      (try simp only [Act.put, List.getElem_toArray, List.getElem_cons_succ, List.getElem_cons_zero, List.setIfInBounds_toArray, List.set_cons_zero, List.set_cons_succ])
      refine wpAnyH_take (i := 7) (v := .bool false) rfl (by kernel_rfl) (by kernel_rfl) (by kernel_rfl) (fun _ _ _ h => h) (Or.inl ⟨by rfl, fun V hSV => ?_⟩) (by assumption) ?_
      · obtain ⟨x0, x1, x2, x3, x4⟩ := hSV
        go_simp
      (try simp only [Act.put, List.getElem_toArray, List.getElem_cons_succ, List.getElem_cons_zero, List.setIfInBounds_toArray, List.set_cons_zero, List.set_cons_succ])
      refine wpAnyH_take (i := 8) (v := .agg #[.int .i64 tk, .slice ak nk ck]) rfl (by kernel_rfl) (by kernel_rfl) (by kernel_rfl) (fun _ _ _ h => h) (Or.inl ⟨by rfl, fun V hSV => ?_⟩) (by assumption) ?_
      · obtain ⟨x0, x1, x2, x3, x4⟩ := hSV
        go_simp
      (try simp only [Act.put, List.getElem_toArray, List.getElem_cons_succ, List.getElem_cons_zero, List.setIfInBounds_toArray, List.set_cons_zero, List.set_cons_succ])
      refine wpAnyH_take (i := 9) (v := .slice (some ⟨g, off, none⟩) C.bn lc) rfl (by kernel_rfl) (by kernel_rfl) (by kernel_rfl) (fun _ _ _ h => h) (Or.inl ⟨by rfl, fun V hSV => ?_⟩) (by assumption) ?_
      · obtain ⟨x0, x1, x2, x3, x4⟩ := hSV
        go_simp
      (try simp only [Act.put, List.getElem_toArray, List.getElem_cons_succ, List.getElem_cons_zero, List.setIfInBounds_toArray, List.set_cons_zero, List.set_cons_succ])
      refine wpAnyH_take (i := 10) (v := .slice (some ⟨g, off, none⟩) C.bn lc) rfl (by kernel_rfl) (by kernel_rfl) (by kernel_rfl) (fun _ _ _ h => h) (Or.inl ⟨by rfl, fun V hSV => ?_⟩) (by assumption) ?_
      · obtain ⟨x0, x1, x2, x3, x4⟩ := hSV
        go_simp
      (try simp only [Act.put, List.getElem_toArray, List.getElem_cons_succ, List.getElem_cons_zero, List.setIfInBounds_toArray, List.set_cons_zero, List.set_cons_succ])
      refine wpAnyH_take (i := 11) (v := .int .i64 (k : Int)) rfl (by kernel_rfl) (by kernel_rfl) (by kernel_rfl) (fun _ _ _ h => h) (Or.inl ⟨by rfl, fun V hSV => ?_⟩) (by assumption) ?_
      · obtain ⟨x0, x1, x2, x3, x4⟩ := hSV
        go_simp
      (try simp only [Act.put, List.getElem_toArray, List.getElem_cons_succ, List.getElem_cons_zero, List.setIfInBounds_toArray, List.set_cons_zero, List.set_cons_succ])
      refine wpAnyH_take (i := 12) (v := .pointer (some ⟨g, off + k * 2, none⟩)) rfl (by kernel_rfl) (by kernel_rfl) (by kernel_rfl) (fun _ _ _ h => h) (Or.inl ⟨by rfl, fun V hSV => ?_⟩) (by assumption) ?_
      · obtain ⟨x0, x1, x2, x3, x4⟩ := hSV
        go_simp
      (try simp only [Act.put, List.getElem_toArray, List.getElem_cons_succ, List.getElem_cons_zero, List.setIfInBounds_toArray, List.set_cons_zero, List.set_cons_succ])
      refine wpAnyH_take (i := 13) (v := .pointer (some ⟨g, off + k * 2, none⟩)) rfl (by kernel_rfl) (by kernel_rfl) (by kernel_rfl) (fun _ _ _ h => h) (Or.inl ⟨by rfl, fun V hSV => ?_⟩) (by assumption) ?_
      · obtain ⟨x0, x1, x2, x3, x4⟩ := hSV
        go_simp
      (try simp only [Act.put, List.getElem_toArray, List.getElem_cons_succ, List.getElem_cons_zero, List.setIfInBounds_toArray, List.set_cons_zero, List.set_cons_succ])
      refine wpAnyH_take (i := 14) (v := .int .i64 s) rfl (by kernel_rfl) (by kernel_rfl) (by kernel_rfl) (fun _ _ _ h => h) (Or.inl ⟨by rfl, fun V hSV => ?_⟩) (by assumption) ?_
      · obtain ⟨x0, x1, x2, x3, x4⟩ := hSV
        go_simp
      (try simp only [Act.put, List.getElem_toArray, List.getElem_cons_succ, List.getElem_cons_zero, List.setIfInBounds_toArray, List.set_cons_zero, List.set_cons_succ])
      refine wpAnyH_ready (rs := [15]) (by kernel_rfl) (by simp) ?_
      refine AllReadyH.cons (o := _) rfl (fun K hK => ?_) AllReadyH.nil
      go_simp
      refine (HMY.out w5 H5.out).mono ?_
      rintro e w6 ⟨rfl, H6⟩
      (try dsimp only)
      refine hK.out _ _ (HCS.out _ H6.out) (fun hHeld => ?_)
      clear hK K
      (try simp only [Act.put, List.getElem_toArray, List.getElem_cons_succ, List.getElem_cons_zero, List.setIfInBounds_toArray, List.set_cons_zero, List.set_cons_succ])
      refine wpAnyH_take (i := 16) (v := .bool false) rfl (by kernel_rfl) (by kernel_rfl) (by kernel_rfl) (fun _ _ _ h => h) (Or.inl ⟨by rfl, fun V hSV => ?_⟩) (by assumption) ?_
      · obtain ⟨x0, x1, x2, x3, x4⟩ := hSV
        go_simp
      (try simp only [Act.put, List.getElem_toArray, List.getElem_cons_succ, List.getElem_cons_zero, List.setIfInBounds_toArray, List.set_cons_zero, List.set_cons_succ])
      refine wpAnyH_take (i := 17) (v := .bool false) rfl (by kernel_rfl) (by kernel_rfl) (by kernel_rfl) (fun _ _ _ h => h) (Or.inl ⟨by rfl, fun V hSV => ?_⟩) (by assumption) ?_
      · obtain ⟨x0, x1, x2, x3, x4⟩ := hSV
        go_simp
      (try simp only [Act.put, List.getElem_toArray, List.getElem_cons_succ, List.getElem_cons_zero, List.setIfInBounds_toArray, List.set_cons_zero, List.set_cons_succ])
      refine wpAnyH_take (i := 18) (v := .bool false) rfl (by kernel_rfl) (by kernel_rfl) (by kernel_rfl) (fun _ _ _ h => h) (Or.inl ⟨by rfl, fun V hSV => ?_⟩) (by assumption) ?_
      · obtain ⟨x0, x1, x2, x3, x4⟩ := hSV
        go_simp
      (try simp only [Act.put, List.getElem_toArray, List.getElem_cons_succ, List.getElem_cons_zero, List.setIfInBounds_toArray, List.set_cons_zero, List.set_cons_succ])
      refine wpAnyH_take (i := 19) (v := .slice (some ⟨g, off, none⟩) C.bn lc) rfl (by kernel_rfl) (by kernel_rfl) (by kernel_rfl) (fun _ _ _ h => h) (Or.inl ⟨by rfl, fun V hSV => ?_⟩) (by assumption) ?_
      · obtain ⟨x0, x1, x2, x3, x4⟩ := hSV
        go_simp
      (try simp only [Act.put, List.getElem_toArray, List.getElem_cons_succ, List.getElem_cons_zero, List.setIfInBounds_toArray, List.set_cons_zero, List.set_cons_succ])
      refine wpAnyH_take (i := 20) (v := .slice (some ⟨g, off, none⟩) C.bn lc) rfl (by kernel_rfl) (by kernel_rfl) (by kernel_rfl) (fun _ _ _ h => h) (Or.inl ⟨by rfl, fun V hSV => ?_⟩) (by assumption) ?_
      · obtain ⟨x0, x1, x2, x3, x4⟩ := hSV
        go_simp
      (try simp only [Act.put, List.getElem_toArray, List.getElem_cons_succ, List.getElem_cons_zero, List.setIfInBounds_toArray, List.set_cons_zero, List.set_cons_succ])
      refine wpAnyH_take (i := 21) (v := .int .i64 (k : Int)) rfl (by kernel_rfl) (by kernel_rfl) (by kernel_rfl) (fun _ _ _ h => h) (Or.inl ⟨by rfl, fun V hSV => ?_⟩) (by assumption) ?_
      · obtain ⟨x0, x1, x2, x3, x4⟩ := hSV
        go_simp
      (try simp only [Act.put, List.getElem_toArray, List.getElem_cons_succ, List.getElem_cons_zero, List.setIfInBounds_toArray, List.set_cons_zero, List.set_cons_succ])
      refine wpAnyH_take (i := 22) (v := .pointer (some ⟨g, off + k * 2, none⟩)) rfl (by kernel_rfl) (by kernel_rfl) (by kernel_rfl) (fun _ _ _ h => h) (Or.inl ⟨by rfl, fun V hSV => ?_⟩) (by assumption) ?_
      · obtain ⟨x0, x1, x2, x3, x4⟩ := hSV
        go_simp
      (try simp only [Act.put, List.getElem_toArray, List.getElem_cons_succ, List.getElem_cons_zero, List.setIfInBounds_toArray, List.set_cons_zero, List.set_cons_succ])
      refine wpAnyH_take (i := 23) (v := .pointer (some ⟨g, off + k * 2, none⟩)) rfl (by kernel_rfl) (by kernel_rfl) (by kernel_rfl) (fun _ _ _ h => h) (Or.inl ⟨by rfl, fun V hSV => ?_⟩) (by assumption) ?_
      · obtain ⟨x0, x1, x2, x3, x4⟩ := hSV
        go_simp
      (try simp only [Act.put, List.getElem_toArray, List.getElem_cons_succ, List.getElem_cons_zero, List.setIfInBounds_toArray, List.set_cons_zero, List.set_cons_succ])
      refine wpAnyH_take (i := 24) (v := .int .i64 s) rfl (by kernel_rfl) (by kernel_rfl) (by kernel_rfl) (fun _ _ _ h => h) (Or.inl ⟨by rfl, fun V hSV => ?_⟩) (by assumption) ?_
      · obtain ⟨x0, x1, x2, x3, x4⟩ := hSV
        go_simp
      (try simp only [Act.put, List.getElem_toArray, List.getElem_cons_succ, List.getElem_cons_zero, List.setIfInBounds_toArray, List.set_cons_zero, List.set_cons_succ])
      refine wpAnyH_take (i := 26) (v := .pointer (some ⟨H, 1, none⟩)) rfl (by kernel_rfl) (by kernel_rfl) (by kernel_rfl) (fun _ _ _ h => h) (Or.inl ⟨by rfl, fun V hSV => ?_⟩) (by assumption) ?_
      · obtain ⟨x0, x1, x2, x3, x4⟩ := hSV
        go_simp
      (try simp only [Act.put, List.getElem_toArray, List.getElem_cons_succ, List.getElem_cons_zero, List.setIfInBounds_toArray, List.set_cons_zero, List.set_cons_succ])
      refine wpAnyH_take (i := 27) (v := .int .i64 m) rfl (by kernel_rfl) (by kernel_rfl) (by kernel_rfl) (fun _ _ _ h => h) (Or.inl ⟨by rfl, fun V hSV => ?_⟩) (by assumption) ?_
      · obtain ⟨x0, x1, x2, x3, x4⟩ := hSV
        go_simp
      (try simp only [Act.put, List.getElem_toArray, List.getElem_cons_succ, List.getElem_cons_zero, List.setIfInBounds_toArray, List.set_cons_zero, List.set_cons_succ])
      refine wpAnyH_ready (rs := [25]) (by kernel_rfl) (by simp) ?_
      refine AllReadyH.cons (o := _) rfl (fun K hK => ?_) AllReadyH.nil
      go_simp
      refine (HON.out w6 H6.out).mono ?_
      rintro e w7 ⟨rfl, H7⟩
      (try dsimp only)
      refine hK.out _ _ (HCS.out _ H7.out) (fun hHeld => ?_)
      clear hK K
      (try simp only [Act.put, List.getElem_toArray, List.getElem_cons_succ, List.getElem_cons_zero, List.setIfInBounds_toArray, List.set_cons_zero, List.set_cons_succ])
      refine wpAnyH_take (i := 28) (v := .bool false) rfl (by kernel_rfl) (by kernel_rfl) (by kernel_rfl) (fun _ _ _ h => h) (Or.inl ⟨by rfl, fun V hSV => ?_⟩) (by assumption) ?_
      · obtain ⟨x0, x1, x2, x3, x4⟩ := hSV
        go_simp
      (try simp only [Act.put, List.getElem_toArray, List.getElem_cons_succ, List.getElem_cons_zero, List.setIfInBounds_toArray, List.set_cons_zero, List.set_cons_succ])
      refine wpAnyH_take (i := 29) (v := .bool false) rfl (by kernel_rfl) (by kernel_rfl) (by kernel_rfl) (fun _ _ _ h => h) (Or.inl ⟨by rfl, fun V hSV => ?_⟩) (by assumption) ?_
      · obtain ⟨x0, x1, x2, x3, x4⟩ := hSV
        go_simp
      (try simp only [Act.put, List.getElem_toArray, List.getElem_cons_succ, List.getElem_cons_zero, List.setIfInBounds_toArray, List.set_cons_zero, List.set_cons_succ])
      refine wpAnyH_done (by kernel_rfl) ?_ _
      go_wp2_with fail
      go_roundw
      case rel => exact ⟨k + 1, by go_num, by omega, HK2, Lib.hid (below_then HZY.out H7.out)⟩
      case measure => simp [RowKit.intOf]; omega
end Go.Proofs.Ytdbhdlgoecpeaaa.Quo.Im
