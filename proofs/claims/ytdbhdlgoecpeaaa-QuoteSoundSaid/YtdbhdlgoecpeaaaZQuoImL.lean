/- The program's Plan; how its Fits stands to the document's. -/
import Derived.Test.YtdbhdlgoecpeaaaZQuoImK
import Derived.Test.YtdbhdlgoecpeaaaZQuoImF
namespace Go.Proofs.Ytdbhdlgoecpeaaa.Quo.Im
open Go.RowKit Go.Lib IRows
open Cat (Cat PB Ba CM CatAt Lim box_cat pOf I64 baV)
open Bom (RunsOk tim tim_blue tim_le tim_nonneg)

theorem jj_of (C : CM) (rs : List Int) (lv m : Int) (w : World) (h : CatAt w C) (hl : Lim C) (hch : Cat.chkC C.p = 0) (hok : ArgOk C.p rs lv) : JJ (jbOf C.p rs lv m) C.bn (tmJ C.p rs lv) (wsJ C.p rs) := by
  have hbn := blues_len C w h
  have hrl : rs.length = C.bn := by rw [hok.1.1, hbn]
  have hb : ∀ k, k < C.bn → ∃ b r, C.p.bs[k]? = some b ∧ rs[k]? = some r ∧ (0 ≤ r ∧ r ≤ 1000) ∧ b ∈ C.p.bs ∧ b.s.length ≤ 12 := fun k hk => by
    have h1 := List.getElem?_eq_getElem (show k < C.p.bs.length by rw [hbn]; exact hk)
    have h2 := List.getElem?_eq_getElem (show k < rs.length by rw [hrl]; exact hk)
    refine ⟨_, _, h1, h2, hok.1.2 _ (List.mem_of_getElem? h2), List.mem_of_getElem? h1, ?_⟩
    obtain ⟨b, hb, e⟩ := List.mem_map.1 (List.mem_of_getElem? h1)
    rw [← e]
    show b.s.length ≤ 12
    rw [(h.1.2.2 b hb).1]
    exact hl.1 b hb
  refine ⟨hbn, fun k hk => rfl, fun k hk => ?_, fun k hk hj x => ?_, fun k hk x hx => ?_, fun k hk => ?_⟩
  · obtain ⟨b, r, h1, h2, h3, h4, _⟩ := hb k hk
    rw [tmJ_at h1 h2, jb_j h2]
    by_cases h0 : 0 < r
    · rw [decide_eq_true h0]
      have := tim_pos ((Cat.chk_zero hch).2.1 b h4) hok.2 ⟨h0, h3.2⟩
      exact decide_eq_true (by omega)
    · rw [decide_eq_false h0]
      have h5 : r = 0 := by omega
      rw [h5]
      unfold tim
      rw [if_pos rfl]
      rfl
  · obtain ⟨b, r, h1, h2, h3, h4, _⟩ := hb k hk
    rw [jb_j h2] at hj
    rw [wsJ_at h1 h2, if_pos (of_decide_eq_true hj)]
    exact wsL_is h1 fun r hr => (hok.1.2 r hr).1
  · have h1 := wsJ_bd hx
    rw [hbn] at h1
    exact h1
  · obtain ⟨b, r, h1, h2, _, _, h5⟩ := hb k hk
    rw [wsJ_at h1 h2]
    split
    · have := wsL_len C.p.bs rs b.s
      omega
    · exact Nat.zero_le _
theorem any_left (J : Jb) {n : Nat} {t : Nat → Int} {ws : Nat → List Int} (hJ : JJ J n t ws) : (left J start = 0 ↔ nx1 (fun k => decide (0 < t k)) n 0 = -1) := by
  rw [nx1_none]
  unfold left
  constructor
  · intro h i _ hi
    have h1 := cntB_zero h i (by rw [hJ.jn]; omega)
    rw [hJ.pos i (by omega)]
    have h2 : (J.j i && !false) = false := h1
    simpa using h2
  · intro h
    have : ∀ m, m ≤ n → cntB (fun k => J.j k && !start.b k) m = 0 := fun m => by
      induction m with
      | zero => intro _; rfl
      | succ m ih =>
        intro hm
        have h1 := h m (Nat.zero_le _) (by omega)
        rw [hJ.pos m (by omega)] at h1
        rw [cntB, ih (by omega)]
        show 0 + (if (J.j m && !false) = true then 1 else 0) = 0
        rw [h1]
        rfl
    exact this J.n (by rw [hJ.jn]; exact Nat.le_refl _)
set_option maxRecDepth 100000 in
set_option maxHeartbeats 16000000 in
theorem planq_im (C : CM) (bay : Int) (a : Option Addr) (m c : Nat) (rs : List Int) (lv : Int) (w : World) (h : CatAt w C) (hl : Lim C) (hr : rs.length = m) (hs : IRow w a rs) (hm : m ≤ 1000) :
    Calls Try.prog 8 #[C.v, .int .i64 bay, .slice a m c, .int .i64 lv] w fun e w' => ∃ a' n' c', e = .returned (.tuple #[.slice a' n' c', .int .i64 (planE C.p bay rs lv)]) ∧ Hid ((planL C.p bay rs lv).length = n' ∧ Spa w' a' (planL C.p bay rs lv) ∧ Below w.heap.size w w') := by
  obtain ⟨V, X, hV, hX, HXB, HP⟩ := box_cat w C
  have HPE : Hid (∀ W, Below X.heap.size X W → W.cell? ⟨V, 0, none⟩ = some (.int .i64 C.ty) ∧ W.cell? ⟨V, 1, none⟩ = some (.slice C.ba C.bn C.bc) ∧ W.cell? ⟨V, 2, none⟩ = some (.int .i64 C.pl) ∧ W.cell? ⟨V, 3, none⟩ = some (.slice C.ya C.yn C.yc) ∧ W.cell? ⟨V, 4, none⟩ = some (.int .i64 C.ch) ∧ W.cell? ⟨V, 5, none⟩ = some (.int .i64 C.f.broker) ∧ W.cell? ⟨V, 6, none⟩ = some (.int .i64 C.f.least) ∧ W.cell? ⟨V, 7, none⟩ = some (.int .i64 C.f.sales)) := Lib.hid fun W hW => HP.out W hW
  obtain ⟨k0, k1, k2, k3, k4, k5, k6, k7⟩ := HPE.out X (Below.refl _ _)
  have HA0 := ask_im C bay a m c rs lv X (h.under HXB.out) hl hr (hs.under HXB.out) hm
  have HBN := Lib.hid (blues_len C w h)
  have hb1 : C.bn ≤ 20 := hl.2.1
  obtain ⟨er, her⟩ : ∃ er, mayQ C.p bay rs lv = er := ⟨_, rfl⟩
  rw [her] at HA0
  have HA := Lib.hid HA0
  by_cases he : er = 0
  case neg =>
    have n1 : (er == 0) = false := by simpa using he
    have n2 : (er != 0) = true := by simpa using he
    obtain ⟨e1, e2⟩ := plan_err (C := C.p) (bay := bay) (rs := rs) (lv := lv) (by rw [her]; exact he)
    rw [e1, e2, her]
    clear e1 e2 her HA0 h hl hr hs hm
    go_enter Try.func8, Try.ntmps8
    go_wp2_with fail
    clear hX hV
    refine HA.out.mono ?_
    rintro e w1 ⟨y, a1, n1', c1, rfl, H1⟩
    obtain ⟨U, Y, hU, hY, HYB, HUC⟩ := box_by w1 y
    clear k0 k1 k2 k3 k4 k5 k6 k7
    go_wp2_with fail
    clear hU hY
    go_ret2
    exact ⟨none, 0, 0, rfl, Lib.hid ⟨rfl, spa_nil _ _, below_then HXB.out (below_then H1.out.1 HYB.out)⟩⟩
  subst he
  obtain ⟨hch, hbay, hok⟩ := may_zero her
  obtain ⟨yv, hyv⟩ : ∃ yv, Cat.bayV C.p bay = yv := ⟨_, rfl⟩
  have hyo : 0 ≤ yv.mf ∧ yv.mf ≤ 8 := by
    obtain ⟨j, hj⟩ := Int.eq_ofNat_of_zero_le (show 0 ≤ bay - 1 by omega)
    obtain rfl : bay = (j : Int) + 1 := by omega
    have hjl : j < C.p.ys.length := by omega
    have h1 := (Cat.bay_yes (List.getElem?_eq_getElem hjl)).2
    rw [h1] at hyv
    subst hyv
    exact (bay_ok hch (List.getElem?_eq_getElem hjl)).1
  have HYV := Lib.hid hyv
  obtain ⟨J, hJ⟩ : ∃ J, jbOf C.p rs lv yv.mf = J := ⟨_, rfl⟩
  have HJJ : Hid (JJ J C.bn (tmJ C.p rs lv) (wsJ C.p rs)) := Lib.hid (by rw [← hJ]; exact jj_of C rs lv yv.mf w h hl hch hok)
  have HFI : Hid (Fine J) := Lib.hid (by rw [← hJ]; exact jb_ok hch hok)
  have HGO : Hid (1 ≤ yv.mf → ∀ p, Ok J p → left J p ≠ 0 → stp J p ≠ none) := Lib.hid fun h1 p hp h0 => by rw [← hJ] at hp h0 ⊢; exact jb_go hch hok h1 hp h0
  have HAT : Hid (allT J J.n ≤ 2097152000000) := Lib.hid (by rw [← hJ]; exact (jb_all rs lv yv.mf (by rw [HBN.out]; exact hb1)).2)
  have HJM : Hid (J.m = yv.mf) := Lib.hid (by rw [← hJ]; rfl)
  have HLF : Hid (jobsN C.p rs lv (Cat.bayV C.p bay).mf = left J start) := Lib.hid (by unfold jobsN; rw [hyv, hJ])
  have HMF : Hid ((Cat.bayV C.p bay).mf = yv.mf) := Lib.hid (by rw [hyv])
  have HPF : Hid (∀ F, pl J start = some F → planP C.p bay rs lv = F) := Lib.hid fun F hF => by
    unfold planP
    rw [hyv, hJ, hF]
    rfl
  by_cases hno : 0 < left J start ∧ yv.mf = 0
  · obtain ⟨e1, e2⟩ := plan_slots her (by rw [HLF.out, HMF.out]; exact hno)
    have hnx : nx1 (fun k => decide (0 < tmJ C.p rs lv k)) C.bn 0 ≠ -1 := fun h => by have := (any_left J HJJ.out).2 h; omega
    have HNX : Hid (0 ≤ nx1 (fun k => decide (0 < tmJ C.p rs lv k)) C.bn 0) := Lib.hid (by
      rcases @nx1_in (fun k => decide (0 < tmJ C.p rs lv k)) C.bn 0 with h1 | ⟨i, h1, _⟩
      · exact absurd h1 hnx
      · omega)
    have HM0 : Hid (decide (0 < yv.mf) = false) := Lib.hid (decide_eq_false (by omega))
    rw [e1, e2]
    clear e1 e2 her HA0 h hl hr hs hm hch hbay hok hyv hyo hJ hno hnx
    go_enter Try.func8, Try.ntmps8
    go_wp2_with fail
    clear hX hV
    refine HA.out.mono ?_
    rintro e w1 ⟨y, a1, n1, c1, rfl, H1⟩
    obtain ⟨h1, rfl, h3⟩ := H1.out.2 (by first | rfl | trivial)
    rw [HYV.out] at h1
    subst h1
    obtain ⟨U, Y, hU, hY, HYB, HUC⟩ := box_by w1 y
    obtain ⟨u0, u1, u2, u3⟩ := HUC.out Y (Below.refl _ _)
    have HMK := Lib.hid (makes_im y Y false HM0.out)
    have HJY := Lib.hid (h3.under HYB.out)
    clear k0 k1 k2 k3 k4 k5 k6 k7 h3
    go_wp2_with fail
    clear hU hY
    refine HMK.out.mono ?_
    rintro e w2 ⟨rfl, H2⟩
    have HAJ := Lib.hid (any_jb a1 C.bn c1 (tmJ C.p rs lv) (wsJ C.p rs) w2 (HJY.out.under H2) hb1 true (.inr ⟨HNX.out, rfl⟩))
    have HY2 : Hid (Below Y.heap.size Y w2) := Lib.hid H2
    clear u0 u1 u2 u3 H2
    go_wp2_with fail
    refine HAJ.out.mono ?_
    rintro e w3 ⟨rfl, H3⟩
    go_wp2_with fail
    go_ret2
    exact ⟨none, 0, 0, rfl, Lib.hid ⟨rfl, spa_nil _ _, below_then HXB.out (below_then H1.out.1 (below_then HYB.out (below_then HY2.out H3)))⟩⟩
  obtain ⟨F, hF⟩ := jb_plan (lv := lv) (m := yv.mf) hch hok (by rw [hJ]; omega)
  rw [hJ] at hF
  obtain ⟨e1, e2⟩ := plan_ok her (by rw [HLF.out, HMF.out]; exact hno)
  rw [HPF.out F hF, HBN.out] at e2
  have HF := Lib.hid hF
  have HM1 : Hid (left J start ≠ 0 → 1 ≤ yv.mf) := Lib.hid fun h => by omega
  have HPL : Hid (∀ (W : World) (a1 : Option Addr) (c1 : Nat), JobsAt W a1 C.bn (tmJ C.p rs lv) (wsJ C.p rs) → Calls Try.prog 23 #[.slice a1 C.bn c1, .int .i64 yv.mf] W fun e w' => ∃ (a' : Option Addr) (n' : Nat), e = .returned (.slice a' n' C.bn) ∧ Hid (n' = C.bn ∧ Spa w' a' (spans C.bn F.s F.e) ∧ Below W.heap.size W w')) := Lib.hid fun W a1 c1 hj =>
    plan_im J a1 C.bn c1 (tmJ C.p rs lv) (wsJ C.p rs) yv.mf W HJJ.out HFI.out HGO.out HM1.out HJM.out hyo HAT.out hj hb1 F HF.out
  have hcase : (∃ _ : Unit, decide (0 < yv.mf) = true) ∨ (decide (0 < yv.mf) = false ∧ nx1 (fun k => decide (0 < tmJ C.p rs lv k)) C.bn 0 = -1) := by
    by_cases h0 : 0 < yv.mf
    · exact .inl ⟨(), decide_eq_true h0⟩
    · exact .inr ⟨decide_eq_false h0, (any_left J HJJ.out).1 (by omega)⟩
  rw [e1, e2]
  clear e1 e2 her HA0 h hl hr hs hm hch hbay hok hyv hyo hJ hno hF
  rcases hcase with ⟨_, hq⟩ | ⟨hq, hnx⟩
  · have HM0 := Lib.hid hq
    clear hq
    go_enter Try.func8, Try.ntmps8
    go_wp2_with fail
    clear hX hV
    refine HA.out.mono ?_
    rintro e w1 ⟨y, a1, n1, c1, rfl, H1⟩
    obtain ⟨h1, rfl, h3⟩ := H1.out.2 (by first | rfl | trivial)
    rw [HYV.out] at h1
    subst h1
    obtain ⟨U, Y, hU, hY, HYB, HUC⟩ := box_by w1 y
    obtain ⟨u0, u1, u2, u3⟩ := HUC.out Y (Below.refl _ _)
    have HMK := Lib.hid (makes_im y Y true HM0.out)
    have HJY := Lib.hid (h3.under HYB.out)
    clear k0 k1 k2 k3 k4 k5 k6 k7 h3
    go_wp2_with fail
    clear hU hY
    refine HMK.out.mono ?_
    rintro e w2 ⟨rfl, H2⟩
    have HY2 : Hid (Below Y.heap.size Y w2) := Lib.hid H2
    clear u0 u1 u2 u3 H2
    obtain ⟨u0, u1, u2, u3⟩ := HUC.out w2 HY2.out
    have HPL2 := Lib.hid (HPL.out w2 a1 c1 (HJY.out.under HY2.out))
    go_wp2_with fail
    refine HPL2.out.mono ?_
    rintro e w4 ⟨a4, n4, rfl, H4⟩
    obtain ⟨rfl, h5, h6⟩ := H4.out
    have HE := Lib.hid (And.intro h5 h6)
    clear h5 h6 u0 u1 u2 u3
    go_wp2_with fail
    go_ret2
    exact ⟨a4, C.bn, C.bn, rfl, Lib.hid ⟨spans_len _ _ _, HE.out.1, below_then HXB.out (below_then H1.out.1 (below_then HYB.out (below_then HY2.out HE.out.2)))⟩⟩
  · have HM0 := Lib.hid hq
    have HNX := Lib.hid hnx
    clear hq hnx
    go_enter Try.func8, Try.ntmps8
    go_wp2_with fail
    clear hX hV
    refine HA.out.mono ?_
    rintro e w1 ⟨y, a1, n1, c1, rfl, H1⟩
    obtain ⟨h1, rfl, h3⟩ := H1.out.2 (by first | rfl | trivial)
    rw [HYV.out] at h1
    subst h1
    obtain ⟨U, Y, hU, hY, HYB, HUC⟩ := box_by w1 y
    obtain ⟨u0, u1, u2, u3⟩ := HUC.out Y (Below.refl _ _)
    have HMK := Lib.hid (makes_im y Y false HM0.out)
    have HJY := Lib.hid (h3.under HYB.out)
    clear k0 k1 k2 k3 k4 k5 k6 k7 h3
    go_wp2_with fail
    clear hU hY
    refine HMK.out.mono ?_
    rintro e w2 ⟨rfl, H2⟩
    have HY2 : Hid (Below Y.heap.size Y w2) := Lib.hid H2
    have HAJ := Lib.hid (any_jb a1 C.bn c1 (tmJ C.p rs lv) (wsJ C.p rs) w2 (HJY.out.under H2) hb1 false (.inl ⟨HNX.out, rfl⟩))
    clear u0 u1 u2 u3 H2
    go_wp2_with fail
    refine HAJ.out.mono ?_
    rintro e w3 ⟨rfl, H3⟩
    have HY3 : Hid (Below Y.heap.size Y w3) := Lib.hid (below_then HY2.out H3)
    obtain ⟨u0, u1, u2, u3⟩ := HUC.out w3 HY3.out
    have HPL2 := Lib.hid (HPL.out w3 a1 c1 (HJY.out.under HY3.out))
    clear H3
    go_wp2_with fail
    refine HPL2.out.mono ?_
    rintro e w4 ⟨a4, n4, rfl, H4⟩
    obtain ⟨rfl, h5, h6⟩ := H4.out
    have HE := Lib.hid (And.intro h5 h6)
    clear h5 h6 u0 u1 u2 u3
    go_wp2_with fail
    go_ret2
    exact ⟨a4, C.bn, C.bn, rfl, Lib.hid ⟨spans_len _ _ _, HE.out.1, below_then HXB.out (below_then H1.out.1 (below_then HYB.out (below_then HY3.out HE.out.2)))⟩⟩
/-! Fits -/
/-- What the program asks of a job's time. -/
def tkB (t s e : Int) : Bool := if 0 < t then decide (0 ≤ s) && decide (e = s + t) else decide (s = 0) && decide (e = 0)
structure Good (n : Nat) (t : Nat → Int) (ws : Nat → List Int) (m : Int) (l : List Sp) (k : Nat) : Prop where
  tk : tkB (t k) (sAt l k) (eAt l k) = true
  ws : (ws k).all (okW l (sAt l k)) = true
  rm : (cntB (onT l (sAt l k)) n : Int) ≤ m
theorem fits_prog {J : Jb} {n : Nat} {t : Nat → Int} {ws : Nat → List Int} {l : List Sp} (hJ : JJ J n t ws) (hF : Fine J) (hwj : ∀ k x, J.w k x = true → J.j x = true) (hw0 : ∀ k, k < n → J.j k = false → ws k = []) (hm : 0 ≤ J.m) :
    FitsJ J (sAt l) (eAt l) ↔ ∀ k, k < n → Good n t ws J.m l k := by
  have htk : ∀ k, k < n → (tkB (t k) (sAt l k) (eAt l k) = true ↔ Tk J (sAt l) (eAt l) k) := fun k hk => by
    unfold tkB Tk
    have h1 := hJ.pos k hk
    rw [hJ.jt k hk] at h1 ⊢
    by_cases h0 : 0 < J.t k
    · rw [decide_eq_true h0] at h1
      rw [if_pos h0, if_pos h1.symm, Bool.and_eq_true, decide_eq_true_iff, decide_eq_true_iff]
    · rw [decide_eq_false h0] at h1
      rw [if_neg h0, if_neg (by rw [← h1]; simp), Bool.and_eq_true, decide_eq_true_iff, decide_eq_true_iff]
  have hs0 : ∀ k, k < n → Tk J (sAt l) (eAt l) k → 0 ≤ sAt l k := fun k hk h => by
    unfold Tk at h
    split at h
    · exact h.1
    · rw [h.1]; exact Int.le_refl _
  have hon : (∀ k, k < n → Tk J (sAt l) (eAt l) k) → ∀ k, k < n → ∀ x, x < n → onT l (sAt l k) x = onF J (sAt l) (eAt l) k x := fun hT k hk x hx => by
    unfold onT onF
    cases hj : J.j x with
    | true => rfl
    | false =>
      have h1 := hT x hx
      unfold Tk at h1
      rw [if_neg (by rw [hj]; simp)] at h1
      have h2 := hs0 k hk (hT k hk)
      rw [h1.2, decide_eq_false (show ¬ sAt l k < 0 by omega), Bool.and_false]
      rfl
  rw [fits_iff]
  constructor
  · rintro ⟨h1, h2⟩ k hk
    have hT : ∀ k, k < n → Tk J (sAt l) (eAt l) k := fun k hk => h1 k (by rw [hJ.jn]; exact hk)
    refine ⟨(htk k hk).2 (hT k hk), ?_, ?_⟩
    · cases hj : J.j k with
      | false => rw [hw0 k hk hj]; rfl
      | true =>
        rw [List.all_eq_true]
        intro x hx
        obtain ⟨h3, h4⟩ := hJ.bd k hk x hx
        obtain ⟨y, rfl⟩ := Int.eq_ofNat_of_zero_le h3
        have hy : y < n := by omega
        have hw := (hJ.jws k hk hj y).1 hx
        have h5 := (h2 k (by rw [hJ.jn]; exact hk) hj).1 y (by rw [hJ.jn]; exact hy) hw
        have h6 := hT y hy
        unfold Tk at h6
        rw [if_pos (hwj k y hw)] at h6
        have h7 := hF.tj y (by rw [hJ.jn]; exact hy) (hwj k y hw)
        unfold okW
        rw [Int.toNat_natCast, decide_eq_true (show 0 < eAt l y by omega), decide_eq_true h5]
        rfl
    · by_cases h0 : cntB (onT l (sAt l k)) n = 0
      · rw [h0]
        exact hm
      · have hex : ∃ x, x < n ∧ onT l (sAt l k) x = true := Classical.byContradiction fun hno => h0 (by
          have : ∀ m, m ≤ n → cntB (onT l (sAt l k)) m = 0 := fun m => by
            induction m with
            | zero => intro _; rfl
            | succ m ih =>
              intro hm
              rw [cntB, ih (by omega)]
              cases hv : onT l (sAt l k) m with
              | false => rfl
              | true => exact absurd ⟨m, by omega, hv⟩ hno
          exact this n (Nat.le_refl _))
        cases hj : J.j k with
        | true =>
          have h3 := (h2 k (by rw [hJ.jn]; exact hk) hj).2
          rw [cntB_congr (g := onF J (sAt l) (eAt l) k) n fun i hi => hon hT k hk i hi]
          rw [hJ.jn] at h3
          exact h3
        | false =>
          obtain ⟨x, hx, hox⟩ := hex
          have h4 := hT k hk
          unfold Tk at h4
          rw [if_neg (by rw [hj]; simp)] at h4
          have h5 := hox
          rw [hon hT k hk x hx] at h5
          unfold onF at h5
          rw [Bool.and_eq_true, Bool.and_eq_true, decide_eq_true_iff] at h5
          have h6 := hs0 x hx (hT x hx)
          have h7 : sAt l x = sAt l k := by have := h5.2.1; omega
          have h3 := (h2 x (by rw [hJ.jn]; exact hx) h5.1).2
          rw [hJ.jn] at h3
          rw [← h7, cntB_congr (g := onF J (sAt l) (eAt l) x) n fun i hi => hon hT x hx i hi]
          exact h3
  · intro h
    have hT : ∀ k, k < n → Tk J (sAt l) (eAt l) k := fun k hk => (htk k hk).1 (h k hk).tk
    refine ⟨fun k hk => hT k (by rw [← hJ.jn]; exact hk), fun k hk hj => ?_⟩
    have hk : k < n := by rw [← hJ.jn]; exact hk
    refine ⟨fun x hx hw => ?_, ?_⟩
    · have h1 := List.all_eq_true.1 (h k hk).ws _ ((hJ.jws k hk hj x).2 hw)
      unfold okW at h1
      rw [Int.toNat_natCast, Bool.and_eq_true] at h1
      exact of_decide_eq_true h1.2
    · have h1 := (h k hk).rm
      rw [cntB_congr (g := onF J (sAt l) (eAt l) k) n fun i hi => hon hT k hk i hi] at h1
      rw [hJ.jn]
      exact h1
end Go.Proofs.Ytdbhdlgoecpeaaa.Quo.Im
