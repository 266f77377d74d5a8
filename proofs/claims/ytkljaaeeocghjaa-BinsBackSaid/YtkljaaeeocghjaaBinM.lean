/- BinsPlay, for any bins that keep their contracts. -/
import Derived.Test.YtkljaaeeocghjaaBinK
import Derived.Deep.RegionHeld3
namespace Go.Proofs.Ytkljaaeeocghjaa.Bins
open Go.RowKit Go.Lib
open Goods (St Sts OwnS)

variable {I : Impl}
section
variable {w W : World} {Q : Nat} {l : List Lt} {rows : List (Value × List Lt)} {cl : List Cl} {K : List (Nat × Obj)}
theorem pl_same {l1 : List Lt} {a b : Option Addr} {n c m d : Nat} (h : PS I w W Q l ((.slice a n c, l1) :: rows) cl K) (hm : (Value.slice b m d, l1) ∈ rows) (hl : l1.length ≤ 1000) :
    Calls Try.prog 13 #[.slice a n c, .slice b m d] W fun e w' => e = .returned (.bool true) ∧ Hid (PS I w w' Q l rows cl K) := by
  refine (same_at (h.own (by simp)) (h.own (by simp [hm])) hl).mono ?_
  rintro e w' ⟨rfl, hb⟩
  exact ⟨rfl, Lib.hid (h.under hb.out).rest⟩
theorem pl_do {lx : List Lt} {a : Option Addr} {n c : Nat} (x : Act) (h : PS I w W Q l ((.slice a n c, lx) :: rows) cl K) (hg : Good lx) (hl : lx.length ≤ 900) (hx : ActOk W x) (hm : x.sm ≤ 100) :
    Calls Try.prog 11 #[.slice a n c, actV x] W fun e w' => ∃ a' n' c', e = .returned (.tuple #[.slice a' n' c', .int .i64 (doE lx x)]) ∧ Hid (PS I w w' Q l ((.slice a' n' c', doL lx x) :: rows) cl K) := by
  have ho := h.own (v := .slice a n c) (lx := lx) (by simp)
  refine (ddo x W ho (by have := (own_form ho).1; omega) hg hx (by omega)).mono ?_
  rintro e w' ⟨a', n', c', rfl, hR⟩
  exact ⟨a', n', c', rfl, Lib.hid (h.res hR.out)⟩
end
/-- Both loads. -/
theorem pl_load (I : Impl) (a : Option Addr) (n c : Nat) (l : List Lt) (w : World) (hs : Lots w a l) (hl : l.length = n) (hn : n ≤ 1000) (hi : InL l) :
    (loadE l = 0 → Calls Try.prog 9 #[.slice a n c] w fun e w' => ∃ Q, e = .returned (.tuple #[ptr Q, .int .i64 0]) ∧ Hid (PS I w w' Q (loadL l) [] [] [])) ∧
    (loadE l ≠ 0 → Calls Try.prog 9 #[.slice a n c] w fun e w' => e = .returned (.tuple #[.pointer none, .int .i64 (loadE l)]) ∧ Hid (Below w.heap.size w w')) := by
  constructor
  · intro h0
    refine (I.load a n c l w hs hl hn hi).mono ?_
    rintro e w' ⟨p, rfl, hb, _, h2⟩
    obtain ⟨Q, F, R, rfl, h3, h4⟩ := h2 h0
    exact ⟨Q, by rw [h0], Lib.hid ⟨F, R, h3, hb, h4, fun r hr => (by cases hr), fun c hc => (by cases hc), fun b hb => (by cases hb)⟩⟩
  · intro h0
    refine (I.load a n c l w hs hl hn hi).mono ?_
    rintro e w' ⟨p, rfl, hb, h1, _⟩
    obtain rfl := h1 h0
    exact ⟨rfl, Lib.hid hb⟩
theorem pl_rload {I : Impl} {w W : World} {Q : Nat} {l1 : List Lt} {rows : List (Value × List Lt)} {cl : List Cl} {K : List (Nat × Obj)} (a : Option Addr) (n c : Nat) (l : List Lt) (h : PS I w W Q l1 rows cl K) (hs : Lots w a l) (hl : l.length = n) (hn : n ≤ 1000) :
    Calls Try.prog 10 #[.slice a n c] W fun e w' => ∃ a' n' c', e = .returned (.tuple #[.slice a' n' c', .int .i64 (loadE l)]) ∧ Hid (PS I w w' Q l1 ((.slice a' n' c', loadL l) :: rows) cl K) := by
  refine (dload a n c l W (hs.under h.below) hl hn).mono ?_
  rintro e w' ⟨a', n', c', rfl, hR⟩
  have h0 : PS I w W Q l1 ((.slice none 0 0, []) :: rows) cl K := by
    obtain ⟨F, R, h⟩ := h
    refine ⟨F, R, h.pq, h.below, h.new, fun r hr => ?_, h.clone, h.kept⟩
    rcases List.mem_cons.1 hr with rfl | hr
    · exact ⟨World.ownsRow_nil _ _ _ _, fun k hk => by cases hk⟩
    · exact h.row r hr
  exact ⟨a', n', c', rfl, Lib.hid (h0.res (res_new hR.out.1 hR.out.2))⟩
set_option maxRecDepth 100000 in
set_option maxHeartbeats 16000000 in
theorem binsPlay_in (I : Impl) (a : Option Addr) (n c : Nat) (l : List Lt) (b : Option Addr) (m d : Nat) (xs : List Act) (x : Bn) (w : World) (hl : l.length = n) (hs : Lots w a l) (hi : InL l) (hm : xs.length = m) (hx : Acts w b xs) (hix : ∀ x ∈ xs, InAct x) (hb : InB x) :
    Calls Try.prog 3 #[.slice a n c, .slice b m d, bV x] w fun e w' => e = .returned (.bool true) ∧ Below w.heap.size w w' := by
  obtain ⟨V, X, hV, hX, HP⟩ := box_bin w x
  have HXB : Hid (Below w.heap.size w X) := Lib.hid (by rw [← hX]; exact (Below.refl _ w).alloc (Nat.le_refl _) _)
  have HAW0 := awake_at I w
  have HAW : Hid (∀ W, Below X.heap.size X W → Calls Try.prog 8 #[] W fun e w' => e = .returned (.bool true) ∧ Hid (Below w.heap.size w w')) := Lib.hid (fun W hW => HAW0.out W (below_then HXB.out hW))
  clear HAW0
  by_cases h12 : (12 : Int) < (n : Int)
  · have H0 := Lib.hid (HAW.out X (Below.refl _ _))
    have d1 : decide ((12 : Int) < (n : Int)) = true := decide_eq_true h12
    clear hl hs hi hm hx hix HAW hb
    go_enter Try.func3, Try.ntmps3
    go_wp2_with fail
    clear hX hV
    refine H0.out.mono ?_
    rintro e w1 ⟨rfl, B1⟩
    go_wp2_with fail
    go_ret
    exact ⟨rfl, B1.out⟩
  have d1 : decide ((12 : Int) < (n : Int)) = false := decide_eq_false h12
  have HFW := Lib.hid (dfew b m d xs 25 X (hx.under HXB.out) hm (by omega))
  obtain ⟨hyes, hno⟩ := pl_load I a n c l X (hs.under HXB.out) hl (by omega) hi
  have hn : n ≤ 12 := by omega
  by_cases h0 : loadE l = 0
  · have HLD := Lib.hid (hyes h0)
    have HRL : Hid (∀ W Q, PS I X W Q (loadL l) [] [] [] → Calls Try.prog 10 #[.slice a n c] W fun e w' => ∃ a' n' c', e = .returned (.tuple #[.slice a' n' c', .int .i64 0]) ∧ Hid (PS I X w' Q (loadL l) [(.slice a' n' c', loadL l)] [] [])) := Lib.hid (fun W Q h => by
      have := pl_rload a n c l h (hs.under HXB.out) hl (by omega)
      rw [h0] at this
      exact this)
    obtain ⟨hg0, hl0⟩ := good_load h0
    have HG := Lib.hid hg0
    have HLE : Hid ((loadL l).length ≤ 12) := Lib.hid (by omega)
    have HX := acts_all (hx.under HXB.out)
    have HM := Lib.hid hm
    have HIX := Lib.hid hix
    have HBI := Lib.hid hb
    clear hl hs hi hm hx hix hyes hno h0 hg0 hl0 h12 hn hb
    go_enter Try.func3, Try.ntmps3
    go_wp2_with fail
    clear hX hV
    refine HFW.out.mono ?_
    rintro e w0 ⟨f, rfl, HF, rfl⟩
    rcases f with _ | _
    · have H0 := Lib.hid (HAW.out X (Below.refl _ _))
      go_wp2_with fail
      refine H0.out.mono ?_
      rintro e w1 ⟨rfl, B1⟩
      go_wp2_with fail
      go_ret
      exact ⟨rfl, B1.out⟩
    have HFM : Hid (m ≤ 25 ∧ ∀ x ∈ xs, x.sm ≤ 12) := Lib.hid (HF.out rfl)
    have hm1 : (m : Int) ≤ 25 := by have := HFM.out.1; omega
    clear HF HFW
    go_wp2_with fail
    refine HLD.out.mono ?_
    rintro e w1 ⟨Q, rfl, P1⟩
    go_wp2_with fail
    refine (HRL.out w1 Q P1.out).mono ?_
    rintro e w2 ⟨a0, n0, c0, rfl, P2⟩
    go_wp2_with fail
    go_loopw [9, 11] (fun s t wr => ∃ (a1 : Option Addr) (n1 c1 i : Nat), s = .slice a1 n1 c1 ∧ t = .int .i64 i ∧ i ≤ m ∧ Hid (∃ lx, PS I X wr Q lx [(.slice a1 n1 c1, lx)] [] [] ∧ Good lx ∧ lx.length ≤ 12 + 14 * i)) (fun _ t _ => m - (RowKit.intOf t).toNat)
    case atStart => exact ⟨a0, n0, c0, 0, rfl, rfl, by omega, Lib.hid ⟨_, P2.out, HG.out, by have := HLE.out; omega⟩⟩
    case round =>
      clear P1 P2 HLD HRL HG HLE
      obtain ⟨a1, n1, c1, i, rfl, rfl, hi, HI⟩ := hrel
      have hi0 : (0 : Int) ≤ (i : Int) := by omega
      obtain ⟨lx, hP, hg, hll⟩ := HI.out
      have h900 : lx.length ≤ 900 := by have := HFM.out.1; omega
      clear HI
      by_cases hlt : i < m
      · have hlt2 : (i : Int) < (m : Int) := by omega
        have dlt : decide ((i : Int) < (m : Int)) = true := decide_eq_true hlt2
        obtain ⟨g, off, y, rfl, hyi, HOK, HC⟩ := HX.out i (by rw [HM.out]; exact hlt)
        obtain ⟨k0, k1, ⟨k2, k3, k4, k5⟩, ⟨k6, k7, k8, k9⟩, k10⟩ := HC.out wr hP.below
        have hiy := HIX.out y (List.mem_of_getElem? hyi.out)
        have hym := HFM.out.2 y (List.mem_of_getElem? hyi.out)
        have hgd := good_do hg y
        have hys : y.s.length = y.sm := HOK.out.1
        have h900y : (doL lx y).length ≤ 900 := by have := HFM.out.1; omega
        have HD := Lib.hid (pl_do y hP hg h900 (HOK.out.under hP.below) (by omega))
        obtain ⟨q2, hq2⟩ : ∃ q, doE lx y = q := ⟨_, rfl⟩
        have HPD : Hid (∀ W s, PS I X W Q lx [(s, doL lx y)] [] [] → Calls Try.prog 12 #[ptr Q, actV y] W fun e w' => e = .returned (.int .i64 q2) ∧ Hid (PS I X w' Q (doL lx y) [(s, doL lx y)] [] [])) := Lib.hid (fun W s h => by
          rw [← hq2]
          exact pdo y h hg h900 hiy HOK.out (by omega))
        rw [hq2] at HD
        obtain ⟨ly, hly⟩ : ∃ ly, doL lx y = ly := ⟨_, rfl⟩
        rw [hly] at HD HPD hgd h900y
        have h1000 : ly.length ≤ 1000 := by omega
        obtain ⟨z1, hz1⟩ : ∃ z, qty ly x = z := ⟨_, rfl⟩
        obtain ⟨z2, hz2⟩ : ∃ z, tot ly x.t = z := ⟨_, rfl⟩
        have hbi := HBI.out
        have HLI : Hid (∀ W rows, PS I X W Q ly rows [] [] → Calls Try.prog 14 #[ptr Q] W fun e w' => ∃ a n c, e = .returned (.slice a n c) ∧ Hid (PS I X w' Q ly ((.slice a n c, ly) :: rows) [] [])) := Lib.hid (fun W rows h => (bs_list h hgd.1 h1000).mono fun _ _ ⟨a, n, c, e, h2⟩ => ⟨a, n, c, e, Lib.hid h2.out.1⟩)
        have HSA : Hid (∀ W a n c b m d, PS I X W Q ly [(.slice a n c, ly), (.slice b m d, ly)] [] [] → Calls Try.prog 13 #[.slice a n c, .slice b m d] W fun e w' => e = .returned (.bool true) ∧ Hid (PS I X w' Q ly [(.slice b m d, ly)] [] [])) := Lib.hid (fun W a n c b m d h => pl_same h (by simp) h1000)
        have HQT : Hid (∀ W rows, PS I X W Q ly rows [] [] → Calls Try.prog 15 #[ptr Q, bV x] W fun e w' => e = .returned (.int .i64 z1) ∧ Hid (PS I X w' Q ly rows [] [])) := Lib.hid (fun W rows h => by rw [← hz1]; exact bs_qty x h hgd.1 h1000 hbi)
        have HQR : Hid (∀ W a n c, PS I X W Q ly [(.slice a n c, ly)] [] [] → Calls Try.prog 16 #[.slice a n c, bV x] W fun e w' => e = .returned (.int .i64 z1) ∧ Hid (PS I X w' Q ly [(.slice a n c, ly)] [] [])) := Lib.hid (fun W a n c h => by
          obtain ⟨e1, _, _, _, s1⟩ := own_form (h.own (v := .slice a n c) (lx := ly) (by simp))
          rw [← hz1]
          exact (dqty x W s1 e1 (by omega)).mono fun _ _ ⟨e, hb⟩ => ⟨e, Lib.hid (h.under hb)⟩)
        have HTO : Hid (∀ W rows, PS I X W Q ly rows [] [] → Calls Try.prog 17 #[ptr Q, .int .i64 x.t] W fun e w' => e = .returned (.int .i64 z2) ∧ Hid (PS I X w' Q ly rows [] [])) := Lib.hid (fun W rows h => by rw [← hz2]; exact bs_total x.t h hgd.1 h1000 hbi.2.2.2)
        have HTR : Hid (∀ W a n c, PS I X W Q ly [(.slice a n c, ly)] [] [] → Calls Try.prog 18 #[.slice a n c, .int .i64 x.t] W fun e w' => e = .returned (.int .i64 z2) ∧ Hid (PS I X w' Q ly [(.slice a n c, ly)] [] [])) := Lib.hid (fun W a n c h => by
          obtain ⟨e1, _, _, _, s1⟩ := own_form (h.own (v := .slice a n c) (lx := ly) (by simp))
          rw [← hz2]
          exact (dtotal x.t W s1 e1 (by omega) hgd.1).mono fun _ _ ⟨e, hb⟩ => ⟨e, Lib.hid (h.under hb)⟩)
        have HOF : Hid (∀ W rows, PS I X W Q ly rows [] [] → Calls Try.prog 20 #[ptr Q, bV x] W fun e w' => ∃ a n c, e = .returned (.slice a n c) ∧ Hid (PS I X w' Q ly rows [] [] ∧ OwnS w' 0 (.slice a n c) (ofL ly x))) := Lib.hid (fun W rows h => bs_of x h hgd.1 h1000 hbi)
        have HOR : Hid (∀ W a n c s', PS I X W Q ly [(.slice a n c, ly)] [] [] ∧ OwnS W 0 s' (ofL ly x) → Calls Try.prog 21 #[.slice a n c, bV x] W fun e w' => ∃ a' n' c', e = .returned (.slice a' n' c') ∧ Hid (PS I X w' Q ly [(.slice a n c, ly)] [] [] ∧ OwnS w' 0 s' (ofL ly x) ∧ OwnS w' 0 (.slice a' n' c') (ofL ly x))) := Lib.hid (fun W a n c s' h => by
          obtain ⟨e1, _, _, _, s1⟩ := own_form (h.1.own (v := .slice a n c) (lx := ly) (by simp))
          refine (dof x W s1 e1 (by omega) hgd.1).mono ?_
          rintro e w' ⟨a', n', c', rfl, h2⟩
          exact ⟨a', n', c', rfl, Lib.hid ⟨h.1.under h2.out.2, Goods.own_under h.2 h2.out.2, World.ownsRow.mono h2.out.1 (Nat.zero_le _)⟩⟩)
        have hofl : (ofL ly x).length ≤ 1000 := by have := of_length ly x 32; unfold ofL; omega
        have HGS : Hid (∀ W a n c b m d r, PS I X W Q ly r [] [] ∧ OwnS W 0 (.slice a n c) (ofL ly x) ∧ OwnS W 0 (.slice b m d) (ofL ly x) → Calls Try.prog 19 #[.slice a n c, .slice b m d] W fun e w' => e = .returned (.bool true) ∧ Hid (PS I X w' Q ly r [] [])) := Lib.hid (fun W a n c b m d r h => by
          refine (stks_at h.2.1 h.2.2 hofl).mono ?_
          rintro e w' ⟨rfl, hb⟩
          exact ⟨rfl, Lib.hid (h.1.under hb.out)⟩)
        have HPB : Hid (∀ W l rows, PS I X W Q l rows [] [] → W.cell? ⟨V, 0, none⟩ = some (.int .i64 x.o) ∧ W.cell? ⟨V, 1, none⟩ = some (.int .i64 x.d) ∧ W.cell? ⟨V, 2, none⟩ = some (.int .i64 x.p) ∧ W.cell? ⟨V, 3, none⟩ = some (.int .i64 x.t)) := Lib.hid (fun W l rows h => (HP.out W h.below).1)
        have HGL : Hid (Good ly ∧ ly.length ≤ 12 + 14 * (i + 1)) := Lib.hid ⟨hgd.1, by have := hgd.2; omega⟩
        have e2 : (q2 == q2) = true := by simp
        have e3 : (z1 == z1) = true := by simp
        have e4 : (z2 == z2) = true := by simp
        have e5 : (q2 != q2) = false := by simp
        have e6 : (z1 != z1) = false := by simp
        have e7 : (z2 != z2) = false := by simp
        clear hP hg hll h900 hiy hym hgd hys h900y hq2 hly h1000 hz1 hz2 hbi hofl
        go_wp2_with fail
        refine HD.out.mono ?_
        rintro e w3 ⟨a3, n3, c3, rfl, P3⟩
        clear k0 k1 k2 k3 k4 k5 k6 k7 k8 k9 k10
        obtain ⟨k0, k1, ⟨k2, k3, k4, k5⟩, ⟨k6, k7, k8, k9⟩, k10⟩ := HC.out w3 P3.out.below
        go_wp2_with fail
        refine (HPD.out w3 _ P3.out).mono ?_
        rintro e w4 ⟨rfl, P4⟩
        clear k0 k1 k2 k3 k4 k5 k6 k7 k8 k9 k10
        obtain ⟨b0, b1, b2, b3⟩ := HPB.out _ _ _ P4.out
        have P4D : Hid (PS I X w4.drew Q ly [(.slice a3 n3 c3, ly)] [] []) := Lib.hid (P4.out.under (Below.refl _ w4).drew)
        go_wp2_with fail
        go_region_held3 (fun W => W.cell? ⟨V, 0, none⟩ = some (.int .i64 x.o) ∧ W.cell? ⟨V, 1, none⟩ = some (.int .i64 x.d) ∧ W.cell? ⟨V, 2, none⟩ = some (.int .i64 x.p) ∧ W.cell? ⟨V, 3, none⟩ = some (.int .i64 x.t))
          (first | exact HPB.out _ _ _ P4D.out | exact HPB.out _ _ _ P5.out | exact HPB.out _ _ _ P6.out | exact HPB.out _ _ _ P7.out | exact HPB.out _ _ _ P8.out | exact HPB.out _ _ _ P9.out | exact HPB.out _ _ _ P10.out | exact HPB.out _ _ _ P11.out.1 | exact HPB.out _ _ _ P12.out.1 | exact HPB.out _ _ _ P13.out)
          (first
            | (go_at_call 14; refine (HLI.out _ _ P4D.out).mono ?_; rintro e w5 ⟨a5, n5, c5, rfl, P5⟩)
            | (go_at_call 13; refine (HSA.out _ _ _ _ _ _ _ P5.out).mono ?_; rintro e w6 ⟨rfl, P6⟩)
            | (go_at_call 15; refine (HQT.out _ _ P6.out).mono ?_; rintro e w7 ⟨rfl, P7⟩)
            | (go_at_call 16; refine (HQR.out _ _ _ _ P7.out).mono ?_; rintro e w8 ⟨rfl, P8⟩)
            | (go_at_call 17; refine (HTO.out _ _ P8.out).mono ?_; rintro e w9 ⟨rfl, P9⟩)
            | (go_at_call 18; refine (HTR.out _ _ _ _ P9.out).mono ?_; rintro e w10 ⟨rfl, P10⟩)
            | (go_at_call 20; refine (HOF.out _ _ P10.out).mono ?_; rintro e w11 ⟨a11, n11, c11, rfl, P11⟩)
            | (go_at_call 21; refine (HOR.out _ _ _ _ _ P11.out).mono ?_; rintro e w12 ⟨a12, n12, c12, rfl, P12⟩)
            | (go_at_call 19; refine (HGS.out _ _ _ _ _ _ _ _ P12.out).mono ?_; rintro e w13 ⟨rfl, P13⟩))
        all_goals
          go_wp2_with fail
          go_roundw
          case rel => exact ⟨a3, n3, c3, i + 1, rfl, by go_num, by omega, Lib.hid ⟨ly, P13.out, HGL.out.1, HGL.out.2⟩⟩
          case measure => simp [RowKit.intOf]; omega
      · obtain rfl : i = m := by omega
        have h1000 : lx.length ≤ 1000 := by omega
        have HLI : Hid (∀ W rows, PS I X W Q lx rows [] [] → Calls Try.prog 14 #[ptr Q] W fun e w' => ∃ a n c, e = .returned (.slice a n c) ∧ Hid (PS I X w' Q lx ((.slice a n c, lx) :: rows) [] [])) := Lib.hid (fun W rows h => (bs_list h hg h1000).mono fun _ _ ⟨a, n, c, e, h2⟩ => ⟨a, n, c, e, Lib.hid h2.out.1⟩)
        have HSA : Hid (∀ W a n c b m d, PS I X W Q lx [(.slice a n c, lx), (.slice b m d, lx)] [] [] → Calls Try.prog 13 #[.slice a n c, .slice b m d] W fun e w' => e = .returned (.bool true) ∧ Hid (Below X.heap.size X w')) := Lib.hid (fun W a n c b m d h => (pl_same h (by simp) h1000).mono fun _ _ ⟨e, h2⟩ => ⟨e, Lib.hid h2.out.below⟩)
        have HPX := Lib.hid hP
        clear hP hg hll h900 h1000
        go_wp2_with fail
        refine (HLI.out wr _ HPX.out).mono ?_
        rintro e w5 ⟨a5, n5, c5, rfl, P5⟩
        go_wp2_with fail
        refine (HSA.out w5 _ _ _ _ _ _ P5.out).mono ?_
        rintro e w6 ⟨rfl, P6⟩
        go_wp2_with fail
        refine (HAW.out w6 P6.out).mono ?_
        rintro e w7 ⟨rfl, P7⟩
        go_wp2_with fail
        go_ret
        exact ⟨rfl, P7.out⟩
  · have HLD := Lib.hid (hno h0)
    have HRL : Hid (∀ W, Below X.heap.size X W → Calls Try.prog 10 #[.slice a n c] W fun e w' => ∃ a' n' c', e = .returned (.tuple #[.slice a' n' c', .int .i64 (loadE l)]) ∧ Hid (Below X.heap.size X w')) := Lib.hid (fun W hW => (dload a n c l W (hs.under (below_then HXB.out hW)) hl (by omega)).mono fun _ _ ⟨a', n', c', e, h⟩ => ⟨a', n', c', e, Lib.hid (below_then hW h.out.2)⟩)
    obtain ⟨er, her⟩ : ∃ er, loadE l = er := ⟨_, rfl⟩
    rw [her] at HLD HRL h0
    have hne : (er == 0) = false := by simpa using h0
    have hnb : (er != 0) = true := by simpa using h0
    have hnz : ¬ er = 0 := h0
    have hee : (er == er) = true := by simp
    have hef : (er != er) = false := by simp
    clear hl hs hi hm hx hix hyes hno h0 h12 hn her hb
    go_enter Try.func3, Try.ntmps3
    go_wp2_with fail
    clear hX hV
    refine HFW.out.mono ?_
    rintro e w0 ⟨f, rfl, _, rfl⟩
    clear HFW
    rcases f with _ | _
    · have H0 := Lib.hid (HAW.out X (Below.refl _ _))
      go_wp2_with fail
      refine H0.out.mono ?_
      rintro e w1 ⟨rfl, B1⟩
      go_wp2_with fail
      go_ret
      exact ⟨rfl, B1.out⟩
    go_wp2_with fail
    refine HLD.out.mono ?_
    rintro e w1 ⟨rfl, B1⟩
    go_wp2_with fail
    refine (HRL.out w1 B1.out).mono ?_
    rintro e w2 ⟨a0, n0, c0, rfl, B2⟩
    go_wp2_with fail
    go_loopw [11] (fun t wr => t = .int .i64 0 ∧ w2 = wr) (fun _ _ => 0)
    case atStart => exact ⟨rfl, rfl⟩
    case round =>
      obtain ⟨rfl, rfl⟩ := hrel
      have HA2 := Lib.hid (HAW.out w2 B2.out)
      by_cases h0 : (0 : Int) < (m : Int)
      · have dlt : decide ((0 : Int) < (m : Int)) = true := decide_eq_true h0
        go_wp2_with fail
        refine HA2.out.mono ?_
        rintro e w5 ⟨rfl, B5⟩
        go_wp2_with fail
        go_ret
        exact ⟨rfl, B5.out⟩
      · have dlt : decide ((0 : Int) < (m : Int)) = false := decide_eq_false h0
        go_wp2_with fail
        refine HA2.out.mono ?_
        rintro e w5 ⟨rfl, B5⟩
        go_wp2_with fail
        go_ret
        exact ⟨rfl, B5.out⟩
end Go.Proofs.Ytkljaaeeocghjaa.Bins
