/- The program's plan: the walk. -/
import Derived.Test.YtdbhdlgoecpeaaaZQuoImP
namespace Go.Proofs.Ytdbhdlgoecpeaaa.Quo.Im
open Go.RowKit Go.Lib IRows

theorem len_le {n : Nat} {l : List Int} (hn : l.Nodup) (hb : ∀ x ∈ l, 0 ≤ x ∧ x < (n : Int)) : l.length ≤ n := by
  rw [cnt_list (f := fun k => decide ((k : Int) ∈ l)) n l hn hb (fun k _ => by simp)]
  exact cntB_le _ _
theorem PW.start (w : World) (n : Nat) : ∃ A Z1 P Z2 D Z3 N Z, w.heap.size = A ∧ w.alloc (.cells (madeCells #[.int .i64 0, .int .i64 0] (n * 2)) 46) = Z1 ∧ Z1.heap.size = P ∧ Z1.alloc (.cells #[.slice (some ⟨A, 0, none⟩) n n] 32) = Z2 ∧ Z2.heap.size = D ∧ Z2.alloc (.cells #[.slice none 0 0] 29) = Z3 ∧ Z3.heap.size = N ∧ Z3.alloc (.cells #[.int .i64 0] 3) = Z ∧ Hid (PW w Z A P D N N n start (.slice none 0 0) []) := by
  refine ⟨_, _, _, _, _, _, _, _, rfl, rfl, rfl, rfl, rfl, rfl, rfl, rfl, Lib.hid ?_⟩
  have g1 := heap_alloc_new w (.cells (madeCells #[.int .i64 0, .int .i64 0] (n * 2)) 46)
  have b1 : Below w.heap.size w (w.alloc (.cells (madeCells #[.int .i64 0, .int .i64 0] (n * 2)) 46)) := (Below.refl _ w).alloc (Nat.le_refl _) _
  have s1 : (w.alloc (.cells (madeCells #[.int .i64 0, .int .i64 0] (n * 2)) 46)).heap.size = w.heap.size + 1 := by simp
  generalize w.alloc (.cells (madeCells #[.int .i64 0, .int .i64 0] (n * 2)) 46) = Z1 at g1 b1 s1
  have g2 := heap_alloc_new Z1 (.cells #[.slice (some ⟨w.heap.size, 0, none⟩) n n] 32)
  have b2 : Below Z1.heap.size Z1 (Z1.alloc (.cells #[.slice (some ⟨w.heap.size, 0, none⟩) n n] 32)) := (Below.refl _ Z1).alloc (Nat.le_refl _) _
  have s2 : (Z1.alloc (.cells #[.slice (some ⟨w.heap.size, 0, none⟩) n n] 32)).heap.size = Z1.heap.size + 1 := by simp
  generalize Z1.alloc (.cells #[.slice (some ⟨w.heap.size, 0, none⟩) n n] 32) = Z2 at g2 b2 s2
  have g3 := heap_alloc_new Z2 (.cells #[.slice none 0 0] 29)
  have b3 : Below Z2.heap.size Z2 (Z2.alloc (.cells #[.slice none 0 0] 29)) := (Below.refl _ Z2).alloc (Nat.le_refl _) _
  have s3 : (Z2.alloc (.cells #[.slice none 0 0] 29)).heap.size = Z2.heap.size + 1 := by simp
  generalize Z2.alloc (.cells #[.slice none 0 0] 29) = Z3 at g3 b3 s3
  have g4 := heap_alloc_new Z3 (.cells #[.int .i64 0] 3)
  have b4 : Below Z3.heap.size Z3 (Z3.alloc (.cells #[.int .i64 0] 3)) := (Below.refl _ Z3).alloc (Nat.le_refl _) _
  have s4 : (Z3.alloc (.cells #[.int .i64 0] 3)).heap.size = Z3.heap.size + 1 := by simp
  generalize Z3.alloc (.cells #[.int .i64 0] 3) = Z at g4 b4 s4
  have e3 := (b4.block Z2.heap.size (by omega)).trans g3
  have e2 := ((below_then b3 b4).block Z1.heap.size (by omega)).trans g2
  have e1 := ((below_then b2 (below_then b3 b4)).block w.heap.size (by omega)).trans g1
  exact ⟨below_then b1 (below_then b2 (below_then b3 b4)), ⟨fun i hi => ⟨cell_block e1 (made_two _ _ _ _ hi).1, free_block _ e1⟩, fun i hi => ⟨cell_block e1 (made_two _ _ _ _ hi).2, free_block _ e1⟩⟩, cell_block (j := 0) e2 rfl, ⟨cell_block (j := 0) e3 rfl, free_block 0 e3⟩, ⟨cell_block (j := 0) g4 rfl, free_block 0 g4⟩, World.ownsRow_nil _ _ _ _, by omega, fun e => by cases e⟩
set_option maxRecDepth 100000 in
set_option maxHeartbeats 64000000 in
theorem plan_im (J : Jb) (ja : Option Addr) (n jc : Nat) (t : Nat → Int) (ws : Nat → List Int) (m : Int) (w : World) (hJ : JJ J n t ws) (hF : Fine J) (hgo : 1 ≤ m → ∀ p, Ok J p → left J p ≠ 0 → stp J p ≠ none) (hm0 : left J start ≠ 0 → 1 ≤ m) (hjm : J.m = m) (_ : 0 ≤ m ∧ m ≤ 8) (hat : allT J J.n ≤ 2097152000000) (hj : JobsAt w ja n t ws) (hn : n ≤ 20) (F : Pl) (hpl : pl J start = some F) :
    Calls Try.prog 23 #[.slice ja n jc, .int .i64 m] w fun e w' => ∃ (a' : Option Addr) (n' : Nat), e = .returned (.slice a' n' n) ∧ Hid (n' = n ∧ Spa w' a' (spans n F.s F.e) ∧ Below w.heap.size w w') := by
  obtain ⟨A, Z1, P, Z2, D, Z3, B, Z, hA, hZ1, hP, hZ2, hD, hZ3, hB, hZ, HPW0⟩ := PW.start w n
  have HJJ := Lib.hid hJ
  have HFI := Lib.hid hF
  have HGO := Lib.hid hgo
  have HJM := Lib.hid hjm
  have HAT := Lib.hid hat
  have HJA := Lib.hid hj
  have HEN0 : Hid (Ends J start F.s F.e) := Lib.hid ⟨F, hpl, rfl, rfl⟩
  have HM0 := Lib.hid hm0
  have hmk := run_make_sp n (by omega)
  have hn2 : (n : Int) ≤ 20 := by omega
  have nc0 : Z.cell? ⟨B, 0, none⟩ = some (.int .i64 0) := HPW0.out.nc.1
  have nf0 := HPW0.out.nc.2
  have HPW1 : Hid (PW w (Z.setCell ⟨B, 0, none⟩ (.int .i64 0)) A P D B B n start (.slice none 0 0) []) := Lib.hid (HPW0.out.time 0)
  clear hJ hF hgo hm0 hjm hat hj hpl
  go_enter Try.func23, Try.ntmps23
  go_wp2_with fail
  clear hA hZ1 hP hZ2 hD hZ3 hB hZ hmk nc0 nf0
  go_loopg [8, 9] 2097152000000 (fun gg s8 _ wr => ∃ (N : Nat) (a : Option Addr) (mm c : Nat) (l : List Int) (p : Pl), s8 = .pointer (some ⟨N, 0, none⟩) ∧ (2097152000000 - p.now).toNat ≤ gg ∧ Hid (Ok J p) ∧ Hid (Ends J p F.s F.e) ∧ Hid (left J p ≠ 0 → 1 ≤ m) ∧ Hid (Was n p l) ∧ Hid (PW w wr A P D B N n p (.slice a mm c) l))
  case atStart => exact ⟨B, none, 0, 0, [], start, rfl, by show (2097152000000 - (0 : Int)).toNat ≤ 2097152000000; omega, Lib.hid (start_ok J), HEN0, HM0, Lib.hid (Was.start n), HPW1⟩
  case round =>
    clear HPW0 HPW1
    obtain ⟨N, a, mm, c, l, p, rfl, hgg, HOK, HEN, HM, HWS, HPW⟩ := hrel
    obtain ⟨dc0, df0⟩ := HPW.out.dc
    have hmm : mm ≤ 20 := by
      have h1 := len_le HWS.out.nodup HWS.out.bd
      have h2 := ks_len HPW.out.row
      omega
    have HGG := Lib.hid hgg
    have HDEL := Lib.hid (del_im P N A n p.e p.now B a mm c l wr HPW.out.view HPW.out.nc.1 (by have := HPW.out.lt; omega) (by omega) HPW.out.row (by omega) HWS.out.bd (fun g hg => by
      have h1 := HPW.out.row.lt g hg
      have h2 := HPW.out.lt
      exact ⟨by omega, by omega, fun e => HPW.out.far (by rw [hg, e])⟩))
    clear hmm hgg
    go_wp2_with fail
    refine HDEL.out.mono ?_
    rintro e w1 ⟨m1, rfl, H1⟩
    clear HDEL dc0 df0
    obtain ⟨⟨dc1, df1⟩, hpw1⟩ := HPW.out.del H1.out.2.2 H1.out.2.1
    have HPW1 := Lib.hid hpw1
    have HDO1 := Lib.hid HWS.out.doing
    clear hpw1
    go_wp2_with fail
    clear dc1 df1
    go_loopg [9] (left J p) (fun gh _ wx => ∃ (ax : Option Addr) (mm cx : Nat) (l2 : List Int) (q : Pl), left J q ≤ gh ∧ Hid (q.now = p.now) ∧ Hid (Ok J q) ∧ Hid (Ends J q F.s F.e) ∧ Hid (left J q ≠ 0 → 1 ≤ m) ∧ Hid (Doing n q l2) ∧ Hid (PW w wx A P D B N n q (.slice ax mm cx) l2))
    case atStart => exact ⟨a, m1, c, _, p, Nat.le_refl _, Lib.hid rfl, HOK, HEN, HM, HDO1, HPW1⟩
    case round =>
      obtain ⟨wx, rfl⟩ : ∃ W, W = wr := ⟨_, rfl⟩
      clear HPW HPW1 HDO1 HWS HOK HEN HM H1
      obtain ⟨ax, mm, cx, l2, q, hgh, HQN, HOK2, HEN2, HM2, HDO, HPX⟩ := hrel
      have HGQ := HGG
      have hmm : mm ≤ 20 := by
        have h1 := len_le HDO.out.nodup HDO.out.bd
        have h2 := ks_len HPX.out.row
        omega
      have HGH := Lib.hid hgh
      clear hgh
      by_cases hlm : (mm : Int) < m
      case neg =>
        have dlm : decide ((mm : Int) < m) = false := decide_eq_false hlm
        have HNB : Hid (¬ (0 ≤ nxF J q J.n ∧ (doing J q : Int) < J.m)) := Lib.hid fun h => hlm (by have h1 := h.2; rw [← HDO.out.len HJJ.out.jn, ks_len HPX.out.row, HJM.out] at h1; exact h1)
        obtain ⟨dcc, dcf⟩ := HPX.out.dc
        have HDL : Hid (doing J q = mm) := Lib.hid (by rw [← HDO.out.len HJJ.out.jn]; exact ks_len HPX.out.row)
        by_cases hm0 : mm = 0
        · subst hm0
          have HLZ : Hid (left J q = 0) := Lib.hid (none_left HOK2.out.n0 HDL.out HNB.out (fun h0 => HGO.out (HM2.out h0) q HOK2.out h0))
          have HFF := Lib.hid (HEN2.out.done HLZ.out)
          have pcc := HPX.out.pc
          have HSP : Hid (Spa wx (some ⟨A, 0, none⟩) (spans n F.s F.e) ∧ Below w.heap.size w wx) := Lib.hid (by
            have h1 := HPX.out.spa
            rw [HFF.out.1, HFF.out.2] at h1
            exact ⟨h1, HPX.out.bel⟩)
          have dlm0 : decide ((0 : Int) < m) = false := dlm
          clear hmm hlm dlm
          go_wp2_with fail
          go_ret
          exact ⟨some ⟨A, 0, none⟩, n, rfl, Lib.hid ⟨rfl, HSP.out⟩⟩
        have dm0 : ((mm : Int) == 0) = false := beq_eq_false_iff_ne.2 (by omega)
        have HNE : Hid (l2 ≠ []) := Lib.hid fun e => hm0 (by have h1 := ks_len HPX.out.row; rw [e] at h1; exact h1.symm)
        obtain ⟨tv, htv⟩ : ∃ tv, thF q n = tv := ⟨_, rfl⟩
        have HLS := Lib.hid (HDO.out.least HOK2.out.n0 HNE.out)
        rw [htv] at HLS
        have HSTP : Hid (left J q ≠ 0 → stp J q = some ⟨q.s, q.e, q.b, tv⟩) := Lib.hid fun h0 => by
          have h1 := stp_not HNB.out (by rw [HJJ.out.jn, htv]; exact HLS.out.1)
          rw [HJJ.out.jn, htv] at h1
          exact h1
        have HOK3 : Hid (Ok J ⟨q.s, q.e, q.b, tv⟩) := Lib.hid (later_ok HOK2.out HLS.out.2.1 (by
          obtain ⟨k, _, hr, he⟩ := HLS.out.2.2.1
          unfold runs at hr
          rw [Bool.and_eq_true] at hr
          exact ⟨k, hr.1, he⟩))
        have HEN3 : Hid (Ends J ⟨q.s, q.e, q.b, tv⟩ F.s F.e) := Lib.hid (HEN2.out.later HFI.out HOK2.out HSTP.out)
        have HM3 : Hid (left J ⟨q.s, q.e, q.b, tv⟩ ≠ 0 → 1 ≤ m) := Lib.hid HM2.out
        have HWS3 : Hid (Was n ⟨q.s, q.e, q.b, tv⟩ l2) := Lib.hid (HDO.out.later (Int.le_of_lt HLS.out.2.1))
        have htl : q.now < tv ∧ tv ≤ 2097152000000 := by
          have h1 : tv ≤ allT J J.n := HOK3.out.now_le HFI.out.t0
          have h2 := HAT.out
          have h3 := HLS.out.2.1
          omega
        have HTL := Lib.hid htl
        obtain ⟨ncc, ncf⟩ := HPX.out.nc
        obtain ⟨M, hM⟩ : ∃ M, wx.heap.size = M := ⟨_, rfl⟩
        obtain ⟨Y, hY⟩ : ∃ Y, wx.alloc (.cells #[.int .i64 q.now] 3) = Y := ⟨_, rfl⟩
        have HPY : Hid (PW w Y A P D B M n q (.slice ax mm cx) l2) := Lib.hid (by
          have h1 := HPX.out.next
          rw [hY, hM] at h1
          exact h1)
        have HEI : Hid (Calls Try.prog 41 #[.pointer (some ⟨D, 0, none⟩), .pointer (some ⟨P, 0, none⟩)] Y fun e w' => e = .returned (.int .i64 tv) ∧ Below Y.heap.size Y w') := Lib.hid (end_im P D A n q.e ax mm cx l2 Y HPY.out.view HPY.out.dc.1 (by omega) (ks_len HPY.out.row) (by have := cntB_le (runs q) J.n; have h1 := HDL.out; unfold doing at h1; have h2 := HJJ.out.jn; omega) (by omega) (ks_row HPY.out.row) HDO.out.bd tv HLS.out.2.2.2)
        clear htv hm0 htl
        clear hmm hlm
        go_wp2_with fail
        clear hM hY
        refine HEI.out.mono ?_
        rintro e w5 ⟨rfl, H5⟩
        have HP5 : Hid (PW w w5 A P D B M n q (.slice ax mm cx) l2) := Lib.hid (HPY.out.under H5)
        clear dcc dcf ncc ncf H5
        obtain ⟨ncc, ncf⟩ := HP5.out.nc
        have HP6 : Hid (PW w (w5.setCell ⟨M, 0, none⟩ (.int .i64 tv)) A P D B M n ⟨q.s, q.e, q.b, tv⟩ (.slice ax mm cx) l2) := Lib.hid (HP5.out.time tv)
        go_wp2_with fail
        go_roundg ((2097152000000 - tv).toNat)
        case measure => have := HTL.out; have h2 := HGQ.out; have h3 := HQN.out; omega
        case rel => exact ⟨M, ax, mm, cx, l2, ⟨q.s, q.e, q.b, tv⟩, rfl, Nat.le_refl _, HOK3, HEN3, HM3, HWS3, HP6⟩
      have dlm : decide ((mm : Int) < m) = true := decide_eq_true hlm
      obtain ⟨dc0, df0⟩ := HPX.out.dc
      obtain ⟨nc0, nf0⟩ := HPX.out.nc
      have pc0 := HPX.out.pc
      have HDL0 : Hid (doing J q = mm) := Lib.hid (by rw [← HDO.out.len HJJ.out.jn]; exact ks_len HPX.out.row)
      obtain ⟨z, hz⟩ : ∃ z, nxF J q J.n = z := ⟨_, rfl⟩
      have HNXT : Hid (Calls Try.prog 47 #[.slice ja n jc, .slice (some ⟨A, 0, none⟩) n n, .int .i64 q.now] wx fun e w' => e = .returned (.int .i64 z) ∧ Hid (Below wx.heap.size wx w')) := Lib.hid ((next_im ja n jc t ws (some ⟨A, 0, none⟩) n (spans n q.s q.e) q.now wx (HJA.out.under HPX.out.bel) (by omega) (spans_len _ _ _) HPX.out.spa (fun k hk => ⟨HJJ.out.few k hk, HJJ.out.bd k hk⟩) z (by rw [next_is HJJ.out HFI.out HOK2.out]; exact hz)).mono fun _ _ ⟨e, h⟩ => ⟨e, Lib.hid h⟩)
      have HZ := Lib.hid hz
      clear hz
      by_cases hzn : z < 0
      · have dz : decide (z < 0) = true := decide_eq_true hzn
        have HZN := Lib.hid hzn
        clear hzn hlm
        go_wp2_with fail
        refine HNXT.out.mono ?_
        rintro e w3 ⟨rfl, H3⟩
        have HPX3 : Hid (PW w w3 A P D B N n q (.slice ax mm cx) l2) := Lib.hid (HPX.out.under H3.out)
        clear dc0 df0 nc0 nf0 pc0 HNXT
        have HNB : Hid (¬ (0 ≤ nxF J q J.n ∧ (doing J q : Int) < J.m)) := Lib.hid fun h => by have h1 := h.1; rw [HZ.out] at h1; have h2 := HZN.out; omega
        obtain ⟨dcc, dcf⟩ := HPX3.out.dc
        have HDL : Hid (doing J q = mm) := Lib.hid (by rw [← HDO.out.len HJJ.out.jn]; exact ks_len HPX3.out.row)
        by_cases hm0 : mm = 0
        · subst hm0
          have HLZ : Hid (left J q = 0) := Lib.hid (none_left HOK2.out.n0 HDL.out HNB.out (fun h0 => HGO.out (HM2.out h0) q HOK2.out h0))
          have HFF := Lib.hid (HEN2.out.done HLZ.out)
          have pcc := HPX3.out.pc
          have HSP : Hid (Spa w3 (some ⟨A, 0, none⟩) (spans n F.s F.e) ∧ Below w.heap.size w w3) := Lib.hid (by
            have h1 := HPX3.out.spa
            rw [HFF.out.1, HFF.out.2] at h1
            exact ⟨h1, HPX3.out.bel⟩)
          clear hmm
          go_wp2_with fail
          go_ret
          exact ⟨some ⟨A, 0, none⟩, n, rfl, Lib.hid ⟨rfl, HSP.out⟩⟩
        have dm0 : ((mm : Int) == 0) = false := beq_eq_false_iff_ne.2 (by omega)
        have HNE : Hid (l2 ≠ []) := Lib.hid fun e => hm0 (by have h1 := ks_len HPX3.out.row; rw [e] at h1; exact h1.symm)
        obtain ⟨tv, htv⟩ : ∃ tv, thF q n = tv := ⟨_, rfl⟩
        have HLS := Lib.hid (HDO.out.least HOK2.out.n0 HNE.out)
        rw [htv] at HLS
        have HSTP : Hid (left J q ≠ 0 → stp J q = some ⟨q.s, q.e, q.b, tv⟩) := Lib.hid fun h0 => by
          have h1 := stp_not HNB.out (by rw [HJJ.out.jn, htv]; exact HLS.out.1)
          rw [HJJ.out.jn, htv] at h1
          exact h1
        have HOK3 : Hid (Ok J ⟨q.s, q.e, q.b, tv⟩) := Lib.hid (later_ok HOK2.out HLS.out.2.1 (by
          obtain ⟨k, _, hr, he⟩ := HLS.out.2.2.1
          unfold runs at hr
          rw [Bool.and_eq_true] at hr
          exact ⟨k, hr.1, he⟩))
        have HEN3 : Hid (Ends J ⟨q.s, q.e, q.b, tv⟩ F.s F.e) := Lib.hid (HEN2.out.later HFI.out HOK2.out HSTP.out)
        have HM3 : Hid (left J ⟨q.s, q.e, q.b, tv⟩ ≠ 0 → 1 ≤ m) := Lib.hid HM2.out
        have HWS3 : Hid (Was n ⟨q.s, q.e, q.b, tv⟩ l2) := Lib.hid (HDO.out.later (Int.le_of_lt HLS.out.2.1))
        have htl : q.now < tv ∧ tv ≤ 2097152000000 := by
          have h1 : tv ≤ allT J J.n := HOK3.out.now_le HFI.out.t0
          have h2 := HAT.out
          have h3 := HLS.out.2.1
          omega
        have HTL := Lib.hid htl
        obtain ⟨ncc, ncf⟩ := HPX3.out.nc
        obtain ⟨M, hM⟩ : ∃ M, w3.heap.size = M := ⟨_, rfl⟩
        obtain ⟨Y, hY⟩ : ∃ Y, w3.alloc (.cells #[.int .i64 q.now] 3) = Y := ⟨_, rfl⟩
        have HPY : Hid (PW w Y A P D B M n q (.slice ax mm cx) l2) := Lib.hid (by
          have h1 := HPX3.out.next
          rw [hY, hM] at h1
          exact h1)
        have HEI : Hid (Calls Try.prog 41 #[.pointer (some ⟨D, 0, none⟩), .pointer (some ⟨P, 0, none⟩)] Y fun e w' => e = .returned (.int .i64 tv) ∧ Below Y.heap.size Y w') := Lib.hid (end_im P D A n q.e ax mm cx l2 Y HPY.out.view HPY.out.dc.1 (by omega) (ks_len HPY.out.row) (by have := cntB_le (runs q) J.n; have h1 := HDL.out; unfold doing at h1; have h2 := HJJ.out.jn; omega) (by omega) (ks_row HPY.out.row) HDO.out.bd tv HLS.out.2.2.2)
        clear htv hm0 htl
        clear hmm
        go_wp2_with fail
        clear hM hY
        refine HEI.out.mono ?_
        rintro e w5 ⟨rfl, H5⟩
        have HP5 : Hid (PW w w5 A P D B M n q (.slice ax mm cx) l2) := Lib.hid (HPY.out.under H5)
        clear dcc dcf ncc ncf H5
        obtain ⟨ncc, ncf⟩ := HP5.out.nc
        have HP6 : Hid (PW w (w5.setCell ⟨M, 0, none⟩ (.int .i64 tv)) A P D B M n ⟨q.s, q.e, q.b, tv⟩ (.slice ax mm cx) l2) := Lib.hid (HP5.out.time tv)
        go_wp2_with fail
        go_roundg ((2097152000000 - tv).toNat)
        case measure => have := HTL.out; have h2 := HGQ.out; have h3 := HQN.out; omega
        case rel => exact ⟨M, ax, mm, cx, l2, ⟨q.s, q.e, q.b, tv⟩, rfl, Nat.le_refl _, HOK3, HEN3, HM3, HWS3, HP6⟩
      obtain ⟨k, rfl⟩ := Int.eq_ofNat_of_zero_le (show 0 ≤ z by omega)
      have dz : decide ((k : Int) < 0) = false := decide_eq_false hzn
      obtain ⟨hkn, hrd⟩ := nxF_ready HZ.out
      have HKN := Lib.hid hkn
      have HRD := Lib.hid hrd
      have hkn : k < n := by rw [← HJJ.out.jn]; exact hkn
      have hk0 : (0 : Int) ≤ (k : Int) := by omega
      have hk1 : (k : Int) < (n : Int) := by omega
      have HST : Hid (stp J q = some (beg J q k)) := Lib.hid (stp_beg HZ.out (by rw [HDL0.out, HJM.out]; exact hlm))
      have HOK3 : Hid (Ok J (beg J q k)) := Lib.hid (step_ok HOK2.out HFI.out.t0 HFI.out.tj HFI.out.irr HST.out).1
      have HEN3 : Hid (Ends J (beg J q k) F.s F.e) := Lib.hid (HEN2.out.beg HFI.out HOK2.out HKN.out HRD.out HST.out)
      have HLB := Lib.hid (left_beg HKN.out HRD.out)
      have HM3 : Hid (left J (beg J q k) ≠ 0 → 1 ≤ m) := Lib.hid fun _ => HM2.out (by have := HLB.out; omega)
      have HDO3 : Hid (Doing n (beg J q k) (l2 ++ [(k : Int)])) := Lib.hid (HDO.out.beg hkn (ready_is HRD.out).2.1 (HFI.out.tj k HKN.out (ready_is HRD.out).1))
      have HQN3 : Hid ((beg J q k).now = p.now) := Lib.hid HQN.out
      obtain ⟨tk, htk⟩ : ∃ tk, J.t k = tk := ⟨_, rfl⟩
      obtain ⟨x, hx⟩ : ∃ x, q.now + tk = x := ⟨_, rfl⟩
      have HX : Hid (q.now + J.t k = x) := Lib.hid (by rw [htk, hx])
      have wx2 : IntKind.i64.wrap (q.now + tk) = x := by
        rw [hx]
        have h1 := HOK3.out.e_in HFI.out.t0 k
        have h2 := HAT.out
        have h3 : (beg J q k).e k = q.now + J.t k := updN_same _ _ _
        rw [h3, HX.out] at h1
        exact IntWalk.i64_in _ (by omega)
      obtain ⟨gj, ak, ck, HJ1, HJC⟩ := (jobs_at (HJA.out.under HPX.out.bel)).out k hkn
      obtain rfl : ja = some ⟨gj, 0, none⟩ := HJ1.out
      have HTK : Hid (t k = tk) := Lib.hid (by rw [HJJ.out.jt k hkn, htk])
      clear htk hlm hzn hrd hx
      go_wp2_with fail
      refine HNXT.out.mono ?_
      rintro e w3 ⟨rfl, H3⟩
      have HPX3 : Hid (PW w w3 A P D B N n q (.slice ax mm cx) l2) := Lib.hid (HPX.out.under H3.out)
      clear dc0 df0 nc0 nf0 pc0 HNXT
      obtain ⟨nc0, nf0⟩ := HPX3.out.nc
      have pc0 := HPX3.out.pc
      obtain ⟨cS, fS⟩ := HPX3.out.sp.st k hkn
      obtain ⟨cE, fE⟩ := HPX3.out.sp.en k hkn
      obtain ⟨⟨jc0, _⟩, _⟩ := HJC.out w3 H3.out
      rw [HTK.out] at jc0
      go_wp2_with fail
      go_region
      obtain ⟨W4, hW4⟩ : ∃ W4, ((w3.setCell ⟨A, k * 2, none⟩ (.int .i64 q.now)).setCell ⟨A, k * 2 + 1, none⟩ (.int .i64 x)).drew = W4 := ⟨_, rfl⟩
      have HP4 : Hid (PW w W4 A P D B N n (beg J q k) (.slice ax mm cx) l2) := Lib.hid (by
        rw [← hW4]
        exact (HPX3.out.lay k x HX.out).under (Below.refl _ _).drew)
      rw [hW4]
      clear hW4 nc0 nf0 pc0 cS fS cE fE jc0 wx2
      obtain ⟨g, cap, W5, hrn, ⟨d5c, d5f⟩, hpw5⟩ := HP4.out.app (k : Int) (by omega)
      have HR := Lib.hid hrn
      have HPW5 := Lib.hid hpw5
      obtain ⟨dc0, df0⟩ := HP4.out.dc
      clear hrn hpw5 hmm
      go_wp2_with (at_builtin; refine walk_run (v' := .slice (some ⟨g, 0, none⟩) (mm + 1) cap) (w' := W5) rfl _ _ _ _ rfl _ _ rfl rfl ?_ ?_; exact HR.out)
      go_roundg (left J (beg J q k))
      case measure => have h1 := HLB.out; have h2 := HGH.out; omega
      case rel => exact ⟨some ⟨g, 0, none⟩, mm + 1, cap, _, beg J q k, Nat.le_refl _, HQN3, HOK3, HEN3, HM3, HDO3, HPW5⟩
end Go.Proofs.Ytdbhdlgoecpeaaa.Quo.Im
