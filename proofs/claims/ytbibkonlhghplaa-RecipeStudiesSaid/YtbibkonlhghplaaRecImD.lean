/- The program's Makes, Runs, Time, Study, Copy. -/
import Derived.Test.YtbibkonlhghplaaRecImB
namespace Go.Proofs.Ytbibkonlhghplaa.Recipe.Im
open Go.RowKit Go.Lib
open Goods (St Sts OwnS)

set_option maxRecDepth 100000 in
set_option maxHeartbeats 8000000 in
theorem runs_im (b : Bl) (n : Int) (w : World) (hb : BlIn w b) :
    Calls Try.prog 21 #[blV b, .int .i64 n] w fun e w' => e = .returned (.tuple #[.int .i64 (runsV b n), .int .i64 (runsE b n)]) ∧ Below w.heap.size w w' := by
  obtain ⟨V, X, hV, hX, HXB, HP⟩ := box_blue w b
  obtain ⟨k0, k1, k2, k3, k4, k5, k6⟩ := HP.out X (Below.refl _ _)
  have HNO : Hid (∀ W, Below X.heap.size X W → Below w.heap.size w W) := Lib.hid (fun W hW => below_then HXB.out hW)
  obtain ⟨tm, HM, EM⟩ := may_at b X (hb.under HXB.out)
  have HC := Lib.hid (HM.out X (Below.refl _ _))
  clear hb HM
  obtain ⟨t0, H0, E0⟩ := in_at n 0 1125899906842624
  rcases tm with _ | _
  · obtain ⟨e1, e2⟩ := runs_arg (b := b) (n := n) (fun h => EM.out.2 rfl h.1)
    rw [e1, e2]
    clear e1 e2
    go_enter Try.func21, Try.ntmps21
    go_wp2_with fail
    clear hX hV
    refine HC.out.mono ?_
    rintro e w1 ⟨rfl, G1⟩
    go_wp2_with fail
    go_ret2
    exact ⟨rfl, HNO.out _ G1.out⟩
  rcases t0 with _ | _
  · obtain ⟨e1, e2⟩ := runs_arg (b := b) (n := n) (fun h => E0.out.2 rfl (by have := h.2; unfold QtyOk mq at this; exact this))
    rw [e1, e2]
    clear e1 e2
    go_enter Try.func21, Try.ntmps21
    go_wp2_with fail
    clear hX hV
    refine HC.out.mono ?_
    rintro e w1 ⟨rfl, G1⟩
    obtain ⟨y0, y1, y2, y3, y4, y5, y6⟩ := HP.out w1 G1.out
    clear k0 k1 k2 k3 k4 k5 k6
    go_wp2_with fail
    refine (H0.out _).mono ?_
    rintro e w' ⟨rfl, rfl⟩
    go_wp2_with fail
    go_ret2
    exact ⟨rfl, HNO.out _ G1.out⟩
  have hok := EM.out.1 rfl
  have hn := E0.out.1 rfl
  have hp := hok.2.2.1
  obtain ⟨e1, e2⟩ := runs_ok (b := b) (n := n) hok (by unfold QtyOk mq; exact hn)
  have hu := up_le (k := b.per) hn.1 (by omega)
  have HF := Lib.hid (fun W => pscale n 1 b.per W hn.1 (by omega) (by omega) (by omega) hp.1 (by omega) (by rw [Int.mul_one]; omega))
  rw [Int.mul_one] at HF
  rw [e1, e2]
  clear e1 e2 hok hn hp hu
  go_enter Try.func21, Try.ntmps21
  go_wp2_with fail
  clear hX hV
  refine HC.out.mono ?_
  rintro e w1 ⟨rfl, G1⟩
  obtain ⟨y0, y1, y2, y3, y4, y5, y6⟩ := HP.out w1 G1.out
  clear k0 k1 k2 k3 k4 k5 k6
  go_wp2_with fail
  refine (H0.out _).mono ?_
  rintro e w' ⟨rfl, rfl⟩
  go_wp2_with fail
  refine (HF.out _).mono ?_
  rintro e w2 ⟨rfl, G2⟩
  go_wp2_with fail
  go_ret2
  exact ⟨rfl, HNO.out _ (below_then G1.out G2.out)⟩
set_option maxRecDepth 100000 in
set_option maxHeartbeats 8000000 in
theorem time_im (b : Bl) (lv r : Int) (w : World) (hb : BlIn w b) :
    Calls Try.prog 12 #[blV b, .int .i64 lv, .int .i64 r] w fun e w' => e = .returned (.tuple #[.int .i64 (timeV b lv r), .int .i64 (timeE b lv r)]) ∧ Below w.heap.size w w' := by
  obtain ⟨V, X, hV, hX, HXB, HP⟩ := box_blue w b
  obtain ⟨k0, k1, k2, k3, k4, k5, k6⟩ := HP.out X (Below.refl _ _)
  have HNO : Hid (∀ W, Below X.heap.size X W → Below w.heap.size w W) := Lib.hid (fun W hW => below_then HXB.out hW)
  obtain ⟨tm, HM, EM⟩ := may_at b X (hb.under HXB.out)
  have HC := Lib.hid (HM.out X (Below.refl _ _))
  clear hb HM
  obtain ⟨t0, H0, E0⟩ := level_at lv
  obtain ⟨t1, H1, E1⟩ := runs_at r
  rcases tm with _ | _
  · obtain ⟨e1, e2⟩ := time_arg (b := b) (lv := lv) (r := r) (fun h => EM.out.2 rfl h.1)
    rw [e1, e2]
    clear e1 e2
    go_enter Try.func12, Try.ntmps12
    go_wp2_with fail
    clear hX hV
    refine HC.out.mono ?_
    rintro e w1 ⟨rfl, G1⟩
    go_wp2_with fail
    go_ret2
    exact ⟨rfl, HNO.out _ G1.out⟩
  rcases t0 with _ | _
  · obtain ⟨e1, e2⟩ := time_arg (b := b) (lv := lv) (r := r) (fun h => E0.out.2 rfl (h.2.1))
    rw [e1, e2]
    clear e1 e2
    go_enter Try.func12, Try.ntmps12
    go_wp2_with fail
    clear hX hV
    refine HC.out.mono ?_
    rintro e w1 ⟨rfl, G1⟩
    obtain ⟨y0, y1, y2, y3, y4, y5, y6⟩ := HP.out w1 G1.out
    clear k0 k1 k2 k3 k4 k5 k6
    go_wp2_with fail
    refine (H0.out _).mono ?_
    rintro e w' ⟨rfl, rfl⟩
    go_wp2_with fail
    go_ret2
    exact ⟨rfl, HNO.out _ G1.out⟩
  rcases t1 with _ | _
  · obtain ⟨e1, e2⟩ := time_arg (b := b) (lv := lv) (r := r) (fun h => E1.out.2 rfl (h.2.2))
    rw [e1, e2]
    clear e1 e2
    go_enter Try.func12, Try.ntmps12
    go_wp2_with fail
    clear hX hV
    refine HC.out.mono ?_
    rintro e w1 ⟨rfl, G1⟩
    obtain ⟨y0, y1, y2, y3, y4, y5, y6⟩ := HP.out w1 G1.out
    clear k0 k1 k2 k3 k4 k5 k6
    go_wp2_with fail
    refine (H0.out _).mono ?_
    rintro e w' ⟨rfl, rfl⟩
    go_wp2_with fail
    refine (H1.out _).mono ?_
    rintro e w' ⟨rfl, rfl⟩
    go_wp2_with fail
    go_ret2
    exact ⟨rfl, HNO.out _ G1.out⟩
  have hok := EM.out.1 rfl
  have hl := E0.out.1 rfl
  have hr := E1.out.1 rfl
  have hp := hok.2.2.2.1
  obtain ⟨e1, e2⟩ := time_ok (b := b) (lv := lv) (r := r) hok ⟨hl, hr⟩
  have w2 : IntKind.i64.wrap (2 * lv) = 2 * lv := IntWalk.i64_in _ (by omega)
  have HF := Lib.hid (fun W => less_any b.tm r (2 * lv) W (by omega) (by unfold mq; omega) (by omega) hr.2 (by omega) (by omega))
  have e3 : tmv b.tm lv r = up (b.tm * r * (100 - 2 * lv)) 100 := rfl
  rw [e1, e2, e3]
  clear e1 e2 e3 hok hl hr hp
  go_enter Try.func12, Try.ntmps12
  go_wp2_with fail
  clear hX hV
  refine HC.out.mono ?_
  rintro e w1 ⟨rfl, G1⟩
  obtain ⟨y0, y1, y2, y3, y4, y5, y6⟩ := HP.out w1 G1.out
  clear k0 k1 k2 k3 k4 k5 k6
  go_wp2_with fail
  refine (H0.out _).mono ?_
  rintro e w' ⟨rfl, rfl⟩
  go_wp2_with fail
  refine (H1.out _).mono ?_
  rintro e w' ⟨rfl, rfl⟩
  go_wp2_with fail
  refine (HF.out _).mono ?_
  rintro e w2 ⟨rfl, G2⟩
  go_wp2_with fail
  go_ret2
  exact ⟨rfl, HNO.out _ (below_then G1.out G2.out)⟩
set_option maxRecDepth 100000 in
set_option maxHeartbeats 8000000 in
theorem copy_im (b : Bl) (c r : Int) (w : World) (hb : BlIn w b) :
    Calls Try.prog 19 #[blV b, .int .i64 c, .int .i64 r] w fun e w' => e = .returned (.tuple #[.int .i64 (copyV b c r), .int .i64 (copyE b c r)]) ∧ Below w.heap.size w w' := by
  obtain ⟨V, X, hV, hX, HXB, HP⟩ := box_blue w b
  obtain ⟨k0, k1, k2, k3, k4, k5, k6⟩ := HP.out X (Below.refl _ _)
  have HNO : Hid (∀ W, Below X.heap.size X W → Below w.heap.size w W) := Lib.hid (fun W hW => below_then HXB.out hW)
  obtain ⟨tm, HM, EM⟩ := may_at b X (hb.under HXB.out)
  have HC := Lib.hid (HM.out X (Below.refl _ _))
  clear hb HM
  obtain ⟨t0, H0, E0⟩ := in_at c 1 10
  obtain ⟨t1, H1, E1⟩ := in_at r 1 b.mo
  rcases tm with _ | _
  · obtain ⟨e1, e2⟩ := copy_arg (b := b) (c := c) (r := r) (fun h => EM.out.2 rfl h.1)
    rw [e1, e2]
    clear e1 e2
    go_enter Try.func19, Try.ntmps19
    go_wp2_with fail
    clear hX hV
    refine HC.out.mono ?_
    rintro e w1 ⟨rfl, G1⟩
    go_wp2_with fail
    go_ret2
    exact ⟨rfl, HNO.out _ G1.out⟩
  rcases t0 with _ | _
  · obtain ⟨e1, e2⟩ := copy_arg (b := b) (c := c) (r := r) (fun h => E0.out.2 rfl (h.2.1))
    rw [e1, e2]
    clear e1 e2
    go_enter Try.func19, Try.ntmps19
    go_wp2_with fail
    clear hX hV
    refine HC.out.mono ?_
    rintro e w1 ⟨rfl, G1⟩
    obtain ⟨y0, y1, y2, y3, y4, y5, y6⟩ := HP.out w1 G1.out
    clear k0 k1 k2 k3 k4 k5 k6
    go_wp2_with fail
    refine (H0.out _).mono ?_
    rintro e w' ⟨rfl, rfl⟩
    go_wp2_with fail
    go_ret2
    exact ⟨rfl, HNO.out _ G1.out⟩
  rcases t1 with _ | _
  · obtain ⟨e1, e2⟩ := copy_arg (b := b) (c := c) (r := r) (fun h => E1.out.2 rfl (h.2.2))
    rw [e1, e2]
    clear e1 e2
    go_enter Try.func19, Try.ntmps19
    go_wp2_with fail
    clear hX hV
    refine HC.out.mono ?_
    rintro e w1 ⟨rfl, G1⟩
    obtain ⟨y0, y1, y2, y3, y4, y5, y6⟩ := HP.out w1 G1.out
    clear k0 k1 k2 k3 k4 k5 k6
    go_wp2_with fail
    refine (H0.out _).mono ?_
    rintro e w' ⟨rfl, rfl⟩
    go_wp2_with fail
    refine (H1.out _).mono ?_
    rintro e w' ⟨rfl, rfl⟩
    go_wp2_with fail
    go_ret2
    exact ⟨rfl, HNO.out _ G1.out⟩
  have hok := EM.out.1 rfl
  have hc := E0.out.1 rfl
  have hr := E1.out.1 rfl
  have hp := hok.2.2.2.2.1
  have hmo := hok.2.2.2.2.2.2.1
  obtain ⟨e1, e2⟩ := copy_ok (b := b) (c := c) (r := r) hok ⟨hc, hr⟩
  obtain ⟨h1, h2, _, _⟩ := prod3 (a := c) (b := r) (c := 1) (A := 10) (B := 1000) (by omega) (by omega) (by omega) hc.2 (by omega) (Int.le_refl 1)
  obtain ⟨h3, h4, _, _⟩ := prod3 (a := b.cp) (b := c * r) (c := 1) hp.1 h1 (by omega) hp.2 h2 (Int.le_refl 1)
  have w2 : IntKind.i64.wrap (c * r) = c * r := IntWalk.i64_in _ (by omega)
  have HF := Lib.hid (fun W => pmul b.cp (c * r) hp.1 (by omega) h1 (by omega) (by omega) W)
  rw [← Int.mul_assoc] at HF
  rw [e1, e2]
  obtain ⟨q, hq⟩ : ∃ q, b.cp * c * r = q := ⟨_, rfl⟩
  rw [hq] at HF
  rw [hq]
  clear e1 e2 hok hc hr hp hmo h1 h2 h3 h4 hq
  go_enter Try.func19, Try.ntmps19
  go_wp2_with fail
  clear hX hV
  refine HC.out.mono ?_
  rintro e w1 ⟨rfl, G1⟩
  obtain ⟨y0, y1, y2, y3, y4, y5, y6⟩ := HP.out w1 G1.out
  clear k0 k1 k2 k3 k4 k5 k6
  go_wp2_with fail
  refine (H0.out _).mono ?_
  rintro e w' ⟨rfl, rfl⟩
  go_wp2_with fail
  refine (H1.out _).mono ?_
  rintro e w' ⟨rfl, rfl⟩
  go_wp2_with fail
  refine (HF.out _).mono ?_
  rintro e w' ⟨rfl, rfl⟩
  go_wp2_with fail
  go_ret2
  exact ⟨rfl, HNO.out _ G1.out⟩
def smv (lv : Int) : Nat → Int
  | 0 => 0
  | n + 1 => smv lv n + (lv + (n + 1 : Nat))
theorem sdy_smv (st lv : Int) : ∀ n : Nat, sdy st lv n = st * smv lv n
  | 0 => by simp [sdy, smv]
  | n + 1 => by rw [sdy, smv, sdy_smv st lv n, ← Int.mul_add]
theorem smv_in {lv : Int} (h0 : 0 ≤ lv) : ∀ n : Nat, lv + n ≤ 10 → 0 ≤ smv lv n ∧ smv lv n ≤ n * 10
  | 0, _ => by simp [smv]
  | n + 1, h => by
    have := smv_in h0 n (by omega)
    unfold smv
    omega
set_option maxRecDepth 100000 in
set_option maxHeartbeats 8000000 in
theorem study_im (b : Bl) (lv n : Int) (w : World) (hb : BlIn w b) :
    Calls Try.prog 17 #[blV b, .int .i64 lv, .int .i64 n] w fun e w' => e = .returned (.tuple #[.int .i64 (studyV b lv n), .int .i64 (studyE b lv n)]) ∧ Below w.heap.size w w' := by
  obtain ⟨V, X, hV, hX, HXB, HP⟩ := box_blue w b
  obtain ⟨k0, k1, k2, k3, k4, k5, k6⟩ := HP.out X (Below.refl _ _)
  have HNO : Hid (∀ W, Below X.heap.size X W → Below w.heap.size w W) := Lib.hid (fun W hW => below_then HXB.out hW)
  obtain ⟨tm, HM, EM⟩ := may_at b X (hb.under HXB.out)
  have HC := Lib.hid (HM.out X (Below.refl _ _))
  clear hb HM
  obtain ⟨t0, H0, E0⟩ := level_at lv
  obtain ⟨t1, H1, E1⟩ := in_at n 1 (10 - lv)
  rcases tm with _ | _
  · obtain ⟨e1, e2⟩ := study_arg (b := b) (lv := lv) (n := n) (fun h => EM.out.2 rfl h.1)
    rw [e1, e2]
    clear e1 e2
    go_enter Try.func17, Try.ntmps17
    go_wp2_with fail
    clear hX hV
    refine HC.out.mono ?_
    rintro e w1 ⟨rfl, G1⟩
    go_wp2_with fail
    go_ret2
    exact ⟨rfl, HNO.out _ G1.out⟩
  rcases t0 with _ | _
  · obtain ⟨e1, e2⟩ := study_arg (b := b) (lv := lv) (n := n) (fun h => E0.out.2 rfl (h.2.1))
    rw [e1, e2]
    clear e1 e2
    go_enter Try.func17, Try.ntmps17
    go_wp2_with fail
    clear hX hV
    refine HC.out.mono ?_
    rintro e w1 ⟨rfl, G1⟩
    obtain ⟨y0, y1, y2, y3, y4, y5, y6⟩ := HP.out w1 G1.out
    clear k0 k1 k2 k3 k4 k5 k6
    go_wp2_with fail
    refine (H0.out _).mono ?_
    rintro e w' ⟨rfl, rfl⟩
    go_wp2_with fail
    go_ret2
    exact ⟨rfl, HNO.out _ G1.out⟩
  have hl := E0.out.1 rfl
  have w1 : IntKind.i64.wrap (10 - lv) = 10 - lv := IntWalk.i64_in _ (by omega)
  rcases t1 with _ | _
  · obtain ⟨e1, e2⟩ := study_arg (b := b) (lv := lv) (n := n) (fun h => E1.out.2 rfl (h.2.2))
    rw [e1, e2]
    clear e1 e2
    go_enter Try.func17, Try.ntmps17
    go_wp2_with fail
    clear hX hV
    refine HC.out.mono ?_
    rintro e w1 ⟨rfl, G1⟩
    obtain ⟨y0, y1, y2, y3, y4, y5, y6⟩ := HP.out w1 G1.out
    clear k0 k1 k2 k3 k4 k5 k6
    go_wp2_with fail
    refine (H0.out _).mono ?_
    rintro e w' ⟨rfl, rfl⟩
    go_wp2_with fail
    refine (H1.out _).mono ?_
    rintro e w' ⟨rfl, rfl⟩
    go_wp2_with fail
    go_ret2
    exact ⟨rfl, HNO.out _ G1.out⟩
  have hok := EM.out.1 rfl
  have hn := E1.out.1 rfl
  have hp := hok.2.2.2.2.2.1
  obtain ⟨e1, e2⟩ := study_ok (b := b) (lv := lv) (n := n) hok ⟨hl, hn⟩
  obtain ⟨N, rfl⟩ : ∃ N : Nat, n = (N : Int) := ⟨n.toNat, by omega⟩
  have e3 : (N : Int).toNat = N := by omega
  rw [e3, sdy_smv] at e2
  obtain ⟨s0, s1⟩ := smv_in hl.1 N (by omega)
  obtain ⟨h3, h4, _, _⟩ := prod3 (a := b.st) (b := smv lv N) (c := 1) (B := 100) hp.1 s0 (by omega) hp.2 (by omega) (Int.le_refl 1)
  have HF := Lib.hid (fun W => pmul b.st (smv lv N) hp.1 (by omega) s0 (by omega) (by omega) W)
  obtain ⟨q, hq⟩ : ∃ q, b.st * smv lv N = q := ⟨_, rfl⟩
  rw [hq] at HF e2
  rw [e1, e2]
  have w2 : IntKind.i64.wrap (lv + 1) = lv + 1 := IntWalk.i64_in _ (by omega)
  have w3 : IntKind.i64.wrap (lv + N) = lv + N := IntWalk.i64_in _ (by omega)
  have HSI : Hid (∀ k : Nat, k ≤ N → 0 ≤ smv lv k ∧ smv lv k ≤ 100) := Lib.hid (fun k hk => by have := smv_in hl.1 k (by omega); omega)
  clear e1 e2 e3 hok hp h3 h4 hq s0 s1
  go_enter Try.func17, Try.ntmps17
  go_wp2_with fail
  clear hX hV
  refine HC.out.mono ?_
  rintro e w1 ⟨rfl, G1⟩
  obtain ⟨y0, y1, y2, y3, y4, y5, y6⟩ := HP.out w1 G1.out
  clear k0 k1 k2 k3 k4 k5 k6
  go_wp2_with fail
  refine (H0.out _).mono ?_
  rintro e w' ⟨rfl, rfl⟩
  go_wp2_with fail
  refine (H1.out _).mono ?_
  rintro e w' ⟨rfl, rfl⟩
  go_wp2_with fail
  go_loopw [8, 9] (fun s t wr => ∃ k : Nat, s = .int .i64 (smv lv k) ∧ t = .int .i64 (lv + 1 + k) ∧ k ≤ N ∧ wr = w1) (fun _ t _ => (lv + 1 + N - RowKit.intOf t).toNat)
  case atStart => exact ⟨0, rfl, by simp, by omega, rfl⟩
  case round =>
    obtain ⟨k, rfl, rfl, hk, rfl⟩ := hrel
    by_cases hlt : k < N
    · have d1 : decide (lv + 1 + (k : Int) ≤ lv + N) = true := decide_eq_true (by omega)
      have hs := HSI.out k hk
      obtain ⟨s, hs'⟩ : ∃ s, smv lv k = s := ⟨_, rfl⟩
      have hs2 : smv lv (k + 1) = s + (lv + 1 + k) := by rw [← hs', smv]; omega
      rw [hs'] at hs
      rw [hs']
      have w4 : IntKind.i64.wrap (s + (lv + 1 + k)) = s + (lv + 1 + k) := IntWalk.i64_in _ (by omega)
      have w5 : IntKind.i64.wrap (lv + 1 + (k : Int) + 1) = lv + 1 + (k : Int) + 1 := IntWalk.i64_in _ (by omega)
      have HS2 := Lib.hid hs2
      clear hs' hs2
      go_wp2_with fail
      go_roundw
      case rel => exact ⟨k + 1, by rw [HS2.out], by go_num, by omega, trivial⟩
      case measure => simp [RowKit.intOf]; omega
    · obtain rfl : k = N := by omega
      have d1 : decide (lv + 1 + (k : Int) ≤ lv + k) = false := decide_eq_false (by omega)
      go_wp2_with fail
      refine (HF.out _).mono ?_
      rintro e w' ⟨rfl, rfl⟩
      go_wp2_with fail
      go_ret2
      exact ⟨rfl, HNO.out _ G1.out⟩
set_option maxRecDepth 100000 in
set_option maxHeartbeats 8000000 in
theorem makes_im (b : Bl) (r : Int) (w : World) (hb : BlIn w b) :
    Calls Try.prog 10 #[blV b, .int .i64 r] w fun e w' => e = .returned (.tuple #[.agg #[.int .i64 (makesV b r).kind, .int .i64 (makesV b r).qty], .int .i64 (makesE b r)]) ∧ Below w.heap.size w w' := by
  obtain ⟨V, X, hV, hX, HXB, HP⟩ := box_blue w b
  obtain ⟨G, hG⟩ : ∃ G, X.heap.size = G := ⟨_, rfl⟩
  obtain ⟨Z, hZ⟩ : ∃ Z, X.alloc (.cells #[.int .i64 0, .int .i64 0] 30) = Z := ⟨_, rfl⟩
  have HZB : Hid (Below X.heap.size X Z) := Lib.hid (by rw [← hZ]; exact (Below.refl _ X).alloc (Nat.le_refl _) _)
  have hGZ : Z.heap[G]? = some (.cells #[.int .i64 0, .int .i64 0] 30 (0, 0)) := by rw [← hZ, ← hG]; exact heap_alloc_new X _
  have HK : Hid (∀ W, Below Z.heap.size Z W → W.heap[G]? = some (.cells #[.int .i64 0, .int .i64 0] 30 (0, 0)) ∧ CellsU W V b) := Lib.hid (fun W hW => ⟨(hW.block G (Array.getElem?_eq_some_iff.1 hGZ).1).trans hGZ, HP.out W (below_then HZB.out hW)⟩)
  have HWG : Hid (w.heap.size ≤ G) := Lib.hid (by rw [← hG]; exact HXB.out.size)
  obtain ⟨hg0, k0, k1, k2, k3, k4, k5, k6⟩ := HK.out Z (Below.refl _ _)
  have HNO : Hid (∀ W x y, Below Z.heap.size Z W → Below w.heap.size w ((W.setCell ⟨G, 0, none⟩ x).setCell ⟨G, 1, none⟩ y)) := Lib.hid (fun W x y hW => below_of_only (below_then HXB.out (below_then HZB.out hW)) HWG.out (only_setCell (only_setCell (only_refl W (some G)) 0 x) 1 y))
  clear hGZ hg0
  have HGC : Hid (∀ W, Below Z.heap.size Z W → W.cell? ⟨G, 0, none⟩ = some (.int .i64 0) ∧ W.cell? ⟨G, 1, none⟩ = some (.int .i64 0) ∧ W.frozen? ⟨G, 0, none⟩ = false ∧ W.frozen? ⟨G, 1, none⟩ = false) := Lib.hid (fun W hW => by
    have h1 := (HK.out W hW).1
    exact ⟨cell_block (j := 0) h1 rfl, cell_block (j := 1) h1 rfl, free_block 0 h1, free_block 1 h1⟩)
  obtain ⟨tm, HM, EM⟩ := may_at b Z ((hb.under HXB.out).under HZB.out)
  have HC := Lib.hid (HM.out Z (Below.refl _ _))
  clear hb HM
  obtain ⟨t0, H0, E0⟩ := runs_at r
  rcases tm with _ | _
  · obtain ⟨e1, e2⟩ := makes_arg (b := b) (r := r) (fun h => EM.out.2 rfl h.1)
    rw [e1, e2]
    clear e1 e2
    go_enter Try.func10, Try.ntmps10
    go_wp2_with fail
    clear hX hV hZ hG
    refine HC.out.mono ?_
    rintro e w1 ⟨rfl, G1⟩
    obtain ⟨c0, c1, f0, f1⟩ := HGC.out w1 G1.out
    clear k0 k1 k2 k3 k4 k5 k6
    go_wp2_with fail
    exact ret_st2 rfl rfl rfl rfl (st_set (HK.out w1 G1.out).1) ⟨rfl, HNO.out w1 _ _ G1.out⟩
  rcases t0 with _ | _
  · obtain ⟨e1, e2⟩ := makes_arg (b := b) (r := r) (fun h => E0.out.2 rfl h.2)
    rw [e1, e2]
    clear e1 e2
    go_enter Try.func10, Try.ntmps10
    go_wp2_with fail
    clear hX hV hZ hG
    refine HC.out.mono ?_
    rintro e w1 ⟨rfl, G1⟩
    obtain ⟨c0, c1, f0, f1⟩ := HGC.out w1 G1.out
    clear k0 k1 k2 k3 k4 k5 k6
    go_wp2_with fail
    refine (H0.out _).mono ?_
    rintro e w' ⟨rfl, rfl⟩
    go_wp2_with fail
    exact ret_st2 rfl rfl rfl rfl (st_set (HK.out w1 G1.out).1) ⟨rfl, HNO.out w1 _ _ G1.out⟩
  have hok := EM.out.1 rfl
  have hr := E0.out.1 rfl
  have hp := hok.2.2.1
  obtain ⟨e1, e2⟩ := makes_ok (b := b) (r := r) hok hr
  obtain ⟨h1, h2, _, _⟩ := prod3 (a := b.per) (b := r) (c := 1) (by omega) (by omega) (by omega) hp.2 hr.2 (Int.le_refl 1)
  have HF := Lib.hid (fun W => pmul b.per r (by omega) (by omega) (by omega) (by omega) (by omega) W)
  obtain ⟨q, hq⟩ : ∃ q, b.per * r = q := ⟨_, rfl⟩
  rw [hq] at HF e2
  rw [e1, e2]
  clear e1 e2 hok hr hp h1 h2 hq
  go_enter Try.func10, Try.ntmps10
  go_wp2_with fail
  clear hX hV hZ hG
  refine HC.out.mono ?_
  rintro e w1 ⟨rfl, G1⟩
  obtain ⟨c0, c1, f0, f1⟩ := HGC.out w1 G1.out
  obtain ⟨_, y0, y1, y2, y3, y4, y5, y6⟩ := HK.out w1 G1.out
  clear k0 k1 k2 k3 k4 k5 k6
  go_wp2_with fail
  refine (H0.out _).mono ?_
  rintro e w' ⟨rfl, rfl⟩
  go_wp2_with fail
  refine (HF.out _).mono ?_
  rintro e w' ⟨rfl, rfl⟩
  go_wp2_with fail
  exact ret_st2 rfl rfl rfl rfl (st_set (HK.out w1 G1.out).1) ⟨rfl, HNO.out w1 _ _ G1.out⟩
end Go.Proofs.Ytbibkonlhghplaa.Recipe.Im
