/- The program's small questions about a job: in, mayCopy, Side, Open. The program's mayStand. -/
import Derived.Test.YtghlgmlelipjfaaZJobA
namespace Go.Proofs.Ytghlgmlelipjfaa.Job
open Go.RowKit Go.Lib
open Goods (St Sts OwnS)
theorem st_wait {j : JS} (h : j.st = 1 ∨ j.st = 3) : Stands j ↔ Waits j := by
  refine ⟨fun k => ?_, fun k => .inl ⟨h, k⟩⟩
  rcases k with k | k | k | k
  · exact k.2
  all_goals
    have := k.1
    omega
theorem st_run {j : JS} (h : j.st = 2) : Stands j ↔ Runs j := by
  refine ⟨fun k => ?_, fun k => .inr (.inl ⟨h, k⟩)⟩
  rcases k with k | k | k | k
  · have := k.1
    omega
  · exact k.2
  all_goals
    have := k.1
    omega
theorem st_end {j : JS} (h : j.st = 4 ∨ j.st = 5) : Stands j ↔ Ended j := by
  refine ⟨fun k => ?_, fun k => .inr (.inr (.inl ⟨h, k⟩))⟩
  rcases k with k | k | k | k
  · have := k.1
    omega
  · have := k.1
    omega
  · exact k.2
  · have := k.1
    omega
theorem st_gone {j : JS} (h : j.st = 6) : Stands j ↔ Gone j := by
  refine ⟨fun k => ?_, fun k => .inr (.inr (.inr ⟨h, k⟩))⟩
  rcases k with k | k | k | k
  · have := k.1
    omega
  · have := k.1
    omega
  · have := k.1
    omega
  · exact k.2
theorem st_no {j : JS} (h1 : ¬ j.st = 1) (h2 : ¬ j.st = 2) (h3 : ¬ j.st = 3) (h4 : ¬ j.st = 4) (h5 : ¬ j.st = 5) (h6 : ¬ j.st = 6) : ¬ Stands j := fun k => by
  rcases k with k | k | k | k
  all_goals
    have := k.1
    omega
namespace Im
set_option maxRecDepth 100000 in
theorem in_is (n a b : Int) (w : World) : Calls Try.prog 53 #[.int .i64 n, .int .i64 a, .int .i64 b] w fun e w' => e = .returned (.bool (decide (a ≤ n ∧ n ≤ b))) ∧ w = w' := by
  obtain ⟨q, hq⟩ : ∃ q, decide (a ≤ n ∧ n ≤ b) = q := ⟨_, rfl⟩
  rw [hq]
  by_cases h1 : a ≤ n
  · by_cases h2 : n ≤ b
    · have HE : Hid (q = true) := Lib.hid (hq.symm.trans (decide_eq_true ⟨h1, h2⟩))
      clear hq
      go_enter Try.func53, Try.ntmps53
      go_wp2_with fail
      go_ret
      exact ⟨ret_bool HE.out.symm, rfl⟩
    · have HE : Hid (q = false) := Lib.hid (hq.symm.trans (decide_eq_false fun h => h2 h.2))
      clear hq
      have d1 : decide (a ≤ n) = true := decide_eq_true h1
      have d2 : decide (n ≤ b) = false := decide_eq_false h2
      go_enter Try.func53, Try.ntmps53
      go_wp2_with fail
      go_ret
      exact ⟨ret_bool HE.out.symm, rfl⟩
  · have HE : Hid (q = false) := Lib.hid (hq.symm.trans (decide_eq_false fun h => h1 h.1))
    clear hq
    have d1 : decide (a ≤ n) = false := decide_eq_false h1
    go_enter Try.func53, Try.ntmps53
    go_wp2_with fail
    go_ret
    exact ⟨ret_bool HE.out.symm, rfl⟩
theorem in_as {n a b : Int} {r : Bool} (h : decide (a ≤ n ∧ n ≤ b) = r) : Hid (∀ w : World, Calls Try.prog 53 #[.int .i64 n, .int .i64 a, .int .i64 b] w fun e w' => e = .returned (.bool r) ∧ w = w') := Lib.hid fun w => by
  rw [← h]
  exact in_is n a b w
set_option maxRecDepth 100000 in
theorem side_im (k : Int) (w : World) : Calls Try.prog 14 #[.int .i64 k] w fun e w' => e = .returned (.int .i64 (if k = 1 then 0 else 1)) ∧ w = w' := by
  by_cases c : k = 1
  · subst c
    go_enter Try.func14, Try.ntmps14
    go_wp2_with fail
    go_ret
    exact ⟨rfl, rfl⟩
  · rw [if_neg c]
    have n1 : (k == 1) = false := by simpa using c
    clear c
    go_enter Try.func14, Try.ntmps14
    go_wp2_with fail
    go_ret
    exact ⟨rfl, rfl⟩
set_option maxRecDepth 100000 in
set_option maxHeartbeats 2000000 in
theorem open_im (j : JS) (v : Value) (w : World) : Calls Try.prog 12 #[jV j v] w fun e w' => e = .returned (.bool (openJ j)) ∧ Below w.heap.size w w' := by
  obtain ⟨q, hq⟩ : ∃ q, openJ j = q := ⟨_, rfl⟩
  rw [hq]
  obtain ⟨V, X, hV, hX, HXB, HH⟩ := box_jo w j v
  obtain ⟨k0, k1, k2, k3, k4, k5, k6, k7, k8, k9, k10, k11, k12, k13, k14, k15⟩ := jo_at HH.out
  by_cases c1 : j.st = 1
  · have g1 : (j.st == 1) = true := by simpa using c1
    have HE : Hid (q = true) := Lib.hid (hq.symm.trans (decide_eq_true (by omega)))
    clear hq c1
    go_enter Try.func12, Try.ntmps12
    go_wp2_with fail
    go_ret
    exact ⟨ret_bool HE.out.symm, HXB.out.1⟩
  have g1 : (j.st == 1) = false := by simpa using c1
  by_cases c2 : j.st = 2
  · have g2 : (j.st == 2) = true := by simpa using c2
    have HE : Hid (q = true) := Lib.hid (hq.symm.trans (decide_eq_true (by omega)))
    clear hq c1 c2
    go_enter Try.func12, Try.ntmps12
    go_wp2_with fail
    go_ret
    exact ⟨ret_bool HE.out.symm, HXB.out.1⟩
  have g2 : (j.st == 2) = false := by simpa using c2
  by_cases c3 : j.st = 3
  · have g3 : (j.st == 3) = true := by simpa using c3
    have HE : Hid (q = true) := Lib.hid (hq.symm.trans (decide_eq_true (by omega)))
    clear hq c1 c2 c3
    go_enter Try.func12, Try.ntmps12
    go_wp2_with fail
    go_ret
    exact ⟨ret_bool HE.out.symm, HXB.out.1⟩
  have g3 : (j.st == 3) = false := by simpa using c3
  by_cases c4 : j.st = 4
  · have g4 : (j.st == 4) = true := by simpa using c4
    have HE : Hid (q = true) := Lib.hid (hq.symm.trans (decide_eq_true (by omega)))
    clear hq c1 c2 c3 c4
    go_enter Try.func12, Try.ntmps12
    go_wp2_with fail
    go_ret
    exact ⟨ret_bool HE.out.symm, HXB.out.1⟩
  have g4 : (j.st == 4) = false := by simpa using c4
  have HE : Hid (q = false) := Lib.hid (hq.symm.trans (decide_eq_false (by omega)))
  clear hq c1 c2 c3 c4
  go_enter Try.func12, Try.ntmps12
  go_wp2_with fail
  go_ret
  exact ⟨ret_bool HE.out.symm, HXB.out.1⟩
open Classical in
set_option maxRecDepth 100000 in
theorem mayCopy_is (j : JS) (v : Value) (w : World) : Calls Try.prog 54 #[jV j v] w fun e w' => e = .returned (.bool (decide (Copies j))) ∧ Below w.heap.size w w' := by
  obtain ⟨q, hq⟩ : ∃ q, decide (Copies j) = q := ⟨_, rfl⟩
  rw [hq]
  obtain ⟨V, X, hV, hX, HXB, HH⟩ := box_jo w j v
  obtain ⟨k0, k1, k2, k3, k4, k5, k6, k7, k8, k9, k10, k11, k12, k13, k14, k15⟩ := jo_at HH.out
  by_cases c1 : j.kd = 4
  · have n1 : (j.kd != 4) = false := by simpa using c1
    have n2 : (j.kd == 4) = true := by simpa using c1
    obtain ⟨b, hb⟩ : ∃ b, decide (1 ≤ j.cp ∧ j.cp ≤ 10) = b := ⟨_, rfl⟩
    have H0 := in_as hb
    have HE : Hid (q = b) := Lib.hid (by rw [← hq, ← hb]; exact decide_eq_decide.2 ⟨fun h => h.1 c1, fun h => ⟨fun _ => h, fun e => absurd c1 e⟩⟩)
    clear hq hb c1
    go_enter Try.func54, Try.ntmps54
    go_wp2_with fail
    refine (H0.out _).mono ?_
    rintro e w' ⟨rfl, rfl⟩
    go_wp2_with fail
    go_ret
    exact ⟨ret_bool HE.out.symm, HXB.out.1⟩
  · have n1 : (j.kd != 4) = true := by simpa using c1
    have n2 : (j.kd == 4) = false := by simpa using c1
    obtain ⟨b, hb⟩ : ∃ b, (j.cp == 0) = b := ⟨_, rfl⟩
    have HE : Hid (q = b) := Lib.hid (by
      rw [← hq, ← hb]
      show decide (Copies j) = decide (j.cp = 0)
      exact decide_eq_decide.2 ⟨fun h => h.2 c1, fun h => ⟨fun e => absurd e c1, fun _ => h⟩⟩)
    clear hq c1
    go_enter Try.func54, Try.ntmps54
    go_wp2_with fail
    go_ret
    exact ⟨ret_bool HE.out.symm, HXB.out.1⟩
end Im
end Go.Proofs.Ytghlgmlelipjfaa.Job
namespace Go.Proofs.Ytghlgmlelipjfaa.Job
open Go.RowKit Go.Lib
open Goods (St Sts OwnS)
namespace Im
open Classical in
set_option maxRecDepth 100000 in
set_option maxHeartbeats 8000000 in
theorem mayStand_is (j : JS) (v : Value) (w : World) (ht : j.tm ≤ 1099511627776) : Calls Try.prog 31 #[jV j v] w fun e w' => e = .returned (.bool (decide (Stands j))) ∧ Below w.heap.size w w' := by
  obtain ⟨q, hq⟩ : ∃ q, decide (Stands j) = q := ⟨_, rfl⟩
  rw [hq]
  obtain ⟨V, X, hV, hX, HXB, HH⟩ := box_jo w j v
  obtain ⟨k0, k1, k2, k3, k4, k5, k6, k7, k8, k9, k10, k11, k12, k13, k14, k15⟩ := jo_at HH.out
  by_cases c1 : j.st = 1
  · have g1 : (j.st == 1) = true := by simpa using c1
    by_cases p0 : j.sr = 0
    · have f0 : (j.sr == 0) = true := by simpa using p0
      by_cases p1 : j.en = 0
      · have f1 : (j.en == 0) = true := by simpa using p1
        by_cases p2 : 1 ≤ j.lf ∧ j.lf ≤ j.tm
        · have H2 := in_as (decide_eq_true p2)
          have HE : Hid (q = true) := Lib.hid (hq.symm.trans (decide_eq_true ((st_wait (.inl c1)).2 (by unfold Waits; omega))))
          clear hq ht c1 p0 p1 p2
          go_enter Try.func31, Try.ntmps31
          go_wp2_with fail
          refine (H2.out _).mono ?_
          rintro e w' ⟨rfl, rfl⟩
          go_wp2_with fail
          go_ret
          exact ⟨ret_bool HE.out.symm, HXB.out.1⟩
        · have H2 := in_as (decide_eq_false p2)
          have HE : Hid (q = false) := Lib.hid (hq.symm.trans (decide_eq_false fun h => (by have h2 := (st_wait (.inl c1)).1 h; unfold Waits at h2; omega)))
          clear hq ht c1 p0 p1 p2
          go_enter Try.func31, Try.ntmps31
          go_wp2_with fail
          refine (H2.out _).mono ?_
          rintro e w' ⟨rfl, rfl⟩
          go_wp2_with fail
          go_ret
          exact ⟨ret_bool HE.out.symm, HXB.out.1⟩
      · have f1 : (j.en == 0) = false := by simpa using p1
        have HE : Hid (q = false) := Lib.hid (hq.symm.trans (decide_eq_false fun h => (by have h2 := (st_wait (.inl c1)).1 h; unfold Waits at h2; omega)))
        clear hq ht c1 p0 p1
        go_enter Try.func31, Try.ntmps31
        go_wp2_with fail
        go_ret
        exact ⟨ret_bool HE.out.symm, HXB.out.1⟩
    · have f0 : (j.sr == 0) = false := by simpa using p0
      have HE : Hid (q = false) := Lib.hid (hq.symm.trans (decide_eq_false fun h => (by have h2 := (st_wait (.inl c1)).1 h; unfold Waits at h2; omega)))
      clear hq ht c1 p0
      go_enter Try.func31, Try.ntmps31
      go_wp2_with fail
      go_ret
      exact ⟨ret_bool HE.out.symm, HXB.out.1⟩
  have g1 : (j.st == 1) = false := by simpa using c1
  by_cases c3 : j.st = 3
  · have g3 : (j.st == 3) = true := by simpa using c3
    by_cases p0 : j.sr = 0
    · have f0 : (j.sr == 0) = true := by simpa using p0
      by_cases p1 : j.en = 0
      · have f1 : (j.en == 0) = true := by simpa using p1
        by_cases p2 : 1 ≤ j.lf ∧ j.lf ≤ j.tm
        · have H2 := in_as (decide_eq_true p2)
          have HE : Hid (q = true) := Lib.hid (hq.symm.trans (decide_eq_true ((st_wait (.inr c3)).2 (by unfold Waits; omega))))
          clear hq ht c1 c3 p0 p1 p2
          go_enter Try.func31, Try.ntmps31
          go_wp2_with fail
          refine (H2.out _).mono ?_
          rintro e w' ⟨rfl, rfl⟩
          go_wp2_with fail
          go_ret
          exact ⟨ret_bool HE.out.symm, HXB.out.1⟩
        · have H2 := in_as (decide_eq_false p2)
          have HE : Hid (q = false) := Lib.hid (hq.symm.trans (decide_eq_false fun h => (by have h2 := (st_wait (.inr c3)).1 h; unfold Waits at h2; omega)))
          clear hq ht c1 c3 p0 p1 p2
          go_enter Try.func31, Try.ntmps31
          go_wp2_with fail
          refine (H2.out _).mono ?_
          rintro e w' ⟨rfl, rfl⟩
          go_wp2_with fail
          go_ret
          exact ⟨ret_bool HE.out.symm, HXB.out.1⟩
      · have f1 : (j.en == 0) = false := by simpa using p1
        have HE : Hid (q = false) := Lib.hid (hq.symm.trans (decide_eq_false fun h => (by have h2 := (st_wait (.inr c3)).1 h; unfold Waits at h2; omega)))
        clear hq ht c1 c3 p0 p1
        go_enter Try.func31, Try.ntmps31
        go_wp2_with fail
        go_ret
        exact ⟨ret_bool HE.out.symm, HXB.out.1⟩
    · have f0 : (j.sr == 0) = false := by simpa using p0
      have HE : Hid (q = false) := Lib.hid (hq.symm.trans (decide_eq_false fun h => (by have h2 := (st_wait (.inr c3)).1 h; unfold Waits at h2; omega)))
      clear hq ht c1 c3 p0
      go_enter Try.func31, Try.ntmps31
      go_wp2_with fail
      go_ret
      exact ⟨ret_bool HE.out.symm, HXB.out.1⟩
  have g3 : (j.st == 3) = false := by simpa using c3
  by_cases c2 : j.st = 2
  · have g2 : (j.st == 2) = true := by simpa using c2
    by_cases p0 : 0 ≤ j.sr ∧ j.sr ≤ 1099511627776
    · have H0 := in_as (decide_eq_true p0)
      by_cases p1 : 1 ≤ j.lf ∧ j.lf ≤ j.tm
      · have H1 := in_as (decide_eq_true p1)
        obtain ⟨S, hS⟩ : ∃ S, j.sr + j.lf = S := ⟨_, rfl⟩
        have ws : IntKind.i64.wrap (j.sr + j.lf) = S := by rw [hS]; exact IntWalk.i64_in _ (by omega)
        by_cases p2 : j.en = S
        · have f2 : (j.en == S) = true := by simpa using p2
          have HE : Hid (q = true) := Lib.hid (hq.symm.trans (decide_eq_true ((st_run c2).2 (by unfold Runs; omega))))
          clear hq ht c1 c3 c2 p0 p1 hS p2
          go_enter Try.func31, Try.ntmps31
          go_wp2_with fail
          refine (H0.out _).mono ?_
          rintro e w' ⟨rfl, rfl⟩
          go_wp2_with fail
          refine (H1.out _).mono ?_
          rintro e w' ⟨rfl, rfl⟩
          go_wp2_with fail
          go_ret
          exact ⟨ret_bool HE.out.symm, HXB.out.1⟩
        · have f2 : (j.en == S) = false := by simpa using p2
          have HE : Hid (q = false) := Lib.hid (hq.symm.trans (decide_eq_false fun h => (by have h2 := (st_run c2).1 h; unfold Runs at h2; omega)))
          clear hq ht c1 c3 c2 p0 p1 hS p2
          go_enter Try.func31, Try.ntmps31
          go_wp2_with fail
          refine (H0.out _).mono ?_
          rintro e w' ⟨rfl, rfl⟩
          go_wp2_with fail
          refine (H1.out _).mono ?_
          rintro e w' ⟨rfl, rfl⟩
          go_wp2_with fail
          go_ret
          exact ⟨ret_bool HE.out.symm, HXB.out.1⟩
      · have H1 := in_as (decide_eq_false p1)
        have HE : Hid (q = false) := Lib.hid (hq.symm.trans (decide_eq_false fun h => (by have h2 := (st_run c2).1 h; unfold Runs at h2; omega)))
        clear hq ht c1 c3 c2 p0 p1
        go_enter Try.func31, Try.ntmps31
        go_wp2_with fail
        refine (H0.out _).mono ?_
        rintro e w' ⟨rfl, rfl⟩
        go_wp2_with fail
        refine (H1.out _).mono ?_
        rintro e w' ⟨rfl, rfl⟩
        go_wp2_with fail
        go_ret
        exact ⟨ret_bool HE.out.symm, HXB.out.1⟩
    · have H0 := in_as (decide_eq_false p0)
      have HE : Hid (q = false) := Lib.hid (hq.symm.trans (decide_eq_false fun h => (by have h2 := (st_run c2).1 h; unfold Runs at h2; omega)))
      clear hq ht c1 c3 c2 p0
      go_enter Try.func31, Try.ntmps31
      go_wp2_with fail
      refine (H0.out _).mono ?_
      rintro e w' ⟨rfl, rfl⟩
      go_wp2_with fail
      go_ret
      exact ⟨ret_bool HE.out.symm, HXB.out.1⟩
  have g2 : (j.st == 2) = false := by simpa using c2
  by_cases c4 : j.st = 4
  · have g4 : (j.st == 4) = true := by simpa using c4
    by_cases p0 : 0 ≤ j.sr ∧ j.sr ≤ 1099511627776
    · have H0 := in_as (decide_eq_true p0)
      obtain ⟨S, hS⟩ : ∃ S, j.sr + 1 = S := ⟨_, rfl⟩
      have ws : IntKind.i64.wrap (j.sr + 1) = S := by rw [hS]; exact IntWalk.i64_in _ (by omega)
      by_cases p1 : S ≤ j.en ∧ j.en ≤ 2199023255552
      · have H1 := in_as (decide_eq_true p1)
        by_cases p2 : j.lf = 0
        · have f2 : (j.lf == 0) = true := by simpa using p2
          have HE : Hid (q = true) := Lib.hid (hq.symm.trans (decide_eq_true ((st_end (.inl c4)).2 (by unfold Ended; omega))))
          clear hq ht c1 c3 c2 c4 p0 hS p1 p2
          go_enter Try.func31, Try.ntmps31
          go_wp2_with fail
          refine (H0.out _).mono ?_
          rintro e w' ⟨rfl, rfl⟩
          go_wp2_with fail
          refine (H1.out _).mono ?_
          rintro e w' ⟨rfl, rfl⟩
          go_wp2_with fail
          go_ret
          exact ⟨ret_bool HE.out.symm, HXB.out.1⟩
        · have f2 : (j.lf == 0) = false := by simpa using p2
          have HE : Hid (q = false) := Lib.hid (hq.symm.trans (decide_eq_false fun h => (by have h2 := (st_end (.inl c4)).1 h; unfold Ended at h2; omega)))
          clear hq ht c1 c3 c2 c4 p0 hS p1 p2
          go_enter Try.func31, Try.ntmps31
          go_wp2_with fail
          refine (H0.out _).mono ?_
          rintro e w' ⟨rfl, rfl⟩
          go_wp2_with fail
          refine (H1.out _).mono ?_
          rintro e w' ⟨rfl, rfl⟩
          go_wp2_with fail
          go_ret
          exact ⟨ret_bool HE.out.symm, HXB.out.1⟩
      · have H1 := in_as (decide_eq_false p1)
        have HE : Hid (q = false) := Lib.hid (hq.symm.trans (decide_eq_false fun h => (by have h2 := (st_end (.inl c4)).1 h; unfold Ended at h2; omega)))
        clear hq ht c1 c3 c2 c4 p0 hS p1
        go_enter Try.func31, Try.ntmps31
        go_wp2_with fail
        refine (H0.out _).mono ?_
        rintro e w' ⟨rfl, rfl⟩
        go_wp2_with fail
        refine (H1.out _).mono ?_
        rintro e w' ⟨rfl, rfl⟩
        go_wp2_with fail
        go_ret
        exact ⟨ret_bool HE.out.symm, HXB.out.1⟩
    · have H0 := in_as (decide_eq_false p0)
      have HE : Hid (q = false) := Lib.hid (hq.symm.trans (decide_eq_false fun h => (by have h2 := (st_end (.inl c4)).1 h; unfold Ended at h2; omega)))
      clear hq ht c1 c3 c2 c4 p0
      go_enter Try.func31, Try.ntmps31
      go_wp2_with fail
      refine (H0.out _).mono ?_
      rintro e w' ⟨rfl, rfl⟩
      go_wp2_with fail
      go_ret
      exact ⟨ret_bool HE.out.symm, HXB.out.1⟩
  have g4 : (j.st == 4) = false := by simpa using c4
  by_cases c5 : j.st = 5
  · have g5 : (j.st == 5) = true := by simpa using c5
    by_cases p0 : 0 ≤ j.sr ∧ j.sr ≤ 1099511627776
    · have H0 := in_as (decide_eq_true p0)
      obtain ⟨S, hS⟩ : ∃ S, j.sr + 1 = S := ⟨_, rfl⟩
      have ws : IntKind.i64.wrap (j.sr + 1) = S := by rw [hS]; exact IntWalk.i64_in _ (by omega)
      by_cases p1 : S ≤ j.en ∧ j.en ≤ 2199023255552
      · have H1 := in_as (decide_eq_true p1)
        by_cases p2 : j.lf = 0
        · have f2 : (j.lf == 0) = true := by simpa using p2
          have HE : Hid (q = true) := Lib.hid (hq.symm.trans (decide_eq_true ((st_end (.inr c5)).2 (by unfold Ended; omega))))
          clear hq ht c1 c3 c2 c4 c5 p0 hS p1 p2
          go_enter Try.func31, Try.ntmps31
          go_wp2_with fail
          refine (H0.out _).mono ?_
          rintro e w' ⟨rfl, rfl⟩
          go_wp2_with fail
          refine (H1.out _).mono ?_
          rintro e w' ⟨rfl, rfl⟩
          go_wp2_with fail
          go_ret
          exact ⟨ret_bool HE.out.symm, HXB.out.1⟩
        · have f2 : (j.lf == 0) = false := by simpa using p2
          have HE : Hid (q = false) := Lib.hid (hq.symm.trans (decide_eq_false fun h => (by have h2 := (st_end (.inr c5)).1 h; unfold Ended at h2; omega)))
          clear hq ht c1 c3 c2 c4 c5 p0 hS p1 p2
          go_enter Try.func31, Try.ntmps31
          go_wp2_with fail
          refine (H0.out _).mono ?_
          rintro e w' ⟨rfl, rfl⟩
          go_wp2_with fail
          refine (H1.out _).mono ?_
          rintro e w' ⟨rfl, rfl⟩
          go_wp2_with fail
          go_ret
          exact ⟨ret_bool HE.out.symm, HXB.out.1⟩
      · have H1 := in_as (decide_eq_false p1)
        have HE : Hid (q = false) := Lib.hid (hq.symm.trans (decide_eq_false fun h => (by have h2 := (st_end (.inr c5)).1 h; unfold Ended at h2; omega)))
        clear hq ht c1 c3 c2 c4 c5 p0 hS p1
        go_enter Try.func31, Try.ntmps31
        go_wp2_with fail
        refine (H0.out _).mono ?_
        rintro e w' ⟨rfl, rfl⟩
        go_wp2_with fail
        refine (H1.out _).mono ?_
        rintro e w' ⟨rfl, rfl⟩
        go_wp2_with fail
        go_ret
        exact ⟨ret_bool HE.out.symm, HXB.out.1⟩
    · have H0 := in_as (decide_eq_false p0)
      have HE : Hid (q = false) := Lib.hid (hq.symm.trans (decide_eq_false fun h => (by have h2 := (st_end (.inr c5)).1 h; unfold Ended at h2; omega)))
      clear hq ht c1 c3 c2 c4 c5 p0
      go_enter Try.func31, Try.ntmps31
      go_wp2_with fail
      refine (H0.out _).mono ?_
      rintro e w' ⟨rfl, rfl⟩
      go_wp2_with fail
      go_ret
      exact ⟨ret_bool HE.out.symm, HXB.out.1⟩
  have g5 : (j.st == 5) = false := by simpa using c5
  by_cases c6 : j.st = 6
  · have g6 : (j.st == 6) = true := by simpa using c6
    by_cases p0 : j.sr = 0
    · have f0 : (j.sr == 0) = true := by simpa using p0
      by_cases p1 : j.en = 0
      · have f1 : (j.en == 0) = true := by simpa using p1
        by_cases p2 : j.lf = 0
        · have f2 : (j.lf == 0) = true := by simpa using p2
          have HE : Hid (q = true) := Lib.hid (hq.symm.trans (decide_eq_true ((st_gone c6).2 (by unfold Gone; omega))))
          clear hq ht c1 c3 c2 c4 c5 c6 p0 p1 p2
          go_enter Try.func31, Try.ntmps31
          go_wp2_with fail
          go_ret
          exact ⟨ret_bool HE.out.symm, HXB.out.1⟩
        · have f2 : (j.lf == 0) = false := by simpa using p2
          have HE : Hid (q = false) := Lib.hid (hq.symm.trans (decide_eq_false fun h => (by have h2 := (st_gone c6).1 h; unfold Gone at h2; omega)))
          clear hq ht c1 c3 c2 c4 c5 c6 p0 p1 p2
          go_enter Try.func31, Try.ntmps31
          go_wp2_with fail
          go_ret
          exact ⟨ret_bool HE.out.symm, HXB.out.1⟩
      · have f1 : (j.en == 0) = false := by simpa using p1
        have HE : Hid (q = false) := Lib.hid (hq.symm.trans (decide_eq_false fun h => (by have h2 := (st_gone c6).1 h; unfold Gone at h2; omega)))
        clear hq ht c1 c3 c2 c4 c5 c6 p0 p1
        go_enter Try.func31, Try.ntmps31
        go_wp2_with fail
        go_ret
        exact ⟨ret_bool HE.out.symm, HXB.out.1⟩
    · have f0 : (j.sr == 0) = false := by simpa using p0
      have HE : Hid (q = false) := Lib.hid (hq.symm.trans (decide_eq_false fun h => (by have h2 := (st_gone c6).1 h; unfold Gone at h2; omega)))
      clear hq ht c1 c3 c2 c4 c5 c6 p0
      go_enter Try.func31, Try.ntmps31
      go_wp2_with fail
      go_ret
      exact ⟨ret_bool HE.out.symm, HXB.out.1⟩
  have g6 : (j.st == 6) = false := by simpa using c6
  have HE : Hid (q = false) := Lib.hid (hq.symm.trans (decide_eq_false (st_no c1 c2 c3 c4 c5 c6)))
  clear hq ht c1 c3 c2 c4 c5 c6
  go_enter Try.func31, Try.ntmps31
  go_wp2_with fail
  go_ret
  exact ⟨ret_bool HE.out.symm, HXB.out.1⟩
end Im
end Go.Proofs.Ytghlgmlelipjfaa.Job
