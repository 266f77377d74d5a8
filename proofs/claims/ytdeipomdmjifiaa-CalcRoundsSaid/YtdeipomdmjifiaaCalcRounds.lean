/- The walk over the law CalcRounds: rounded up it is what it is rounded down, or one more. -/
import Derived.Test.YtdeipomdmjifiaaCalcAwake
import Derived.RowKit3
namespace Go.Proofs.Ytdeipomdmjifiaa
open Go.RowKit Go.Lib

theorem grown_drewN {W w : World} (h : Grown W w) (n : Nat) : Grown W (w.drewN n) := h

set_option maxHeartbeats 4000000 in
set_option maxRecDepth 100000 in
theorem lawRounds_core (x0 x1 x2 x3 x y c z p r n m K k : Int) (w : World)
    (hx : x0 / 2 = x) (hy : x1 / 2 = y) (hc : x2 / 2 = c) (hz : x3 / 2 = z) (eP : x * y = p) (eR : p % (1 + c) = r) (eK : n * (1 + c) = K)
    (x4 : 0 ≤ x) (x5 : x ≤ 2147483647) (y4 : 0 ≤ y) (y5 : y ≤ 2147483647) (c4 : 0 ≤ c) (c5 : c ≤ 2147483647) (z4 : 0 ≤ z) (z5 : z ≤ 2147483647)
    (p4 : 0 ≤ p) (p5 : p ≤ 4611686018427387904) (K4 : 0 ≤ K) (K5 : K ≤ p) (K6 : p - K < 1 + c) (n4 : 0 ≤ n) (n5 : n ≤ p) (m4 : n ≤ m) (m5 : m ≤ n + 1) (k4 : n ≤ k) (k5 : k ≤ 9223372036854775807)
    (hn : Hid (n = scaleQ x y (1 + c) false)) (hm : Hid (m = scaleQ x y (1 + c) true)) (hk : Hid (k = scaleQ (x + z) y (1 + c) false)) (ho : Hid (x = scaleQ x (1 + c) (1 + c) true))
    (hr : (m == n) = (r == 0)) :
    Calls Try.prog 5 #[.agg #[.int .u32 x0, .int .u32 x1, .int .u32 x2, .int .u32 x3]] w fun e w' => e = .returned (.bool true) ∧ Grown w w' := by
  go_enter Try.func5, Try.ntmps5
  go_wp2_with fail
  go_quiet (fail)
  go_wp2_with fail
  refine (scale_at _ _ _ n false _ x4 (by omega) y4 (by omega) (by omega) (by omega) hn.out (by omega) (by omega)).mono ?_
  rintro e w' ⟨rfl, n1, rfl⟩
  go_wp2_with fail
  refine (scale_at _ _ _ m true _ x4 (by omega) y4 (by omega) (by omega) (by omega) hm.out (by omega) (by omega)).mono ?_
  rintro e w' ⟨rfl, n2, rfl⟩
  go_wp2_with fail
  refine (scale_at _ _ _ k false _ (by omega) (by omega) y4 (by omega) (by omega) (by omega) hk.out (by omega) (by omega)).mono ?_
  rintro e w' ⟨rfl, n3, rfl⟩
  go_wp2_with fail
  refine (scale_at _ _ _ x true _ x4 (by omega) (by omega) (by omega) (by omega) (by omega) ho.out (by omega) (by omega)).mono ?_
  rintro e w' ⟨rfl, n4, rfl⟩
  go_wp2_with fail
  refine (awake_any _).mono ?_
  rintro e w' ⟨rfl, n5, rfl⟩
  go_wp2_with fail
  go_ret
  exact ⟨rfl, grown_drewN ((Grown.refl _).alloc _ _) _⟩

theorem lawRounds (x0 x1 x2 x3 : Int) (w : World) (a0 : 0 ≤ x0) (a1 : x0 ≤ 4294967295) (b0 : 0 ≤ x1) (b1 : x1 ≤ 4294967295) (c0 : 0 ≤ x2) (c1 : x2 ≤ 4294967295) (d0 : 0 ≤ x3) (d1 : x3 ≤ 4294967295) :
    Calls Try.prog 5 #[.agg #[.int .u32 x0, .int .u32 x1, .int .u32 x2, .int .u32 x3]] w fun e w' => e = .returned (.bool true) ∧ Grown w w' := by
  generalize hx : x0 / 2 = x
  generalize hy : x1 / 2 = y
  generalize hc : x2 / 2 = c
  generalize hz : x3 / 2 = z
  have x4 : 0 ≤ x ∧ x ≤ 2147483647 := by omega
  have y4 : 0 ≤ y ∧ y ≤ 2147483647 := by omega
  have c4 : 0 ≤ c ∧ c ≤ 2147483647 := by omega
  have z4 : 0 ≤ z ∧ z ≤ 2147483647 := by omega
  have hp := prod_bound x4.1 y4.1 x4.2 y4.2 (by omega)
  have hk := prod_bound (show 0 ≤ x + z by omega) y4.1 (show x + z ≤ 4294967294 by omega) y4.2 (by omega)
  have hxy : x * y ≤ (x + z) * y := Int.mul_le_mul_of_nonneg_right (by omega) y4.1
  have h1 := Int.ediv_le_ediv (show 0 < 1 + c by omega) hxy
  have h2 := Int.ediv_le_self (1 + c) hk.1
  have h3 := Int.ediv_nonneg hp.1 (show 0 ≤ 1 + c by omega)
  have h4 := Int.ediv_le_self (1 + c) hp.1
  have e := Int.mul_ediv_add_emod (x * y) (1 + c)
  have e0 := Int.emod_nonneg (x * y) (show 1 + c ≠ 0 by omega)
  have e1 := Int.emod_lt_of_pos (x * y) (show 0 < 1 + c by omega)
  rw [Int.mul_comm] at e
  have h5 : 0 ≤ x * y / (1 + c) * (1 + c) := Int.mul_nonneg h3 (by omega)
  have hm : (scaleQ x y (1 + c) true == x * y / (1 + c)) = (x * y % (1 + c) == 0) ∧ x * y / (1 + c) ≤ scaleQ x y (1 + c) true ∧ scaleQ x y (1 + c) true ≤ x * y / (1 + c) + 1 := by
    by_cases hr : x * y % (1 + c) = 0
    · rw [scaleQ_even _ hr, hr]; simp; omega
    · rw [scaleQ_up hr, Bool.eq_iff_iff]; simp [hr]; omega
  have hx1 : scaleQ x (1 + c) (1 + c) true = x := by
    rw [scaleQ_even _ (Int.mul_emod_left x (1 + c)), Int.mul_ediv_cancel _ (by omega)]
  exact lawRounds_core x0 x1 x2 x3 x y c z (x * y) _ (x * y / (1 + c)) (scaleQ x y (1 + c) true) _ ((x + z) * y / (1 + c)) w hx hy hc hz rfl rfl rfl
    x4.1 x4.2 y4.1 y4.2 c4.1 c4.2 z4.1 z4.2 hp.1 (by omega) h5 (by omega) (by omega) h3 h4 hm.2.1 hm.2.2 h1 (by omega)
    (Lib.hid (scaleQ_down _ _ _).symm) (Lib.hid rfl) (Lib.hid (scaleQ_down _ _ _).symm) (Lib.hid hx1.symm) hm.1
end Go.Proofs.Ytdeipomdmjifiaa
