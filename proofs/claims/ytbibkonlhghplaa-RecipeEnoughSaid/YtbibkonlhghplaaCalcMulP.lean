/- Package calc's Mul, as later layers call it (behind the shelf). -/
import Derived.Test.YtbibkonlhghplaaCalcWordP
namespace Go.Proofs.Ytbibkonlhghplaa.Calc
open Go.RowKit Go.Lib

theorem neg_wrap {n : Int} (h1 : -9223372036854775808 ≤ n) (h : n < 0) : IntKind.u64.wrap (-IntKind.u64.wrap n) = -n := by rw [IntKind.wrap_u64, IntKind.wrap_u64]; omega
theorem below_wrap {n : Int} (h1 : 0 ≤ n) (h : n ≤ 9223372036854775808) : wrap64 (IntKind.u64.wrap (-n)) = -n := by rw [IntKind.wrap_u64]; unfold wrap64; omega

set_option maxHeartbeats 400000 in
theorem far_any (n : Int) (w : World) (a1 : -9223372036854775808 ≤ n) (a2 : n ≤ 9223372036854775807) :
    Calls Try.prog 39 #[.int .i64 n] w fun e w' => e = .returned (.int .u64 n.natAbs) ∧ w = w' := by
  by_cases h : n < 0
  · go_enter Try.func39, Try.ntmps39
    go_wp2
    go_ret
    exact ⟨ret_u64 (by rw [neg_wrap a1 h]; omega), rfl⟩
  · go_enter Try.func39, Try.ntmps39
    go_wp2
    go_ret
    exact ⟨ret_u64 (by omega), rfl⟩
set_option maxHeartbeats 400000 in
theorem below_any (n : Int) (w : World) (a0 : 0 ≤ n) (a1 : n < 18446744073709551616) :
    Calls Try.prog 40 #[.int .u64 n] w fun e w' => e = .returned (.tuple #[.int .i64 (valN (-n)), .int .i64 (valE (-n))]) ∧ w = w' := by
  by_cases h : 9223372036854775808 < n
  · go_enter Try.func40, Try.ntmps40
    go_wp2
    go_ret2
    exact ⟨pair_out (Or.inl (by omega)), rfl⟩
  · go_enter Try.func40, Try.ntmps40
    go_wp2
    go_ret2
    exact ⟨ret_pair (by rw [below_wrap a0 (by omega), valN_in (by omega) (by omega)]) (valE_in (by omega) (by omega)).symm, rfl⟩
theorem abs_mul (a b : Int) : (a * b).natAbs = a.natAbs * b.natAbs := Int.natAbs_mul a b
/-- The product's sign and size out of the factors'. -/
theorem mul_same (a b : Int) (h : (a < 0) = (b < 0)) : a * b = (a.natAbs : Int) * (b.natAbs : Int) := by
  rw [← Int.natCast_mul, ← abs_mul]
  have : 0 ≤ a * b := by
    by_cases ha : a < 0
    · have hb : b < 0 := by rw [← h]; exact ha
      exact Int.mul_nonneg_of_nonpos_of_nonpos (by omega) (by omega)
    · have hb : ¬ b < 0 := by rw [← h]; exact ha
      exact Int.mul_nonneg (by omega) (by omega)
  omega
theorem mul_diff (a b : Int) (h : (a < 0) = ¬ (b < 0)) : a * b = -((a.natAbs : Int) * (b.natAbs : Int)) := by
  rw [← Int.natCast_mul, ← abs_mul]
  have : a * b ≤ 0 := by
    by_cases ha : a < 0
    · have hb : ¬ b < 0 := by rw [← h]; exact ha
      exact Int.mul_nonpos_of_nonpos_of_nonneg (by omega) (by omega)
    · have hb : b < 0 := by
        by_cases hb : b < 0
        · exact hb
        · exact absurd (by rw [h]; exact hb) ha
      exact Int.mul_nonpos_of_nonneg_of_nonpos (by omega) (by omega)
  omega
/-- The product, told by sizes and signs. -/
theorem mul_signs (a b X Y : Int) (s t : Bool) (hX : X = a.natAbs) (hY : Y = b.natAbs) (hs : s = decide (a < 0)) (ht : t = decide (b < 0)) :
    a * b = if (s != t) = true then -(X * Y) else X * Y := by
  subst hX hY hs ht
  by_cases ha : a < 0 <;> by_cases hb : b < 0 <;> simp [ha, hb]
  · exact mul_same a b (by simp [ha, hb])
  · exact mul_diff a b (by simp [ha, hb])
  · exact mul_diff a b (by simp [ha, hb])
  · exact mul_same a b (by simp [ha, hb])

theorem far_as (n X : Int) (w : World) (a1 : -9223372036854775808 ≤ n) (a2 : n ≤ 9223372036854775807) (hX : X = n.natAbs) :
    Calls Try.prog 39 #[.int .i64 n] w fun e w' => e = .returned (.int .u64 X) ∧ w = w' := by
  subst hX; exact far_any n w a1 a2
theorem hi_zero {x y : Int} (_ : 0 ≤ x * y) (h : hiW x y = 0) : x * y < 18446744073709551616 ∧ loW x y = x * y := by unfold hiW at h; unfold loW; omega
theorem hi_more {x y : Int} (_ : 0 ≤ x * y) (h : hiW x y ≠ 0) : 18446744073709551616 ≤ x * y := by unfold hiW at h; omega
theorem hi_test_true {x y : Int} (h : hiW x y ≠ 0) : (hiW x y != 0) = true := by simp [h]
theorem hi_test_false {x y : Int} (h : hiW x y = 0) : (hiW x y != 0) = false := by simp [h]

set_option maxHeartbeats 1000000 in
theorem mul_core (a b X Y : Int) (s t : Bool) (w : World) (a1 : -9223372036854775808 ≤ a) (a2 : a ≤ 9223372036854775807) (b1 : -9223372036854775808 ≤ b) (b2 : b ≤ 9223372036854775807)
    (hX : X = a.natAbs) (hY : Y = b.natAbs) (hs : s = decide (a < 0)) (ht : t = decide (b < 0)) :
    Calls Try.prog 32 #[.int .i64 a, .int .i64 b] w fun e w' => e = .returned (.tuple #[.int .i64 (valN (a * b)), .int .i64 (valE (a * b))]) ∧ w = w' := by
  have hm := mul_signs a b X Y s t hX hY hs ht
  have x0 : 0 ≤ X := by omega
  have x1 : X ≤ 9223372036854775808 := by omega
  have y0 : 0 ≤ Y := by omega
  have y1 : Y ≤ 9223372036854775808 := by omega
  have hp : 0 ≤ X * Y := Int.mul_nonneg x0 y0
  have HX := Lib.hid hX; have HY := Lib.hid hY
  clear hX hY
  by_cases hz : hiW X Y = 0
  · obtain ⟨hlt, hlo⟩ := hi_zero hp hz
    have hne := hi_test_false hz
    clear hz
    have HL := Lib.hid hlo; clear hlo
    cases s <;> cases t
    all_goals
      have hs' := hs.symm
      have ht' := ht.symm
      have HM := Lib.hid hm
      clear hs ht hm
      go_enter Try.func32, Try.ntmps32
      go_wp2_with fail
      refine (far_as a X _ a1 a2 HX.out).mono ?_
      rintro e w' ⟨rfl, rfl⟩
      go_wp2_with fail
      refine (far_as b Y _ b1 b2 HY.out).mono ?_
      rintro e w' ⟨rfl, rfl⟩
      go_wp2_with fail
      refine (mul64_any X Y _ x0 (by omega) y0 (by omega)).mono ?_
      rintro e w' ⟨rfl, rfl⟩
      go_wp2_with fail
      rw [HL.out]
      first
      | (refine (above_any (X * Y) _ hp hlt).mono ?_
         rintro e w' ⟨rfl, rfl⟩
         go_wp2_with fail
         go_ret2
         exact ⟨ret_pair (by rw [HM.out]; rfl) (by rw [HM.out]; rfl), rfl⟩)
      | (refine (below_any (X * Y) _ hp hlt).mono ?_
         rintro e w' ⟨rfl, rfl⟩
         go_wp2_with fail
         go_ret2
         exact ⟨ret_pair (by rw [HM.out]; rfl) (by rw [HM.out]; rfl), rfl⟩)
  · have hbig := hi_more hp hz
    have hne := hi_test_true hz
    clear hz
    have hout : a * b < -9223372036854775808 ∨ 9223372036854775807 < a * b := by
      rw [hm]; split
      · left; omega
      · right; omega
    have HM := Lib.hid hm
    clear hm hs ht
    go_enter Try.func32, Try.ntmps32
    go_wp2_with fail
    refine (far_as a X _ a1 a2 HX.out).mono ?_
    rintro e w' ⟨rfl, rfl⟩
    go_wp2_with fail
    refine (far_as b Y _ b1 b2 HY.out).mono ?_
    rintro e w' ⟨rfl, rfl⟩
    go_wp2_with fail
    refine (mul64_any X Y _ x0 (by omega) y0 (by omega)).mono ?_
    rintro e w' ⟨rfl, rfl⟩
    go_wp2_with fail
    go_ret2
    exact ⟨pair_out hout, rfl⟩
theorem mul_any (a b : Int) (w : World) (a1 : -9223372036854775808 ≤ a) (a2 : a ≤ 9223372036854775807) (b1 : -9223372036854775808 ≤ b) (b2 : b ≤ 9223372036854775807) :
    Calls Try.prog 32 #[.int .i64 a, .int .i64 b] w fun e w' => e = .returned (.tuple #[.int .i64 (valN (a * b)), .int .i64 (valE (a * b))]) ∧ w = w' :=
  mul_core a b _ _ _ _ w a1 a2 b1 b2 rfl rfl rfl rfl
end Go.Proofs.Ytbibkonlhghplaa.Calc
