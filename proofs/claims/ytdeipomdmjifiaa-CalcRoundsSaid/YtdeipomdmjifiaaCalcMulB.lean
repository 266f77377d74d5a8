/- Products: package calc's Mul, and the document's, are the product or ErrOver. -/
import Derived.Test.YtdeipomdmjifiaaCalcMul
namespace Go.Proofs.Ytdeipomdmjifiaa
open Go.RowKit Go.Lib

theorem abs_mul (a b : Int) : (a * b).natAbs = a.natAbs * b.natAbs := Int.natAbs_mul a b
/-- The product's sign and size out of the factors'. -/
theorem mul_same (a b : Int) (h : (a < 0) = (b < 0)) : a * b = (a.natAbs : Int) * (b.natAbs : Int) := by
  rw [← Int.natCast_mul, ← abs_mul]
  have : 0 ≤ a * b := by
    by_cases ha : a < 0
    · have hb : b < 0 := by rw [← h]; exact ha
      exact Int.mul_nonneg_of_nonpos_of_nonpos (by omega) (by omega)
    · have hb : ¬ b < 0 := by rw [← h]; exact ha
      exact Int.mul_nonneg (by omega) (by omega)
  omega
theorem mul_diff (a b : Int) (h : (a < 0) = ¬ (b < 0)) : a * b = -((a.natAbs : Int) * (b.natAbs : Int)) := by
  rw [← Int.natCast_mul, ← abs_mul]
  have : a * b ≤ 0 := by
    by_cases ha : a < 0
    · have hb : ¬ b < 0 := by rw [← h]; exact ha
      exact Int.mul_nonpos_of_nonpos_of_nonneg (by omega) (by omega)
    · have hb : b < 0 := by
        by_cases hb : b < 0
        · exact hb
        · exact absurd (by rw [h]; exact hb) ha
      exact Int.mul_nonpos_of_nonneg_of_nonpos (by omega) (by omega)
  omega
/-- The product, told by sizes and signs. -/
theorem mul_signs (a b X Y : Int) (s t : Bool) (hX : X = a.natAbs) (hY : Y = b.natAbs) (hs : s = decide (a < 0)) (ht : t = decide (b < 0)) :
    a * b = if (s != t) = true then -(X * Y) else X * Y := by
  subst hX hY hs ht
  by_cases ha : a < 0 <;> by_cases hb : b < 0 <;> simp [ha, hb]
  · exact mul_same a b (by simp [ha, hb])
  · exact mul_diff a b (by simp [ha, hb])
  · exact mul_diff a b (by simp [ha, hb])
  · exact mul_same a b (by simp [ha, hb])

theorem far_as (n X : Int) (w : World) (a1 : -9223372036854775808 ≤ n) (a2 : n ≤ 9223372036854775807) (hX : X = n.natAbs) :
    Calls Try.prog 18 #[.int .i64 n] w fun e w' => e = .returned (.int .u64 X) ∧ w = w' := by
  subst hX; exact far_any n w a1 a2
theorem size_as (n X : Int) (s : Bool) (w : World) (a1 : -9223372036854775808 ≤ n) (a2 : n ≤ 9223372036854775807) (hX : X = n.natAbs) (hs : s = decide (n < 0)) :
    Calls Try.prog 21 #[.int .i64 n] w fun e w' => e = .returned (.tuple #[.int .u64 X, .bool s]) ∧ w = w' := by
  subst hX hs; exact size_any n w a1 a2
theorem hi_zero {x y : Int} (_ : 0 ≤ x * y) (h : hiW x y = 0) : x * y < 18446744073709551616 ∧ loW x y = x * y := by unfold hiW at h; unfold loW; omega
theorem hi_more {x y : Int} (_ : 0 ≤ x * y) (h : hiW x y ≠ 0) : 18446744073709551616 ≤ x * y := by unfold hiW at h; omega
theorem hi_test_true {x y : Int} (h : hiW x y ≠ 0) : (hiW x y != 0) = true := by simp [h]
theorem hi_test_false {x y : Int} (h : hiW x y = 0) : (hiW x y != 0) = false := by simp [h]

set_option maxHeartbeats 1000000 in
theorem mul_core (a b X Y : Int) (s t : Bool) (w : World) (a1 : -9223372036854775808 ≤ a) (a2 : a ≤ 9223372036854775807) (b1 : -9223372036854775808 ≤ b) (b2 : b ≤ 9223372036854775807)
    (hX : X = a.natAbs) (hY : Y = b.natAbs) (hs : s = decide (a < 0)) (ht : t = decide (b < 0)) :
    Calls Try.prog 11 #[.int .i64 a, .int .i64 b] w fun e w' => e = .returned (.tuple #[.int .i64 (valN (a * b)), .int .i64 (valE (a * b))]) ∧ w = w' := by
  have hm := mul_signs a b X Y s t hX hY hs ht
  have x0 : 0 ≤ X := by omega
  have x1 : X ≤ 9223372036854775808 := by omega
  have y0 : 0 ≤ Y := by omega
  have y1 : Y ≤ 9223372036854775808 := by omega
  have hp : 0 ≤ X * Y := Int.mul_nonneg x0 y0
  have HX := Lib.hid hX; have HY := Lib.hid hY
  clear hX hY
  by_cases hz : hiW X Y = 0
  · obtain ⟨hlt, hlo⟩ := hi_zero hp hz
    have hne := hi_test_false hz
    clear hz
    have HL := Lib.hid hlo; clear hlo
    cases s <;> cases t
    all_goals
      have hs' := hs.symm
      have ht' := ht.symm
      have HM := Lib.hid hm
      clear hs ht hm
      go_enter Try.func11, Try.ntmps11
      go_wp2_with fail
      refine (far_as a X _ a1 a2 HX.out).mono ?_
      rintro e w' ⟨rfl, rfl⟩
      go_wp2_with fail
      refine (far_as b Y _ b1 b2 HY.out).mono ?_
      rintro e w' ⟨rfl, rfl⟩
      go_wp2_with fail
      refine (mul64_any X Y _ x0 (by omega) y0 (by omega)).mono ?_
      rintro e w' ⟨rfl, rfl⟩
      go_wp2_with fail
      rw [HL.out]
      first
      | (refine (above_any (X * Y) _ hp hlt).mono ?_
         rintro e w' ⟨rfl, rfl⟩
         go_wp2_with fail
         go_ret2
         exact ⟨ret_pair (by rw [HM.out]; rfl) (by rw [HM.out]; rfl), rfl⟩)
      | (refine (below_any (X * Y) _ hp hlt).mono ?_
         rintro e w' ⟨rfl, rfl⟩
         go_wp2_with fail
         go_ret2
         exact ⟨ret_pair (by rw [HM.out]; rfl) (by rw [HM.out]; rfl), rfl⟩)
  · have hbig := hi_more hp hz
    have hne := hi_test_true hz
    clear hz
    have hout : a * b < -9223372036854775808 ∨ 9223372036854775807 < a * b := by
      rw [hm]; split
      · left; omega
      · right; omega
    have HM := Lib.hid hm
    clear hm hs ht
    go_enter Try.func11, Try.ntmps11
    go_wp2_with fail
    refine (far_as a X _ a1 a2 HX.out).mono ?_
    rintro e w' ⟨rfl, rfl⟩
    go_wp2_with fail
    refine (far_as b Y _ b1 b2 HY.out).mono ?_
    rintro e w' ⟨rfl, rfl⟩
    go_wp2_with fail
    refine (mul64_any X Y _ x0 (by omega) y0 (by omega)).mono ?_
    rintro e w' ⟨rfl, rfl⟩
    go_wp2_with fail
    go_ret2
    exact ⟨pair_out hout, rfl⟩
theorem mul_any (a b : Int) (w : World) (a1 : -9223372036854775808 ≤ a) (a2 : a ≤ 9223372036854775807) (b1 : -9223372036854775808 ≤ b) (b2 : b ≤ 9223372036854775807) :
    Calls Try.prog 11 #[.int .i64 a, .int .i64 b] w fun e w' => e = .returned (.tuple #[.int .i64 (valN (a * b)), .int .i64 (valE (a * b))]) ∧ w = w' :=
  mul_core a b _ _ _ _ w a1 a2 b1 b2 rfl rfl rfl rfl
theorem over_iff {X Y : Int} (hy : 0 < Y) : 9223372036854775808 / Y < X ↔ 9223372036854775808 < X * Y := by
  constructor
  · intro h
    exact Int.lt_mul_of_ediv_lt hy h
  · intro h
    exact Int.ediv_lt_of_lt_mul hy h
theorem wrap_neg_max (n : Int) (h0 : 0 ≤ n) (h : n < 9223372036854775808) : -9223372036854775808 ≤ -n ∧ -n ≤ 9223372036854775807 := by omega
set_option maxHeartbeats 1000000 in
theorem rmul_core (a b X Y : Int) (s t : Bool) (w : World) (a1 : -9223372036854775808 ≤ a) (a2 : a ≤ 9223372036854775807) (b1 : -9223372036854775808 ≤ b) (b2 : b ≤ 9223372036854775807)
    (hX : X = a.natAbs) (hY : Y = b.natAbs) (hs : s = decide (a < 0)) (ht : t = decide (b < 0)) :
    Calls Try.prog 12 #[.int .i64 a, .int .i64 b] w fun e w' => e = .returned (.tuple #[.int .i64 (valN (a * b)), .int .i64 (valE (a * b))]) ∧ w = w' := by
  have hm := mul_signs a b X Y s t hX hY hs ht
  have x0 : 0 ≤ X := by omega
  have x1 : X ≤ 9223372036854775808 := by omega
  have y0 : 0 ≤ Y := by omega
  have y1 : Y ≤ 9223372036854775808 := by omega
  have hp : 0 ≤ X * Y := Int.mul_nonneg x0 y0
  have HX := Lib.hid hX; have HY := Lib.hid hY; have HS := Lib.hid hs; have HT := Lib.hid ht; have HM := Lib.hid hm
  clear hX hY hs ht hm
  by_cases hx : X = 0
  · have hd : (X == 0) = true := by simp [hx]
    have HP : Hid (X * Y = 0) := Lib.hid (by rw [hx, Int.zero_mul])
    clear hx
    go_enter Try.func12, Try.ntmps12
    go_wp2_with fail
    refine (size_as a X s _ a1 a2 HX.out HS.out).mono ?_
    rintro e w' ⟨rfl, rfl⟩
    go_wp2_with fail
    refine (size_as b Y t _ b1 b2 HY.out HT.out).mono ?_
    rintro e w' ⟨rfl, rfl⟩
    go_wp2_with fail
    go_ret2
    exact ⟨ret_pair (by rw [HM.out, HP.out]; cases s <;> cases t <;> rfl) (by rw [HM.out, HP.out]; cases s <;> cases t <;> rfl), rfl⟩
  have hd : (X == 0) = false := by simp [hx]
  have x2 : 0 < X := by omega
  clear hx
  by_cases hy : Y = 0
  · have hd2 : (Y == 0) = true := by simp [hy]
    have HP : Hid (X * Y = 0) := Lib.hid (by rw [hy, Int.mul_zero])
    clear hy
    go_enter Try.func12, Try.ntmps12
    go_wp2_with fail
    refine (size_as a X s _ a1 a2 HX.out HS.out).mono ?_
    rintro e w' ⟨rfl, rfl⟩
    go_wp2_with fail
    refine (size_as b Y t _ b1 b2 HY.out HT.out).mono ?_
    rintro e w' ⟨rfl, rfl⟩
    go_wp2_with fail
    go_ret2
    exact ⟨ret_pair (by rw [HM.out, HP.out]; cases s <;> cases t <;> rfl) (by rw [HM.out, HP.out]; cases s <;> cases t <;> rfl), rfl⟩
  have hd2 : (Y == 0) = false := by simp [hy]
  have y2 : 0 < Y := by omega
  clear hy
  by_cases ho : 9223372036854775808 < X * Y
  · have hd3 : 9223372036854775808 / Y < X := (over_iff y2).2 ho
    have hout : a * b < -9223372036854775808 ∨ 9223372036854775807 < a * b := by
      rw [HM.out]; split
      · left; omega
      · right; omega
    clear ho
    go_enter Try.func12, Try.ntmps12
    go_wp2_with fail
    refine (size_as a X s _ a1 a2 HX.out HS.out).mono ?_
    rintro e w' ⟨rfl, rfl⟩
    go_wp2_with fail
    refine (size_as b Y t _ b1 b2 HY.out HT.out).mono ?_
    rintro e w' ⟨rfl, rfl⟩
    go_wp2_with fail
    go_ret2
    exact ⟨pair_out hout, rfl⟩
  have hd3 : X ≤ 9223372036854775808 / Y := by have := mt (over_iff (X := X) y2).1 ho; omega
  have hp1 : X * Y ≤ 9223372036854775808 := by omega
  clear ho
  by_cases he : X * Y = 9223372036854775808
  · have hd4 : (X * Y == 9223372036854775808) = true := by simp [he]
    have HE := Lib.hid he
    clear he
    have c1 : (s != t) = true → Ending.returned (.tuple #[.int .i64 (-9223372036854775808), .int .i64 0]) = Ending.returned (.tuple #[.int .i64 (valN (a * b)), .int .i64 (valE (a * b))]) := fun h => by rw [HM.out, if_pos h, HE.out]; exact pair_in (by omega) (by omega)
    have c2 : (s != t) = false → Ending.returned (.tuple #[.int .i64 0, .int .i64 5]) = Ending.returned (.tuple #[.int .i64 (valN (a * b)), .int .i64 (valE (a * b))]) := fun h => by rw [HM.out, if_neg (by rw [h]; decide), HE.out]; exact pair_out (by omega)
    have C1 := Lib.hid c1; have C2 := Lib.hid c2; clear c1 c2
    cases s <;> cases t
    all_goals
      go_enter Try.func12, Try.ntmps12
      go_wp2_with fail
      refine (size_as a X _ _ a1 a2 HX.out HS.out).mono ?_
      rintro e w' ⟨rfl, rfl⟩
      go_wp2_with fail
      refine (size_as b Y _ _ b1 b2 HY.out HT.out).mono ?_
      rintro e w' ⟨rfl, rfl⟩
      go_wp2_with fail
      go_ret2
      first | exact ⟨C2.out rfl, rfl⟩ | exact ⟨C1.out rfl, rfl⟩
  · have hd4 : (X * Y == 9223372036854775808) = false := by simp [he]
    have hp2 : X * Y < 9223372036854775808 := by omega
    clear he
    have c1 : (s != t) = true → Ending.returned (.tuple #[.int .i64 (-(X * Y)), .int .i64 0]) = Ending.returned (.tuple #[.int .i64 (valN (a * b)), .int .i64 (valE (a * b))]) := fun h => by rw [HM.out, if_pos h]; exact pair_in (by omega) (by omega)
    have c2 : (s != t) = false → Ending.returned (.tuple #[.int .i64 (X * Y), .int .i64 0]) = Ending.returned (.tuple #[.int .i64 (valN (a * b)), .int .i64 (valE (a * b))]) := fun h => by rw [HM.out, if_neg (by rw [h]; decide)]; exact pair_in (by omega) (by omega)
    have C1 := Lib.hid c1; have C2 := Lib.hid c2; clear c1 c2
    cases s <;> cases t
    all_goals
      go_enter Try.func12, Try.ntmps12
      go_wp2_with fail
      refine (size_as a X _ _ a1 a2 HX.out HS.out).mono ?_
      rintro e w' ⟨rfl, rfl⟩
      go_wp2_with fail
      refine (size_as b Y _ _ b1 b2 HY.out HT.out).mono ?_
      rintro e w' ⟨rfl, rfl⟩
      go_wp2_with fail
      go_ret2
      first | exact ⟨C2.out rfl, rfl⟩ | exact ⟨C1.out rfl, rfl⟩
theorem rmul_any (a b : Int) (w : World) (a1 : -9223372036854775808 ≤ a) (a2 : a ≤ 9223372036854775807) (b1 : -9223372036854775808 ≤ b) (b2 : b ≤ 9223372036854775807) :
    Calls Try.prog 12 #[.int .i64 a, .int .i64 b] w fun e w' => e = .returned (.tuple #[.int .i64 (valN (a * b)), .int .i64 (valE (a * b))]) ∧ w = w' :=
  rmul_core a b _ _ _ _ w a1 a2 b1 b2 rfl rfl rfl rfl
end Go.Proofs.Ytdeipomdmjifiaa
