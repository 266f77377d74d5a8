/- The walks over products: package calc's Mul and the document's. -/
import Derived.Test.YtdeipomdmjifiaaCalcWalks
import Derived.Test.YtdeipomdmjifiaaShelf
namespace Go.Proofs.Ytdeipomdmjifiaa
open Go.RowKit Go.Lib

theorem ret_u64 {a b : Int} (h : a = b) : Ending.returned (.int .u64 a) = Ending.returned (.int .u64 b) := by rw [h]
theorem ret_u64_bool {a b : Int} {x y : Bool} (h : a = b) (g : x = y) : Ending.returned (.tuple #[.int .u64 a, .bool x]) = Ending.returned (.tuple #[.int .u64 b, .bool y]) := by rw [h, g]
theorem ret_pair {a b c d : Int} (h : a = b) (g : c = d) : Ending.returned (.tuple #[.int .i64 a, .int .i64 c]) = Ending.returned (.tuple #[.int .i64 b, .int .i64 d]) := by rw [h, g]
theorem neg_wrap {n : Int} (h1 : -9223372036854775808 ≤ n) (h : n < 0) : IntKind.u64.wrap (-IntKind.u64.wrap n) = -n := by rw [IntKind.wrap_u64, IntKind.wrap_u64]; omega
theorem below_wrap {n : Int} (h1 : 0 ≤ n) (h : n ≤ 9223372036854775808) : wrap64 (IntKind.u64.wrap (-n)) = -n := by rw [IntKind.wrap_u64]; unfold wrap64; omega

set_option maxHeartbeats 400000 in
theorem far_any (n : Int) (w : World) (a1 : -9223372036854775808 ≤ n) (a2 : n ≤ 9223372036854775807) :
    Calls Try.prog 18 #[.int .i64 n] w fun e w' => e = .returned (.int .u64 n.natAbs) ∧ w = w' := by
  by_cases h : n < 0
  · go_enter Try.func18, Try.ntmps18
    go_wp2
    go_ret
    exact ⟨ret_u64 (by rw [neg_wrap a1 h]; omega), rfl⟩
  · go_enter Try.func18, Try.ntmps18
    go_wp2
    go_ret
    exact ⟨ret_u64 (by omega), rfl⟩
set_option maxHeartbeats 400000 in
theorem size_any (n : Int) (w : World) (a1 : -9223372036854775808 ≤ n) (a2 : n ≤ 9223372036854775807) :
    Calls Try.prog 21 #[.int .i64 n] w fun e w' => e = .returned (.tuple #[.int .u64 n.natAbs, .bool (decide (n < 0))]) ∧ w = w' := by
  by_cases h : n < 0
  · go_enter Try.func21, Try.ntmps21
    go_wp2
    go_ret2
    exact ⟨ret_u64_bool (by omega) (by simp; omega), rfl⟩
  · go_enter Try.func21, Try.ntmps21
    go_wp2
    go_ret2
    exact ⟨ret_u64_bool (by omega) (by simp; omega), rfl⟩
set_option maxHeartbeats 400000 in
theorem above_any (n : Int) (w : World) (a0 : 0 ≤ n) (a1 : n < 18446744073709551616) :
    Calls Try.prog 20 #[.int .u64 n] w fun e w' => e = .returned (.tuple #[.int .i64 (valN n), .int .i64 (valE n)]) ∧ w = w' := by
  by_cases h : 9223372036854775807 < n
  · go_enter Try.func20, Try.ntmps20
    go_wp2
    go_ret2
    exact ⟨pair_out (Or.inr h), rfl⟩
  · go_enter Try.func20, Try.ntmps20
    go_wp2
    go_ret2
    exact ⟨pair_in (by omega) (by omega), rfl⟩
set_option maxHeartbeats 400000 in
theorem below_any (n : Int) (w : World) (a0 : 0 ≤ n) (a1 : n < 18446744073709551616) :
    Calls Try.prog 19 #[.int .u64 n] w fun e w' => e = .returned (.tuple #[.int .i64 (valN (-n)), .int .i64 (valE (-n))]) ∧ w = w' := by
  by_cases h : 9223372036854775808 < n
  · go_enter Try.func19, Try.ntmps19
    go_wp2
    go_ret2
    exact ⟨pair_out (Or.inl (by omega)), rfl⟩
  · go_enter Try.func19, Try.ntmps19
    go_wp2
    go_ret2
    exact ⟨ret_pair (by rw [below_wrap a0 (by omega), valN_in (by omega) (by omega)]) (valE_in (by omega) (by omega)).symm, rfl⟩
/-- The upper and the lower word of a product. -/
def hiW (x y : Int) : Int := x * y / 18446744073709551616
def loW (x y : Int) : Int := x * y % 18446744073709551616
theorem mul64_any (x y : Int) (w : World) (x0 : 0 ≤ x) (x1 : x < 18446744073709551616) (y0 : 0 ≤ y) (y1 : y < 18446744073709551616) :
    Calls Try.prog 17 #[.int .u64 x, .int .u64 y] w fun e w' => e = .returned (.tuple #[.int .u64 (hiW x y), .int .u64 (loW x y)]) ∧ w = w' := by
  obtain ⟨m, rfl⟩ := Int.eq_ofNat_of_zero_le x0
  obtain ⟨n, rfl⟩ := Int.eq_ofNat_of_zero_le y0
  exact (Try.bits_Mul64 m n (by omega) (by omega) w).mono fun e w' ⟨he, hw⟩ => ⟨by rw [he]; simp [hiW, loW], hw.symm⟩
theorem lo_in (x y : Int) : 0 ≤ loW x y ∧ loW x y < 18446744073709551616 := by unfold loW; omega
theorem prod_bound {x y A B : Int} (x0 : 0 ≤ x) (y0 : 0 ≤ y) (hx : x ≤ A) (hy : y ≤ B) (hA : 0 ≤ A) : 0 ≤ x * y ∧ x * y ≤ A * B :=
  ⟨Int.mul_nonneg x0 y0, Int.mul_le_mul hx hy y0 hA⟩
end Go.Proofs.Ytdeipomdmjifiaa
