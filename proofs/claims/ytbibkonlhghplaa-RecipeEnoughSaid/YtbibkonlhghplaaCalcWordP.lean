/- Words of 64 bits, as package calc uses them: their products, and what is above 0 (behind the shelf). -/
import Derived.Test.YtbibkonlhghplaaRows
import Derived.Test.YtbibkonlhghplaaCalcMath
import Derived.Test.YtbibkonlhghplaaShelf
import Derived.WalkSpells
import Derived.WalkLawsBesides
import Derived.RegionTactic
import Derived.Deep.QuietTactic
import Derived.BigQuiet
namespace Go.Proofs.Ytbibkonlhghplaa.Calc
open Go.RowKit Go.Lib

theorem ret_u64 {a b : Int} (h : a = b) : Ending.returned (.int .u64 a) = Ending.returned (.int .u64 b) := by rw [h]
theorem ret_u64_bool {a b : Int} {x y : Bool} (h : a = b) (g : x = y) : Ending.returned (.tuple #[.int .u64 a, .bool x]) = Ending.returned (.tuple #[.int .u64 b, .bool y]) := by rw [h, g]
theorem ret_pair {a b c d : Int} (h : a = b) (g : c = d) : Ending.returned (.tuple #[.int .i64 a, .int .i64 c]) = Ending.returned (.tuple #[.int .i64 b, .int .i64 d]) := by rw [h, g]
set_option maxHeartbeats 400000 in
theorem above_any (n : Int) (w : World) (a0 : 0 ≤ n) (a1 : n < 18446744073709551616) :
    Calls Try.prog 41 #[.int .u64 n] w fun e w' => e = .returned (.tuple #[.int .i64 (valN n), .int .i64 (valE n)]) ∧ w = w' := by
  by_cases h : 9223372036854775807 < n
  · go_enter Try.func41, Try.ntmps41
    go_wp2
    go_ret2
    exact ⟨pair_out (Or.inr h), rfl⟩
  · go_enter Try.func41, Try.ntmps41
    go_wp2
    go_ret2
    exact ⟨pair_in (by omega) (by omega), rfl⟩
/-- The upper and the lower word of a product. -/
def hiW (x y : Int) : Int := x * y / 18446744073709551616
def loW (x y : Int) : Int := x * y % 18446744073709551616
theorem mul64_any (x y : Int) (w : World) (x0 : 0 ≤ x) (x1 : x < 18446744073709551616) (y0 : 0 ≤ y) (y1 : y < 18446744073709551616) :
    Calls Try.prog 38 #[.int .u64 x, .int .u64 y] w fun e w' => e = .returned (.tuple #[.int .u64 (hiW x y), .int .u64 (loW x y)]) ∧ w = w' := by
  obtain ⟨m, rfl⟩ := Int.eq_ofNat_of_zero_le x0
  obtain ⟨n, rfl⟩ := Int.eq_ofNat_of_zero_le y0
  exact (Try.bits_Mul64 m n (by omega) (by omega) w).mono fun e w' ⟨he, hw⟩ => ⟨by rw [he]; simp [hiW, loW], hw.symm⟩
theorem lo_in (x y : Int) : 0 ≤ loW x y ∧ loW x y < 18446744073709551616 := by unfold loW; omega
theorem prod_bound {x y A B : Int} (x0 : 0 ≤ x) (y0 : 0 ≤ y) (hx : x ≤ A) (hy : y ≤ B) (hA : 0 ≤ A) : 0 ≤ x * y ∧ x * y ≤ A * B :=
  ⟨Int.mul_nonneg x0 y0, Int.mul_le_mul hx hy y0 hA⟩
end Go.Proofs.Ytbibkonlhghplaa.Calc
