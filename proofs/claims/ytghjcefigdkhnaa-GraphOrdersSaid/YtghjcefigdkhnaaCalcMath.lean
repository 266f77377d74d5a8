/- Plain mathematics for the calc layer: what the sum, the difference, the product of two numbers is, and when it is too great; no walk in this text. -/
import Derived.WalkKit
import Derived.Lib.Hide
namespace Go.Proofs.Ytghjcefigdkhnaa.Calc
open Go.RowKit

/-- Is a number one of 64 bits with a sign? -/
def fits (n : Int) : Bool := decide (-9223372036854775808 ≤ n ∧ n ≤ 9223372036854775807)
/-- A number as an answer: itself, or 0 beside an error. -/
def valN (n : Int) : Int := if fits n = true then n else 0
/-- The error beside it: none, or ErrOver. -/
def valE (n : Int) : Int := if fits n = true then 0 else 5
theorem fits_true {n : Int} (h1 : -9223372036854775808 ≤ n) (h2 : n ≤ 9223372036854775807) : fits n = true := by unfold fits; exact decide_eq_true ⟨h1, h2⟩
theorem fits_false {n : Int} (h : n < -9223372036854775808 ∨ 9223372036854775807 < n) : fits n = false := by unfold fits; exact decide_eq_false (by omega)
theorem valN_in {n : Int} (h1 : -9223372036854775808 ≤ n) (h2 : n ≤ 9223372036854775807) : valN n = n := by unfold valN; rw [if_pos (fits_true h1 h2)]
theorem valE_in {n : Int} (h1 : -9223372036854775808 ≤ n) (h2 : n ≤ 9223372036854775807) : valE n = 0 := by unfold valE; rw [if_pos (fits_true h1 h2)]
theorem valN_out {n : Int} (h : n < -9223372036854775808 ∨ 9223372036854775807 < n) : valN n = 0 := by unfold valN; rw [fits_false h]; rfl
theorem valE_out {n : Int} (h : n < -9223372036854775808 ∨ 9223372036854775807 < n) : valE n = 5 := by unfold valE; rw [fits_false h]; rfl
/-- The pair as a value. -/
def pairV (n e : Int) : Value := .tuple #[.int .i64 n, .int .i64 e]
theorem pair_in {n : Int} (h1 : -9223372036854775808 ≤ n) (h2 : n ≤ 9223372036854775807) : Ending.returned (.tuple #[.int .i64 n, .int .i64 0]) = Ending.returned (.tuple #[.int .i64 (valN n), .int .i64 (valE n)]) := by rw [valN_in h1 h2, valE_in h1 h2]
theorem pair_out {n : Int} (h : n < -9223372036854775808 ∨ 9223372036854775807 < n) : Ending.returned (.tuple #[.int .i64 0, .int .i64 5]) = Ending.returned (.tuple #[.int .i64 (valN n), .int .i64 (valE n)]) := by rw [valN_out h, valE_out h]

theorem wrap_over {n : Int} (h1 : 9223372036854775807 < n) (h2 : n ≤ 18446744073709551615) : wrap64 n < n - 9223372036854775807 ∧ wrap64 n < 0 := by unfold wrap64; omega
theorem wrap_under {n : Int} (h1 : n < -9223372036854775808) (h2 : -18446744073709551616 ≤ n) : n + 9223372036854775807 < wrap64 n ∧ 0 ≤ wrap64 n := by unfold wrap64; omega
end Go.Proofs.Ytghjcefigdkhnaa.Calc
