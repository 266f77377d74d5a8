/- Package calc's Scale, as later layers call it (behind the shelf). -/
import Derived.Test.YtbibkonlhghplaaCalcDivP
import Derived.Test.YtbibkonlhghplaaCalcAddP
namespace Go.Proofs.Ytbibkonlhghplaa.Calc
open Go.RowKit Go.Lib

/-- What Scale is to give, before it is looked whether it is a number of 64 bits. -/
def scaleQ (a b c : Int) (up : Bool) : Int := if up = true ∧ a * b % c ≠ 0 then a * b / c + 1 else a * b / c
theorem scaleQ_down (a b c : Int) : scaleQ a b c false = a * b / c := by simp [scaleQ]
theorem scaleQ_even {a b c : Int} (up : Bool) (h : a * b % c = 0) : scaleQ a b c up = a * b / c := by simp [scaleQ, h]
theorem scaleQ_up {a b c : Int} (h : a * b % c ≠ 0) : scaleQ a b c true = a * b / c + 1 := by simp [scaleQ, h]
theorem scaleQ_le (a b c : Int) (up : Bool) : a * b / c ≤ scaleQ a b c up := by unfold scaleQ; split <;> omega
theorem hi_split (a b : Int) : hiW a b * 18446744073709551616 + loW a b = a * b := by unfold hiW loW; omega
theorem hi_nonneg {a b : Int} (h : 0 ≤ a * b) : 0 ≤ hiW a b := by unfold hiW; omega
theorem div64_prod (a b c : Int) (w : World) (hp : 0 ≤ a * b) (hc : hiW a b < c) (c1 : c < 18446744073709551616) :
    Calls Try.prog 43 #[.int .u64 (hiW a b), .int .u64 (loW a b), .int .u64 c] w fun e w' => e = .returned (.tuple #[.int .u64 (a * b / c), .int .u64 (a * b % c)]) ∧ ∃ n, w' = w.drewN n := by
  have h := div64_any (hiW a b) (loW a b) c w (hi_nonneg hp) hc (lo_in a b).1 (lo_in a b).2 c1
  rwa [hi_split] at h
theorem above_in (n : Int) (w : World) (a0 : 0 ≤ n) (a1 : n ≤ 9223372036854775807) :
    Calls Try.prog 41 #[.int .u64 n] w fun e w' => e = .returned (.tuple #[.int .i64 n, .int .i64 0]) ∧ w = w' := by
  have h := above_any n w a0 (by omega)
  rwa [valN_in (by omega) a1, valE_in (by omega) a1] at h
theorem above_out (n : Int) (w : World) (a0 : 9223372036854775807 < n) (a1 : n < 18446744073709551616) :
    Calls Try.prog 41 #[.int .u64 n] w fun e w' => e = .returned (.tuple #[.int .i64 0, .int .i64 5]) ∧ w = w' := by
  have h := above_any n w (by omega) a1
  rwa [valN_out (Or.inr a0), valE_out (Or.inr a0)] at h
theorem hi_big {a b c : Int} (hc : 0 < c) (h : c ≤ hiW a b) : 18446744073709551616 ≤ a * b / c := by
  have h1 := hi_split a b
  have h2 := lo_in a b
  apply (Int.le_ediv_iff_mul_le hc).2
  have : c * 18446744073709551616 ≤ hiW a b * 18446744073709551616 := by omega
  omega
theorem hi_small {a b c : Int} (hc : 0 < c) (h : hiW a b < c) : a * b / c < 18446744073709551616 := by
  have h1 := hi_split a b
  have h2 := lo_in a b
  apply (Int.ediv_lt_iff_lt_mul hc).2
  omega
/-- What comes of Scale, at numbers that may be. -/
def ScaleGives (a b c : Int) (up : Bool) (w : World) (e : Ending) (w' : World) : Prop :=
  e = .returned (.tuple #[.int .i64 (valN (scaleQ a b c up)), .int .i64 (valE (scaleQ a b c up))]) ∧ ∃ n, w' = w.drewN n

set_option maxHeartbeats 1000000 in
theorem scale_any (a b c : Int) (up : Bool) (w : World) (a1 : 0 ≤ a) (a2 : a ≤ 9223372036854775807) (b1 : 0 ≤ b) (b2 : b ≤ 9223372036854775807) (c1 : 1 ≤ c) (c2 : c ≤ 9223372036854775807) :
    Calls Try.prog 37 #[.int .i64 a, .int .i64 b, .int .i64 c, .bool up] w (ScaleGives a b c up w) := by
  have hp : 0 ≤ a * b := Int.mul_nonneg a1 b1
  have HP := Lib.hid hp
  have h0 := hi_nonneg hp
  have g1 : decide (a < 0) = false := by simp; omega
  have g2 : decide (b < 0) = false := by simp; omega
  have g3 : decide (c < 1) = false := by simp; omega
  by_cases hb : c ≤ hiW a b
  · have big := hi_big (by omega) hb
    have out : scaleQ a b c up < -9223372036854775808 ∨ 9223372036854775807 < scaleQ a b c up := by
      have := scaleQ_le a b c up
      right; omega
    have OUT := Lib.hid out
    clear out big hp
    go_enter Try.func37, Try.ntmps37
    go_wp2_with fail
    refine (mul64_any a b _ a1 (by omega) b1 (by omega)).mono ?_
    rintro e w' ⟨rfl, rfl⟩
    go_wp2_with fail
    go_ret2
    exact ⟨pair_out OUT.out, 0, rfl⟩
  · have hs : hiW a b < c := by omega
    have small := hi_small (by omega) hs
    have q0 : 0 ≤ a * b / c := Int.ediv_nonneg hp (by omega)
    clear hb hp
    by_cases hbig : 9223372036854775807 < a * b / c
    · have out : scaleQ a b c up < -9223372036854775808 ∨ 9223372036854775807 < scaleQ a b c up := by
        have := scaleQ_le a b c up
        right; omega
      have OUT := Lib.hid out
      clear out
      go_enter Try.func37, Try.ntmps37
      go_wp2_with fail
      refine (mul64_any a b _ a1 (by omega) b1 (by omega)).mono ?_
      rintro e w' ⟨rfl, rfl⟩
      go_wp2_with fail
      refine (div64_prod a b c _ HP.out hs (by omega)).mono ?_
      rintro e w' ⟨rfl, n, rfl⟩
      go_wp2_with fail
      refine (above_out (a * b / c) _ hbig small).mono ?_
      rintro e w' ⟨rfl, rfl⟩
      go_wp2_with fail
      go_ret2
      exact ⟨pair_out OUT.out, n, rfl⟩
    · have q1 : a * b / c ≤ 9223372036854775807 := by omega
      clear hbig small
      cases up
      · go_enter Try.func37, Try.ntmps37
        go_wp2_with fail
        refine (mul64_any a b _ a1 (by omega) b1 (by omega)).mono ?_
        rintro e w' ⟨rfl, rfl⟩
        go_wp2_with fail
        refine (div64_prod a b c _ HP.out hs (by omega)).mono ?_
        rintro e w' ⟨rfl, n, rfl⟩
        go_wp2_with fail
        refine (above_in (a * b / c) _ q0 q1).mono ?_
        rintro e w' ⟨rfl, rfl⟩
        go_wp2_with fail
        go_ret2
        exact ⟨by rw [scaleQ_down]; exact pair_in (by omega) q1, n, rfl⟩
      · by_cases hr : a * b % c = 0
        · have g4 : (a * b % c == 0) = true := by simp [hr]
          have HR := Lib.hid hr
          clear hr
          go_enter Try.func37, Try.ntmps37
          go_wp2_with fail
          refine (mul64_any a b _ a1 (by omega) b1 (by omega)).mono ?_
          rintro e w' ⟨rfl, rfl⟩
          go_wp2_with fail
          refine (div64_prod a b c _ HP.out hs (by omega)).mono ?_
          rintro e w' ⟨rfl, n, rfl⟩
          go_wp2_with fail
          refine (above_in (a * b / c) _ q0 q1).mono ?_
          rintro e w' ⟨rfl, rfl⟩
          go_wp2_with fail
          go_ret2
          exact ⟨by rw [scaleQ_even _ HR.out]; exact pair_in (by omega) q1, n, rfl⟩
        · have g4 : (a * b % c == 0) = false := by simp [hr]
          have HR := Lib.hid hr
          clear hr
          go_enter Try.func37, Try.ntmps37
          go_wp2_with fail
          refine (mul64_any a b _ a1 (by omega) b1 (by omega)).mono ?_
          rintro e w' ⟨rfl, rfl⟩
          go_wp2_with fail
          refine (div64_prod a b c _ HP.out hs (by omega)).mono ?_
          rintro e w' ⟨rfl, n, rfl⟩
          go_wp2_with fail
          refine (above_in (a * b / c) _ q0 q1).mono ?_
          rintro e w' ⟨rfl, rfl⟩
          go_wp2_with fail
          refine (add_any (a * b / c) 1 _ (by omega) q1 (by omega) (by omega)).mono ?_
          rintro e w' ⟨rfl, rfl⟩
          go_wp2_with fail
          go_ret2
          exact ⟨by rw [scaleQ_up HR.out]; rfl, n, rfl⟩
set_option maxHeartbeats 1000000 in
theorem scale_arg (a b c : Int) (up : Bool) (w : World) (h : a < 0 ∨ b < 0 ∨ c < 1) :
    Calls Try.prog 37 #[.int .i64 a, .int .i64 b, .int .i64 c, .bool up] w fun e w' => e = .returned (.tuple #[.int .i64 0, .int .i64 1]) ∧ w = w' := by
  have H := Lib.hid h
  clear h
  by_cases h1 : a < 0
  · have g1 : decide (a < 0) = true := by simp; omega
    go_enter Try.func37, Try.ntmps37
    go_wp2_with fail
    go_ret2
    exact ⟨rfl, rfl⟩
  · have g1 : decide (a < 0) = false := by simp; omega
    by_cases h2 : b < 0
    · have g2 : decide (b < 0) = true := by simp; omega
      go_enter Try.func37, Try.ntmps37
      go_wp2_with fail
      go_ret2
      exact ⟨rfl, rfl⟩
    · have g2 : decide (b < 0) = false := by simp; omega
      have g3 : decide (c < 1) = true := by have := H.out; simp; omega
      go_enter Try.func37, Try.ntmps37
      go_wp2_with fail
      go_ret2
      exact ⟨rfl, rfl⟩
end Go.Proofs.Ytbibkonlhghplaa.Calc
