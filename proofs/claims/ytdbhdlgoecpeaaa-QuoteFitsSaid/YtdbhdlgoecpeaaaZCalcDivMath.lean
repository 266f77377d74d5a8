/- Plain mathematics for the division of two words by one, digit by digit: no walk in this text. -/
import Derived.WalkKit
import Derived.Laws.Bits64b
import Derived.Lib.BitFns
namespace Go.Proofs.Ytdbhdlgoecpeaaa.Calc
open Go.RowKit

/-- The length of a number in bits: the number is below 2 to it. -/
theorem bitLenAux_lt : ∀ (f x : Nat), x < 2 ^ f → x < 2 ^ (Lib.bitLenAux f x)
  | 0, x, h => by simpa [Lib.bitLenAux] using h
  | f + 1, x, h => by
    by_cases e : x = 0
    · subst e; simp [Lib.bitLenAux]
    · have h2 : x / 2 < 2 ^ f := by rw [Nat.pow_succ] at h; omega
      have ih := bitLenAux_lt f (x / 2) h2
      simp only [Lib.bitLenAux, if_neg e]
      rw [Nat.pow_add]
      omega
theorem bitLen_lt (x : Nat) (h : x < 18446744073709551616) : x < 2 ^ (Lib.bitLen x) := bitLenAux_lt 64 x h
theorem bitLen_pos (x : Nat) (h : 0 < x) : 0 < Lib.bitLen x := by
  unfold Lib.bitLen
  simp only [Lib.bitLenAux, if_neg (show ¬ x = 0 by omega)]
  omega
theorem bitLen_low (x : Nat) (h : 0 < x) (h1 : x < 18446744073709551616) : 2 ^ (Lib.bitLen x - 1) ≤ x := by
  have hp := bitLen_pos x h
  have hl : Lib.bitLen x ≤ 64 := Lib.bitLen_le x 64 (by omega) h1
  by_cases e : 2 ^ (Lib.bitLen x - 1) ≤ x
  · exact e
  · exfalso
    have := Lib.bitLen_le x (Lib.bitLen x - 1) (by omega) (by omega)
    omega
/-- Moved up to the word's top, a number lies in the upper half. -/
theorem shift_top (y : Nat) (h0 : 0 < y) (h1 : y < 18446744073709551616) : 9223372036854775808 ≤ y * 2 ^ (64 - Lib.bitLen y) ∧ y * 2 ^ (64 - Lib.bitLen y) < 18446744073709551616 := by
  have hp := bitLen_pos y h0
  have hl : Lib.bitLen y ≤ 64 := Lib.bitLen_le y 64 (by omega) h1
  have a := bitLen_lt y h1
  have b := bitLen_low y h0 h1
  constructor
  · have e : 2 ^ (Lib.bitLen y - 1) * 2 ^ (64 - Lib.bitLen y) = 9223372036854775808 := by rw [← Nat.pow_add, show Lib.bitLen y - 1 + (64 - Lib.bitLen y) = 63 by omega]
    have := Nat.mul_le_mul_right (2 ^ (64 - Lib.bitLen y)) b
    omega
  · have e : 2 ^ Lib.bitLen y * 2 ^ (64 - Lib.bitLen y) = 18446744073709551616 := by rw [← Nat.pow_add, show Lib.bitLen y + (64 - Lib.bitLen y) = 64 by omega]
    have := Nat.mul_lt_mul_of_pos_right a (Nat.two_pow_pos (64 - Lib.bitLen y))
    omega

/-- What is known of a step of the division: U, M: the words so far, and the next half word; V = A, B: by what is divided, in halves; Q: the digit. -/
structure Digit (V A B U M Q : Int) : Prop where
  hV : V = A * 4294967296 + B
  a0 : 2147483648 ≤ A
  a1 : A < 4294967296
  b0 : 0 ≤ B
  b1 : B < 4294967296
  u0 : 0 ≤ U
  u1 : U < V
  m0 : 0 ≤ M
  m1 : M < 4294967296
  lo : Q * V ≤ U * 4294967296 + M
  up : U * 4294967296 + M < Q * V + V
theorem Digit.v0 {V A B U M Q : Int} (d : Digit V A B U M Q) : 9223372036854775808 ≤ V := by have := d.hV; have := d.a0; have := d.b0; omega
theorem Digit.v1 {V A B U M Q : Int} (d : Digit V A B U M Q) : V < 18446744073709551616 := by have := d.hV; have := d.a1; have := d.b1; omega
theorem Digit.q0 {V A B U M Q : Int} (d : Digit V A B U M Q) : 0 ≤ Q := by
  by_cases h : 0 ≤ Q
  · exact h
  · exfalso
    have h1 : Q + 1 ≤ 0 := by omega
    have := Int.mul_nonpos_of_nonpos_of_nonneg h1 (by have := d.v0; omega : 0 ≤ V)
    rw [Int.add_mul, Int.one_mul] at this
    have := d.up; have := d.u0; have := d.m0
    omega
theorem Digit.q1 {V A B U M Q : Int} (d : Digit V A B U M Q) : Q < 4294967296 := by
  by_cases h : Q < 4294967296
  · exact h
  · exfalso
    have := Int.mul_le_mul_of_nonneg_right (by omega : 4294967296 ≤ Q) (by have := d.v0; omega : 0 ≤ V)
    have := d.lo; have := d.u1; have := d.m1
    omega
/-- A digit is told by its bounds. -/
theorem Digit.le_of {V A B U M Q q : Int} (d : Digit V A B U M Q) (h : q * V ≤ U * 4294967296 + M) : q ≤ Q := by
  by_cases e : q ≤ Q
  · exact e
  · exfalso
    have := Int.mul_le_mul_of_nonneg_right (by omega : Q + 1 ≤ q) (by have := d.v0; omega : 0 ≤ V)
    rw [Int.add_mul, Int.one_mul] at this
    have := d.up
    omega
theorem Digit.gt_of {V A B U M Q q : Int} (d : Digit V A B U M Q) (h : U * 4294967296 + M < q * V) : Q < q := by
  by_cases e : Q < q
  · exact e
  · exfalso
    have := Int.mul_le_mul_of_nonneg_right (by omega : q ≤ Q) (by have := d.v0; omega : 0 ≤ V)
    have := d.lo
    omega
/-- What the loop that mends a guess knows at its head. -/
structure Guess (V A B U M Q q r : Int) : Prop where
  sum : q * A + r = U
  r0 : 0 ≤ r
  r1 : r < 4294967296
  le : Q ≤ q
theorem Digit.start {V A B U M Q : Int} (d : Digit V A B U M Q) : Guess V A B U M Q (U / A) (U - U / A * A) := by
  have ha := d.a0; have ha1 := d.a1
  have e := Int.mul_ediv_add_emod U A
  have e0 := Int.emod_nonneg U (show A ≠ 0 by omega)
  have e1 := Int.emod_lt_of_pos U (show 0 < A by omega)
  rw [Int.mul_comm] at e
  refine ⟨by omega, by omega, by omega, ?_⟩
  have h1 := d.lo
  rw [d.hV, Int.mul_add, ← Int.mul_assoc] at h1
  have h2 := Int.mul_nonneg d.q0 d.b0
  have h3 : Q * A ≤ U := by have := d.m1; omega
  exact (Int.le_ediv_iff_mul_le (by omega)).2 h3
theorem Guess.prod {V A B U M Q q r : Int} (g : Guess V A B U M Q q r) (d : Digit V A B U M Q) : q * V = (U - r) * 4294967296 + q * B := by
  have := g.sum
  rw [d.hV, Int.mul_add, ← Int.mul_assoc]
  omega
/-- The guess is too great, and is lowered by one. -/
theorem Guess.next {V A B U M Q q r : Int} (g : Guess V A B U M Q q r) (d : Digit V A B U M Q) (h : 4294967296 ≤ q ∨ 4294967296 * r + M < q * B) : Q ≤ q - 1 ∧ (q - 1) * A + (r + A) = U := by
  constructor
  · rcases h with h | h
    · have := d.q1; omega
    · have := d.gt_of (q := q) (by rw [g.prod d]; omega)
      omega
  · have := g.sum
    rw [Int.sub_mul, Int.one_mul]; omega
theorem Guess.on {V A B U M Q q r : Int} (g : Guess V A B U M Q q r) (d : Digit V A B U M Q) (h : 4294967296 ≤ q ∨ 4294967296 * r + M < q * B) (hr : r + A < 4294967296) : Guess V A B U M Q (q - 1) (r + A) := by
  obtain ⟨a, b⟩ := g.next d h
  have := g.r0; have := d.a0
  exact ⟨b, by omega, hr, a⟩
/-- The guess is the digit: told by the test. -/
theorem Guess.fit {V A B U M Q q r : Int} (g : Guess V A B U M Q q r) (d : Digit V A B U M Q) (h : q * B ≤ 4294967296 * r + M) : q = Q := by
  have := d.le_of (q := q) (by rw [g.prod d]; omega)
  have := g.le
  omega
/-- The guess is the digit: what is left is too great for the test. -/
theorem Guess.far {V A B U M Q q r : Int} (g : Guess V A B U M Q q r) (d : Digit V A B U M Q) (h : 4294967296 ≤ q ∨ 4294967296 * r + M < q * B) (hr : 4294967296 ≤ r + A) : q - 1 = Q := by
  obtain ⟨a, b⟩ := g.next d h
  have hq : q - 1 < 4294967296 := by
    by_cases e : q - 1 < 4294967296
    · exact e
    · exfalso
      have := Int.mul_le_mul_of_nonneg_right (by omega : 4294967296 ≤ q - 1) (by have := d.a0; omega : 0 ≤ A)
      have := d.u1; have := d.hV; have := d.b1
      omega
  have hp : (q - 1) * V = (U - (r + A)) * 4294967296 + (q - 1) * B := by
    rw [d.hV, Int.mul_add, ← Int.mul_assoc]; omega
  have hb : (q - 1) * B ≤ 4294967295 * 4294967295 := Int.mul_le_mul (by omega) (by have := d.b1; omega) d.b0 (by omega)
  have := d.le_of (q := q - 1) (by rw [hp]; have := d.m0; omega)
  omega
theorem Guess.bound {V A B U M Q q r : Int} (g : Guess V A B U M Q q r) (d : Digit V A B U M Q) (h : q < 4294967296) : 0 ≤ q * B ∧ q * B ≤ 18446744065119617025 := by
  have h0 : 0 ≤ q := by have := d.q0; have := g.le; omega
  exact ⟨Int.mul_nonneg h0 d.b0, Int.mul_le_mul (by omega : q ≤ 4294967295) (by have := d.b1; omega : B ≤ 4294967295) d.b0 (by omega)⟩

/-- The two digits are the quotient; what is left is the rest. -/
theorem two_digits {X y P V A B U M N Q D S : Int} (hP : 0 < P) (hV : V = y * P) (hX : X * P = U * 18446744073709551616 + (M * 4294967296 + N))
    (hD : D = U * 4294967296 + M - Q * V) (e : Digit V A B D N S) : Q * 4294967296 + S = X / y ∧ (D * 4294967296 + N - S * V) / P = X % y := by
  have hsum : X * P = (Q * 4294967296 + S) * V + (D * 4294967296 + N - S * V) := by
    rw [Int.add_mul, show Q * 4294967296 * V = Q * V * 4294967296 by rw [Int.mul_assoc, Int.mul_comm 4294967296, ← Int.mul_assoc], hX]
    omega
  have h0 := e.lo
  have h1 := e.up
  have hv := e.v0
  have hq : X * P / V = Q * 4294967296 + S := by
    rw [hsum, Int.add_comm, Int.add_mul_ediv_right _ _ (by omega), Int.ediv_eq_zero_of_lt (by omega) (by omega), Int.zero_add]
  have hr : X * P % V = D * 4294967296 + N - S * V := by
    rw [hsum, Int.add_comm, Int.add_mul_emod_self_right, Int.emod_eq_of_lt (by omega) (by omega)]
  constructor
  · rw [← hq, hV, Int.mul_ediv_mul_of_pos_left _ _ hP]
  · rw [← hr, hV, Int.mul_comm X P, Int.mul_comm y P, Int.mul_emod_mul_of_pos _ _ hP, Int.mul_ediv_cancel_left _ (by omega)]
end Go.Proofs.Ytdbhdlgoecpeaaa.Calc
