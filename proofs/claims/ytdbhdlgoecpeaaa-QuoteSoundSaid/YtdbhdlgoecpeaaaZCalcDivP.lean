/- math/bits' Div64, as later layers reach it (behind the shelf). -/
import Derived.Test.YtdbhdlgoecpeaaaZRecImCk
import Derived.Test.YtdbhdlgoecpeaaaZCalcDivMath
namespace Go.Proofs.Ytdbhdlgoecpeaaa.Calc
open Go.RowKit Go.Lib

/-- The word's zeros ahead of its first bit, under a name. -/
def lzI (x : Int) : Int := 64 - (Lib.bitLen x.toNat : Int)
theorem lz64_as (x s : Int) (w : World) (h0 : 0 ≤ x) (h1 : x ≤ 18446744073709551615) (hs : s = lzI x) :
    Calls Try.prog 99 #[.int .u64 x] w fun e w' => e = .returned (.int .i64 s) ∧ w = w' := by
  subst hs
  exact (Try.bits_LeadingZeros64 x w h0 h1).mono fun e w' ⟨he, hw⟩ => ⟨he, hw.symm⟩

set_option maxHeartbeats 1000000 in
set_option maxRecDepth 100000 in
theorem div64_zero (lo y : Int) (w : World) (l0 : 0 ≤ lo) (l1 : lo < 18446744073709551616) (y0 : 0 < y) (y1 : y < 18446744073709551616) :
    Calls Try.prog 88 #[.int .u64 0, .int .u64 lo, .int .u64 y] w fun e w' => e = .returned (.tuple #[.int .u64 (lo / y), .int .u64 (lo % y)]) ∧ ∃ n, w' = w.drewN n := by
  have hd : (y == 0) = false := by simp; omega
  go_enter Try.func88, Try.ntmps88
  go_wp2_with fail
  go_quiet (fail)
  go_wp2_with fail
  go_ret2
  exact ⟨rfl, _, rfl⟩
set_option maxHeartbeats 8000000 in
set_option maxRecDepth 100000 in
theorem div64_walk (hi lo y s V A B U L M N Q0 R0 Q D Q1 R1 S E : Int) (w : World) (h0 : 0 < hi) (h1 : hi < y) (y1 : y < 18446744073709551616) (hs : Hid (s = lzI y)) (s0 : 0 ≤ s) (s1 : s ≤ 63)
    (eV : IntKind.u64.wrap (y * 2 ^ s.toNat) = V) (eA : V / 4294967296 = A) (eB : bits BinOp.and IntKind.u64 V 4294967295 = B)
    (eU : bits BinOp.or IntKind.u64 (IntKind.u64.wrap (hi * 2 ^ s.toNat)) (lo / 2 ^ (64 - s).toNat) = U)
    (eL : IntKind.u64.wrap (lo * 2 ^ s.toNat) = L) (eM : L / 4294967296 = M) (eN : bits BinOp.and IntKind.u64 L 4294967295 = N)
    (eQ0 : U / A = Q0) (eR0 : U - Q0 * A = R0)
    (eD : IntKind.u64.wrap (IntKind.u64.wrap (IntKind.u64.wrap (U * 4294967296) + M) - IntKind.u64.wrap (Q * V)) = D)
    (eQ1 : D / A = Q1) (eR1 : D - Q1 * A = R1)
    (eE : IntKind.u64.wrap (IntKind.u64.wrap (IntKind.u64.wrap (D * 4294967296) + N) - IntKind.u64.wrap (S * V)) = E)
    (a0 : 2147483648 ≤ A) (a1 : A < 4294967296) (m0 : 0 ≤ M) (m1 : M < 4294967296) (n0 : 0 ≤ N) (n1 : N < 4294967296)
    (u0 : 0 ≤ U) (u1 : U < 18446744073709551616) (q0 : 0 ≤ Q0) (q1 : Q0 < 18446744073709551616) (p0 : 0 ≤ Q0 * A) (p1 : Q0 * A ≤ U)
    (d0 : 0 ≤ D) (d1 : D < 18446744073709551616) (k0 : 0 ≤ Q1) (k1 : Q1 < 18446744073709551616) (r0 : 0 ≤ Q1 * A) (r1 : Q1 * A ≤ D)
    (c0 : 0 ≤ Q) (c1 : Q < 4294967296) (f0 : 0 ≤ S) (f1 : S < 4294967296)
    (dU : Hid (Digit V A B U M Q)) (gU : Hid (Guess V A B U M Q (U / A) R0)) (dD : Hid (Digit V A B D N S)) (gD : Hid (Guess V A B D N S Q1 R1)) :
    Calls Try.prog 88 #[.int .u64 hi, .int .u64 lo, .int .u64 y] w fun e w' => e = .returned (.tuple #[.int .u64 (Q * 4294967296 + S), .int .u64 (E / 2 ^ s.toNat)]) ∧ w = w' := by
  have hd : (y == 0) = false := by simp; omega
  have hd2 : (hi == 0) = false := by simp; omega
  go_enter Try.func88, Try.ntmps88
  go_wp2_with fail
  refine (lz64_as y s _ (by omega) (by omega) hs.out).mono ?_
  rintro e w' ⟨rfl, rfl⟩
  go_wp2_with fail
  go_loop [15, 16] (fun q r => ∃ x z : Int, Guess V A B U M Q x z ∧ x ≤ 18446744073709551615 ∧ q = .int .u64 x ∧ r = .int .u64 z) (fun _ r => (4294967296 - RowKit.intOf r).toNat)
  case atStart => exact ⟨_, _, gU.out, by omega, rfl, rfl⟩
  case round =>
    obtain ⟨x, z, hg, x2, rfl, rfl⟩ := hrel
    have z0 := hg.r0
    have z1 := hg.r1
    have x0 : 0 ≤ x := by have := dU.out.q0; have := hg.le; omega
    have HG := Lib.hid hg
    clear hg
    by_cases hx : 4294967296 ≤ x
    · have t1 : decide (4294967296 ≤ x) = true := by simp; omega
      by_cases hr : 4294967296 ≤ z + A
      · have t2 : decide (4294967296 ≤ z + A) = true := by simp; omega
        obtain rfl : x = Q + 1 := by have := HG.out.far dU.out (Or.inl hx) hr; omega
        clear HG x2 x0
        go_wp2_with fail
        clear gU dU
        go_loop [18, 16] (fun q r => ∃ x z : Int, Guess V A B D N S x z ∧ x ≤ 18446744073709551615 ∧ q = .int .u64 x ∧ r = .int .u64 z) (fun _ r => (4294967296 - RowKit.intOf r).toNat)
        case atStart => exact ⟨_, _, gD.out, by omega, rfl, rfl⟩
        case round =>
          obtain ⟨x', z', hg, x2, rfl, rfl⟩ := hrel
          have z0 := hg.r0
          have z1 := hg.r1
          have x0 : 0 ≤ x' := by have := dD.out.q0; have := hg.le; omega
          have HG := Lib.hid hg
          clear hg
          by_cases hx : 4294967296 ≤ x'
          · have t1 : decide (4294967296 ≤ x') = true := by simp; omega
            by_cases hr : 4294967296 ≤ z' + A
            · have t2 : decide (4294967296 ≤ z' + A) = true := by simp; omega
              obtain rfl : x' = S + 1 := by have := HG.out.far dD.out (Or.inl hx) hr; omega
              clear HG x2 x0
              go_wp2_with fail
              go_ret2
              exact ⟨rfl, rfl⟩
            · have t2 : decide (4294967296 ≤ z' + A) = false := by simp; omega
              have x3 : 1 ≤ x' := by have := (HG.out.next dD.out (Or.inl hx)).1; have := dD.out.q0; omega
              go_wp2_with fail
              go_round
              case rel => exact ⟨x' - 1, z' + A, HG.out.on dD.out (Or.inl hx) (by omega), by omega, rfl, rfl⟩
              case measure => simp [RowKit.intOf]; omega
          · have t1 : decide (4294967296 ≤ x') = false := by simp; omega
            have t1' : x' < 4294967296 := by omega
            obtain ⟨g0, g1⟩ := HG.out.bound dD.out t1'
            by_cases ho : 4294967296 * z' + N < x' * B
            · have t3 : decide (4294967296 * z' + N < x' * B) = true := by simp; omega
              by_cases hr : 4294967296 ≤ z' + A
              · have t2 : decide (4294967296 ≤ z' + A) = true := by simp; omega
                obtain rfl : x' = S + 1 := by have := HG.out.far dD.out (Or.inr ho) hr; omega
                clear HG x2 x0
                go_wp2_with fail
                go_ret2
                exact ⟨rfl, rfl⟩
              · have t2 : decide (4294967296 ≤ z' + A) = false := by simp; omega
                have x3 : 1 ≤ x' := by have := (HG.out.next dD.out (Or.inr ho)).1; have := dD.out.q0; omega
                go_wp2_with fail
                go_round
                case rel => exact ⟨x' - 1, z' + A, HG.out.on dD.out (Or.inr ho) (by omega), by omega, rfl, rfl⟩
                case measure => simp [RowKit.intOf]; omega
            · have t3 : decide (4294967296 * z' + N < x' * B) = false := by simp; omega
              have t4 : x' * B ≤ 4294967296 * z' + N := by omega
              clear ho
              obtain rfl : S = x' := (HG.out.fit dD.out t4).symm
              clear HG x2
              go_wp2_with fail
              go_ret2
              exact ⟨rfl, rfl⟩
      · have t2 : decide (4294967296 ≤ z + A) = false := by simp; omega
        have x3 : 1 ≤ x := by have := (HG.out.next dU.out (Or.inl hx)).1; have := dU.out.q0; omega
        go_wp2_with fail
        go_round
        case rel => exact ⟨x - 1, z + A, HG.out.on dU.out (Or.inl hx) (by omega), by omega, rfl, rfl⟩
        case measure => simp [RowKit.intOf]; omega
    · have t1 : decide (4294967296 ≤ x) = false := by simp; omega
      have t1' : x < 4294967296 := by omega
      obtain ⟨g0, g1⟩ := HG.out.bound dU.out t1'
      by_cases ho : 4294967296 * z + M < x * B
      · have t3 : decide (4294967296 * z + M < x * B) = true := by simp; omega
        by_cases hr : 4294967296 ≤ z + A
        · have t2 : decide (4294967296 ≤ z + A) = true := by simp; omega
          obtain rfl : x = Q + 1 := by have := HG.out.far dU.out (Or.inr ho) hr; omega
          clear HG x2 x0
          go_wp2_with fail
          clear gU dU
          go_loop [18, 16] (fun q r => ∃ x z : Int, Guess V A B D N S x z ∧ x ≤ 18446744073709551615 ∧ q = .int .u64 x ∧ r = .int .u64 z) (fun _ r => (4294967296 - RowKit.intOf r).toNat)
          case atStart => exact ⟨_, _, gD.out, by omega, rfl, rfl⟩
          case round =>
            obtain ⟨x', z', hg, x2, rfl, rfl⟩ := hrel
            have z0 := hg.r0
            have z1 := hg.r1
            have x0 : 0 ≤ x' := by have := dD.out.q0; have := hg.le; omega
            have HG := Lib.hid hg
            clear hg
            by_cases hx : 4294967296 ≤ x'
            · have t1 : decide (4294967296 ≤ x') = true := by simp; omega
              by_cases hr : 4294967296 ≤ z' + A
              · have t2 : decide (4294967296 ≤ z' + A) = true := by simp; omega
                obtain rfl : x' = S + 1 := by have := HG.out.far dD.out (Or.inl hx) hr; omega
                clear HG x2 x0
                go_wp2_with fail
                go_ret2
                exact ⟨rfl, rfl⟩
              · have t2 : decide (4294967296 ≤ z' + A) = false := by simp; omega
                have x3 : 1 ≤ x' := by have := (HG.out.next dD.out (Or.inl hx)).1; have := dD.out.q0; omega
                go_wp2_with fail
                go_round
                case rel => exact ⟨x' - 1, z' + A, HG.out.on dD.out (Or.inl hx) (by omega), by omega, rfl, rfl⟩
                case measure => simp [RowKit.intOf]; omega
            · have t1 : decide (4294967296 ≤ x') = false := by simp; omega
              have t1' : x' < 4294967296 := by omega
              obtain ⟨g0, g1⟩ := HG.out.bound dD.out t1'
              by_cases ho : 4294967296 * z' + N < x' * B
              · have t3 : decide (4294967296 * z' + N < x' * B) = true := by simp; omega
                by_cases hr : 4294967296 ≤ z' + A
                · have t2 : decide (4294967296 ≤ z' + A) = true := by simp; omega
                  obtain rfl : x' = S + 1 := by have := HG.out.far dD.out (Or.inr ho) hr; omega
                  clear HG x2 x0
                  go_wp2_with fail
                  go_ret2
                  exact ⟨rfl, rfl⟩
                · have t2 : decide (4294967296 ≤ z' + A) = false := by simp; omega
                  have x3 : 1 ≤ x' := by have := (HG.out.next dD.out (Or.inr ho)).1; have := dD.out.q0; omega
                  go_wp2_with fail
                  go_round
                  case rel => exact ⟨x' - 1, z' + A, HG.out.on dD.out (Or.inr ho) (by omega), by omega, rfl, rfl⟩
                  case measure => simp [RowKit.intOf]; omega
              · have t3 : decide (4294967296 * z' + N < x' * B) = false := by simp; omega
                have t4 : x' * B ≤ 4294967296 * z' + N := by omega
                clear ho
                obtain rfl : S = x' := (HG.out.fit dD.out t4).symm
                clear HG x2
                go_wp2_with fail
                go_ret2
                exact ⟨rfl, rfl⟩
        · have t2 : decide (4294967296 ≤ z + A) = false := by simp; omega
          have x3 : 1 ≤ x := by have := (HG.out.next dU.out (Or.inr ho)).1; have := dU.out.q0; omega
          go_wp2_with fail
          go_round
          case rel => exact ⟨x - 1, z + A, HG.out.on dU.out (Or.inr ho) (by omega), by omega, rfl, rfl⟩
          case measure => simp [RowKit.intOf]; omega
      · have t3 : decide (4294967296 * z + M < x * B) = false := by simp; omega
        have t4 : x * B ≤ 4294967296 * z + M := by omega
        clear ho
        obtain rfl : Q = x := (HG.out.fit dU.out t4).symm
        clear HG x2
        go_wp2_with fail
        clear gU dU
        go_loop [18, 16] (fun q r => ∃ x z : Int, Guess V A B D N S x z ∧ x ≤ 18446744073709551615 ∧ q = .int .u64 x ∧ r = .int .u64 z) (fun _ r => (4294967296 - RowKit.intOf r).toNat)
        case atStart => exact ⟨_, _, gD.out, by omega, rfl, rfl⟩
        case round =>
          obtain ⟨x', z', hg, x2, rfl, rfl⟩ := hrel
          have z0 := hg.r0
          have z1 := hg.r1
          have x0 : 0 ≤ x' := by have := dD.out.q0; have := hg.le; omega
          have HG := Lib.hid hg
          clear hg
          by_cases hx : 4294967296 ≤ x'
          · have t1 : decide (4294967296 ≤ x') = true := by simp; omega
            by_cases hr : 4294967296 ≤ z' + A
            · have t2 : decide (4294967296 ≤ z' + A) = true := by simp; omega
              obtain rfl : x' = S + 1 := by have := HG.out.far dD.out (Or.inl hx) hr; omega
              clear HG x2 x0
              go_wp2_with fail
              go_ret2
              exact ⟨rfl, rfl⟩
            · have t2 : decide (4294967296 ≤ z' + A) = false := by simp; omega
              have x3 : 1 ≤ x' := by have := (HG.out.next dD.out (Or.inl hx)).1; have := dD.out.q0; omega
              go_wp2_with fail
              go_round
              case rel => exact ⟨x' - 1, z' + A, HG.out.on dD.out (Or.inl hx) (by omega), by omega, rfl, rfl⟩
              case measure => simp [RowKit.intOf]; omega
          · have t1 : decide (4294967296 ≤ x') = false := by simp; omega
            have t1' : x' < 4294967296 := by omega
            obtain ⟨g0, g1⟩ := HG.out.bound dD.out t1'
            by_cases ho : 4294967296 * z' + N < x' * B
            · have t3 : decide (4294967296 * z' + N < x' * B) = true := by simp; omega
              by_cases hr : 4294967296 ≤ z' + A
              · have t2 : decide (4294967296 ≤ z' + A) = true := by simp; omega
                obtain rfl : x' = S + 1 := by have := HG.out.far dD.out (Or.inr ho) hr; omega
                clear HG x2 x0
                go_wp2_with fail
                go_ret2
                exact ⟨rfl, rfl⟩
              · have t2 : decide (4294967296 ≤ z' + A) = false := by simp; omega
                have x3 : 1 ≤ x' := by have := (HG.out.next dD.out (Or.inr ho)).1; have := dD.out.q0; omega
                go_wp2_with fail
                go_round
                case rel => exact ⟨x' - 1, z' + A, HG.out.on dD.out (Or.inr ho) (by omega), by omega, rfl, rfl⟩
                case measure => simp [RowKit.intOf]; omega
            · have t3 : decide (4294967296 * z' + N < x' * B) = false := by simp; omega
              have t4 : x' * B ≤ 4294967296 * z' + N := by omega
              clear ho
              obtain rfl : S = x' := (HG.out.fit dD.out t4).symm
              clear HG x2
              go_wp2_with fail
              go_ret2
              exact ⟨rfl, rfl⟩

theorem digit_of (V A B U M : Int) (hV : V = A * 4294967296 + B) (a0 : 2147483648 ≤ A) (a1 : A < 4294967296) (b0 : 0 ≤ B) (b1 : B < 4294967296) (u0 : 0 ≤ U) (u1 : U < V) (m0 : 0 ≤ M) (m1 : M < 4294967296) :
    Digit V A B U M ((U * 4294967296 + M) / V) := by
  have hv : 0 < V := by omega
  have e := Int.mul_ediv_add_emod (U * 4294967296 + M) V
  have e0 := Int.emod_nonneg (U * 4294967296 + M) (show V ≠ 0 by omega)
  have e1 := Int.emod_lt_of_pos (U * 4294967296 + M) hv
  rw [Int.mul_comm] at e
  exact ⟨hV, a0, a1, b0, b1, u0, u1, m0, m1, by omega, by omega⟩
theorem quo_bounds {U A : Int} (u0 : 0 ≤ U) (u1 : U < 18446744073709551616) (a0 : 2147483648 ≤ A) : 0 ≤ U / A ∧ U / A < 18446744073709551616 ∧ 0 ≤ U / A * A ∧ U / A * A ≤ U := by
  have h0 : 0 ≤ U / A := Int.ediv_nonneg u0 (by omega)
  have h1 := Int.ediv_le_self A u0
  exact ⟨h0, by omega, Int.mul_nonneg h0 (by omega), Int.ediv_mul_le U (by omega)⟩
theorem wrap_rest {U M Q V D : Int} (hD : D = U * 4294967296 + M - Q * V) (d0 : 0 ≤ D) (d1 : D < 18446744073709551616) :
    IntKind.u64.wrap (IntKind.u64.wrap (IntKind.u64.wrap (U * 4294967296) + M) - IntKind.u64.wrap (Q * V)) = D := by
  simp only [IntKind.wrap_u64]; omega
theorem wrapN (a : Nat) (ha : a < 18446744073709551616) : IntKind.u64.wrap (a : Int) = (a : Int) := by rw [IntKind.wrap_u64]; omega

/-- The words behind the shift. -/
theorem shifted (hi lo y p : Nat) (hp : p ≤ 63) (h1 : hi < y) (l1 : lo < 18446744073709551616) (hv : y * 2 ^ p < 18446744073709551616) :
    hi * 2 ^ p < 18446744073709551616 ∧ lo / 2 ^ (64 - p) < 2 ^ p ∧ hi * 2 ^ p + lo / 2 ^ (64 - p) < y * 2 ^ p ∧
    (hi * 2 ^ p ||| lo / 2 ^ (64 - p)) = hi * 2 ^ p + lo / 2 ^ (64 - p) ∧
    (hi * 18446744073709551616 + lo) * 2 ^ p = (hi * 2 ^ p + lo / 2 ^ (64 - p)) * 18446744073709551616 + lo * 2 ^ p % 18446744073709551616 := by
  have hpp : 0 < 2 ^ p := Nat.two_pow_pos p
  have e64 : 2 ^ (64 - p) * 2 ^ p = 18446744073709551616 := by rw [← Nat.pow_add, show 64 - p + p = 64 by omega]
  have a : hi * 2 ^ p ≤ y * 2 ^ p := Nat.mul_le_mul_right _ (by omega)
  have b : lo / 2 ^ (64 - p) < 2 ^ p := by
    rw [Nat.div_lt_iff_lt_mul (Nat.two_pow_pos _), Nat.mul_comm, e64]; exact l1
  have c : (hi + 1) * 2 ^ p ≤ y * 2 ^ p := Nat.mul_le_mul_right _ (by omega)
  rw [Nat.add_mul, Nat.one_mul] at c
  refine ⟨by omega, b, by omega, ?_, ?_⟩
  · have := Nat.two_pow_add_eq_or_of_lt b hi
    rw [Nat.mul_comm] at this
    exact this.symm
  · have q : lo * 2 ^ p / 18446744073709551616 = lo / 2 ^ (64 - p) := by
      rw [← e64, Nat.mul_div_mul_right _ _ hpp]
    have r := Nat.div_add_mod (lo * 2 ^ p) 18446744073709551616
    rw [q] at r
    rw [Nat.add_mul, Nat.add_mul, Nat.mul_right_comm]
    omega

theorem div64_nat (hi lo y : Nat) (w : World) (h0 : 0 < hi) (h1 : hi < y) (l1 : lo < 18446744073709551616) (y1 : y < 18446744073709551616) :
    Calls Try.prog 88 #[.int .u64 hi, .int .u64 lo, .int .u64 y] w fun e w' => e = .returned (.tuple #[.int .u64 (((hi : Int) * 18446744073709551616 + lo) / y), .int .u64 (((hi : Int) * 18446744073709551616 + lo) % y)]) ∧ w = w' := by
  have hl : Lib.bitLen y ≤ 64 := Lib.bitLen_le y 64 (by omega) y1
  have hq := bitLen_pos y (by omega)
  obtain ⟨v0, v1⟩ := shift_top y (by omega) y1
  generalize hp : 64 - Lib.bitLen y = p at v0 v1
  obtain ⟨c1, c2, c3, c4, c5⟩ := shifted hi lo y p (by omega) h1 l1 v1
  have hs : ((p : Nat) : Int) = lzI y := by unfold lzI; rw [Int.toNat_natCast]; omega
  have e1 : ((p : Nat) : Int).toNat = p := Int.toNat_natCast p
  have e2 : (64 - ((p : Nat) : Int)).toNat = 64 - p := by omega
  have ey : (y : Int) * 2 ^ p = ((y * 2 ^ p : Nat) : Int) := by push_cast; rfl
  have eh : (hi : Int) * 2 ^ p = ((hi * 2 ^ p : Nat) : Int) := by push_cast; rfl
  have el : (lo : Int) * 2 ^ p = ((lo * 2 ^ p : Nat) : Int) := by push_cast; rfl
  have eo : (lo : Int) / 2 ^ (64 - p) = ((lo / 2 ^ (64 - p) : Nat) : Int) := by push_cast; rfl
  have hpp : (0 : Int) < 2 ^ p := Int.pow_pos (by decide)
  generalize hV : y * 2 ^ p = V at *
  generalize hU : hi * 2 ^ p + lo / 2 ^ (64 - p) = U at *
  generalize hL : lo * 2 ^ p = Lw at *
  have dU := digit_of (V : Int) ((V / 4294967296 : Nat) : Int) ((V % 4294967296 : Nat) : Int) (U : Int) ((Lw % 18446744073709551616 / 4294967296 : Nat) : Int) (by omega) (by omega) (by omega) (by omega) (by omega) (by omega) (by omega) (by omega) (by omega)
  generalize hQ : ((U : Int) * 4294967296 + ((Lw % 18446744073709551616 / 4294967296 : Nat) : Int)) / (V : Int) = Q at dU
  have d0 := dU.lo
  have d1 := dU.up
  have dD := digit_of (V : Int) ((V / 4294967296 : Nat) : Int) ((V % 4294967296 : Nat) : Int) ((U : Int) * 4294967296 + ((Lw % 18446744073709551616 / 4294967296 : Nat) : Int) - Q * V) ((Lw % 18446744073709551616 % 4294967296 : Nat) : Int) (by omega) (by omega) (by omega) (by omega) (by omega) (by omega) (by omega) (by omega) (by omega)
  generalize hD : (U : Int) * 4294967296 + ((Lw % 18446744073709551616 / 4294967296 : Nat) : Int) - Q * V = D at dD
  generalize hS : (D * 4294967296 + ((Lw % 18446744073709551616 % 4294967296 : Nat) : Int)) / (V : Int) = S at dD
  have f0 := dD.lo
  have f1 := dD.up
  obtain ⟨g1, g2, g3, g4⟩ := quo_bounds (U := (U : Int)) (A := ((V / 4294967296 : Nat) : Int)) (by omega) (by omega) (by omega)
  obtain ⟨k1, k2, k3, k4⟩ := quo_bounds (U := D) (A := ((V / 4294967296 : Nat) : Int)) (by omega) (by omega) (by omega)
  have fin := two_digits (X := (hi : Int) * 18446744073709551616 + lo) (y := y) (P := 2 ^ p) hpp (by rw [ey]) (by
    rw [show (2 : Int) ^ p = ((2 ^ p : Nat) : Int) by push_cast; rfl, show (hi : Int) * 18446744073709551616 + lo = ((hi * 18446744073709551616 + lo : Nat) : Int) by omega, ← Int.natCast_mul, c5]
    omega) hD.symm dD
  have W := div64_walk hi lo y p V _ _ U ((Lw % 18446744073709551616 : Nat) : Int) _ _ ((U : Int) / ((V / 4294967296 : Nat) : Int)) _ Q D (D / ((V / 4294967296 : Nat) : Int)) _ S (D * 4294967296 + ((Lw % 18446744073709551616 % 4294967296 : Nat) : Int) - S * V) w (by omega) (by omega) (by omega) (Lib.hid hs) (by omega) (by omega)
    (by rw [e1, ey, wrapN _ (by omega)]) (by omega) (by
      have := bits_and_u64_nat V 4294967295 (by omega) (by omega)
      rw [show V &&& 4294967295 = V % 4294967296 from Nat.and_two_pow_sub_one_eq_mod V 32] at this
      exact this)
    (by rw [e1, e2, eh, eo, wrapN _ c1]
        have := bits_or_u64_nat (hi * 2 ^ p) (lo / 2 ^ (64 - p)) c1 (by omega)
        rw [c4] at this
        exact this)
    (by rw [e1, el, IntKind.wrap_u64]; omega) (by omega) (by
      have := bits_and_u64_nat (Lw % 18446744073709551616) 4294967295 (by omega) (by omega)
      rw [show Lw % 18446744073709551616 &&& 4294967295 = Lw % 18446744073709551616 % 4294967296 from Nat.and_two_pow_sub_one_eq_mod _ 32] at this
      exact this)
    rfl rfl (wrap_rest hD.symm (by omega) (by omega)) rfl rfl (wrap_rest rfl (by omega) (by omega))
    (by omega) (by omega) (by omega) (by omega) (by omega) (by omega) (by omega) (by omega) g1 g2 g3 g4 (by omega) (by omega) k1 k2 k3 k4 dU.q0 dU.q1 dD.q0 dD.q1
    (Lib.hid dU) (Lib.hid dU.start) (Lib.hid dD) (Lib.hid dD.start)
  rw [e1, fin.1, fin.2] at W
  exact W
theorem div64_any (hi lo y : Int) (w : World) (h0 : 0 ≤ hi) (h1 : hi < y) (l0 : 0 ≤ lo) (l1 : lo < 18446744073709551616) (y1 : y < 18446744073709551616) :
    Calls Try.prog 88 #[.int .u64 hi, .int .u64 lo, .int .u64 y] w fun e w' => e = .returned (.tuple #[.int .u64 ((hi * 18446744073709551616 + lo) / y), .int .u64 ((hi * 18446744073709551616 + lo) % y)]) ∧ ∃ n, w' = w.drewN n := by
  by_cases hz : hi = 0
  · subst hz
    rw [Int.zero_mul, Int.zero_add]
    exact div64_zero lo y w l0 l1 h1 y1
  · obtain ⟨a, rfl⟩ := Int.eq_ofNat_of_zero_le h0
    obtain ⟨b, rfl⟩ := Int.eq_ofNat_of_zero_le l0
    obtain ⟨c, rfl⟩ := Int.eq_ofNat_of_zero_le (show 0 ≤ y by omega)
    exact (div64_nat a b c w (by omega) (by omega) (by omega) (by omega)).mono fun e w' ⟨he, hw⟩ => ⟨he, 0, hw.symm⟩
end Go.Proofs.Ytdbhdlgoecpeaaa.Calc
