/- The walks over the library's division of two words by one. -/
import Derived.Test.YtdeipomdmjifiaaCalcMul
import Derived.Test.YtdeipomdmjifiaaCalcDivMath
import Derived.Deep.DeepCutAuto
namespace Go.Proofs.Ytdeipomdmjifiaa
open Go.RowKit Go.Lib

/-- The word's zeros ahead of its first bit, under a name. -/
def lzI (x : Int) : Int := 64 - (Lib.bitLen x.toNat : Int)
theorem lz64_as (x s : Int) (w : World) (h0 : 0 ≤ x) (h1 : x ≤ 18446744073709551615) (hs : s = lzI x) :
    Calls Try.prog 23 #[.int .u64 x] w fun e w' => e = .returned (.int .i64 s) ∧ w = w' := by
  subst hs
  exact (Try.bits_LeadingZeros64 x w h0 h1).mono fun e w' ⟨he, hw⟩ => ⟨he, hw.symm⟩

set_option maxHeartbeats 1000000 in
set_option maxRecDepth 100000 in
theorem div64_zero (lo y : Int) (w : World) (l0 : 0 ≤ lo) (l1 : lo < 18446744073709551616) (y0 : 0 < y) (y1 : y < 18446744073709551616) :
    Calls Try.prog 22 #[.int .u64 0, .int .u64 lo, .int .u64 y] w fun e w' => e = .returned (.tuple #[.int .u64 (lo / y), .int .u64 (lo % y)]) ∧ ∃ n, w' = w.drewN n := by
  have hd : (y == 0) = false := by simp; omega
  go_enter Try.func22, Try.ntmps22
  go_wp2_with fail
  go_quiet (fail)
  go_wp2_with fail
  go_ret2
  exact ⟨rfl, _, rfl⟩
set_option maxHeartbeats 8000000 in
set_option maxRecDepth 100000 in
theorem div64_walk (hi lo y s V A B U L M N Q0 R0 Q D Q1 R1 S E : Int) (w : World) (h0 : 0 < hi) (h1 : hi < y) (y1 : y < 18446744073709551616) (hs : Hid (s = lzI y)) (s0 : 0 ≤ s) (s1 : s ≤ 63)
    (eV : IntKind.u64.wrap (y * 2 ^ s.toNat) = V) (eA : V / 4294967296 = A) (eB : bits BinOp.and IntKind.u64 V 4294967295 = B)
    (eU : bits BinOp.or IntKind.u64 (IntKind.u64.wrap (hi * 2 ^ s.toNat)) (lo / 2 ^ (64 - s).toNat) = U)
    (eL : IntKind.u64.wrap (lo * 2 ^ s.toNat) = L) (eM : L / 4294967296 = M) (eN : bits BinOp.and IntKind.u64 L 4294967295 = N)
    (eQ0 : U / A = Q0) (eR0 : U - Q0 * A = R0)
    (eD : IntKind.u64.wrap (IntKind.u64.wrap (IntKind.u64.wrap (U * 4294967296) + M) - IntKind.u64.wrap (Q * V)) = D)
    (eQ1 : D / A = Q1) (eR1 : D - Q1 * A = R1)
    (eE : IntKind.u64.wrap (IntKind.u64.wrap (IntKind.u64.wrap (D * 4294967296) + N) - IntKind.u64.wrap (S * V)) = E)
    (a0 : 2147483648 ≤ A) (a1 : A < 4294967296) (m0 : 0 ≤ M) (m1 : M < 4294967296) (n0 : 0 ≤ N) (n1 : N < 4294967296)
    (u0 : 0 ≤ U) (u1 : U < 18446744073709551616) (q0 : 0 ≤ Q0) (q1 : Q0 < 18446744073709551616) (p0 : 0 ≤ Q0 * A) (p1 : Q0 * A ≤ U)
    (d0 : 0 ≤ D) (d1 : D < 18446744073709551616) (k0 : 0 ≤ Q1) (k1 : Q1 < 18446744073709551616) (r0 : 0 ≤ Q1 * A) (r1 : Q1 * A ≤ D)
    (c0 : 0 ≤ Q) (c1 : Q < 4294967296) (f0 : 0 ≤ S) (f1 : S < 4294967296)
    (dU : Hid (Digit V A B U M Q)) (gU : Hid (Guess V A B U M Q (U / A) R0)) (dD : Hid (Digit V A B D N S)) (gD : Hid (Guess V A B D N S Q1 R1)) :
    Calls Try.prog 22 #[.int .u64 hi, .int .u64 lo, .int .u64 y] w fun e w' => e = .returned (.tuple #[.int .u64 (Q * 4294967296 + S), .int .u64 (E / 2 ^ s.toNat)]) ∧ w = w' := by
  have hd : (y == 0) = false := by simp; omega
  have hd2 : (hi == 0) = false := by simp; omega
  go_enter Try.func22, Try.ntmps22
  go_wp2_with fail
  refine (lz64_as y s _ (by omega) (by omega) hs.out).mono ?_
  rintro e w' ⟨rfl, rfl⟩
  go_wp2_with fail
  go_loop [15, 16] (fun q r => ∃ x z : Int, Guess V A B U M Q x z ∧ x ≤ 18446744073709551615 ∧ q = .int .u64 x ∧ r = .int .u64 z) (fun _ r => (4294967296 - RowKit.intOf r).toNat)
  case atStart => exact ⟨_, _, gU.out, by omega, rfl, rfl⟩
  case round =>
    obtain ⟨x, z, hg, x2, rfl, rfl⟩ := hrel
    have z0 := hg.r0
    have z1 := hg.r1
    have x0 : 0 ≤ x := by have := dU.out.q0; have := hg.le; omega
    have HG := Lib.hid hg
    clear hg
    by_cases hx : 4294967296 ≤ x
    · have t1 : decide (4294967296 ≤ x) = true := by simp; omega
      by_cases hr : 4294967296 ≤ z + A
      · have t2 : decide (4294967296 ≤ z + A) = true := by simp; omega
        obtain rfl : x = Q + 1 := by have := HG.out.far dU.out (Or.inl hx) hr; omega
        clear HG x2 x0
        go_wp2_with fail
        clear gU dU
        go_loop [18, 16] (fun q r => ∃ x z : Int, Guess V A B D N S x z ∧ x ≤ 18446744073709551615 ∧ q = .int .u64 x ∧ r = .int .u64 z) (fun _ r => (4294967296 - RowKit.intOf r).toNat)
        case atStart => exact ⟨_, _, gD.out, by omega, rfl, rfl⟩
        case round =>
          obtain ⟨x', z', hg, x2, rfl, rfl⟩ := hrel
          have z0 := hg.r0
          have z1 := hg.r1
          have x0 : 0 ≤ x' := by have := dD.out.q0; have := hg.le; omega
          have HG := Lib.hid hg
          clear hg
          by_cases hx : 4294967296 ≤ x'
          · have t1 : decide (4294967296 ≤ x') = true := by simp; omega
            by_cases hr : 4294967296 ≤ z' + A
            · have t2 : decide (4294967296 ≤ z' + A) = true := by simp; omega
              obtain rfl : x' = S + 1 := by have := HG.out.far dD.out (Or.inl hx) hr; omega
              clear HG x2 x0
              go_wp2_with fail
              go_ret2
              exact ⟨rfl, rfl⟩
            · have t2 : decide (4294967296 ≤ z' + A) = false := by simp; omega
              have x3 : 1 ≤ x' := by have := (HG.out.next dD.out (Or.inl hx)).1; have := dD.out.q0; omega
              go_wp2_with fail
              go_round
              case rel => exact ⟨x' - 1, z' + A, HG.out.on dD.out (Or.inl hx) (by omega), by omega, rfl, rfl⟩
              case measure => simp [RowKit.intOf]; omega
          · have t1 : decide (4294967296 ≤ x') = false := by simp; omega
            have t1' : x' < 4294967296 := by omega
            obtain ⟨g0, g1⟩ := HG.out.bound dD.out t1'
            by_cases ho : 4294967296 * z' + N < x' * B
            · have t3 : decide (4294967296 * z' + N < x' * B) = true := by simp; omega
              by_cases hr : 4294967296 ≤ z' + A
              · have t2 : decide (4294967296 ≤ z' + A) = true := by simp; omega
                obtain rfl : x' = S + 1 := by have := HG.out.far dD.out (Or.inr ho) hr; omega
                clear HG x2 x0
                go_wp2_with fail
                go_ret2
                exact ⟨rfl, rfl⟩
              · have t2 : decide (4294967296 ≤ z' + A) = false := by simp; omega
                have x3 : 1 ≤ x' := by have := (HG.out.next dD.out (Or.inr ho)).1; have := dD.out.q0; omega
                go_wp2_with fail
                go_round
                case rel => exact ⟨x' - 1, z' + A, HG.out.on dD.out (Or.inr ho) (by omega), by omega, rfl, rfl⟩
                case measure => simp [RowKit.intOf]; omega
            · have t3 : decide (4294967296 * z' + N < x' * B) = false := by simp; omega
              have t4 : x' * B ≤ 4294967296 * z' + N := by omega
              clear ho
              obtain rfl : S = x' := (HG.out.fit dD.out t4).symm
              clear HG x2
              go_wp2_with fail
              go_ret2
              exact ⟨rfl, rfl⟩
      · have t2 : decide (4294967296 ≤ z + A) = false := by simp; omega
        have x3 : 1 ≤ x := by have := (HG.out.next dU.out (Or.inl hx)).1; have := dU.out.q0; omega
        go_wp2_with fail
        go_round
        case rel => exact ⟨x - 1, z + A, HG.out.on dU.out (Or.inl hx) (by omega), by omega, rfl, rfl⟩
        case measure => simp [RowKit.intOf]; omega
    · have t1 : decide (4294967296 ≤ x) = false := by simp; omega
      have t1' : x < 4294967296 := by omega
      obtain ⟨g0, g1⟩ := HG.out.bound dU.out t1'
      by_cases ho : 4294967296 * z + M < x * B
      · have t3 : decide (4294967296 * z + M < x * B) = true := by simp; omega
        by_cases hr : 4294967296 ≤ z + A
        · have t2 : decide (4294967296 ≤ z + A) = true := by simp; omega
          obtain rfl : x = Q + 1 := by have := HG.out.far dU.out (Or.inr ho) hr; omega
          clear HG x2 x0
          go_wp2_with fail
          clear gU dU
          go_loop [18, 16] (fun q r => ∃ x z : Int, Guess V A B D N S x z ∧ x ≤ 18446744073709551615 ∧ q = .int .u64 x ∧ r = .int .u64 z) (fun _ r => (4294967296 - RowKit.intOf r).toNat)
          case atStart => exact ⟨_, _, gD.out, by omega, rfl, rfl⟩
          case round =>
            obtain ⟨x', z', hg, x2, rfl, rfl⟩ := hrel
            have z0 := hg.r0
            have z1 := hg.r1
            have x0 : 0 ≤ x' := by have := dD.out.q0; have := hg.le; omega
            have HG := Lib.hid hg
            clear hg
            by_cases hx : 4294967296 ≤ x'
            · have t1 : decide (4294967296 ≤ x') = true := by simp; omega
              by_cases hr : 4294967296 ≤ z' + A
              · have t2 : decide (4294967296 ≤ z' + A) = true := by simp; omega
                obtain rfl : x' = S + 1 := by have := HG.out.far dD.out (Or.inl hx) hr; omega
                clear HG x2 x0
                go_wp2_with fail
                go_ret2
                exact ⟨rfl, rfl⟩
              · have t2 : decide (4294967296 ≤ z' + A) = false := by simp; omega
                have x3 : 1 ≤ x' := by have := (HG.out.next dD.out (Or.inl hx)).1; have := dD.out.q0; omega
                go_wp2_with fail
                go_round
                case rel => exact ⟨x' - 1, z' + A, HG.out.on dD.out (Or.inl hx) (by omega), by omega, rfl, rfl⟩
                case measure => simp [RowKit.intOf]; omega
            · have t1 : decide (4294967296 ≤ x') = false := by simp; omega
              have t1' : x' < 4294967296 := by omega
              obtain ⟨g0, g1⟩ := HG.out.bound dD.out t1'
              by_cases ho : 4294967296 * z' + N < x' * B
              · have t3 : decide (4294967296 * z' + N < x' * B) = true := by simp; omega
                by_cases hr : 4294967296 ≤ z' + A
                · have t2 : decide (4294967296 ≤ z' + A) = true := by simp; omega
                  obtain rfl : x' = S + 1 := by have := HG.out.far dD.out (Or.inr ho) hr; omega
                  clear HG x2 x0
                  go_wp2_with fail
                  go_ret2
                  exact ⟨rfl, rfl⟩
                · have t2 : decide (4294967296 ≤ z' + A) = false := by simp; omega
                  have x3 : 1 ≤ x' := by have := (HG.out.next dD.out (Or.inr ho)).1; have := dD.out.q0; omega
                  go_wp2_with fail
                  go_round
                  case rel => exact ⟨x' - 1, z' + A, HG.out.on dD.out (Or.inr ho) (by omega), by omega, rfl, rfl⟩
                  case measure => simp [RowKit.intOf]; omega
              · have t3 : decide (4294967296 * z' + N < x' * B) = false := by simp; omega
                have t4 : x' * B ≤ 4294967296 * z' + N := by omega
                clear ho
                obtain rfl : S = x' := (HG.out.fit dD.out t4).symm
                clear HG x2
                go_wp2_with fail
                go_ret2
                exact ⟨rfl, rfl⟩
        · have t2 : decide (4294967296 ≤ z + A) = false := by simp; omega
          have x3 : 1 ≤ x := by have := (HG.out.next dU.out (Or.inr ho)).1; have := dU.out.q0; omega
          go_wp2_with fail
          go_round
          case rel => exact ⟨x - 1, z + A, HG.out.on dU.out (Or.inr ho) (by omega), by omega, rfl, rfl⟩
          case measure => simp [RowKit.intOf]; omega
      · have t3 : decide (4294967296 * z + M < x * B) = false := by simp; omega
        have t4 : x * B ≤ 4294967296 * z + M := by omega
        clear ho
        obtain rfl : Q = x := (HG.out.fit dU.out t4).symm
        clear HG x2
        go_wp2_with fail
        clear gU dU
        go_loop [18, 16] (fun q r => ∃ x z : Int, Guess V A B D N S x z ∧ x ≤ 18446744073709551615 ∧ q = .int .u64 x ∧ r = .int .u64 z) (fun _ r => (4294967296 - RowKit.intOf r).toNat)
        case atStart => exact ⟨_, _, gD.out, by omega, rfl, rfl⟩
        case round =>
          obtain ⟨x', z', hg, x2, rfl, rfl⟩ := hrel
          have z0 := hg.r0
          have z1 := hg.r1
          have x0 : 0 ≤ x' := by have := dD.out.q0; have := hg.le; omega
          have HG := Lib.hid hg
          clear hg
          by_cases hx : 4294967296 ≤ x'
          · have t1 : decide (4294967296 ≤ x') = true := by simp; omega
            by_cases hr : 4294967296 ≤ z' + A
            · have t2 : decide (4294967296 ≤ z' + A) = true := by simp; omega
              obtain rfl : x' = S + 1 := by have := HG.out.far dD.out (Or.inl hx) hr; omega
              clear HG x2 x0
              go_wp2_with fail
              go_ret2
              exact ⟨rfl, rfl⟩
            · have t2 : decide (4294967296 ≤ z' + A) = false := by simp; omega
              have x3 : 1 ≤ x' := by have := (HG.out.next dD.out (Or.inl hx)).1; have := dD.out.q0; omega
              go_wp2_with fail
              go_round
              case rel => exact ⟨x' - 1, z' + A, HG.out.on dD.out (Or.inl hx) (by omega), by omega, rfl, rfl⟩
              case measure => simp [RowKit.intOf]; omega
          · have t1 : decide (4294967296 ≤ x') = false := by simp; omega
            have t1' : x' < 4294967296 := by omega
            obtain ⟨g0, g1⟩ := HG.out.bound dD.out t1'
            by_cases ho : 4294967296 * z' + N < x' * B
            · have t3 : decide (4294967296 * z' + N < x' * B) = true := by simp; omega
              by_cases hr : 4294967296 ≤ z' + A
              · have t2 : decide (4294967296 ≤ z' + A) = true := by simp; omega
                obtain rfl : x' = S + 1 := by have := HG.out.far dD.out (Or.inr ho) hr; omega
                clear HG x2 x0
                go_wp2_with fail
                go_ret2
                exact ⟨rfl, rfl⟩
              · have t2 : decide (4294967296 ≤ z' + A) = false := by simp; omega
                have x3 : 1 ≤ x' := by have := (HG.out.next dD.out (Or.inr ho)).1; have := dD.out.q0; omega
                go_wp2_with fail
                go_round
                case rel => exact ⟨x' - 1, z' + A, HG.out.on dD.out (Or.inr ho) (by omega), by omega, rfl, rfl⟩
                case measure => simp [RowKit.intOf]; omega
            · have t3 : decide (4294967296 * z' + N < x' * B) = false := by simp; omega
              have t4 : x' * B ≤ 4294967296 * z' + N := by omega
              clear ho
              obtain rfl : S = x' := (HG.out.fit dD.out t4).symm
              clear HG x2
              go_wp2_with fail
              go_ret2
              exact ⟨rfl, rfl⟩
end Go.Proofs.Ytdeipomdmjifiaa
