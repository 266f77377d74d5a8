/- The document's Scale, where what comes of it is no more than 2^61. -/
import Derived.Test.YtaffdddleegfcaaFeeMath
import Derived.Test.YtaffdddleegfcaaRows
import Derived.Test.YtaffdddleegfcaaCommon
import Derived.IntWalk
import Derived.Laws.BitsAllLaws
namespace Go.Proofs.Ytaffdddleegfcaa.Fee
open Go.RowKit Go.Lib

theorem i64_and_one (x : Int) (h0 : 0 ≤ x) (h1 : x ≤ 9223372036854775807) : bits .and .i64 x 1 = x % 2 := by
  have h127 : (BitVec.ofInt 64 1).toNat = 2 ^ 1 - 1 := by decide
  have key : (BitVec.ofInt 64 x &&& BitVec.ofInt 64 1).toNat = (x % ((2 ^ 64 : Nat) : Int)).toNat % 2 ^ 1 := by
    rw [BitVec.toNat_and, BitVec.toNat_ofInt, h127, Nat.and_two_pow_sub_one_eq_mod]
  show IntKind.i64.wrap ((BitVec.ofInt 64 x &&& BitVec.ofInt 64 1).toNat : Nat) = x % 2
  rw [key, IntKind.wrap_i64]
  omega
set_option maxRecDepth 100000 in
set_option maxHeartbeats 4000000 in
theorem rscale (a b c : Int) (up : Bool) (w : World) (a0 : 0 ≤ a) (a1 : a ≤ 9223372036854775807) (b0 : 0 ≤ b) (b1 : b ≤ 9223372036854775807) (c0 : 1 ≤ c) (c1 : c ≤ 9223372036854775807) (hm : a * b ≤ c * 2305843009213693952) :
    Calls Try.prog 18 #[.int .i64 a, .int .i64 b, .int .i64 c, .bool up] w fun e w' => e = .returned (.tuple #[.int .i64 (sc a b c up), .int .i64 0]) ∧ w = w' := by
  have wa : IntKind.u64.wrap a = a := by rw [IntKind.wrap_u64]; omega
  have wc : IntKind.u64.wrap c = c := by rw [IntKind.wrap_u64]; omega
  have d1 : decide (a < 0) = false := by simp; omega
  have d2 : decide (b < 0) = false := by simp; omega
  have d3 : decide (c < 1) = false := by simp; omega
  have HQ : Hid (∀ j : Nat, 0 ≤ b / 2 ^ j * a / c ∧ b / 2 ^ j * a / c ≤ 2305843009213693952 ∧ 0 ≤ b / 2 ^ j * a % c ∧ b / 2 ^ j * a % c < c) := Lib.hid (fun j => by
    obtain ⟨h1, h2⟩ := bit_le b0 j
    have h3 : b / 2 ^ j * a ≤ c * 2305843009213693952 := Int.le_trans (Int.mul_le_mul_of_nonneg_right h2 a0) (by rw [Int.mul_comm]; exact hm)
    have h4 : 0 ≤ b / 2 ^ j * a := Int.mul_nonneg h1 a0
    exact ⟨Int.ediv_nonneg h4 (by omega), Int.ediv_le_of_le_mul (by omega) (by omega), Int.emod_nonneg _ (by omega), Int.emod_lt_of_pos _ (by omega)⟩)
  have HT : Hid (b / 2 ^ 63 * a / c = 0 ∧ b / 2 ^ 63 * a % c = 0) := Lib.hid (by rw [bit_top b0 (by omega)]; simp)
  have HC : Hid (0 < c) := Lib.hid (by omega)
  have HX : Hid (∀ j : Nat, 0 ≤ b / 2 ^ j ∧ b / 2 ^ j ≤ 9223372036854775807) := Lib.hid (fun j => by have := bit_le b0 j; omega)
  obtain ⟨u, hu⟩ : ∃ u, a / c = u := ⟨_, rfl⟩
  obtain ⟨s, hs⟩ : ∃ s, a % c = s := ⟨_, rfl⟩
  have hu0 : 0 ≤ u := by rw [← hu]; exact Int.ediv_nonneg a0 (by omega)
  have hu1 : u ≤ 9223372036854775807 := by rw [← hu]; have := Int.ediv_le_self c a0; omega
  have hs0 : 0 ≤ s := by rw [← hs]; exact Int.emod_nonneg _ (by omega)
  have hs1 : s < c := by rw [← hs]; exact Int.emod_lt_of_pos _ (by omega)
  have tu : a.tdiv c = u := by rw [← hu]; exact Int.tdiv_eq_ediv_of_nonneg a0
  have ts : a.tmod c = s := by rw [← hs]; exact Int.tmod_eq_emod_of_nonneg a0
  have wu : IntKind.u64.wrap u = u := by rw [IntKind.wrap_u64]; omega
  have ws : IntKind.u64.wrap s = s := by rw [IntKind.wrap_u64]; omega
  have c2 : ¬ c = 0 := by omega
  have c3 : (c == 0) = false := by simpa using c2
  have HU := Lib.hid hu; have HS := Lib.hid hs
  clear hm hu hs
  go_enter Try.func18, Try.ntmps18
  go_wp2_with fail
  go_loopw [10, 11, 13] (fun x y t wr => ∃ (q r z : Int) (j : Nat), x = .int .u64 q ∧ y = .int .u64 r ∧ t = .int .i64 z ∧ z + 1 = j ∧ z ≤ 62 ∧ w = wr ∧ Hid (b / 2 ^ j * a / c = q ∧ b / 2 ^ j * a % c = r)) (fun _ _ t _ => (RowKit.intOf t + 1).toNat)
  case atStart => exact ⟨0, 0, 62, 63, rfl, rfl, rfl, rfl, by omega, rfl, HT⟩
  case round =>
    obtain ⟨q, r, z, j, rfl, rfl, rfl, hzj, hz, rfl, HI⟩ := hrel
    obtain ⟨q0, q1, r0, r1⟩ := HQ.out j
    rw [HI.out.1] at q0 q1
    rw [HI.out.2] at r0 r1
    rcases j with _ | k
    · obtain rfl : z = -1 := by omega
      have HE : Hid (b * a / c = q ∧ b * a % c = r) := Lib.hid (by have := HI.out; rw [bit_end] at this; exact this)
      have wq : wrap64 q = q := IntWalk.wrap64_in _ (by omega)
      have wq1 : IntKind.u64.wrap (q + 1) = q + 1 := by rw [IntKind.wrap_u64]; omega
      have wq2 : wrap64 (q + 1) = q + 1 := IntWalk.wrap64_in _ (by omega)
      by_cases hr : 0 < r
      · have hr2 : decide (0 < r) = true := decide_eq_true hr
        rcases up with _ | _
        · have HS : Hid (sc a b c false = q) := Lib.hid (by unfold sc; rw [if_neg (by simp), Int.mul_comm]; exact HE.out.1)
          go_wp2_with fail
          go_ret2
          exact ⟨by rw [HS.out]; rfl, by first | rfl | trivial⟩
        · have HS : Hid (sc a b c true = q + 1) := Lib.hid (by
            unfold sc
            rw [if_pos ⟨rfl, by rw [Int.mul_comm, HE.out.2]; omega⟩, Int.mul_comm, HE.out.1])
          go_wp2_with fail
          go_ret2
          exact ⟨by rw [HS.out]; rfl, by first | rfl | trivial⟩
      · have hr2 : decide (0 < r) = false := decide_eq_false hr
        have HS : Hid (sc a b c up = q) := Lib.hid (by
          unfold sc
          rw [if_neg (by rintro ⟨_, h⟩; rw [Int.mul_comm, HE.out.2] at h; omega), Int.mul_comm]
          exact HE.out.1)
        rcases up with _ | _
        · go_wp2_with fail
          go_ret2
          exact ⟨by rw [HS.out]; rfl, by first | rfl | trivial⟩
        · go_wp2_with fail
          go_ret2
          exact ⟨by rw [HS.out]; rfl, by first | rfl | trivial⟩
    · obtain rfl : z = (k : Int) := by omega
      obtain ⟨x, hx⟩ : ∃ x, b / 2 ^ k = x := ⟨_, rfl⟩
      obtain ⟨x0, x1⟩ := HX.out k
      have hst := bit_step b k
      rw [hx] at x0 x1 hst
      have hand := i64_and_one x x0 x1
      have H2 := Lib.hid (dm_two (b / 2 ^ (k + 1) * a) HC.out)
      have H3 := Lib.hid (fun P => dm_more P a HC.out)
      have HP : Hid (x % 2 = 0 → x * a = 2 * (b / 2 ^ (k + 1) * a)) := Lib.hid (fun h => by rw [h, Int.add_zero] at hst; rw [hst, Int.mul_assoc])
      have HP1 : Hid (x % 2 = 1 → x * a = 2 * (b / 2 ^ (k + 1) * a) + a) := Lib.hid (fun h => by rw [h] at hst; rw [hst, Int.add_mul, Int.mul_assoc, Int.one_mul])
      rw [HI.out.1, HI.out.2] at H2
      rw [HU.out, HS.out] at H3
      have HXX := Lib.hid hx
      clear hst
      obtain ⟨m, hm⟩ : ∃ m, x % 2 = m := ⟨_, rfl⟩
      rw [hm] at hand HP HP1
      have hm2 : m = 0 ∨ m = 1 := by omega
      clear hm
      have dq : decide (9223372036854775807 < q) = false := decide_eq_false (by omega)
      have dq1 : decide (9223372036854775807 < 2 * q + 1) = false := decide_eq_false (by omega)
      have dq2 : decide (9223372036854775807 < 2 * q) = false := decide_eq_false (by omega)
      have nq : ¬ 9223372036854775807 < q := by omega
      have nq1 : ¬ 9223372036854775807 < 2 * q + 1 := by omega
      have nq2 : ¬ 9223372036854775807 < 2 * q := by omega
      by_cases h1 : c ≤ 2 * r
      · have HE2 := Lib.hid (H2.out.1 h1)
        rcases hm2 with rfl | rfl
        · have HE : Hid (b / 2 ^ k * a / c = 2 * q + 1 ∧ b / 2 ^ k * a % c = 2 * r - c) := Lib.hid (by rw [HXX.out, HP.out rfl]; exact HE2.out)
          go_wp2_with fail
          go_roundw
          case rel => exact ⟨_, _, _, k, rfl, rfl, rfl, by omega, by omega, by first | rfl | trivial, HE⟩
          case measure => simp [RowKit.intOf] <;> omega
        · have H4 := Lib.hid (H3.out (2 * (b / 2 ^ (k + 1) * a)))
          rw [HE2.out.1, HE2.out.2] at H4
          by_cases h2 : c ≤ 2 * r - c + s
          · have HE : Hid (b / 2 ^ k * a / c = 2 * q + 1 + u + 1 ∧ b / 2 ^ k * a % c = 2 * r - c + s - c) := Lib.hid (by rw [HXX.out, HP1.out rfl]; exact H4.out.1 h2)
            go_wp2_with fail
            go_roundw
            case rel => exact ⟨_, _, _, k, rfl, rfl, rfl, by omega, by omega, by first | rfl | trivial, HE⟩
            case measure => simp [RowKit.intOf] <;> omega
          · have HE : Hid (b / 2 ^ k * a / c = 2 * q + 1 + u ∧ b / 2 ^ k * a % c = 2 * r - c + s) := Lib.hid (by rw [HXX.out, HP1.out rfl]; exact H4.out.2 (by omega))
            go_wp2_with fail
            go_roundw
            case rel => exact ⟨_, _, _, k, rfl, rfl, rfl, by omega, by omega, by first | rfl | trivial, HE⟩
            case measure => simp [RowKit.intOf] <;> omega
      · have HE2 := Lib.hid (H2.out.2 (by omega))
        rcases hm2 with rfl | rfl
        · have HE : Hid (b / 2 ^ k * a / c = 2 * q ∧ b / 2 ^ k * a % c = 2 * r) := Lib.hid (by rw [HXX.out, HP.out rfl]; exact HE2.out)
          go_wp2_with fail
          go_roundw
          case rel => exact ⟨_, _, _, k, rfl, rfl, rfl, by omega, by omega, by first | rfl | trivial, HE⟩
          case measure => simp [RowKit.intOf] <;> omega
        · have H4 := Lib.hid (H3.out (2 * (b / 2 ^ (k + 1) * a)))
          rw [HE2.out.1, HE2.out.2] at H4
          by_cases h2 : c ≤ 2 * r + s
          · have HE : Hid (b / 2 ^ k * a / c = 2 * q + u + 1 ∧ b / 2 ^ k * a % c = 2 * r + s - c) := Lib.hid (by rw [HXX.out, HP1.out rfl]; exact H4.out.1 h2)
            go_wp2_with fail
            go_roundw
            case rel => exact ⟨_, _, _, k, rfl, rfl, rfl, by omega, by omega, by first | rfl | trivial, HE⟩
            case measure => simp [RowKit.intOf] <;> omega
          · have HE : Hid (b / 2 ^ k * a / c = 2 * q + u ∧ b / 2 ^ k * a % c = 2 * r + s) := Lib.hid (by rw [HXX.out, HP1.out rfl]; exact H4.out.2 (by omega))
            go_wp2_with fail
            go_roundw
            case rel => exact ⟨_, _, _, k, rfl, rfl, rfl, by omega, by omega, by first | rfl | trivial, HE⟩
            case measure => simp [RowKit.intOf] <;> omega
end Go.Proofs.Ytaffdddleegfcaa.Fee
