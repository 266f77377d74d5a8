/- Package calc's Sum, as later layers call it. -/
import Derived.Test.YtaffdddleegfcaaCalcAddP
namespace Go.Proofs.Ytaffdddleegfcaa.Calc
open Go.RowKit Go.Lib

/-- The sum of the first k numbers, as long as none of the sums on the way was too great. -/
def accAt (Z : Nat → Int) : Nat → Option Int
  | 0 => some 0
  | k + 1 => match accAt Z k with
    | some s => if fits (s + Z k) = true then some (s + Z k) else none
    | none => none
def sumN (Z : Nat → Int) (n : Nat) : Int := (accAt Z n).getD 0
def sumE (Z : Nat → Int) (n : Nat) : Int := if (accAt Z n).isSome = true then 0 else 5
theorem accAt_none (Z : Nat → Int) {k n : Nat} (h : accAt Z k = none) (hk : k ≤ n) : accAt Z n = none := by
  induction n with
  | zero => obtain rfl : k = 0 := by omega
            exact h
  | succ n ih =>
    by_cases e : k = n + 1
    · rw [← e]; exact h
    · have := ih (by omega)
      simp [accAt, this]
theorem accAt_next {Z : Nat → Int} {k : Nat} {s : Int} (h : accAt Z k = some s) (h1 : -9223372036854775808 ≤ s + Z k) (h2 : s + Z k ≤ 9223372036854775807) : accAt Z (k + 1) = some (s + Z k) := by
  simp [accAt, h, fits_true h1 h2]
theorem accAt_over {Z : Nat → Int} {k n : Nat} {s : Int} (h : accAt Z k = some s) (ho : s + Z k < -9223372036854775808 ∨ 9223372036854775807 < s + Z k) (hk : k < n) : accAt Z n = none := by
  apply accAt_none Z (k := k + 1) _ (by omega)
  simp [accAt, h, fits_false ho]
theorem accAt_fits {Z : Nat → Int} {k : Nat} {s : Int} (h : accAt Z k = some s) : -9223372036854775808 ≤ s ∧ s ≤ 9223372036854775807 := by
  cases k with
  | zero => simp [accAt] at h; omega
  | succ k =>
    cases e : accAt Z k with
    | none => simp [accAt, e] at h
    | some t =>
      simp only [accAt, e] at h
      by_cases hf : fits (t + Z k) = true
      · rw [if_pos hf] at h
        have := Option.some.inj h
        unfold fits at hf
        have := of_decide_eq_true hf
        omega
      · rw [if_neg hf] at h; exact absurd h (by simp)
theorem sum_out {Z : Nat → Int} {n : Nat} (h : accAt Z n = none) : Ending.returned (.tuple #[.int .i64 0, .int .i64 5]) = Ending.returned (.tuple #[.int .i64 (sumN Z n), .int .i64 (sumE Z n)]) := by simp [sumN, sumE, h]
theorem sum_in {Z : Nat → Int} {n : Nat} {s : Int} (h : accAt Z n = some s) : Ending.returned (.tuple #[.int .i64 s, .int .i64 0]) = Ending.returned (.tuple #[.int .i64 (sumN Z n), .int .i64 (sumE Z n)]) := by simp [sumN, sumE, h]

theorem add_in (a b : Int) (w : World) (a1 : -9223372036854775808 ≤ a) (a2 : a ≤ 9223372036854775807) (b1 : -9223372036854775808 ≤ b) (b2 : b ≤ 9223372036854775807) (h1 : -9223372036854775808 ≤ a + b) (h2 : a + b ≤ 9223372036854775807) :
    Calls Try.prog 28 #[.int .i64 a, .int .i64 b] w fun e w' => e = .returned (.tuple #[.int .i64 (a + b), .int .i64 0]) ∧ w = w' := by
  have h := add_any a b w a1 a2 b1 b2
  rwa [valN_in h1 h2, valE_in h1 h2] at h
theorem add_out (a b : Int) (w : World) (a1 : -9223372036854775808 ≤ a) (a2 : a ≤ 9223372036854775807) (b1 : -9223372036854775808 ≤ b) (b2 : b ≤ 9223372036854775807) (ho : a + b < -9223372036854775808 ∨ 9223372036854775807 < a + b) :
    Calls Try.prog 28 #[.int .i64 a, .int .i64 b] w fun e w' => e = .returned (.tuple #[.int .i64 0, .int .i64 5]) ∧ w = w' := by
  have h := add_any a b w a1 a2 b1 b2
  rwa [valN_out ho, valE_out ho] at h
/-- What a sum's loop knows at its head. -/
def SumAt (Z : Nat → Int) (len : Nat) (k : Nat) (s : Int) : Prop := k ≤ len ∧ accAt Z k = some s
theorem ex_under {a b : Int} (h : ¬ (a + b < -9223372036854775808 ∨ 9223372036854775807 < a + b)) : -9223372036854775808 ≤ a + b ∧ a + b ≤ 9223372036854775807 := by omega

set_option maxHeartbeats 400000 in
theorem sum_cells (b off len cap : Nat) (Z : Nat → Int) (w : World) (hbig : len ≤ 9223372036854775807)
    (hc : ∀ j, j < len → w.cell? ⟨b, off + j, none⟩ = some (.int .i64 (Z j))) (hz : ∀ j, j < len → -9223372036854775808 ≤ Z j ∧ Z j ≤ 9223372036854775807) :
    Calls Try.prog 29 #[.slice (some ⟨b, off, none⟩) len cap] w fun e w' => e = .returned (.tuple #[.int .i64 (sumN Z len), .int .i64 (sumE Z len)]) ∧ w = w' := by
  have HC := Lib.hid hc; have HZ := Lib.hid hz
  clear hc hz
  go_enter Try.func29, Try.ntmps29
  go_wp2
  go_loop [4, 11] (fun t i => ∃ (k : Nat) (s : Int), SumAt Z len k s ∧ i = .int .i64 k ∧ t = .int .i64 s) (fun _ i => len - (intOf i).toNat)
  case atStart => exact ⟨0, 0, ⟨Nat.zero_le _, rfl⟩, rfl, rfl⟩
  case round =>
    obtain ⟨k, s, ⟨hk, hs⟩, rfl, rfl⟩ := hrel
    obtain ⟨s1, s2⟩ := accAt_fits hs
    have HS := Lib.hid hs; clear hs
    by_cases hlt : k < len
    · have hcell := HC.out k hlt
      obtain ⟨z1, z2⟩ := HZ.out k hlt
      by_cases ho : s + Z k < -9223372036854775808 ∨ 9223372036854775807 < s + Z k
      · have HO := Lib.hid ho; clear ho
        go_wp2_with fail
        refine (add_out s (Z k) _ s1 s2 z1 z2 HO.out).mono ?_
        rintro e w' ⟨rfl, rfl⟩
        go_wp2_with fail
        go_ret2
        exact ⟨sum_out (accAt_over HS.out HO.out hlt), rfl⟩
      · obtain ⟨t1, t2⟩ := ex_under ho
        clear ho
        go_wp2_with fail
        refine (add_in s (Z k) _ s1 s2 z1 z2 t1 t2).mono ?_
        rintro e w' ⟨rfl, rfl⟩
        go_wp2_with fail
        go_round
        case rel => exact ⟨k + 1, s + Z k, ⟨hlt, accAt_next HS.out t1 t2⟩, by go_num, rfl⟩
        case measure => simp [intOf]; omega
    · go_wp2_with fail
      go_ret2
      have e : k = len := by omega
      exact ⟨sum_in (e ▸ HS.out), rfl⟩
set_option maxHeartbeats 400000 in
theorem sum_empty (a : Option Addr) (cap : Nat) (Z : Nat → Int) (w : World) :
    Calls Try.prog 29 #[.slice a 0 cap] w fun e w' => e = .returned (.tuple #[.int .i64 (sumN Z 0), .int .i64 (sumE Z 0)]) ∧ w = w' := by
  go_enter Try.func29, Try.ntmps29
  go_wp2
  refine wp_loop_rounds 1 ?_; rw [rounds_succ]
  go_wp2
  go_ret2
  exact ⟨rfl, rfl⟩
end Go.Proofs.Ytaffdddleegfcaa.Calc
