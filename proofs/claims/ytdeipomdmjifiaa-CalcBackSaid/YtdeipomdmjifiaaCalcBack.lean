/- The walk over the law CalcBack: what is added is taken away again, and a product is divided again. -/
import Derived.Test.YtdeipomdmjifiaaCalcAwake
namespace Go.Proofs.Ytdeipomdmjifiaa
open Go.RowKit Go.Lib

theorem add_as (a b s : Int) (w : World) (a1 : -9223372036854775808 ≤ a) (a2 : a ≤ 9223372036854775807) (b1 : -9223372036854775808 ≤ b) (b2 : b ≤ 9223372036854775807) (hs : s = a + b) (h1 : -9223372036854775808 ≤ s) (h2 : s ≤ 9223372036854775807) :
    Calls Try.prog 7 #[.int .i64 a, .int .i64 b] w fun e w' => e = .returned (.tuple #[.int .i64 s, .int .i64 0]) ∧ w = w' := by
  subst hs; exact add_in a b w a1 a2 b1 b2 h1 h2
theorem sub_as (a b s : Int) (w : World) (a1 : -9223372036854775808 ≤ a) (a2 : a ≤ 9223372036854775807) (b1 : -9223372036854775808 ≤ b) (b2 : b ≤ 9223372036854775807) (hs : s = a - b) (h1 : -9223372036854775808 ≤ s) (h2 : s ≤ 9223372036854775807) :
    Calls Try.prog 9 #[.int .i64 a, .int .i64 b] w fun e w' => e = .returned (.tuple #[.int .i64 s, .int .i64 0]) ∧ w = w' := by
  have h := sub_any a b w a1 a2 b1 b2
  rwa [← hs, valN_in h1 h2, valE_in h1 h2] at h
theorem mul_as (a b s : Int) (w : World) (a1 : -9223372036854775808 ≤ a) (a2 : a ≤ 9223372036854775807) (b1 : -9223372036854775808 ≤ b) (b2 : b ≤ 9223372036854775807) (hs : s = a * b) (h1 : -9223372036854775808 ≤ s) (h2 : s ≤ 9223372036854775807) :
    Calls Try.prog 11 #[.int .i64 a, .int .i64 b] w fun e w' => e = .returned (.tuple #[.int .i64 s, .int .i64 0]) ∧ w = w' := by
  have h := mul_any a b w a1 a2 b1 b2
  rwa [← hs, valN_in h1 h2, valE_in h1 h2] at h
theorem mul_out (a b : Int) (w : World) (a1 : -9223372036854775808 ≤ a) (a2 : a ≤ 9223372036854775807) (b1 : -9223372036854775808 ≤ b) (b2 : b ≤ 9223372036854775807) (ho : a * b < -9223372036854775808 ∨ 9223372036854775807 < a * b) :
    Calls Try.prog 11 #[.int .i64 a, .int .i64 b] w fun e w' => e = .returned (.tuple #[.int .i64 0, .int .i64 5]) ∧ w = w' := by
  have h := mul_any a b w a1 a2 b1 b2
  rwa [valN_out ho, valE_out ho] at h
theorem tmod_back {a b p : Int} (hp : p = a * b) : p.tmod b = 0 := by rw [hp]; exact Int.mul_tmod_left a b
theorem tdiv_back {a b p : Int} (hp : p = a * b) (hb : b ≠ 0) : p.tdiv b = a := by rw [hp]; exact Int.mul_tdiv_cancel a hb

set_option maxHeartbeats 4000000 in
theorem lawBack (a b : Int) (w : World) (a1 : -9223372036854775808 ≤ a) (a2 : a ≤ 9223372036854775807) (b1 : -9223372036854775808 ≤ b) (b2 : b ≤ 9223372036854775807) :
    Calls Try.prog 6 #[.int .i64 a, .int .i64 b] w fun e w' => e = .returned (.bool true) ∧ Drew w w' := by
  obtain ⟨s, hs⟩ : ∃ s, s = a + b := ⟨_, rfl⟩
  obtain ⟨p, hp⟩ : ∃ p, p = a * b := ⟨_, rfl⟩
  have HS := Lib.hid hs; have HP := Lib.hid hp
  clear hs hp
  by_cases hs : -9223372036854775808 ≤ s ∧ s ≤ 9223372036854775807
  · obtain ⟨s1, s2⟩ := hs
    by_cases hp : -9223372036854775808 ≤ p ∧ p ≤ 9223372036854775807
    · obtain ⟨p1, p2⟩ := hp
      by_cases hb : b = 0
      · have b0 : (b == 0) = true := by simp [hb]
        clear hb
        go_enter Try.func6, Try.ntmps6
        go_wp2_with fail
        refine (add_as a b s _ a1 a2 b1 b2 HS.out s1 s2).mono ?_
        rintro e w' ⟨rfl, rfl⟩
        go_wp2_with fail
        refine (add_as b a s _ b1 b2 a1 a2 (by rw [HS.out, Int.add_comm]) s1 s2).mono ?_
        rintro e w' ⟨rfl, rfl⟩
        go_wp2_with fail
        refine (mul_as a b p _ a1 a2 b1 b2 HP.out p1 p2).mono ?_
        rintro e w' ⟨rfl, rfl⟩
        go_wp2_with fail
        refine (mul_as b a p _ b1 b2 a1 a2 (by rw [HP.out, Int.mul_comm]) p1 p2).mono ?_
        rintro e w' ⟨rfl, rfl⟩
        go_wp2_with fail
        refine (sub_as s b a _ s1 s2 b1 b2 (by have := HS.out; omega) a1 a2).mono ?_
        rintro e w' ⟨rfl, rfl⟩
        go_wp2_with fail
        refine (awake_any _).mono ?_
        rintro e w' ⟨rfl, n, rfl⟩
        go_wp2_with fail
        go_ret
        exact ⟨rfl, n, rfl⟩
      · have b0 : (b == 0) = false := by simp [hb]
        have e1 : p.tmod b = 0 := tmod_back HP.out
        have e2 : p.tdiv b = a := tdiv_back HP.out hb
        go_enter Try.func6, Try.ntmps6
        go_wp2_with fail
        refine (add_as a b s _ a1 a2 b1 b2 HS.out s1 s2).mono ?_
        rintro e w' ⟨rfl, rfl⟩
        go_wp2_with fail
        refine (add_as b a s _ b1 b2 a1 a2 (by rw [HS.out, Int.add_comm]) s1 s2).mono ?_
        rintro e w' ⟨rfl, rfl⟩
        go_wp2_with fail
        refine (mul_as a b p _ a1 a2 b1 b2 HP.out p1 p2).mono ?_
        rintro e w' ⟨rfl, rfl⟩
        go_wp2_with fail
        refine (mul_as b a p _ b1 b2 a1 a2 (by rw [HP.out, Int.mul_comm]) p1 p2).mono ?_
        rintro e w' ⟨rfl, rfl⟩
        go_wp2_with fail
        refine (sub_as s b a _ s1 s2 b1 b2 (by have := HS.out; omega) a1 a2).mono ?_
        rintro e w' ⟨rfl, rfl⟩
        go_wp2_with fail
        refine (awake_any _).mono ?_
        rintro e w' ⟨rfl, n, rfl⟩
        go_wp2_with fail
        go_ret
        exact ⟨rfl, n, rfl⟩
    · have po : p < -9223372036854775808 ∨ 9223372036854775807 < p := by omega
      clear hp
      go_enter Try.func6, Try.ntmps6
      go_wp2_with fail
      refine (add_as a b s _ a1 a2 b1 b2 HS.out s1 s2).mono ?_
      rintro e w' ⟨rfl, rfl⟩
      go_wp2_with fail
      refine (add_as b a s _ b1 b2 a1 a2 (by rw [HS.out, Int.add_comm]) s1 s2).mono ?_
      rintro e w' ⟨rfl, rfl⟩
      go_wp2_with fail
      refine (mul_out a b _ a1 a2 b1 b2 (by rw [← HP.out]; exact po)).mono ?_
      rintro e w' ⟨rfl, rfl⟩
      go_wp2_with fail
      refine (mul_out b a _ b1 b2 a1 a2 (by rw [Int.mul_comm, ← HP.out]; exact po)).mono ?_
      rintro e w' ⟨rfl, rfl⟩
      go_wp2_with fail
      refine (sub_as s b a _ s1 s2 b1 b2 (by have := HS.out; omega) a1 a2).mono ?_
      rintro e w' ⟨rfl, rfl⟩
      go_wp2_with fail
      refine (awake_any _).mono ?_
      rintro e w' ⟨rfl, n, rfl⟩
      go_wp2_with fail
      go_ret
      exact ⟨rfl, n, rfl⟩
  · have so : s < -9223372036854775808 ∨ 9223372036854775807 < s := by omega
    clear hs
    by_cases hp : -9223372036854775808 ≤ p ∧ p ≤ 9223372036854775807
    · obtain ⟨p1, p2⟩ := hp
      by_cases hb : b = 0
      · have b0 : (b == 0) = true := by simp [hb]
        clear hb
        go_enter Try.func6, Try.ntmps6
        go_wp2_with fail
        refine (add_out a b _ a1 a2 b1 b2 (by have := HS.out; omega)).mono ?_
        rintro e w' ⟨rfl, rfl⟩
        go_wp2_with fail
        refine (add_out b a _ b1 b2 a1 a2 (by have := HS.out; omega)).mono ?_
        rintro e w' ⟨rfl, rfl⟩
        go_wp2_with fail
        refine (mul_as a b p _ a1 a2 b1 b2 HP.out p1 p2).mono ?_
        rintro e w' ⟨rfl, rfl⟩
        go_wp2_with fail
        refine (mul_as b a p _ b1 b2 a1 a2 (by rw [HP.out, Int.mul_comm]) p1 p2).mono ?_
        rintro e w' ⟨rfl, rfl⟩
        go_wp2_with fail
        refine (sub_any 0 b _ (by omega) (by omega) b1 b2).mono ?_
        rintro e w' ⟨rfl, rfl⟩
        go_wp2_with fail
        refine (awake_any _).mono ?_
        rintro e w' ⟨rfl, n, rfl⟩
        go_wp2_with fail
        go_ret
        exact ⟨rfl, n, rfl⟩
      · have b0 : (b == 0) = false := by simp [hb]
        have e1 : p.tmod b = 0 := tmod_back HP.out
        have e2 : p.tdiv b = a := tdiv_back HP.out hb
        go_enter Try.func6, Try.ntmps6
        go_wp2_with fail
        refine (add_out a b _ a1 a2 b1 b2 (by have := HS.out; omega)).mono ?_
        rintro e w' ⟨rfl, rfl⟩
        go_wp2_with fail
        refine (add_out b a _ b1 b2 a1 a2 (by have := HS.out; omega)).mono ?_
        rintro e w' ⟨rfl, rfl⟩
        go_wp2_with fail
        refine (mul_as a b p _ a1 a2 b1 b2 HP.out p1 p2).mono ?_
        rintro e w' ⟨rfl, rfl⟩
        go_wp2_with fail
        refine (mul_as b a p _ b1 b2 a1 a2 (by rw [HP.out, Int.mul_comm]) p1 p2).mono ?_
        rintro e w' ⟨rfl, rfl⟩
        go_wp2_with fail
        refine (sub_any 0 b _ (by omega) (by omega) b1 b2).mono ?_
        rintro e w' ⟨rfl, rfl⟩
        go_wp2_with fail
        refine (awake_any _).mono ?_
        rintro e w' ⟨rfl, n, rfl⟩
        go_wp2_with fail
        go_ret
        exact ⟨rfl, n, rfl⟩
    · have po : p < -9223372036854775808 ∨ 9223372036854775807 < p := by omega
      clear hp
      go_enter Try.func6, Try.ntmps6
      go_wp2_with fail
      refine (add_out a b _ a1 a2 b1 b2 (by have := HS.out; omega)).mono ?_
      rintro e w' ⟨rfl, rfl⟩
      go_wp2_with fail
      refine (add_out b a _ b1 b2 a1 a2 (by have := HS.out; omega)).mono ?_
      rintro e w' ⟨rfl, rfl⟩
      go_wp2_with fail
      refine (mul_out a b _ a1 a2 b1 b2 (by rw [← HP.out]; exact po)).mono ?_
      rintro e w' ⟨rfl, rfl⟩
      go_wp2_with fail
      refine (mul_out b a _ b1 b2 a1 a2 (by rw [Int.mul_comm, ← HP.out]; exact po)).mono ?_
      rintro e w' ⟨rfl, rfl⟩
      go_wp2_with fail
      refine (sub_any 0 b _ (by omega) (by omega) b1 b2).mono ?_
      rintro e w' ⟨rfl, rfl⟩
      go_wp2_with fail
      refine (awake_any _).mono ?_
      rintro e w' ⟨rfl, n, rfl⟩
      go_wp2_with fail
      go_ret
      exact ⟨rfl, n, rfl⟩
end Go.Proofs.Ytdeipomdmjifiaa
