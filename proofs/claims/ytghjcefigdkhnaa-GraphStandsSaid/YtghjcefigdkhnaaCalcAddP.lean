/- Package calc's Add, as later layers call it. -/
import Derived.Test.YtghjcefigdkhnaaRows
import Derived.Test.YtghjcefigdkhnaaCalcMath
import Derived.WalkSpells
import Derived.WalkLawsBesides
import Derived.RegionTactic
import Derived.Deep.QuietTactic
import Derived.BigQuiet
namespace Go.Proofs.Ytghjcefigdkhnaa.Calc
open Go.RowKit Go.Lib

set_option maxHeartbeats 400000 in
theorem add_any (a b : Int) (w : World) (a1 : -9223372036854775808 ≤ a) (a2 : a ≤ 9223372036854775807) (b1 : -9223372036854775808 ≤ b) (b2 : b ≤ 9223372036854775807) :
    Calls Try.prog 25 #[.int .i64 a, .int .i64 b] w fun e w' => e = .returned (.tuple #[.int .i64 (valN (a + b)), .int .i64 (valE (a + b))]) ∧ w = w' := by
  by_cases h1 : a + b < -9223372036854775808
  · obtain ⟨hw1, hw2⟩ := wrap_under h1 (by omega)
    have hd1 : decide (wrap64 (a + b) < a) = false := by simp; omega
    have hd2 : decide (b < 0) = true := by simp; omega
    go_enter Try.func25, Try.ntmps25
    go_wp2
    go_ret2
    exact ⟨pair_out (Or.inl h1), rfl⟩
  · by_cases h2 : 9223372036854775807 < a + b
    · obtain ⟨hw1, hw2⟩ := wrap_over h2 (by omega)
      have hd1 : decide (wrap64 (a + b) < a) = true := by simp; omega
      have hd2 : decide (b < 0) = false := by simp; omega
      go_enter Try.func25, Try.ntmps25
      go_wp2
      go_ret2
      exact ⟨pair_out (Or.inr h2), rfl⟩
    · have h3 : -9223372036854775808 ≤ a + b := by omega
      have h4 : a + b ≤ 9223372036854775807 := by omega
      clear h1 h2
      by_cases hb : b < 0
      · have hd1 : decide (a + b < a) = true := by simp; omega
        have hd2 : decide (b < 0) = true := by simp; omega
        go_enter Try.func25, Try.ntmps25
        go_wp2
        go_ret2
        exact ⟨pair_in h3 h4, rfl⟩
      · have hd1 : decide (a + b < a) = false := by simp; omega
        have hd2 : decide (b < 0) = false := by simp; omega
        go_enter Try.func25, Try.ntmps25
        go_wp2
        go_ret2
        exact ⟨pair_in h3 h4, rfl⟩
end Go.Proofs.Ytghjcefigdkhnaa.Calc
