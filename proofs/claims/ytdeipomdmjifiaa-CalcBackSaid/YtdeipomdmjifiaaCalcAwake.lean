/- What must come, whatever the arguments are: the walk of the statements' own guard. -/
import Derived.Test.YtdeipomdmjifiaaCalcScale
import Derived.Test.YtdeipomdmjifiaaCalcSum
namespace Go.Proofs.Ytdeipomdmjifiaa
open Go.RowKit Go.Lib

theorem scale_at (a b c q : Int) (up : Bool) (w : World) (a1 : 0 ≤ a) (a2 : a ≤ 9223372036854775807) (b1 : 0 ≤ b) (b2 : b ≤ 9223372036854775807) (c1 : 1 ≤ c) (c2 : c ≤ 9223372036854775807) (hq : q = scaleQ a b c up) (q1 : -9223372036854775808 ≤ q) (q2 : q ≤ 9223372036854775807) :
    Calls Try.prog 16 #[.int .i64 a, .int .i64 b, .int .i64 c, .bool up] w fun e w' => e = .returned (.tuple #[.int .i64 q, .int .i64 0]) ∧ ∃ n, w' = w.drewN n := by
  subst hq
  exact (scale_any a b c up w a1 a2 b1 b2 c1 c2).mono fun e w' ⟨he, hw⟩ => ⟨by rw [he, valN_in q1 q2, valE_in q1 q2], hw⟩
/-- Nothing but draws. -/
def Drew (w w' : World) : Prop := ∃ n, w' = w.drewN n

set_option maxHeartbeats 1000000 in
theorem awake_any (w : World) : Calls Try.prog 13 #[] w fun e w' => e = .returned (.bool true) ∧ Drew w w' := by
  go_enter Try.func13, Try.ntmps13
  go_wp2_with fail
  refine (add_in 2 3 _ (by omega) (by omega) (by omega) (by omega) (by omega) (by omega)).mono ?_
  rintro e w' ⟨rfl, rfl⟩
  go_wp2_with fail
  refine (add_out 9223372036854775807 1 _ (by omega) (by omega) (by omega) (by omega) (by omega)).mono ?_
  rintro e w' ⟨rfl, rfl⟩
  go_wp2_with fail
  refine (scale_at 7 3 2 11 true _ (by omega) (by omega) (by omega) (by omega) (by omega) (by omega) (by decide) (by omega) (by omega)).mono ?_
  rintro e w' ⟨rfl, n, rfl⟩
  go_wp2_with fail
  refine (scale_at 9223372036854775807 9223372036854775807 9223372036854775807 9223372036854775807 false _ (by omega) (by omega) (by omega) (by omega) (by omega) (by omega) (by decide +kernel) (by omega) (by omega)).mono ?_
  rintro e w' ⟨rfl, m, rfl⟩
  go_wp2_with fail
  go_ret
  exact ⟨rfl, _, rfl⟩
end Go.Proofs.Ytdeipomdmjifiaa
