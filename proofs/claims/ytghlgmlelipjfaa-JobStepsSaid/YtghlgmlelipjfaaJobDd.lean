/- The document's Do, whatever is done. -/
import Derived.Test.YtghlgmlelipjfaaJobDdStart
import Derived.Test.YtghlgmlelipjfaaJobDdPause
import Derived.Test.YtghlgmlelipjfaaJobDdResume
import Derived.Test.YtghlgmlelipjfaaJobDdFinish
import Derived.Test.YtghlgmlelipjfaaJobDdDeliver
import Derived.Test.YtghlgmlelipjfaaJobDdCancel
namespace Go.Proofs.Ytghlgmlelipjfaa.Job
open Go.RowKit Go.Lib
open Goods (St Sts OwnS)

theorem ddo (what now : Int) (j : JS) (a : Option Addr) (n c : Nat) (w : World) (h : JIn w a n j.s) (hn : n ≤ 1024) :
    Calls Try.prog 8 #[jV j (.slice a n c), .int .i64 what, .int .i64 now] w fun e w' => ∃ a' n' c', e = .returned (.tuple #[jV (doV what now j) (.slice a' n' c'), .int .i64 (doE what now j)]) ∧ Hid (JIn w' a' n' (doV what now j).s ∧ n' ≤ n ∧ Below w.heap.size w w') := by
  by_cases c1 : what = 1
  · subst c1
    exact ddo_start now j a n c w h hn
  by_cases c2 : what = 2
  · subst c2
    exact ddo_pause now j a n c w h hn
  by_cases c3 : what = 3
  · subst c3
    exact ddo_resume now j a n c w h hn
  by_cases c4 : what = 4
  · subst c4
    exact ddo_finish now j a n c w h hn
  by_cases c5 : what = 5
  · subst c5
    exact ddo_deliver now j a n c w h hn
  exact ddo_cancel what now j a n c w h hn ⟨c1, c2, c3, c4, c5⟩
end Go.Proofs.Ytghlgmlelipjfaa.Job
