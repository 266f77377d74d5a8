/- The program's Check. -/
import Derived.Test.YtghlgmlelipjfaaJobImC
import Derived.Test.YtghlgmlelipjfaaJobLs
namespace Go.Proofs.Ytghlgmlelipjfaa.Job
open Go.RowKit Go.Lib
open Goods (St Sts OwnS)
namespace Im
open Classical in
set_option maxRecDepth 100000 in
set_option maxHeartbeats 4000000 in
theorem check_im (j : JS) (a : Option Addr) (n c : Nat) (w : World) (h : JIn w a n j.s) (hn : n ≤ 1024) : Calls Try.prog 10 #[jV j (.slice a n c)] w fun e w' => e = .returned (.int .i64 (chk j)) ∧ Below w.heap.size w w' := by
  obtain ⟨q, hq⟩ : ∃ q, chk j = q := ⟨_, rfl⟩
  rw [hq]
  obtain ⟨V, X, hV, hX, HXB, HH⟩ := box_jo w j (.slice a n c)
  have HW : Hid (∀ W, Below X.heap.size X W → Below w.heap.size w W ∧ Has W V j (.slice a n c)) := Lib.hid fun W hW => ⟨below_then HXB.out.1 hW, has_under HH.out hW⟩
  obtain ⟨b1, h1⟩ : ∃ b, decide (Asked j) = b := ⟨_, rfl⟩
  obtain ⟨b2, h2⟩ : ∃ b, decide (Locks j) = b := ⟨_, rfl⟩
  obtain ⟨b3, h3⟩ : ∃ b, decide (Stands j) = b := ⟨_, rfl⟩
  have H1 : Hid (∀ W, Below X.heap.size X W → Calls Try.prog 29 #[jV j (.slice a n c)] W fun e w' => e = .returned (.bool b1) ∧ Hid (Below X.heap.size X w')) := Lib.hid (fun W hW => by
    rw [← h1]
    exact (mayBeAsked_is j _ W).mono fun _ _ ⟨e, h⟩ => ⟨e, Lib.hid (below_then hW h)⟩)
  have H2 : Hid (∀ W, Below X.heap.size X W → Calls Try.prog 30 #[jV j (.slice a n c)] W fun e w' => e = .returned (.bool b2) ∧ Hid (Below X.heap.size X w')) := Lib.hid (fun W hW => by
    rw [← h2]
    exact (mayLock_is j a n c W ((h.under HXB.out.1).under hW) hn).mono fun _ _ ⟨e, h⟩ => ⟨e, Lib.hid (below_then hW h)⟩)
  have H3 : Hid (b1 = true → ∀ W, Below X.heap.size X W → Calls Try.prog 31 #[jV j (.slice a n c)] W fun e w' => e = .returned (.bool b3) ∧ Hid (Below X.heap.size X w')) := Lib.hid (fun e1 W hW => by
    have ht : j.tm ≤ 1099511627776 := (of_decide_eq_true (h1.trans e1) : Asked j).tm.2
    rw [← h3]
    exact (mayStand_is j _ W ht).mono fun _ _ ⟨e, h⟩ => ⟨e, Lib.hid (below_then hW h)⟩)
  have HQ : Hid (q = bif (b1 && (b2 && b3)) then 0 else 1) := Lib.hid (by
    have e : decide (Ok j) = (b1 && (b2 && b3)) := by
      rw [← h1, ← h2, ← h3, ← Bool.decide_and, ← Bool.decide_and]
      exact decide_eq_decide.2 ⟨fun h => ⟨h.asked, h.locks, h.stands⟩, fun ⟨a1, a2, a3⟩ => ⟨a1, a2, a3⟩⟩
    rw [← hq, ← e]
    by_cases ho : Ok j
    · rw [chk_yes ho, decide_eq_true ho]
      rfl
    · rw [chk_no ho, decide_eq_false ho]
      rfl)
  clear hq h1 h2 h3 h hn
  go_enter Try.func10, Try.ntmps10
  go_wp2_with (refine load_jo rfl _ rfl V rfl j (.slice a n c) HH.out ?_)
  clear hX hV
  refine (H1.out _ (Below.refl _ _)).mono ?_
  rintro e w1 ⟨rfl, G1⟩
  cases b1 with
  | false =>
    go_wp2_with fail
    go_ret
    exact ⟨ret_i64 HQ.out.symm, (HW.out w1 G1.out).1⟩
  | true =>
    have K1 := Lib.hid (HW.out w1 G1.out).2
    go_wp2_with (refine load_joG rfl _ rfl V rfl j (.slice a n c) K1.out ?_)
    refine (H2.out _ G1.out).mono ?_
    rintro e w2 ⟨rfl, G2⟩
    cases b2 with
    | false =>
      go_wp2_with fail
      go_ret
      exact ⟨ret_i64 HQ.out.symm, (HW.out w2 G2.out).1⟩
    | true =>
      have K2 := Lib.hid (HW.out w2 G2.out).2
      have H3 := Lib.hid (H3.out (by first | trivial | rfl) w2 G2.out)
      go_wp2_with (refine load_joG rfl _ rfl V rfl j (.slice a n c) K2.out ?_)
      refine H3.out.mono ?_
      rintro e w3 ⟨rfl, G3⟩
      cases b3 with
      | false =>
        go_wp2_with fail
        go_ret
        exact ⟨ret_i64 HQ.out.symm, (HW.out w3 G3.out).1⟩
      | true =>
        go_wp2_with fail
        go_ret
        exact ⟨ret_i64 HQ.out.symm, (HW.out w3 G3.out).1⟩
end Im
end Go.Proofs.Ytghlgmlelipjfaa.Job
