/- The law's plain and do. -/
import Derived.Test.YtghlgmlelipjfaaJobFn
import Derived.Test.YtghlgmlelipjfaaJobFnC
namespace Go.Proofs.Ytghlgmlelipjfaa.Job.Im
open Go.RowKit Go.Lib
open Goods (St Sts OwnS)

def plainJ : JS := ⟨1, 1, 2, 0, 2, 1, 3, 4, 0, 10, 0, [], 1, 0, 0, 10⟩
set_option maxRecDepth 100000 in
theorem plain_im (w : World) : Calls Try.prog 20 #[] w fun e w' => e = .returned (jV plainJ (.slice none 0 0)) ∧ Hid (Below w.heap.size w w') := by
  obtain ⟨G, Z, hG, hZ, HZB, HG⟩ := box_zero w
  have HGS : Hid (w.heap.size = G) := Lib.hid hG
  go_enter Try.func20, Try.ntmps20
  go_wp2_with (refine store_jo rfl _ _ rfl G rfl plainJ none 0 0 rfl zJ (.slice none 0 0) HG.out ?_; intro w5 h5 g5)
  exact ret_jo (x := plainJ) (v := .slice none 0 0) rfl rfl rfl h5 ⟨rfl, Lib.hid (below_of_only HZB.out.1 (by have := HGS.out; omega) g5)⟩
set_option maxRecDepth 100000 in
set_option maxHeartbeats 16000000 in
theorem do_im (what now : Int) (j : JS) (a : Option Addr) (n c : Nat) (w : World) (h : JIn w a n j.s) (hn : n ≤ 1024) :
    Calls Try.prog 7 #[jV j (.slice a n c), .int .i64 what, .int .i64 now] w fun e w' => ∃ a' n' c', e = .returned (.tuple #[jV (doV what now j) (.slice a' n' c'), .int .i64 (doE what now j)]) ∧ Hid (OwnS w' w.heap.size (.slice a' n' c') (doV what now j).s ∧ n' ≤ n ∧ Below w.heap.size w w') := by
  obtain ⟨V, X, hV, hX, HXB, HH⟩ := box_jo w j (.slice a n c)
  obtain ⟨G, Z, hG, hZ, HZB, HG⟩ := box_zero X
  have HN : Hid (w.heap.size = V ∧ G = V + 1 ∧ Below w.heap.size w Z ∧ Z.heap.size = G + 1) := Lib.hid ⟨hV, by have := HXB.out.2; omega, below_then HXB.out.1 HZB.out.1, HZB.out.2⟩
  have HHZ : Hid (Has Z V j (.slice a n c)) := Lib.hid (has_under HH.out HZB.out.1)
  have hz : JIn Z a n j.s := h.under HN.out.2.2.1
  by_cases c1 : what = 1
  · subst c1
    obtain ⟨e0, e1⟩ := do_one now j
    rw [e0, e1]
    have HC := Lib.hid (start_im j a n c now Z hz hn)
    obtain ⟨R, hR⟩ : ∃ R, caV now j (mayStart j) (startJ now j) = R := ⟨_, rfl⟩
    obtain ⟨E, hE⟩ : ∃ E, caE now j (mayStart j) = E := ⟨_, rfl⟩
    rw [hR, hE] at HC
    rw [hR, hE]
    clear h hn hR hE e0 e1 hz
    go_enter Try.func7, Try.ntmps7
    go_wp2_with (refine load_jo rfl _ rfl V rfl j (.slice a n c) HHZ.out ?_)
    clear hV hX hG hZ
    refine HC.out.mono ?_
    rintro e w2 ⟨a2, n2, c2, rfl, H2⟩
    have HG2 : Hid (Has w2 G zJ (.slice none 0 0) ∧ Below w.heap.size w w2) := Lib.hid ⟨has_under HG.out H2.out.2.2, below_then HN.out.2.2.1 H2.out.2.2⟩
    go_wp2_with (refine store_jo rfl _ _ rfl G rfl R a2 n2 c2 rfl zJ (.slice none 0 0) HG2.out.1 ?_; intro w5 h5 g5)
    exact ret_jo2 (x := R) (v := .slice a2 n2 c2) rfl rfl rfl rfl h5 ⟨a2, n2, c2, rfl, Lib.hid ⟨World.ownsRow.mono (own_past H2.out.1 g5 (by have := HN.out; omega)) HN.out.2.2.1.size, H2.out.2.1, below_of_only HG2.out.2 (by have := HN.out; omega) g5⟩⟩
  have m1 : (what == 1) = false := by simpa using c1
  by_cases c2 : what = 2
  · subst c2
    obtain ⟨e0, e1⟩ := do_two now j
    rw [e0, e1]
    have HC := Lib.hid (pause_im j a n c now Z hz hn)
    obtain ⟨R, hR⟩ : ∃ R, caV now j (mayPause now j) (pauseJ now j) = R := ⟨_, rfl⟩
    obtain ⟨E, hE⟩ : ∃ E, caE now j (mayPause now j) = E := ⟨_, rfl⟩
    rw [hR, hE] at HC
    rw [hR, hE]
    clear h hn hR hE e0 e1 hz c1
    go_enter Try.func7, Try.ntmps7
    go_wp2_with (refine load_jo rfl _ rfl V rfl j (.slice a n c) HHZ.out ?_)
    clear hV hX hG hZ
    refine HC.out.mono ?_
    rintro e w2 ⟨a2, n2, c2, rfl, H2⟩
    have HG2 : Hid (Has w2 G zJ (.slice none 0 0) ∧ Below w.heap.size w w2) := Lib.hid ⟨has_under HG.out H2.out.2.2, below_then HN.out.2.2.1 H2.out.2.2⟩
    go_wp2_with (refine store_jo rfl _ _ rfl G rfl R a2 n2 c2 rfl zJ (.slice none 0 0) HG2.out.1 ?_; intro w5 h5 g5)
    exact ret_jo2 (x := R) (v := .slice a2 n2 c2) rfl rfl rfl rfl h5 ⟨a2, n2, c2, rfl, Lib.hid ⟨World.ownsRow.mono (own_past H2.out.1 g5 (by have := HN.out; omega)) HN.out.2.2.1.size, H2.out.2.1, below_of_only HG2.out.2 (by have := HN.out; omega) g5⟩⟩
  have m2 : (what == 2) = false := by simpa using c2
  by_cases c3 : what = 3
  · subst c3
    obtain ⟨e0, e1⟩ := do_three now j
    rw [e0, e1]
    have HC := Lib.hid (resume_im j a n c Z hz hn)
    obtain ⟨R, hR⟩ : ∃ R, chV j (mayResume j) (resumeJ j) = R := ⟨_, rfl⟩
    obtain ⟨E, hE⟩ : ∃ E, chE j (mayResume j) = E := ⟨_, rfl⟩
    rw [hR, hE] at HC
    rw [hR, hE]
    clear h hn hR hE e0 e1 hz c1 c2
    go_enter Try.func7, Try.ntmps7
    go_wp2_with (refine load_jo rfl _ rfl V rfl j (.slice a n c) HHZ.out ?_)
    clear hV hX hG hZ
    refine HC.out.mono ?_
    rintro e w2 ⟨a2, n2, c2, rfl, H2⟩
    have HG2 : Hid (Has w2 G zJ (.slice none 0 0) ∧ Below w.heap.size w w2) := Lib.hid ⟨has_under HG.out H2.out.2.2, below_then HN.out.2.2.1 H2.out.2.2⟩
    go_wp2_with (refine store_jo rfl _ _ rfl G rfl R a2 n2 c2 rfl zJ (.slice none 0 0) HG2.out.1 ?_; intro w5 h5 g5)
    exact ret_jo2 (x := R) (v := .slice a2 n2 c2) rfl rfl rfl rfl h5 ⟨a2, n2, c2, rfl, Lib.hid ⟨World.ownsRow.mono (own_past H2.out.1 g5 (by have := HN.out; omega)) HN.out.2.2.1.size, H2.out.2.1, below_of_only HG2.out.2 (by have := HN.out; omega) g5⟩⟩
  have m3 : (what == 3) = false := by simpa using c3
  by_cases c4 : what = 4
  · subst c4
    obtain ⟨e0, e1⟩ := do_four now j
    rw [e0, e1]
    have HC := Lib.hid (finish_im j a n c now Z hz hn)
    obtain ⟨R, hR⟩ : ∃ R, caV now j (mayFinish now j) (finishJ j) = R := ⟨_, rfl⟩
    obtain ⟨E, hE⟩ : ∃ E, caE now j (mayFinish now j) = E := ⟨_, rfl⟩
    rw [hR, hE] at HC
    rw [hR, hE]
    clear h hn hR hE e0 e1 hz c1 c2 c3
    go_enter Try.func7, Try.ntmps7
    go_wp2_with (refine load_jo rfl _ rfl V rfl j (.slice a n c) HHZ.out ?_)
    clear hV hX hG hZ
    refine HC.out.mono ?_
    rintro e w2 ⟨a2, n2, c2, rfl, H2⟩
    have HG2 : Hid (Has w2 G zJ (.slice none 0 0) ∧ Below w.heap.size w w2) := Lib.hid ⟨has_under HG.out H2.out.2.2, below_then HN.out.2.2.1 H2.out.2.2⟩
    go_wp2_with (refine store_jo rfl _ _ rfl G rfl R a2 n2 c2 rfl zJ (.slice none 0 0) HG2.out.1 ?_; intro w5 h5 g5)
    exact ret_jo2 (x := R) (v := .slice a2 n2 c2) rfl rfl rfl rfl h5 ⟨a2, n2, c2, rfl, Lib.hid ⟨World.ownsRow.mono (own_past H2.out.1 g5 (by have := HN.out; omega)) HN.out.2.2.1.size, H2.out.2.1, below_of_only HG2.out.2 (by have := HN.out; omega) g5⟩⟩
  have m4 : (what == 4) = false := by simpa using c4
  by_cases c5 : what = 5
  · subst c5
    obtain ⟨e0, e1⟩ := do_five now j
    rw [e0, e1]
    have HC := Lib.hid (deliver_im j a n c Z hz hn)
    obtain ⟨R, hR⟩ : ∃ R, chV j (mayDeliver j) (deliverJ j) = R := ⟨_, rfl⟩
    obtain ⟨E, hE⟩ : ∃ E, chE j (mayDeliver j) = E := ⟨_, rfl⟩
    rw [hR, hE] at HC
    rw [hR, hE]
    clear h hn hR hE e0 e1 hz c1 c2 c3 c4
    go_enter Try.func7, Try.ntmps7
    go_wp2_with (refine load_jo rfl _ rfl V rfl j (.slice a n c) HHZ.out ?_)
    clear hV hX hG hZ
    refine HC.out.mono ?_
    rintro e w2 ⟨a2, n2, c2, rfl, H2⟩
    have HG2 : Hid (Has w2 G zJ (.slice none 0 0) ∧ Below w.heap.size w w2) := Lib.hid ⟨has_under HG.out H2.out.2.2, below_then HN.out.2.2.1 H2.out.2.2⟩
    go_wp2_with (refine store_jo rfl _ _ rfl G rfl R a2 n2 c2 rfl zJ (.slice none 0 0) HG2.out.1 ?_; intro w5 h5 g5)
    exact ret_jo2 (x := R) (v := .slice a2 n2 c2) rfl rfl rfl rfl h5 ⟨a2, n2, c2, rfl, Lib.hid ⟨World.ownsRow.mono (own_past H2.out.1 g5 (by have := HN.out; omega)) HN.out.2.2.1.size, H2.out.2.1, below_of_only HG2.out.2 (by have := HN.out; omega) g5⟩⟩
  have m5 : (what == 5) = false := by simpa using c5
  obtain ⟨e0, e1⟩ := do_more ⟨c1, c2, c3, c4, c5⟩ now j
  rw [e0, e1]
  have n1 : (what == 1) = false := by simpa using c1
  have n2 : (what == 2) = false := by simpa using c2
  have n3 : (what == 3) = false := by simpa using c3
  have n4 : (what == 4) = false := by simpa using c4
  have n5 : (what == 5) = false := by simpa using c5
  have HC := Lib.hid (cancel_im j a n c Z hz hn)
  obtain ⟨R, hR⟩ : ∃ R, chV j (mayCancel j) (cancelJ j) = R := ⟨_, rfl⟩
  obtain ⟨E, hE⟩ : ∃ E, chE j (mayCancel j) = E := ⟨_, rfl⟩
  rw [hR, hE] at HC
  rw [hR, hE]
  clear h hn hR hE e0 e1 hz c1 c2 c3 c4 c5
  go_enter Try.func7, Try.ntmps7
  go_wp2_with (refine load_jo rfl _ rfl V rfl j (.slice a n c) HHZ.out ?_)
  clear hV hX hG hZ
  refine HC.out.mono ?_
  rintro e w2 ⟨a2, n2, c2, rfl, H2⟩
  have HG2 : Hid (Has w2 G zJ (.slice none 0 0) ∧ Below w.heap.size w w2) := Lib.hid ⟨has_under HG.out H2.out.2.2, below_then HN.out.2.2.1 H2.out.2.2⟩
  go_wp2_with (refine store_jo rfl _ _ rfl G rfl R a2 n2 c2 rfl zJ (.slice none 0 0) HG2.out.1 ?_; intro w5 h5 g5)
  exact ret_jo2 (x := R) (v := .slice a2 n2 c2) rfl rfl rfl rfl h5 ⟨a2, n2, c2, rfl, Lib.hid ⟨World.ownsRow.mono (own_past H2.out.1 g5 (by have := HN.out; omega)) HN.out.2.2.1.size, H2.out.2.1, below_of_only HG2.out.2 (by have := HN.out; omega) g5⟩⟩
end Go.Proofs.Ytghlgmlelipjfaa.Job.Im
