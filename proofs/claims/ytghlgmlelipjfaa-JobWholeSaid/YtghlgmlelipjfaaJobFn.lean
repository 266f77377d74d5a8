/- The program's Start, Pause, Resume, Finish, Deliver. -/
import Derived.Test.YtghlgmlelipjfaaJobChStart
import Derived.Test.YtghlgmlelipjfaaJobChPause
import Derived.Test.YtghlgmlelipjfaaJobChResume
import Derived.Test.YtghlgmlelipjfaaJobChFinish
import Derived.Test.YtghlgmlelipjfaaJobChDeliver
import Derived.Deep.RegionWith
import Derived.BigRegion
namespace Go.Proofs.Ytghlgmlelipjfaa.Job.Im
open Go.RowKit Go.Lib
open Goods (St Sts OwnS)

set_option maxRecDepth 100000 in
set_option maxHeartbeats 8000000 in
theorem start_im (j : JS) (a : Option Addr) (n c : Nat) (now : Int) (w : World) (h : JIn w a n j.s) (hn : n ≤ 1024) :
    Calls Try.prog 21 #[jV j (.slice a n c), .int .i64 now] w fun e w' => ∃ a' n' c', e = .returned (.tuple #[jV (caV now j (mayStart j) (startJ now j)) (.slice a' n' c'), .int .i64 (caE now j (mayStart j))]) ∧ Hid (OwnS w' w.heap.size (.slice a' n' c') (caV now j (mayStart j) (startJ now j)).s ∧ n' ≤ n ∧ Below w.heap.size w w') := by
  obtain ⟨V, X, hV, hX, HXB, HH⟩ := box_jo w j (.slice a n c)
  obtain ⟨T, X2, hT, hX2⟩ : ∃ T X2, X.heap.size = T ∧ X.alloc (.cells #[.int .i64 now] 3) = X2 := ⟨_, _, rfl, rfl⟩
  have HX2 : Hid (Below X.heap.size X X2 ∧ X2.heap[T]? = some (.cells #[.int .i64 now] 3 (0, 0)) ∧ X2.heap.size = T + 1) := Lib.hid (by
    rw [← hX2, ← hT]
    exact ⟨(Below.refl _ X).alloc (Nat.le_refl _) _, heap_alloc_new X _, by simp⟩)
  obtain ⟨G, Z, hG, hZ, HZB, HG⟩ := box_zero X2
  have HN : Hid (w.heap.size = V ∧ T = V + 1 ∧ G = T + 1 ∧ Below w.heap.size w Z ∧ Z.heap.size = G + 1) := Lib.hid ⟨hV, by have := HXB.out.2; omega, by have := HX2.out.2.2; omega, below_then HXB.out.1 (below_then HX2.out.1 HZB.out.1), HZB.out.2⟩
  have HHZ : Hid (Has Z V j (.slice a n c)) := Lib.hid (has_under (has_under HH.out HX2.out.1) HZB.out.1)
  have tz : Z.cell? ⟨T, 0, none⟩ = some (.int .i64 now) := cell_block (j := 0) ((HZB.out.1.block T (by have := HX2.out.2.2; omega)).trans HX2.out.2.1) rfl
  have k12 : Z.cell? ⟨V, 12, none⟩ = some (.int .i64 j.st) := cell_block (j := 12) HHZ.out rfl
  have k13 : Z.cell? ⟨V, 13, none⟩ = some (.int .i64 j.sr) := cell_block (j := 13) HHZ.out rfl
  have k14 : Z.cell? ⟨V, 14, none⟩ = some (.int .i64 j.en) := cell_block (j := 14) HHZ.out rfl
  obtain ⟨m, hm⟩ : ∃ m, mayStart j = m := ⟨_, rfl⟩
  rw [hm]
  have HC := Lib.hid (at_start j a n c m T now Z (h.under HN.out.2.2.2.1) hn tz)
  obtain ⟨R, hR⟩ : ∃ R, caV now j m (startJ now j) = R := ⟨_, rfl⟩
  obtain ⟨E, hE⟩ : ∃ E, caE now j m = E := ⟨_, rfl⟩
  rw [hR, hE] at HC
  rw [hR, hE]
  by_cases c0 : j.st = 1
  · have g0 : (j.st == 1) = true := by simpa using c0
    obtain rfl : m = true := hm.symm.trans (decide_eq_true (by omega))
    clear h hn hR hE hm c0
    go_enter Try.func21, Try.ntmps21
    go_wp2_with (refine load_jo rfl _ rfl V rfl j (.slice a n c) HHZ.out ?_)
    clear hV hX hG hZ k12 k13 k14 hT hX2 tz
    refine HC.out.mono ?_
    rintro e w2 ⟨a2, n2, c2, rfl, H2⟩
    have HG2 : Hid (Has w2 G zJ (.slice none 0 0) ∧ Below w.heap.size w w2) := Lib.hid ⟨has_under HG.out H2.out.2.2, below_then HN.out.2.2.2.1 H2.out.2.2⟩
    go_wp2_with (refine store_jo rfl _ _ rfl G rfl R a2 n2 c2 rfl zJ (.slice none 0 0) HG2.out.1 ?_; intro w5 h5 g5)
    exact ret_jo2 (x := R) (v := .slice a2 n2 c2) rfl rfl rfl rfl h5 ⟨a2, n2, c2, rfl, Lib.hid ⟨World.ownsRow.mono (own_past H2.out.1 g5 (by have := HN.out; omega)) HN.out.2.2.2.1.size, H2.out.2.1, below_of_only HG2.out.2 (by have := HN.out; omega) g5⟩⟩
  · have g0 : (j.st == 1) = false := by simpa using c0
    obtain rfl : m = false := hm.symm.trans (decide_eq_false (by omega))
    clear h hn hR hE hm c0
    go_enter Try.func21, Try.ntmps21
    go_wp2_with (refine load_jo rfl _ rfl V rfl j (.slice a n c) HHZ.out ?_)
    clear hV hX hG hZ k12 k13 k14 hT hX2 tz
    refine HC.out.mono ?_
    rintro e w2 ⟨a2, n2, c2, rfl, H2⟩
    have HG2 : Hid (Has w2 G zJ (.slice none 0 0) ∧ Below w.heap.size w w2) := Lib.hid ⟨has_under HG.out H2.out.2.2, below_then HN.out.2.2.2.1 H2.out.2.2⟩
    go_wp2_with (refine store_jo rfl _ _ rfl G rfl R a2 n2 c2 rfl zJ (.slice none 0 0) HG2.out.1 ?_; intro w5 h5 g5)
    exact ret_jo2 (x := R) (v := .slice a2 n2 c2) rfl rfl rfl rfl h5 ⟨a2, n2, c2, rfl, Lib.hid ⟨World.ownsRow.mono (own_past H2.out.1 g5 (by have := HN.out; omega)) HN.out.2.2.2.1.size, H2.out.2.1, below_of_only HG2.out.2 (by have := HN.out; omega) g5⟩⟩
set_option maxRecDepth 100000 in
set_option maxHeartbeats 8000000 in
theorem pause_im (j : JS) (a : Option Addr) (n c : Nat) (now : Int) (w : World) (h : JIn w a n j.s) (hn : n ≤ 1024) :
    Calls Try.prog 22 #[jV j (.slice a n c), .int .i64 now] w fun e w' => ∃ a' n' c', e = .returned (.tuple #[jV (caV now j (mayPause now j) (pauseJ now j)) (.slice a' n' c'), .int .i64 (caE now j (mayPause now j))]) ∧ Hid (OwnS w' w.heap.size (.slice a' n' c') (caV now j (mayPause now j) (pauseJ now j)).s ∧ n' ≤ n ∧ Below w.heap.size w w') := by
  obtain ⟨V, X, hV, hX, HXB, HH⟩ := box_jo w j (.slice a n c)
  obtain ⟨T, X2, hT, hX2⟩ : ∃ T X2, X.heap.size = T ∧ X.alloc (.cells #[.int .i64 now] 3) = X2 := ⟨_, _, rfl, rfl⟩
  have HX2 : Hid (Below X.heap.size X X2 ∧ X2.heap[T]? = some (.cells #[.int .i64 now] 3 (0, 0)) ∧ X2.heap.size = T + 1) := Lib.hid (by
    rw [← hX2, ← hT]
    exact ⟨(Below.refl _ X).alloc (Nat.le_refl _) _, heap_alloc_new X _, by simp⟩)
  obtain ⟨G, Z, hG, hZ, HZB, HG⟩ := box_zero X2
  have HN : Hid (w.heap.size = V ∧ T = V + 1 ∧ G = T + 1 ∧ Below w.heap.size w Z ∧ Z.heap.size = G + 1) := Lib.hid ⟨hV, by have := HXB.out.2; omega, by have := HX2.out.2.2; omega, below_then HXB.out.1 (below_then HX2.out.1 HZB.out.1), HZB.out.2⟩
  have HHZ : Hid (Has Z V j (.slice a n c)) := Lib.hid (has_under (has_under HH.out HX2.out.1) HZB.out.1)
  have tz : Z.cell? ⟨T, 0, none⟩ = some (.int .i64 now) := cell_block (j := 0) ((HZB.out.1.block T (by have := HX2.out.2.2; omega)).trans HX2.out.2.1) rfl
  have k12 : Z.cell? ⟨V, 12, none⟩ = some (.int .i64 j.st) := cell_block (j := 12) HHZ.out rfl
  have k13 : Z.cell? ⟨V, 13, none⟩ = some (.int .i64 j.sr) := cell_block (j := 13) HHZ.out rfl
  have k14 : Z.cell? ⟨V, 14, none⟩ = some (.int .i64 j.en) := cell_block (j := 14) HHZ.out rfl
  obtain ⟨m, hm⟩ : ∃ m, mayPause now j = m := ⟨_, rfl⟩
  rw [hm]
  have HC := Lib.hid (at_pause j a n c m T now Z (h.under HN.out.2.2.2.1) hn tz)
  obtain ⟨R, hR⟩ : ∃ R, caV now j m (pauseJ now j) = R := ⟨_, rfl⟩
  obtain ⟨E, hE⟩ : ∃ E, caE now j m = E := ⟨_, rfl⟩
  rw [hR, hE] at HC
  rw [hR, hE]
  by_cases c0 : j.st = 2
  · have g0 : (j.st == 2) = true := by simpa using c0
    by_cases c1 : j.sr ≤ now
    · have g1 : decide (j.sr ≤ now) = true := decide_eq_true c1
      by_cases c2 : now < j.en
      · have g2 : decide (now < j.en) = true := decide_eq_true c2
        obtain rfl : m = true := hm.symm.trans (decide_eq_true (by omega))
        clear h hn hR hE hm c0 c1 c2
        go_enter Try.func22, Try.ntmps22
        go_wp2_with (refine load_jo rfl _ rfl V rfl j (.slice a n c) HHZ.out ?_)
        clear hV hX hG hZ k12 k13 k14 hT hX2 tz
        refine HC.out.mono ?_
        rintro e w2 ⟨a2, n2, c2, rfl, H2⟩
        have HG2 : Hid (Has w2 G zJ (.slice none 0 0) ∧ Below w.heap.size w w2) := Lib.hid ⟨has_under HG.out H2.out.2.2, below_then HN.out.2.2.2.1 H2.out.2.2⟩
        go_wp2_with (refine store_jo rfl _ _ rfl G rfl R a2 n2 c2 rfl zJ (.slice none 0 0) HG2.out.1 ?_; intro w5 h5 g5)
        exact ret_jo2 (x := R) (v := .slice a2 n2 c2) rfl rfl rfl rfl h5 ⟨a2, n2, c2, rfl, Lib.hid ⟨World.ownsRow.mono (own_past H2.out.1 g5 (by have := HN.out; omega)) HN.out.2.2.2.1.size, H2.out.2.1, below_of_only HG2.out.2 (by have := HN.out; omega) g5⟩⟩
      · have g2 : decide (now < j.en) = false := decide_eq_false c2
        obtain rfl : m = false := hm.symm.trans (decide_eq_false (by omega))
        clear h hn hR hE hm c0 c1 c2
        go_enter Try.func22, Try.ntmps22
        go_wp2_with (refine load_jo rfl _ rfl V rfl j (.slice a n c) HHZ.out ?_)
        clear hV hX hG hZ k12 k13 k14 hT hX2 tz
        refine HC.out.mono ?_
        rintro e w2 ⟨a2, n2, c2, rfl, H2⟩
        have HG2 : Hid (Has w2 G zJ (.slice none 0 0) ∧ Below w.heap.size w w2) := Lib.hid ⟨has_under HG.out H2.out.2.2, below_then HN.out.2.2.2.1 H2.out.2.2⟩
        go_wp2_with (refine store_jo rfl _ _ rfl G rfl R a2 n2 c2 rfl zJ (.slice none 0 0) HG2.out.1 ?_; intro w5 h5 g5)
        exact ret_jo2 (x := R) (v := .slice a2 n2 c2) rfl rfl rfl rfl h5 ⟨a2, n2, c2, rfl, Lib.hid ⟨World.ownsRow.mono (own_past H2.out.1 g5 (by have := HN.out; omega)) HN.out.2.2.2.1.size, H2.out.2.1, below_of_only HG2.out.2 (by have := HN.out; omega) g5⟩⟩
    · have g1 : decide (j.sr ≤ now) = false := decide_eq_false c1
      obtain rfl : m = false := hm.symm.trans (decide_eq_false (by omega))
      clear h hn hR hE hm c0 c1
      go_enter Try.func22, Try.ntmps22
      go_wp2_with (refine load_jo rfl _ rfl V rfl j (.slice a n c) HHZ.out ?_)
      clear hV hX hG hZ k12 k13 k14 hT hX2 tz
      refine HC.out.mono ?_
      rintro e w2 ⟨a2, n2, c2, rfl, H2⟩
      have HG2 : Hid (Has w2 G zJ (.slice none 0 0) ∧ Below w.heap.size w w2) := Lib.hid ⟨has_under HG.out H2.out.2.2, below_then HN.out.2.2.2.1 H2.out.2.2⟩
      go_wp2_with (refine store_jo rfl _ _ rfl G rfl R a2 n2 c2 rfl zJ (.slice none 0 0) HG2.out.1 ?_; intro w5 h5 g5)
      exact ret_jo2 (x := R) (v := .slice a2 n2 c2) rfl rfl rfl rfl h5 ⟨a2, n2, c2, rfl, Lib.hid ⟨World.ownsRow.mono (own_past H2.out.1 g5 (by have := HN.out; omega)) HN.out.2.2.2.1.size, H2.out.2.1, below_of_only HG2.out.2 (by have := HN.out; omega) g5⟩⟩
  · have g0 : (j.st == 2) = false := by simpa using c0
    obtain rfl : m = false := hm.symm.trans (decide_eq_false (by omega))
    clear h hn hR hE hm c0
    go_enter Try.func22, Try.ntmps22
    go_wp2_with (refine load_jo rfl _ rfl V rfl j (.slice a n c) HHZ.out ?_)
    clear hV hX hG hZ k12 k13 k14 hT hX2 tz
    refine HC.out.mono ?_
    rintro e w2 ⟨a2, n2, c2, rfl, H2⟩
    have HG2 : Hid (Has w2 G zJ (.slice none 0 0) ∧ Below w.heap.size w w2) := Lib.hid ⟨has_under HG.out H2.out.2.2, below_then HN.out.2.2.2.1 H2.out.2.2⟩
    go_wp2_with (refine store_jo rfl _ _ rfl G rfl R a2 n2 c2 rfl zJ (.slice none 0 0) HG2.out.1 ?_; intro w5 h5 g5)
    exact ret_jo2 (x := R) (v := .slice a2 n2 c2) rfl rfl rfl rfl h5 ⟨a2, n2, c2, rfl, Lib.hid ⟨World.ownsRow.mono (own_past H2.out.1 g5 (by have := HN.out; omega)) HN.out.2.2.2.1.size, H2.out.2.1, below_of_only HG2.out.2 (by have := HN.out; omega) g5⟩⟩
set_option maxRecDepth 100000 in
set_option maxHeartbeats 8000000 in
theorem resume_im (j : JS) (a : Option Addr) (n c : Nat) (w : World) (h : JIn w a n j.s) (hn : n ≤ 1024) :
    Calls Try.prog 23 #[jV j (.slice a n c)] w fun e w' => ∃ a' n' c', e = .returned (.tuple #[jV (chV j (mayResume j) (resumeJ j)) (.slice a' n' c'), .int .i64 (chE j (mayResume j))]) ∧ Hid (OwnS w' w.heap.size (.slice a' n' c') (chV j (mayResume j) (resumeJ j)).s ∧ n' ≤ n ∧ Below w.heap.size w w') := by
  obtain ⟨V, X, hV, hX, HXB, HH⟩ := box_jo w j (.slice a n c)
  obtain ⟨G, Z, hG, hZ, HZB, HG⟩ := box_zero X
  have HN : Hid (w.heap.size = V ∧ G = V + 1 ∧ Below w.heap.size w Z ∧ Z.heap.size = G + 1) := Lib.hid ⟨hV, by have := HXB.out.2; omega, below_then HXB.out.1 HZB.out.1, HZB.out.2⟩
  have HHZ : Hid (Has Z V j (.slice a n c)) := Lib.hid (has_under HH.out HZB.out.1)
  have k12 : Z.cell? ⟨V, 12, none⟩ = some (.int .i64 j.st) := cell_block (j := 12) HHZ.out rfl
  have k13 : Z.cell? ⟨V, 13, none⟩ = some (.int .i64 j.sr) := cell_block (j := 13) HHZ.out rfl
  have k14 : Z.cell? ⟨V, 14, none⟩ = some (.int .i64 j.en) := cell_block (j := 14) HHZ.out rfl
  obtain ⟨m, hm⟩ : ∃ m, mayResume j = m := ⟨_, rfl⟩
  rw [hm]
  have HC := Lib.hid (changed_resume j a n c m Z (h.under HN.out.2.2.1) hn)
  obtain ⟨R, hR⟩ : ∃ R, chV j m (resumeJ j) = R := ⟨_, rfl⟩
  obtain ⟨E, hE⟩ : ∃ E, chE j m = E := ⟨_, rfl⟩
  rw [hR, hE] at HC
  rw [hR, hE]
  by_cases c0 : j.st = 3
  · have g0 : (j.st == 3) = true := by simpa using c0
    obtain rfl : m = true := hm.symm.trans (decide_eq_true (by omega))
    clear h hn hR hE hm c0
    go_enter Try.func23, Try.ntmps23
    go_wp2_with (refine load_jo rfl _ rfl V rfl j (.slice a n c) HHZ.out ?_)
    clear hV hX hG hZ k12 k13 k14
    refine HC.out.mono ?_
    rintro e w2 ⟨a2, n2, c2, rfl, H2⟩
    have HG2 : Hid (Has w2 G zJ (.slice none 0 0) ∧ Below w.heap.size w w2) := Lib.hid ⟨has_under HG.out H2.out.2.2, below_then HN.out.2.2.1 H2.out.2.2⟩
    go_wp2_with (refine store_jo rfl _ _ rfl G rfl R a2 n2 c2 rfl zJ (.slice none 0 0) HG2.out.1 ?_; intro w5 h5 g5)
    exact ret_jo2 (x := R) (v := .slice a2 n2 c2) rfl rfl rfl rfl h5 ⟨a2, n2, c2, rfl, Lib.hid ⟨World.ownsRow.mono (own_past H2.out.1 g5 (by have := HN.out; omega)) HN.out.2.2.1.size, H2.out.2.1, below_of_only HG2.out.2 (by have := HN.out; omega) g5⟩⟩
  · have g0 : (j.st == 3) = false := by simpa using c0
    obtain rfl : m = false := hm.symm.trans (decide_eq_false (by omega))
    clear h hn hR hE hm c0
    go_enter Try.func23, Try.ntmps23
    go_wp2_with (refine load_jo rfl _ rfl V rfl j (.slice a n c) HHZ.out ?_)
    clear hV hX hG hZ k12 k13 k14
    refine HC.out.mono ?_
    rintro e w2 ⟨a2, n2, c2, rfl, H2⟩
    have HG2 : Hid (Has w2 G zJ (.slice none 0 0) ∧ Below w.heap.size w w2) := Lib.hid ⟨has_under HG.out H2.out.2.2, below_then HN.out.2.2.1 H2.out.2.2⟩
    go_wp2_with (refine store_jo rfl _ _ rfl G rfl R a2 n2 c2 rfl zJ (.slice none 0 0) HG2.out.1 ?_; intro w5 h5 g5)
    exact ret_jo2 (x := R) (v := .slice a2 n2 c2) rfl rfl rfl rfl h5 ⟨a2, n2, c2, rfl, Lib.hid ⟨World.ownsRow.mono (own_past H2.out.1 g5 (by have := HN.out; omega)) HN.out.2.2.1.size, H2.out.2.1, below_of_only HG2.out.2 (by have := HN.out; omega) g5⟩⟩
set_option maxRecDepth 100000 in
set_option maxHeartbeats 8000000 in
theorem finish_im (j : JS) (a : Option Addr) (n c : Nat) (now : Int) (w : World) (h : JIn w a n j.s) (hn : n ≤ 1024) :
    Calls Try.prog 24 #[jV j (.slice a n c), .int .i64 now] w fun e w' => ∃ a' n' c', e = .returned (.tuple #[jV (caV now j (mayFinish now j) (finishJ j)) (.slice a' n' c'), .int .i64 (caE now j (mayFinish now j))]) ∧ Hid (OwnS w' w.heap.size (.slice a' n' c') (caV now j (mayFinish now j) (finishJ j)).s ∧ n' ≤ n ∧ Below w.heap.size w w') := by
  obtain ⟨V, X, hV, hX, HXB, HH⟩ := box_jo w j (.slice a n c)
  obtain ⟨G, Z, hG, hZ, HZB, HG⟩ := box_zero X
  have HN : Hid (w.heap.size = V ∧ G = V + 1 ∧ Below w.heap.size w Z ∧ Z.heap.size = G + 1) := Lib.hid ⟨hV, by have := HXB.out.2; omega, below_then HXB.out.1 HZB.out.1, HZB.out.2⟩
  have HHZ : Hid (Has Z V j (.slice a n c)) := Lib.hid (has_under HH.out HZB.out.1)
  have k12 : Z.cell? ⟨V, 12, none⟩ = some (.int .i64 j.st) := cell_block (j := 12) HHZ.out rfl
  have k13 : Z.cell? ⟨V, 13, none⟩ = some (.int .i64 j.sr) := cell_block (j := 13) HHZ.out rfl
  have k14 : Z.cell? ⟨V, 14, none⟩ = some (.int .i64 j.en) := cell_block (j := 14) HHZ.out rfl
  obtain ⟨m, hm⟩ : ∃ m, mayFinish now j = m := ⟨_, rfl⟩
  rw [hm]
  have HC := Lib.hid (at_finish j a n c m now Z (h.under HN.out.2.2.1) hn)
  obtain ⟨R, hR⟩ : ∃ R, caV now j m (finishJ j) = R := ⟨_, rfl⟩
  obtain ⟨E, hE⟩ : ∃ E, caE now j m = E := ⟨_, rfl⟩
  rw [hR, hE] at HC
  rw [hR, hE]
  by_cases c0 : j.st = 2
  · have g0 : (j.st == 2) = true := by simpa using c0
    by_cases c1 : j.en ≤ now
    · have g1 : decide (j.en ≤ now) = true := decide_eq_true c1
      obtain rfl : m = true := hm.symm.trans (decide_eq_true (by omega))
      clear h hn hR hE hm c0 c1
      go_enter Try.func24, Try.ntmps24
      go_wp2_with (refine load_jo rfl _ rfl V rfl j (.slice a n c) HHZ.out ?_)
      clear hV hX hG hZ k12 k13 k14
      refine HC.out.mono ?_
      rintro e w2 ⟨a2, n2, c2, rfl, H2⟩
      have HG2 : Hid (Has w2 G zJ (.slice none 0 0) ∧ Below w.heap.size w w2) := Lib.hid ⟨has_under HG.out H2.out.2.2, below_then HN.out.2.2.1 H2.out.2.2⟩
      go_wp2_with (refine store_jo rfl _ _ rfl G rfl R a2 n2 c2 rfl zJ (.slice none 0 0) HG2.out.1 ?_; intro w5 h5 g5)
      exact ret_jo2 (x := R) (v := .slice a2 n2 c2) rfl rfl rfl rfl h5 ⟨a2, n2, c2, rfl, Lib.hid ⟨World.ownsRow.mono (own_past H2.out.1 g5 (by have := HN.out; omega)) HN.out.2.2.1.size, H2.out.2.1, below_of_only HG2.out.2 (by have := HN.out; omega) g5⟩⟩
    · have g1 : decide (j.en ≤ now) = false := decide_eq_false c1
      obtain rfl : m = false := hm.symm.trans (decide_eq_false (by omega))
      clear h hn hR hE hm c0 c1
      go_enter Try.func24, Try.ntmps24
      go_wp2_with (refine load_jo rfl _ rfl V rfl j (.slice a n c) HHZ.out ?_)
      clear hV hX hG hZ k12 k13 k14
      refine HC.out.mono ?_
      rintro e w2 ⟨a2, n2, c2, rfl, H2⟩
      have HG2 : Hid (Has w2 G zJ (.slice none 0 0) ∧ Below w.heap.size w w2) := Lib.hid ⟨has_under HG.out H2.out.2.2, below_then HN.out.2.2.1 H2.out.2.2⟩
      go_wp2_with (refine store_jo rfl _ _ rfl G rfl R a2 n2 c2 rfl zJ (.slice none 0 0) HG2.out.1 ?_; intro w5 h5 g5)
      exact ret_jo2 (x := R) (v := .slice a2 n2 c2) rfl rfl rfl rfl h5 ⟨a2, n2, c2, rfl, Lib.hid ⟨World.ownsRow.mono (own_past H2.out.1 g5 (by have := HN.out; omega)) HN.out.2.2.1.size, H2.out.2.1, below_of_only HG2.out.2 (by have := HN.out; omega) g5⟩⟩
  · have g0 : (j.st == 2) = false := by simpa using c0
    obtain rfl : m = false := hm.symm.trans (decide_eq_false (by omega))
    clear h hn hR hE hm c0
    go_enter Try.func24, Try.ntmps24
    go_wp2_with (refine load_jo rfl _ rfl V rfl j (.slice a n c) HHZ.out ?_)
    clear hV hX hG hZ k12 k13 k14
    refine HC.out.mono ?_
    rintro e w2 ⟨a2, n2, c2, rfl, H2⟩
    have HG2 : Hid (Has w2 G zJ (.slice none 0 0) ∧ Below w.heap.size w w2) := Lib.hid ⟨has_under HG.out H2.out.2.2, below_then HN.out.2.2.1 H2.out.2.2⟩
    go_wp2_with (refine store_jo rfl _ _ rfl G rfl R a2 n2 c2 rfl zJ (.slice none 0 0) HG2.out.1 ?_; intro w5 h5 g5)
    exact ret_jo2 (x := R) (v := .slice a2 n2 c2) rfl rfl rfl rfl h5 ⟨a2, n2, c2, rfl, Lib.hid ⟨World.ownsRow.mono (own_past H2.out.1 g5 (by have := HN.out; omega)) HN.out.2.2.1.size, H2.out.2.1, below_of_only HG2.out.2 (by have := HN.out; omega) g5⟩⟩
set_option maxRecDepth 100000 in
set_option maxHeartbeats 8000000 in
theorem deliver_im (j : JS) (a : Option Addr) (n c : Nat) (w : World) (h : JIn w a n j.s) (hn : n ≤ 1024) :
    Calls Try.prog 25 #[jV j (.slice a n c)] w fun e w' => ∃ a' n' c', e = .returned (.tuple #[jV (chV j (mayDeliver j) (deliverJ j)) (.slice a' n' c'), .int .i64 (chE j (mayDeliver j))]) ∧ Hid (OwnS w' w.heap.size (.slice a' n' c') (chV j (mayDeliver j) (deliverJ j)).s ∧ n' ≤ n ∧ Below w.heap.size w w') := by
  obtain ⟨V, X, hV, hX, HXB, HH⟩ := box_jo w j (.slice a n c)
  obtain ⟨G, Z, hG, hZ, HZB, HG⟩ := box_zero X
  have HN : Hid (w.heap.size = V ∧ G = V + 1 ∧ Below w.heap.size w Z ∧ Z.heap.size = G + 1) := Lib.hid ⟨hV, by have := HXB.out.2; omega, below_then HXB.out.1 HZB.out.1, HZB.out.2⟩
  have HHZ : Hid (Has Z V j (.slice a n c)) := Lib.hid (has_under HH.out HZB.out.1)
  have k12 : Z.cell? ⟨V, 12, none⟩ = some (.int .i64 j.st) := cell_block (j := 12) HHZ.out rfl
  have k13 : Z.cell? ⟨V, 13, none⟩ = some (.int .i64 j.sr) := cell_block (j := 13) HHZ.out rfl
  have k14 : Z.cell? ⟨V, 14, none⟩ = some (.int .i64 j.en) := cell_block (j := 14) HHZ.out rfl
  obtain ⟨m, hm⟩ : ∃ m, mayDeliver j = m := ⟨_, rfl⟩
  rw [hm]
  have HC := Lib.hid (changed_deliver j a n c m Z (h.under HN.out.2.2.1) hn)
  obtain ⟨R, hR⟩ : ∃ R, chV j m (deliverJ j) = R := ⟨_, rfl⟩
  obtain ⟨E, hE⟩ : ∃ E, chE j m = E := ⟨_, rfl⟩
  rw [hR, hE] at HC
  rw [hR, hE]
  by_cases c0 : j.st = 4
  · have g0 : (j.st == 4) = true := by simpa using c0
    obtain rfl : m = true := hm.symm.trans (decide_eq_true (by omega))
    clear h hn hR hE hm c0
    go_enter Try.func25, Try.ntmps25
    go_wp2_with (refine load_jo rfl _ rfl V rfl j (.slice a n c) HHZ.out ?_)
    clear hV hX hG hZ k12 k13 k14
    refine HC.out.mono ?_
    rintro e w2 ⟨a2, n2, c2, rfl, H2⟩
    have HG2 : Hid (Has w2 G zJ (.slice none 0 0) ∧ Below w.heap.size w w2) := Lib.hid ⟨has_under HG.out H2.out.2.2, below_then HN.out.2.2.1 H2.out.2.2⟩
    go_wp2_with (refine store_jo rfl _ _ rfl G rfl R a2 n2 c2 rfl zJ (.slice none 0 0) HG2.out.1 ?_; intro w5 h5 g5)
    exact ret_jo2 (x := R) (v := .slice a2 n2 c2) rfl rfl rfl rfl h5 ⟨a2, n2, c2, rfl, Lib.hid ⟨World.ownsRow.mono (own_past H2.out.1 g5 (by have := HN.out; omega)) HN.out.2.2.1.size, H2.out.2.1, below_of_only HG2.out.2 (by have := HN.out; omega) g5⟩⟩
  · have g0 : (j.st == 4) = false := by simpa using c0
    obtain rfl : m = false := hm.symm.trans (decide_eq_false (by omega))
    clear h hn hR hE hm c0
    go_enter Try.func25, Try.ntmps25
    go_wp2_with (refine load_jo rfl _ rfl V rfl j (.slice a n c) HHZ.out ?_)
    clear hV hX hG hZ k12 k13 k14
    refine HC.out.mono ?_
    rintro e w2 ⟨a2, n2, c2, rfl, H2⟩
    have HG2 : Hid (Has w2 G zJ (.slice none 0 0) ∧ Below w.heap.size w w2) := Lib.hid ⟨has_under HG.out H2.out.2.2, below_then HN.out.2.2.1 H2.out.2.2⟩
    go_wp2_with (refine store_jo rfl _ _ rfl G rfl R a2 n2 c2 rfl zJ (.slice none 0 0) HG2.out.1 ?_; intro w5 h5 g5)
    exact ret_jo2 (x := R) (v := .slice a2 n2 c2) rfl rfl rfl rfl h5 ⟨a2, n2, c2, rfl, Lib.hid ⟨World.ownsRow.mono (own_past H2.out.1 g5 (by have := HN.out; omega)) HN.out.2.2.1.size, H2.out.2.1, below_of_only HG2.out.2 (by have := HN.out; omega) g5⟩⟩
end Go.Proofs.Ytghlgmlelipjfaa.Job.Im
