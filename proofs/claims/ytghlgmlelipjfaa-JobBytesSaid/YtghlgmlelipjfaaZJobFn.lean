/- The program's Start, Pause, Resume, Finish, Deliver. The program's change of a job by Cancel's closure. -/
import Derived.Test.YtghlgmlelipjfaaZJobImE
import Derived.Test.YtghlgmlelipjfaaZJobChResume
import Derived.Deep.RegionWith
import Derived.BigRegion
import Derived.Test.YtghlgmlelipjfaaZGoodsImCk
namespace Go.Proofs.Ytghlgmlelipjfaa.Job.Im
open Go.RowKit Go.Lib
open Goods (St Sts OwnS)

set_option maxRecDepth 100000 in
set_option maxHeartbeats 8000000 in
theorem start_im (j : JS) (a : Option Addr) (n c : Nat) (now : Int) (w : World) (h : JIn w a n j.s) (hn : n ≤ 1024) :
    Calls Try.prog 21 #[jV j (.slice a n c), .int .i64 now] w fun e w' => ∃ a' n' c', e = .returned (.tuple #[jV (caV now j (mayStart j) (startJ now j)) (.slice a' n' c'), .int .i64 (caE now j (mayStart j))]) ∧ Hid (OwnS w' w.heap.size (.slice a' n' c') (caV now j (mayStart j) (startJ now j)).s ∧ n' ≤ n ∧ Below w.heap.size w w') := by
  obtain ⟨V, X, hV, hX, HXB, HH⟩ := box_jo w j (.slice a n c)
  obtain ⟨T, X2, hT, hX2⟩ : ∃ T X2, X.heap.size = T ∧ X.alloc (.cells #[.int .i64 now] 3) = X2 := ⟨_, _, rfl, rfl⟩
  have HX2 : Hid (Below X.heap.size X X2 ∧ X2.heap[T]? = some (.cells #[.int .i64 now] 3 (0, 0)) ∧ X2.heap.size = T + 1) := Lib.hid (by
    rw [← hX2, ← hT]
    exact ⟨(Below.refl _ X).alloc (Nat.le_refl _) _, heap_alloc_new X _, by simp⟩)
  obtain ⟨G, Z, hG, hZ, HZB, HG⟩ := box_zero X2
  have HN : Hid (w.heap.size = V ∧ T = V + 1 ∧ G = T + 1 ∧ Below w.heap.size w Z ∧ Z.heap.size = G + 1) := Lib.hid ⟨hV, by have := HXB.out.2; omega, by have := HX2.out.2.2; omega, below_then HXB.out.1 (below_then HX2.out.1 HZB.out.1), HZB.out.2⟩
  have HHZ : Hid (Has Z V j (.slice a n c)) := Lib.hid (has_under (has_under HH.out HX2.out.1) HZB.out.1)
  have tz : Z.cell? ⟨T, 0, none⟩ = some (.int .i64 now) := cell_block (j := 0) ((HZB.out.1.block T (by have := HX2.out.2.2; omega)).trans HX2.out.2.1) rfl
  have k12 : Z.cell? ⟨V, 12, none⟩ = some (.int .i64 j.st) := cell_block (j := 12) HHZ.out rfl
  have k13 : Z.cell? ⟨V, 13, none⟩ = some (.int .i64 j.sr) := cell_block (j := 13) HHZ.out rfl
  have k14 : Z.cell? ⟨V, 14, none⟩ = some (.int .i64 j.en) := cell_block (j := 14) HHZ.out rfl
  obtain ⟨m, hm⟩ : ∃ m, mayStart j = m := ⟨_, rfl⟩
  rw [hm]
  have HC := Lib.hid (at_start j a n c m T now Z (h.under HN.out.2.2.2.1) hn tz)
  obtain ⟨R, hR⟩ : ∃ R, caV now j m (startJ now j) = R := ⟨_, rfl⟩
  obtain ⟨E, hE⟩ : ∃ E, caE now j m = E := ⟨_, rfl⟩
  rw [hR, hE] at HC
  rw [hR, hE]
  by_cases c0 : j.st = 1
  · have g0 : (j.st == 1) = true := by simpa using c0
    obtain rfl : m = true := hm.symm.trans (decide_eq_true (by omega))
    clear h hn hR hE hm c0
    go_enter Try.func21, Try.ntmps21
    go_wp2_with (refine load_jo rfl _ rfl V rfl j (.slice a n c) HHZ.out ?_)
    clear hV hX hG hZ k12 k13 k14 hT hX2 tz
    refine HC.out.mono ?_
    rintro e w2 ⟨a2, n2, c2, rfl, H2⟩
    have HG2 : Hid (Has w2 G zJ (.slice none 0 0) ∧ Below w.heap.size w w2) := Lib.hid ⟨has_under HG.out H2.out.2.2, below_then HN.out.2.2.2.1 H2.out.2.2⟩
    go_wp2_with (refine store_jo rfl _ _ rfl G rfl R a2 n2 c2 rfl zJ (.slice none 0 0) HG2.out.1 ?_; intro w5 h5 g5)
    exact ret_jo2 (x := R) (v := .slice a2 n2 c2) rfl rfl rfl rfl h5 ⟨a2, n2, c2, rfl, Lib.hid ⟨World.ownsRow.mono (own_past H2.out.1 g5 (by have := HN.out; omega)) HN.out.2.2.2.1.size, H2.out.2.1, below_of_only HG2.out.2 (by have := HN.out; omega) g5⟩⟩
  · have g0 : (j.st == 1) = false := by simpa using c0
    obtain rfl : m = false := hm.symm.trans (decide_eq_false (by omega))
    clear h hn hR hE hm c0
    go_enter Try.func21, Try.ntmps21
    go_wp2_with (refine load_jo rfl _ rfl V rfl j (.slice a n c) HHZ.out ?_)
    clear hV hX hG hZ k12 k13 k14 hT hX2 tz
    refine HC.out.mono ?_
    rintro e w2 ⟨a2, n2, c2, rfl, H2⟩
    have HG2 : Hid (Has w2 G zJ (.slice none 0 0) ∧ Below w.heap.size w w2) := Lib.hid ⟨has_under HG.out H2.out.2.2, below_then HN.out.2.2.2.1 H2.out.2.2⟩
    go_wp2_with (refine store_jo rfl _ _ rfl G rfl R a2 n2 c2 rfl zJ (.slice none 0 0) HG2.out.1 ?_; intro w5 h5 g5)
    exact ret_jo2 (x := R) (v := .slice a2 n2 c2) rfl rfl rfl rfl h5 ⟨a2, n2, c2, rfl, Lib.hid ⟨World.ownsRow.mono (own_past H2.out.1 g5 (by have := HN.out; omega)) HN.out.2.2.2.1.size, H2.out.2.1, below_of_only HG2.out.2 (by have := HN.out; omega) g5⟩⟩
set_option maxRecDepth 100000 in
set_option maxHeartbeats 8000000 in
theorem pause_im (j : JS) (a : Option Addr) (n c : Nat) (now : Int) (w : World) (h : JIn w a n j.s) (hn : n ≤ 1024) :
    Calls Try.prog 22 #[jV j (.slice a n c), .int .i64 now] w fun e w' => ∃ a' n' c', e = .returned (.tuple #[jV (caV now j (mayPause now j) (pauseJ now j)) (.slice a' n' c'), .int .i64 (caE now j (mayPause now j))]) ∧ Hid (OwnS w' w.heap.size (.slice a' n' c') (caV now j (mayPause now j) (pauseJ now j)).s ∧ n' ≤ n ∧ Below w.heap.size w w') := by
  obtain ⟨V, X, hV, hX, HXB, HH⟩ := box_jo w j (.slice a n c)
  obtain ⟨T, X2, hT, hX2⟩ : ∃ T X2, X.heap.size = T ∧ X.alloc (.cells #[.int .i64 now] 3) = X2 := ⟨_, _, rfl, rfl⟩
  have HX2 : Hid (Below X.heap.size X X2 ∧ X2.heap[T]? = some (.cells #[.int .i64 now] 3 (0, 0)) ∧ X2.heap.size = T + 1) := Lib.hid (by
    rw [← hX2, ← hT]
    exact ⟨(Below.refl _ X).alloc (Nat.le_refl _) _, heap_alloc_new X _, by simp⟩)
  obtain ⟨G, Z, hG, hZ, HZB, HG⟩ := box_zero X2
  have HN : Hid (w.heap.size = V ∧ T = V + 1 ∧ G = T + 1 ∧ Below w.heap.size w Z ∧ Z.heap.size = G + 1) := Lib.hid ⟨hV, by have := HXB.out.2; omega, by have := HX2.out.2.2; omega, below_then HXB.out.1 (below_then HX2.out.1 HZB.out.1), HZB.out.2⟩
  have HHZ : Hid (Has Z V j (.slice a n c)) := Lib.hid (has_under (has_under HH.out HX2.out.1) HZB.out.1)
  have tz : Z.cell? ⟨T, 0, none⟩ = some (.int .i64 now) := cell_block (j := 0) ((HZB.out.1.block T (by have := HX2.out.2.2; omega)).trans HX2.out.2.1) rfl
  have k12 : Z.cell? ⟨V, 12, none⟩ = some (.int .i64 j.st) := cell_block (j := 12) HHZ.out rfl
  have k13 : Z.cell? ⟨V, 13, none⟩ = some (.int .i64 j.sr) := cell_block (j := 13) HHZ.out rfl
  have k14 : Z.cell? ⟨V, 14, none⟩ = some (.int .i64 j.en) := cell_block (j := 14) HHZ.out rfl
  obtain ⟨m, hm⟩ : ∃ m, mayPause now j = m := ⟨_, rfl⟩
  rw [hm]
  have HC := Lib.hid (at_pause j a n c m T now Z (h.under HN.out.2.2.2.1) hn tz)
  obtain ⟨R, hR⟩ : ∃ R, caV now j m (pauseJ now j) = R := ⟨_, rfl⟩
  obtain ⟨E, hE⟩ : ∃ E, caE now j m = E := ⟨_, rfl⟩
  rw [hR, hE] at HC
  rw [hR, hE]
  by_cases c0 : j.st = 2
  · have g0 : (j.st == 2) = true := by simpa using c0
    by_cases c1 : j.sr ≤ now
    · have g1 : decide (j.sr ≤ now) = true := decide_eq_true c1
      by_cases c2 : now < j.en
      · have g2 : decide (now < j.en) = true := decide_eq_true c2
        obtain rfl : m = true := hm.symm.trans (decide_eq_true (by omega))
        clear h hn hR hE hm c0 c1 c2
        go_enter Try.func22, Try.ntmps22
        go_wp2_with (refine load_jo rfl _ rfl V rfl j (.slice a n c) HHZ.out ?_)
        clear hV hX hG hZ k12 k13 k14 hT hX2 tz
        refine HC.out.mono ?_
        rintro e w2 ⟨a2, n2, c2, rfl, H2⟩
        have HG2 : Hid (Has w2 G zJ (.slice none 0 0) ∧ Below w.heap.size w w2) := Lib.hid ⟨has_under HG.out H2.out.2.2, below_then HN.out.2.2.2.1 H2.out.2.2⟩
        go_wp2_with (refine store_jo rfl _ _ rfl G rfl R a2 n2 c2 rfl zJ (.slice none 0 0) HG2.out.1 ?_; intro w5 h5 g5)
        exact ret_jo2 (x := R) (v := .slice a2 n2 c2) rfl rfl rfl rfl h5 ⟨a2, n2, c2, rfl, Lib.hid ⟨World.ownsRow.mono (own_past H2.out.1 g5 (by have := HN.out; omega)) HN.out.2.2.2.1.size, H2.out.2.1, below_of_only HG2.out.2 (by have := HN.out; omega) g5⟩⟩
      · have g2 : decide (now < j.en) = false := decide_eq_false c2
        obtain rfl : m = false := hm.symm.trans (decide_eq_false (by omega))
        clear h hn hR hE hm c0 c1 c2
        go_enter Try.func22, Try.ntmps22
        go_wp2_with (refine load_jo rfl _ rfl V rfl j (.slice a n c) HHZ.out ?_)
        clear hV hX hG hZ k12 k13 k14 hT hX2 tz
        refine HC.out.mono ?_
        rintro e w2 ⟨a2, n2, c2, rfl, H2⟩
        have HG2 : Hid (Has w2 G zJ (.slice none 0 0) ∧ Below w.heap.size w w2) := Lib.hid ⟨has_under HG.out H2.out.2.2, below_then HN.out.2.2.2.1 H2.out.2.2⟩
        go_wp2_with (refine store_jo rfl _ _ rfl G rfl R a2 n2 c2 rfl zJ (.slice none 0 0) HG2.out.1 ?_; intro w5 h5 g5)
        exact ret_jo2 (x := R) (v := .slice a2 n2 c2) rfl rfl rfl rfl h5 ⟨a2, n2, c2, rfl, Lib.hid ⟨World.ownsRow.mono (own_past H2.out.1 g5 (by have := HN.out; omega)) HN.out.2.2.2.1.size, H2.out.2.1, below_of_only HG2.out.2 (by have := HN.out; omega) g5⟩⟩
    · have g1 : decide (j.sr ≤ now) = false := decide_eq_false c1
      obtain rfl : m = false := hm.symm.trans (decide_eq_false (by omega))
      clear h hn hR hE hm c0 c1
      go_enter Try.func22, Try.ntmps22
      go_wp2_with (refine load_jo rfl _ rfl V rfl j (.slice a n c) HHZ.out ?_)
      clear hV hX hG hZ k12 k13 k14 hT hX2 tz
      refine HC.out.mono ?_
      rintro e w2 ⟨a2, n2, c2, rfl, H2⟩
      have HG2 : Hid (Has w2 G zJ (.slice none 0 0) ∧ Below w.heap.size w w2) := Lib.hid ⟨has_under HG.out H2.out.2.2, below_then HN.out.2.2.2.1 H2.out.2.2⟩
      go_wp2_with (refine store_jo rfl _ _ rfl G rfl R a2 n2 c2 rfl zJ (.slice none 0 0) HG2.out.1 ?_; intro w5 h5 g5)
      exact ret_jo2 (x := R) (v := .slice a2 n2 c2) rfl rfl rfl rfl h5 ⟨a2, n2, c2, rfl, Lib.hid ⟨World.ownsRow.mono (own_past H2.out.1 g5 (by have := HN.out; omega)) HN.out.2.2.2.1.size, H2.out.2.1, below_of_only HG2.out.2 (by have := HN.out; omega) g5⟩⟩
  · have g0 : (j.st == 2) = false := by simpa using c0
    obtain rfl : m = false := hm.symm.trans (decide_eq_false (by omega))
    clear h hn hR hE hm c0
    go_enter Try.func22, Try.ntmps22
    go_wp2_with (refine load_jo rfl _ rfl V rfl j (.slice a n c) HHZ.out ?_)
    clear hV hX hG hZ k12 k13 k14 hT hX2 tz
    refine HC.out.mono ?_
    rintro e w2 ⟨a2, n2, c2, rfl, H2⟩
    have HG2 : Hid (Has w2 G zJ (.slice none 0 0) ∧ Below w.heap.size w w2) := Lib.hid ⟨has_under HG.out H2.out.2.2, below_then HN.out.2.2.2.1 H2.out.2.2⟩
    go_wp2_with (refine store_jo rfl _ _ rfl G rfl R a2 n2 c2 rfl zJ (.slice none 0 0) HG2.out.1 ?_; intro w5 h5 g5)
    exact ret_jo2 (x := R) (v := .slice a2 n2 c2) rfl rfl rfl rfl h5 ⟨a2, n2, c2, rfl, Lib.hid ⟨World.ownsRow.mono (own_past H2.out.1 g5 (by have := HN.out; omega)) HN.out.2.2.2.1.size, H2.out.2.1, below_of_only HG2.out.2 (by have := HN.out; omega) g5⟩⟩
set_option maxRecDepth 100000 in
set_option maxHeartbeats 8000000 in
theorem resume_im (j : JS) (a : Option Addr) (n c : Nat) (w : World) (h : JIn w a n j.s) (hn : n ≤ 1024) :
    Calls Try.prog 23 #[jV j (.slice a n c)] w fun e w' => ∃ a' n' c', e = .returned (.tuple #[jV (chV j (mayResume j) (resumeJ j)) (.slice a' n' c'), .int .i64 (chE j (mayResume j))]) ∧ Hid (OwnS w' w.heap.size (.slice a' n' c') (chV j (mayResume j) (resumeJ j)).s ∧ n' ≤ n ∧ Below w.heap.size w w') := by
  obtain ⟨V, X, hV, hX, HXB, HH⟩ := box_jo w j (.slice a n c)
  obtain ⟨G, Z, hG, hZ, HZB, HG⟩ := box_zero X
  have HN : Hid (w.heap.size = V ∧ G = V + 1 ∧ Below w.heap.size w Z ∧ Z.heap.size = G + 1) := Lib.hid ⟨hV, by have := HXB.out.2; omega, below_then HXB.out.1 HZB.out.1, HZB.out.2⟩
  have HHZ : Hid (Has Z V j (.slice a n c)) := Lib.hid (has_under HH.out HZB.out.1)
  have k12 : Z.cell? ⟨V, 12, none⟩ = some (.int .i64 j.st) := cell_block (j := 12) HHZ.out rfl
  have k13 : Z.cell? ⟨V, 13, none⟩ = some (.int .i64 j.sr) := cell_block (j := 13) HHZ.out rfl
  have k14 : Z.cell? ⟨V, 14, none⟩ = some (.int .i64 j.en) := cell_block (j := 14) HHZ.out rfl
  obtain ⟨m, hm⟩ : ∃ m, mayResume j = m := ⟨_, rfl⟩
  rw [hm]
  have HC := Lib.hid (changed_resume j a n c m Z (h.under HN.out.2.2.1) hn)
  obtain ⟨R, hR⟩ : ∃ R, chV j m (resumeJ j) = R := ⟨_, rfl⟩
  obtain ⟨E, hE⟩ : ∃ E, chE j m = E := ⟨_, rfl⟩
  rw [hR, hE] at HC
  rw [hR, hE]
  by_cases c0 : j.st = 3
  · have g0 : (j.st == 3) = true := by simpa using c0
    obtain rfl : m = true := hm.symm.trans (decide_eq_true (by omega))
    clear h hn hR hE hm c0
    go_enter Try.func23, Try.ntmps23
    go_wp2_with (refine load_jo rfl _ rfl V rfl j (.slice a n c) HHZ.out ?_)
    clear hV hX hG hZ k12 k13 k14
    refine HC.out.mono ?_
    rintro e w2 ⟨a2, n2, c2, rfl, H2⟩
    have HG2 : Hid (Has w2 G zJ (.slice none 0 0) ∧ Below w.heap.size w w2) := Lib.hid ⟨has_under HG.out H2.out.2.2, below_then HN.out.2.2.1 H2.out.2.2⟩
    go_wp2_with (refine store_jo rfl _ _ rfl G rfl R a2 n2 c2 rfl zJ (.slice none 0 0) HG2.out.1 ?_; intro w5 h5 g5)
    exact ret_jo2 (x := R) (v := .slice a2 n2 c2) rfl rfl rfl rfl h5 ⟨a2, n2, c2, rfl, Lib.hid ⟨World.ownsRow.mono (own_past H2.out.1 g5 (by have := HN.out; omega)) HN.out.2.2.1.size, H2.out.2.1, below_of_only HG2.out.2 (by have := HN.out; omega) g5⟩⟩
  · have g0 : (j.st == 3) = false := by simpa using c0
    obtain rfl : m = false := hm.symm.trans (decide_eq_false (by omega))
    clear h hn hR hE hm c0
    go_enter Try.func23, Try.ntmps23
    go_wp2_with (refine load_jo rfl _ rfl V rfl j (.slice a n c) HHZ.out ?_)
    clear hV hX hG hZ k12 k13 k14
    refine HC.out.mono ?_
    rintro e w2 ⟨a2, n2, c2, rfl, H2⟩
    have HG2 : Hid (Has w2 G zJ (.slice none 0 0) ∧ Below w.heap.size w w2) := Lib.hid ⟨has_under HG.out H2.out.2.2, below_then HN.out.2.2.1 H2.out.2.2⟩
    go_wp2_with (refine store_jo rfl _ _ rfl G rfl R a2 n2 c2 rfl zJ (.slice none 0 0) HG2.out.1 ?_; intro w5 h5 g5)
    exact ret_jo2 (x := R) (v := .slice a2 n2 c2) rfl rfl rfl rfl h5 ⟨a2, n2, c2, rfl, Lib.hid ⟨World.ownsRow.mono (own_past H2.out.1 g5 (by have := HN.out; omega)) HN.out.2.2.1.size, H2.out.2.1, below_of_only HG2.out.2 (by have := HN.out; omega) g5⟩⟩
set_option maxRecDepth 100000 in
set_option maxHeartbeats 8000000 in
theorem finish_im (j : JS) (a : Option Addr) (n c : Nat) (now : Int) (w : World) (h : JIn w a n j.s) (hn : n ≤ 1024) :
    Calls Try.prog 24 #[jV j (.slice a n c), .int .i64 now] w fun e w' => ∃ a' n' c', e = .returned (.tuple #[jV (caV now j (mayFinish now j) (finishJ j)) (.slice a' n' c'), .int .i64 (caE now j (mayFinish now j))]) ∧ Hid (OwnS w' w.heap.size (.slice a' n' c') (caV now j (mayFinish now j) (finishJ j)).s ∧ n' ≤ n ∧ Below w.heap.size w w') := by
  obtain ⟨V, X, hV, hX, HXB, HH⟩ := box_jo w j (.slice a n c)
  obtain ⟨G, Z, hG, hZ, HZB, HG⟩ := box_zero X
  have HN : Hid (w.heap.size = V ∧ G = V + 1 ∧ Below w.heap.size w Z ∧ Z.heap.size = G + 1) := Lib.hid ⟨hV, by have := HXB.out.2; omega, below_then HXB.out.1 HZB.out.1, HZB.out.2⟩
  have HHZ : Hid (Has Z V j (.slice a n c)) := Lib.hid (has_under HH.out HZB.out.1)
  have k12 : Z.cell? ⟨V, 12, none⟩ = some (.int .i64 j.st) := cell_block (j := 12) HHZ.out rfl
  have k13 : Z.cell? ⟨V, 13, none⟩ = some (.int .i64 j.sr) := cell_block (j := 13) HHZ.out rfl
  have k14 : Z.cell? ⟨V, 14, none⟩ = some (.int .i64 j.en) := cell_block (j := 14) HHZ.out rfl
  obtain ⟨m, hm⟩ : ∃ m, mayFinish now j = m := ⟨_, rfl⟩
  rw [hm]
  have HC := Lib.hid (at_finish j a n c m now Z (h.under HN.out.2.2.1) hn)
  obtain ⟨R, hR⟩ : ∃ R, caV now j m (finishJ j) = R := ⟨_, rfl⟩
  obtain ⟨E, hE⟩ : ∃ E, caE now j m = E := ⟨_, rfl⟩
  rw [hR, hE] at HC
  rw [hR, hE]
  by_cases c0 : j.st = 2
  · have g0 : (j.st == 2) = true := by simpa using c0
    by_cases c1 : j.en ≤ now
    · have g1 : decide (j.en ≤ now) = true := decide_eq_true c1
      obtain rfl : m = true := hm.symm.trans (decide_eq_true (by omega))
      clear h hn hR hE hm c0 c1
      go_enter Try.func24, Try.ntmps24
      go_wp2_with (refine load_jo rfl _ rfl V rfl j (.slice a n c) HHZ.out ?_)
      clear hV hX hG hZ k12 k13 k14
      refine HC.out.mono ?_
      rintro e w2 ⟨a2, n2, c2, rfl, H2⟩
      have HG2 : Hid (Has w2 G zJ (.slice none 0 0) ∧ Below w.heap.size w w2) := Lib.hid ⟨has_under HG.out H2.out.2.2, below_then HN.out.2.2.1 H2.out.2.2⟩
      go_wp2_with (refine store_jo rfl _ _ rfl G rfl R a2 n2 c2 rfl zJ (.slice none 0 0) HG2.out.1 ?_; intro w5 h5 g5)
      exact ret_jo2 (x := R) (v := .slice a2 n2 c2) rfl rfl rfl rfl h5 ⟨a2, n2, c2, rfl, Lib.hid ⟨World.ownsRow.mono (own_past H2.out.1 g5 (by have := HN.out; omega)) HN.out.2.2.1.size, H2.out.2.1, below_of_only HG2.out.2 (by have := HN.out; omega) g5⟩⟩
    · have g1 : decide (j.en ≤ now) = false := decide_eq_false c1
      obtain rfl : m = false := hm.symm.trans (decide_eq_false (by omega))
      clear h hn hR hE hm c0 c1
      go_enter Try.func24, Try.ntmps24
      go_wp2_with (refine load_jo rfl _ rfl V rfl j (.slice a n c) HHZ.out ?_)
      clear hV hX hG hZ k12 k13 k14
      refine HC.out.mono ?_
      rintro e w2 ⟨a2, n2, c2, rfl, H2⟩
      have HG2 : Hid (Has w2 G zJ (.slice none 0 0) ∧ Below w.heap.size w w2) := Lib.hid ⟨has_under HG.out H2.out.2.2, below_then HN.out.2.2.1 H2.out.2.2⟩
      go_wp2_with (refine store_jo rfl _ _ rfl G rfl R a2 n2 c2 rfl zJ (.slice none 0 0) HG2.out.1 ?_; intro w5 h5 g5)
      exact ret_jo2 (x := R) (v := .slice a2 n2 c2) rfl rfl rfl rfl h5 ⟨a2, n2, c2, rfl, Lib.hid ⟨World.ownsRow.mono (own_past H2.out.1 g5 (by have := HN.out; omega)) HN.out.2.2.1.size, H2.out.2.1, below_of_only HG2.out.2 (by have := HN.out; omega) g5⟩⟩
  · have g0 : (j.st == 2) = false := by simpa using c0
    obtain rfl : m = false := hm.symm.trans (decide_eq_false (by omega))
    clear h hn hR hE hm c0
    go_enter Try.func24, Try.ntmps24
    go_wp2_with (refine load_jo rfl _ rfl V rfl j (.slice a n c) HHZ.out ?_)
    clear hV hX hG hZ k12 k13 k14
    refine HC.out.mono ?_
    rintro e w2 ⟨a2, n2, c2, rfl, H2⟩
    have HG2 : Hid (Has w2 G zJ (.slice none 0 0) ∧ Below w.heap.size w w2) := Lib.hid ⟨has_under HG.out H2.out.2.2, below_then HN.out.2.2.1 H2.out.2.2⟩
    go_wp2_with (refine store_jo rfl _ _ rfl G rfl R a2 n2 c2 rfl zJ (.slice none 0 0) HG2.out.1 ?_; intro w5 h5 g5)
    exact ret_jo2 (x := R) (v := .slice a2 n2 c2) rfl rfl rfl rfl h5 ⟨a2, n2, c2, rfl, Lib.hid ⟨World.ownsRow.mono (own_past H2.out.1 g5 (by have := HN.out; omega)) HN.out.2.2.1.size, H2.out.2.1, below_of_only HG2.out.2 (by have := HN.out; omega) g5⟩⟩
set_option maxRecDepth 100000 in
set_option maxHeartbeats 8000000 in
theorem deliver_im (j : JS) (a : Option Addr) (n c : Nat) (w : World) (h : JIn w a n j.s) (hn : n ≤ 1024) :
    Calls Try.prog 25 #[jV j (.slice a n c)] w fun e w' => ∃ a' n' c', e = .returned (.tuple #[jV (chV j (mayDeliver j) (deliverJ j)) (.slice a' n' c'), .int .i64 (chE j (mayDeliver j))]) ∧ Hid (OwnS w' w.heap.size (.slice a' n' c') (chV j (mayDeliver j) (deliverJ j)).s ∧ n' ≤ n ∧ Below w.heap.size w w') := by
  obtain ⟨V, X, hV, hX, HXB, HH⟩ := box_jo w j (.slice a n c)
  obtain ⟨G, Z, hG, hZ, HZB, HG⟩ := box_zero X
  have HN : Hid (w.heap.size = V ∧ G = V + 1 ∧ Below w.heap.size w Z ∧ Z.heap.size = G + 1) := Lib.hid ⟨hV, by have := HXB.out.2; omega, below_then HXB.out.1 HZB.out.1, HZB.out.2⟩
  have HHZ : Hid (Has Z V j (.slice a n c)) := Lib.hid (has_under HH.out HZB.out.1)
  have k12 : Z.cell? ⟨V, 12, none⟩ = some (.int .i64 j.st) := cell_block (j := 12) HHZ.out rfl
  have k13 : Z.cell? ⟨V, 13, none⟩ = some (.int .i64 j.sr) := cell_block (j := 13) HHZ.out rfl
  have k14 : Z.cell? ⟨V, 14, none⟩ = some (.int .i64 j.en) := cell_block (j := 14) HHZ.out rfl
  obtain ⟨m, hm⟩ : ∃ m, mayDeliver j = m := ⟨_, rfl⟩
  rw [hm]
  have HC := Lib.hid (changed_deliver j a n c m Z (h.under HN.out.2.2.1) hn)
  obtain ⟨R, hR⟩ : ∃ R, chV j m (deliverJ j) = R := ⟨_, rfl⟩
  obtain ⟨E, hE⟩ : ∃ E, chE j m = E := ⟨_, rfl⟩
  rw [hR, hE] at HC
  rw [hR, hE]
  by_cases c0 : j.st = 4
  · have g0 : (j.st == 4) = true := by simpa using c0
    obtain rfl : m = true := hm.symm.trans (decide_eq_true (by omega))
    clear h hn hR hE hm c0
    go_enter Try.func25, Try.ntmps25
    go_wp2_with (refine load_jo rfl _ rfl V rfl j (.slice a n c) HHZ.out ?_)
    clear hV hX hG hZ k12 k13 k14
    refine HC.out.mono ?_
    rintro e w2 ⟨a2, n2, c2, rfl, H2⟩
    have HG2 : Hid (Has w2 G zJ (.slice none 0 0) ∧ Below w.heap.size w w2) := Lib.hid ⟨has_under HG.out H2.out.2.2, below_then HN.out.2.2.1 H2.out.2.2⟩
    go_wp2_with (refine store_jo rfl _ _ rfl G rfl R a2 n2 c2 rfl zJ (.slice none 0 0) HG2.out.1 ?_; intro w5 h5 g5)
    exact ret_jo2 (x := R) (v := .slice a2 n2 c2) rfl rfl rfl rfl h5 ⟨a2, n2, c2, rfl, Lib.hid ⟨World.ownsRow.mono (own_past H2.out.1 g5 (by have := HN.out; omega)) HN.out.2.2.1.size, H2.out.2.1, below_of_only HG2.out.2 (by have := HN.out; omega) g5⟩⟩
  · have g0 : (j.st == 4) = false := by simpa using c0
    obtain rfl : m = false := hm.symm.trans (decide_eq_false (by omega))
    clear h hn hR hE hm c0
    go_enter Try.func25, Try.ntmps25
    go_wp2_with (refine load_jo rfl _ rfl V rfl j (.slice a n c) HHZ.out ?_)
    clear hV hX hG hZ k12 k13 k14
    refine HC.out.mono ?_
    rintro e w2 ⟨a2, n2, c2, rfl, H2⟩
    have HG2 : Hid (Has w2 G zJ (.slice none 0 0) ∧ Below w.heap.size w w2) := Lib.hid ⟨has_under HG.out H2.out.2.2, below_then HN.out.2.2.1 H2.out.2.2⟩
    go_wp2_with (refine store_jo rfl _ _ rfl G rfl R a2 n2 c2 rfl zJ (.slice none 0 0) HG2.out.1 ?_; intro w5 h5 g5)
    exact ret_jo2 (x := R) (v := .slice a2 n2 c2) rfl rfl rfl rfl h5 ⟨a2, n2, c2, rfl, Lib.hid ⟨World.ownsRow.mono (own_past H2.out.1 g5 (by have := HN.out; omega)) HN.out.2.2.1.size, H2.out.2.1, below_of_only HG2.out.2 (by have := HN.out; omega) g5⟩⟩
end Go.Proofs.Ytghlgmlelipjfaa.Job.Im
namespace Go.Proofs.Ytghlgmlelipjfaa.Job.Im
open Go.RowKit Go.Lib
open Goods (St Sts OwnS)

set_option maxRecDepth 100000 in
set_option maxHeartbeats 8000000 in
theorem changed_cancel (j : JS) (a : Option Addr) (n c : Nat) (m : Bool) (w : World) (h : JIn w a n j.s) (hn : n ≤ 1024) :
    Calls Try.prog 48 #[jV j (.slice a n c), .bool m, .func (.func 52) #[] #[]] w fun e w' => ∃ a' n' c', e = .returned (.tuple #[jV (chV j m (cancelJ j)) (.slice a' n' c'), .int .i64 (chE j m)]) ∧ Hid (OwnS w' w.heap.size (.slice a' n' c') (chV j m (cancelJ j)).s ∧ n' ≤ n ∧ Below w.heap.size w w') := by
  obtain ⟨V, X, hV, hX, HXB, HH⟩ := box_jo w j (.slice a n c)
  obtain ⟨G, Z, hG, hZ, HZB, HG⟩ := box_zero X
  have HN : Hid (w.heap.size = V ∧ G = V + 1 ∧ Below w.heap.size w Z ∧ Z.heap.size = G + 1) := Lib.hid ⟨hV, by have := HXB.out.2; omega, below_then HXB.out.1 HZB.out.1, HZB.out.2⟩
  have HHZ : Hid (Has Z V j (.slice a n c)) := Lib.hid (has_under HH.out HZB.out.1)
  obtain ⟨er, her⟩ : ∃ er, chk j = er := ⟨_, rfl⟩
  have HC := check_im j a n c Z (h.under HN.out.2.2.1) hn
  rw [her] at HC
  have HC := Lib.hid HC
  by_cases ho : Ok j
  case neg =>
    obtain ⟨e2, e3⟩ := ch_bad ho m (cancelJ j)
    rw [e2, e3]
    obtain rfl : er = 1 := her.symm.trans (chk_no ho)
    clear h hn her ho e2 e3
    go_enter Try.func48, Try.ntmps48
    go_wp2_with (refine load_jo rfl _ rfl V rfl j (.slice a n c) HHZ.out ?_)
    clear hV hX hG hZ
    refine HC.out.mono ?_
    rintro e w1 ⟨rfl, h1⟩
    have HG1 : Hid (Has w1 G zJ (.slice none 0 0) ∧ Below w.heap.size w w1) := Lib.hid ⟨has_under HG.out h1, below_then HN.out.2.2.1 h1⟩
    clear h1
    go_wp2_with (refine store_jo rfl _ _ rfl G rfl zJ none 0 0 rfl zJ (.slice none 0 0) HG1.out.1 ?_; intro w5 h5 g5)
    exact ret_jo2 (x := zJ) (v := .slice none 0 0) rfl rfl rfl rfl h5 ⟨none, 0, 0, rfl, Lib.hid ⟨World.ownsRow_nil _ _ _ _, Nat.zero_le _, below_of_only HG1.out.2 (by have := HN.out; omega) g5⟩⟩
  obtain rfl : er = 0 := her.symm.trans (chk_yes ho)
  cases m with
  | false =>
    obtain ⟨e2, e3⟩ := ch_not ho (cancelJ j)
    rw [e2, e3]
    clear h hn her ho e2 e3
    go_enter Try.func48, Try.ntmps48
    go_wp2_with (refine load_jo rfl _ rfl V rfl j (.slice a n c) HHZ.out ?_)
    clear hV hX hG hZ
    refine HC.out.mono ?_
    rintro e w1 ⟨rfl, h1⟩
    have HG1 : Hid (Has w1 G zJ (.slice none 0 0) ∧ Below w.heap.size w w1) := Lib.hid ⟨has_under HG.out h1, below_then HN.out.2.2.1 h1⟩
    clear h1
    go_wp2_with (refine store_jo rfl _ _ rfl G rfl zJ none 0 0 rfl zJ (.slice none 0 0) HG1.out.1 ?_; intro w5 h5 g5)
    exact ret_jo2 (x := zJ) (v := .slice none 0 0) rfl rfl rfl rfl h5 ⟨none, 0, 0, rfl, Lib.hid ⟨World.ownsRow_nil _ _ _ _, Nat.zero_le _, below_of_only HG1.out.2 (by have := HN.out; omega) g5⟩⟩
  | true =>
    obtain ⟨e2, e3⟩ := ch_yes ho (cancelJ j)
    rw [e2, e3]
    obtain ⟨R, hR⟩ : ∃ R, cancelJ j = R := ⟨_, rfl⟩
    have HRS : Hid (R.s = j.s) := Lib.hid (by rw [← hR]; rfl)
    have HJ : Hid (∀ W, Below w.heap.size w W → JIn W a n j.s ∧ n ≤ 1024) := Lib.hid fun W hW => ⟨h.under hW, hn⟩
    have HF : Hid (∀ W v, Has W V j v → Calls Try.prog 52 #[ptr V] W fun e w' => e = .returned (.tuple #[]) ∧ Hid (Has w' V R v ∧ W.grownBy w' (some V))) := Lib.hid fun W v h1 => by
      rw [← hR]
      exact (cancel_fn V j v W h1).mono fun _ _ ⟨e, h3, h4⟩ => ⟨e, Lib.hid ⟨h3, h4⟩⟩
    rw [hR]
    clear h hn her ho e2 e3 hR
    go_enter Try.func48, Try.ntmps48
    go_wp2_with (refine load_jo rfl _ rfl V rfl j (.slice a n c) HHZ.out ?_)
    clear hV hX hG hZ
    refine HC.out.mono ?_
    rintro e w1 ⟨rfl, h1⟩
    have H1 : Hid (Below w.heap.size w w1 ∧ Has w1 V j (.slice a n c) ∧ Has w1 G zJ (.slice none 0 0) ∧ G < w1.heap.size) := Lib.hid ⟨below_then HN.out.2.2.1 h1, has_under HHZ.out h1, has_under HG.out h1, by have := h1.size; have := HN.out; omega⟩
    have k11 : w1.cell? ⟨V, 11, none⟩ = some (.slice a n c) := cell_block (j := 11) H1.out.2.1 rfl
    have HCL := Lib.hid (clone_im a n c j.s w1 (HJ.out w1 H1.out.1).1.1 (HJ.out w1 H1.out.1).1.2 (by have := (HJ.out w1 H1.out.1).2; omega))
    clear h1
    go_wp2_with fail
    clear k11
    refine HCL.out.mono ?_
    rintro e w2 ⟨a2, c2, rfl, H2⟩
    have HV2 : Hid (Has w2 V j (.slice a n c)) := Lib.hid (has_under H1.out.2.1 H2.out.2)
    have k11 : w2.cell? ⟨V, 11, none⟩ = some (.slice a n c) := cell_block (j := 11) HV2.out rfl
    have f11 := free_block 11 HV2.out
    obtain ⟨w3, hw3⟩ : ∃ w3, w2.setCell ⟨V, 11, none⟩ (.slice a2 n c2) = w3 := ⟨_, rfl⟩
    have H3 : Hid (Has w3 V j (.slice a2 n c2) ∧ w2.grownBy w3 (some V)) := Lib.hid (by rw [← hw3]; exact ⟨set_needs HV2.out _, only_setCell (only_refl w2 _) _ _⟩)
    have H3B : Hid (Below w.heap.size w w3) := Lib.hid (below_of_only (below_then H1.out.1 H2.out.2) (by have := HN.out; omega) H3.out.2)
    have HFF := Lib.hid (HF.out w3 (.slice a2 n c2) H3.out.1)
    go_wp2_with fail
    clear hw3 k11 f11
    refine HFF.out.mono ?_
    rintro e w4 ⟨rfl, H4⟩
    have H5 : Hid (Has w4 G zJ (.slice none 0 0) ∧ Below w.heap.size w w4 ∧ OwnS w4 w1.heap.size (.slice a2 n c2) j.s) := Lib.hid (by
      have hg : V ≠ G := by have := HN.out; omega
      have hv : V < w1.heap.size := by have := H1.out.2.2.2; have := HN.out; omega
      exact ⟨has_by (has_by (has_under H1.out.2.2.1 H2.out.2) H3.out.2 hg) H4.out.2 hg, below_of_only H3B.out (by have := HN.out; omega) H4.out.2, own_past (own_past H2.out.1 H3.out.2 hv) H4.out.2 hv⟩)
    go_wp2_with (first | (refine load_jo rfl _ rfl V rfl R (.slice a2 n c2) H4.out.1 ?_) | (refine store_jo rfl _ _ rfl G rfl R a2 n c2 rfl zJ (.slice none 0 0) H5.out.1 ?_; intro w5 h5 g5))
    exact ret_jo2 (x := R) (v := .slice a2 n c2) rfl rfl rfl rfl h5 ⟨a2, n, c2, rfl, Lib.hid ⟨by rw [HRS.out]; exact World.ownsRow.mono (own_past H5.out.2.2 g5 H1.out.2.2.2) H1.out.1.size, Nat.le_refl _, below_of_only H5.out.2.1 (by have := HN.out; omega) g5⟩⟩
end Go.Proofs.Ytghlgmlelipjfaa.Job.Im
