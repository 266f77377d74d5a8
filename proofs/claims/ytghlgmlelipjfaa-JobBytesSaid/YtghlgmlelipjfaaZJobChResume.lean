/- The program's change of a job by Resume's closure. The program's change of a job by Finish's closure. The program's change of a job by Deliver's closure. -/
import Derived.Test.YtghlgmlelipjfaaZJobImE
import Derived.Test.YtghlgmlelipjfaaZGoodsImCk
namespace Go.Proofs.Ytghlgmlelipjfaa.Job.Im
open Go.RowKit Go.Lib
open Goods (St Sts OwnS)

set_option maxRecDepth 100000 in
set_option maxHeartbeats 8000000 in
theorem changed_resume (j : JS) (a : Option Addr) (n c : Nat) (m : Bool) (w : World) (h : JIn w a n j.s) (hn : n ≤ 1024) :
    Calls Try.prog 48 #[jV j (.slice a n c), .bool m, .func (.func 49) #[] #[]] w fun e w' => ∃ a' n' c', e = .returned (.tuple #[jV (chV j m (resumeJ j)) (.slice a' n' c'), .int .i64 (chE j m)]) ∧ Hid (OwnS w' w.heap.size (.slice a' n' c') (chV j m (resumeJ j)).s ∧ n' ≤ n ∧ Below w.heap.size w w') := by
  obtain ⟨V, X, hV, hX, HXB, HH⟩ := box_jo w j (.slice a n c)
  obtain ⟨G, Z, hG, hZ, HZB, HG⟩ := box_zero X
  have HN : Hid (w.heap.size = V ∧ G = V + 1 ∧ Below w.heap.size w Z ∧ Z.heap.size = G + 1) := Lib.hid ⟨hV, by have := HXB.out.2; omega, below_then HXB.out.1 HZB.out.1, HZB.out.2⟩
  have HHZ : Hid (Has Z V j (.slice a n c)) := Lib.hid (has_under HH.out HZB.out.1)
  obtain ⟨er, her⟩ : ∃ er, chk j = er := ⟨_, rfl⟩
  have HC := check_im j a n c Z (h.under HN.out.2.2.1) hn
  rw [her] at HC
  have HC := Lib.hid HC
  by_cases ho : Ok j
  case neg =>
    obtain ⟨e2, e3⟩ := ch_bad ho m (resumeJ j)
    rw [e2, e3]
    obtain rfl : er = 1 := her.symm.trans (chk_no ho)
    clear h hn her ho e2 e3
    go_enter Try.func48, Try.ntmps48
    go_wp2_with (refine load_jo rfl _ rfl V rfl j (.slice a n c) HHZ.out ?_)
    clear hV hX hG hZ
    refine HC.out.mono ?_
    rintro e w1 ⟨rfl, h1⟩
    have HG1 : Hid (Has w1 G zJ (.slice none 0 0) ∧ Below w.heap.size w w1) := Lib.hid ⟨has_under HG.out h1, below_then HN.out.2.2.1 h1⟩
    clear h1
    go_wp2_with (refine store_jo rfl _ _ rfl G rfl zJ none 0 0 rfl zJ (.slice none 0 0) HG1.out.1 ?_; intro w5 h5 g5)
    exact ret_jo2 (x := zJ) (v := .slice none 0 0) rfl rfl rfl rfl h5 ⟨none, 0, 0, rfl, Lib.hid ⟨World.ownsRow_nil _ _ _ _, Nat.zero_le _, below_of_only HG1.out.2 (by have := HN.out; omega) g5⟩⟩
  obtain rfl : er = 0 := her.symm.trans (chk_yes ho)
  cases m with
  | false =>
    obtain ⟨e2, e3⟩ := ch_not ho (resumeJ j)
    rw [e2, e3]
    clear h hn her ho e2 e3
    go_enter Try.func48, Try.ntmps48
    go_wp2_with (refine load_jo rfl _ rfl V rfl j (.slice a n c) HHZ.out ?_)
    clear hV hX hG hZ
    refine HC.out.mono ?_
    rintro e w1 ⟨rfl, h1⟩
    have HG1 : Hid (Has w1 G zJ (.slice none 0 0) ∧ Below w.heap.size w w1) := Lib.hid ⟨has_under HG.out h1, below_then HN.out.2.2.1 h1⟩
    clear h1
    go_wp2_with (refine store_jo rfl _ _ rfl G rfl zJ none 0 0 rfl zJ (.slice none 0 0) HG1.out.1 ?_; intro w5 h5 g5)
    exact ret_jo2 (x := zJ) (v := .slice none 0 0) rfl rfl rfl rfl h5 ⟨none, 0, 0, rfl, Lib.hid ⟨World.ownsRow_nil _ _ _ _, Nat.zero_le _, below_of_only HG1.out.2 (by have := HN.out; omega) g5⟩⟩
  | true =>
    obtain ⟨e2, e3⟩ := ch_yes ho (resumeJ j)
    rw [e2, e3]
    obtain ⟨R, hR⟩ : ∃ R, resumeJ j = R := ⟨_, rfl⟩
    have HRS : Hid (R.s = j.s) := Lib.hid (by rw [← hR]; rfl)
    have HJ : Hid (∀ W, Below w.heap.size w W → JIn W a n j.s ∧ n ≤ 1024) := Lib.hid fun W hW => ⟨h.under hW, hn⟩
    have HF : Hid (∀ W v, Has W V j v → Calls Try.prog 49 #[ptr V] W fun e w' => e = .returned (.tuple #[]) ∧ Hid (Has w' V R v ∧ W.grownBy w' (some V))) := Lib.hid fun W v h1 => by
      rw [← hR]
      exact (resume_fn V j v W h1).mono fun _ _ ⟨e, h3, h4⟩ => ⟨e, Lib.hid ⟨h3, h4⟩⟩
    rw [hR]
    clear h hn her ho e2 e3 hR
    go_enter Try.func48, Try.ntmps48
    go_wp2_with (refine load_jo rfl _ rfl V rfl j (.slice a n c) HHZ.out ?_)
    clear hV hX hG hZ
    refine HC.out.mono ?_
    rintro e w1 ⟨rfl, h1⟩
    have H1 : Hid (Below w.heap.size w w1 ∧ Has w1 V j (.slice a n c) ∧ Has w1 G zJ (.slice none 0 0) ∧ G < w1.heap.size) := Lib.hid ⟨below_then HN.out.2.2.1 h1, has_under HHZ.out h1, has_under HG.out h1, by have := h1.size; have := HN.out; omega⟩
    have k11 : w1.cell? ⟨V, 11, none⟩ = some (.slice a n c) := cell_block (j := 11) H1.out.2.1 rfl
    have HCL := Lib.hid (clone_im a n c j.s w1 (HJ.out w1 H1.out.1).1.1 (HJ.out w1 H1.out.1).1.2 (by have := (HJ.out w1 H1.out.1).2; omega))
    clear h1
    go_wp2_with fail
    clear k11
    refine HCL.out.mono ?_
    rintro e w2 ⟨a2, c2, rfl, H2⟩
    have HV2 : Hid (Has w2 V j (.slice a n c)) := Lib.hid (has_under H1.out.2.1 H2.out.2)
    have k11 : w2.cell? ⟨V, 11, none⟩ = some (.slice a n c) := cell_block (j := 11) HV2.out rfl
    have f11 := free_block 11 HV2.out
    obtain ⟨w3, hw3⟩ : ∃ w3, w2.setCell ⟨V, 11, none⟩ (.slice a2 n c2) = w3 := ⟨_, rfl⟩
    have H3 : Hid (Has w3 V j (.slice a2 n c2) ∧ w2.grownBy w3 (some V)) := Lib.hid (by rw [← hw3]; exact ⟨set_needs HV2.out _, only_setCell (only_refl w2 _) _ _⟩)
    have H3B : Hid (Below w.heap.size w w3) := Lib.hid (below_of_only (below_then H1.out.1 H2.out.2) (by have := HN.out; omega) H3.out.2)
    have HFF := Lib.hid (HF.out w3 (.slice a2 n c2) H3.out.1)
    go_wp2_with fail
    clear hw3 k11 f11
    refine HFF.out.mono ?_
    rintro e w4 ⟨rfl, H4⟩
    have H5 : Hid (Has w4 G zJ (.slice none 0 0) ∧ Below w.heap.size w w4 ∧ OwnS w4 w1.heap.size (.slice a2 n c2) j.s) := Lib.hid (by
      have hg : V ≠ G := by have := HN.out; omega
      have hv : V < w1.heap.size := by have := H1.out.2.2.2; have := HN.out; omega
      exact ⟨has_by (has_by (has_under H1.out.2.2.1 H2.out.2) H3.out.2 hg) H4.out.2 hg, below_of_only H3B.out (by have := HN.out; omega) H4.out.2, own_past (own_past H2.out.1 H3.out.2 hv) H4.out.2 hv⟩)
    go_wp2_with (first | (refine load_jo rfl _ rfl V rfl R (.slice a2 n c2) H4.out.1 ?_) | (refine store_jo rfl _ _ rfl G rfl R a2 n c2 rfl zJ (.slice none 0 0) H5.out.1 ?_; intro w5 h5 g5))
    exact ret_jo2 (x := R) (v := .slice a2 n c2) rfl rfl rfl rfl h5 ⟨a2, n, c2, rfl, Lib.hid ⟨by rw [HRS.out]; exact World.ownsRow.mono (own_past H5.out.2.2 g5 H1.out.2.2.2) H1.out.1.size, Nat.le_refl _, below_of_only H5.out.2.1 (by have := HN.out; omega) g5⟩⟩
end Go.Proofs.Ytghlgmlelipjfaa.Job.Im
namespace Go.Proofs.Ytghlgmlelipjfaa.Job.Im
open Go.RowKit Go.Lib
open Goods (St Sts OwnS)

set_option maxRecDepth 100000 in
set_option maxHeartbeats 8000000 in
theorem changed_finish (j : JS) (a : Option Addr) (n c : Nat) (m : Bool) (w : World) (h : JIn w a n j.s) (hn : n ≤ 1024) :
    Calls Try.prog 48 #[jV j (.slice a n c), .bool m, .func (.func 50) #[] #[]] w fun e w' => ∃ a' n' c', e = .returned (.tuple #[jV (chV j m (finishJ j)) (.slice a' n' c'), .int .i64 (chE j m)]) ∧ Hid (OwnS w' w.heap.size (.slice a' n' c') (chV j m (finishJ j)).s ∧ n' ≤ n ∧ Below w.heap.size w w') := by
  obtain ⟨V, X, hV, hX, HXB, HH⟩ := box_jo w j (.slice a n c)
  obtain ⟨G, Z, hG, hZ, HZB, HG⟩ := box_zero X
  have HN : Hid (w.heap.size = V ∧ G = V + 1 ∧ Below w.heap.size w Z ∧ Z.heap.size = G + 1) := Lib.hid ⟨hV, by have := HXB.out.2; omega, below_then HXB.out.1 HZB.out.1, HZB.out.2⟩
  have HHZ : Hid (Has Z V j (.slice a n c)) := Lib.hid (has_under HH.out HZB.out.1)
  obtain ⟨er, her⟩ : ∃ er, chk j = er := ⟨_, rfl⟩
  have HC := check_im j a n c Z (h.under HN.out.2.2.1) hn
  rw [her] at HC
  have HC := Lib.hid HC
  by_cases ho : Ok j
  case neg =>
    obtain ⟨e2, e3⟩ := ch_bad ho m (finishJ j)
    rw [e2, e3]
    obtain rfl : er = 1 := her.symm.trans (chk_no ho)
    clear h hn her ho e2 e3
    go_enter Try.func48, Try.ntmps48
    go_wp2_with (refine load_jo rfl _ rfl V rfl j (.slice a n c) HHZ.out ?_)
    clear hV hX hG hZ
    refine HC.out.mono ?_
    rintro e w1 ⟨rfl, h1⟩
    have HG1 : Hid (Has w1 G zJ (.slice none 0 0) ∧ Below w.heap.size w w1) := Lib.hid ⟨has_under HG.out h1, below_then HN.out.2.2.1 h1⟩
    clear h1
    go_wp2_with (refine store_jo rfl _ _ rfl G rfl zJ none 0 0 rfl zJ (.slice none 0 0) HG1.out.1 ?_; intro w5 h5 g5)
    exact ret_jo2 (x := zJ) (v := .slice none 0 0) rfl rfl rfl rfl h5 ⟨none, 0, 0, rfl, Lib.hid ⟨World.ownsRow_nil _ _ _ _, Nat.zero_le _, below_of_only HG1.out.2 (by have := HN.out; omega) g5⟩⟩
  obtain rfl : er = 0 := her.symm.trans (chk_yes ho)
  cases m with
  | false =>
    obtain ⟨e2, e3⟩ := ch_not ho (finishJ j)
    rw [e2, e3]
    clear h hn her ho e2 e3
    go_enter Try.func48, Try.ntmps48
    go_wp2_with (refine load_jo rfl _ rfl V rfl j (.slice a n c) HHZ.out ?_)
    clear hV hX hG hZ
    refine HC.out.mono ?_
    rintro e w1 ⟨rfl, h1⟩
    have HG1 : Hid (Has w1 G zJ (.slice none 0 0) ∧ Below w.heap.size w w1) := Lib.hid ⟨has_under HG.out h1, below_then HN.out.2.2.1 h1⟩
    clear h1
    go_wp2_with (refine store_jo rfl _ _ rfl G rfl zJ none 0 0 rfl zJ (.slice none 0 0) HG1.out.1 ?_; intro w5 h5 g5)
    exact ret_jo2 (x := zJ) (v := .slice none 0 0) rfl rfl rfl rfl h5 ⟨none, 0, 0, rfl, Lib.hid ⟨World.ownsRow_nil _ _ _ _, Nat.zero_le _, below_of_only HG1.out.2 (by have := HN.out; omega) g5⟩⟩
  | true =>
    obtain ⟨e2, e3⟩ := ch_yes ho (finishJ j)
    rw [e2, e3]
    obtain ⟨R, hR⟩ : ∃ R, finishJ j = R := ⟨_, rfl⟩
    have HRS : Hid (R.s = j.s) := Lib.hid (by rw [← hR]; rfl)
    have HJ : Hid (∀ W, Below w.heap.size w W → JIn W a n j.s ∧ n ≤ 1024) := Lib.hid fun W hW => ⟨h.under hW, hn⟩
    have HF : Hid (∀ W v, Has W V j v → Calls Try.prog 50 #[ptr V] W fun e w' => e = .returned (.tuple #[]) ∧ Hid (Has w' V R v ∧ W.grownBy w' (some V))) := Lib.hid fun W v h1 => by
      rw [← hR]
      exact (finish_fn V j v W h1).mono fun _ _ ⟨e, h3, h4⟩ => ⟨e, Lib.hid ⟨h3, h4⟩⟩
    rw [hR]
    clear h hn her ho e2 e3 hR
    go_enter Try.func48, Try.ntmps48
    go_wp2_with (refine load_jo rfl _ rfl V rfl j (.slice a n c) HHZ.out ?_)
    clear hV hX hG hZ
    refine HC.out.mono ?_
    rintro e w1 ⟨rfl, h1⟩
    have H1 : Hid (Below w.heap.size w w1 ∧ Has w1 V j (.slice a n c) ∧ Has w1 G zJ (.slice none 0 0) ∧ G < w1.heap.size) := Lib.hid ⟨below_then HN.out.2.2.1 h1, has_under HHZ.out h1, has_under HG.out h1, by have := h1.size; have := HN.out; omega⟩
    have k11 : w1.cell? ⟨V, 11, none⟩ = some (.slice a n c) := cell_block (j := 11) H1.out.2.1 rfl
    have HCL := Lib.hid (clone_im a n c j.s w1 (HJ.out w1 H1.out.1).1.1 (HJ.out w1 H1.out.1).1.2 (by have := (HJ.out w1 H1.out.1).2; omega))
    clear h1
    go_wp2_with fail
    clear k11
    refine HCL.out.mono ?_
    rintro e w2 ⟨a2, c2, rfl, H2⟩
    have HV2 : Hid (Has w2 V j (.slice a n c)) := Lib.hid (has_under H1.out.2.1 H2.out.2)
    have k11 : w2.cell? ⟨V, 11, none⟩ = some (.slice a n c) := cell_block (j := 11) HV2.out rfl
    have f11 := free_block 11 HV2.out
    obtain ⟨w3, hw3⟩ : ∃ w3, w2.setCell ⟨V, 11, none⟩ (.slice a2 n c2) = w3 := ⟨_, rfl⟩
    have H3 : Hid (Has w3 V j (.slice a2 n c2) ∧ w2.grownBy w3 (some V)) := Lib.hid (by rw [← hw3]; exact ⟨set_needs HV2.out _, only_setCell (only_refl w2 _) _ _⟩)
    have H3B : Hid (Below w.heap.size w w3) := Lib.hid (below_of_only (below_then H1.out.1 H2.out.2) (by have := HN.out; omega) H3.out.2)
    have HFF := Lib.hid (HF.out w3 (.slice a2 n c2) H3.out.1)
    go_wp2_with fail
    clear hw3 k11 f11
    refine HFF.out.mono ?_
    rintro e w4 ⟨rfl, H4⟩
    have H5 : Hid (Has w4 G zJ (.slice none 0 0) ∧ Below w.heap.size w w4 ∧ OwnS w4 w1.heap.size (.slice a2 n c2) j.s) := Lib.hid (by
      have hg : V ≠ G := by have := HN.out; omega
      have hv : V < w1.heap.size := by have := H1.out.2.2.2; have := HN.out; omega
      exact ⟨has_by (has_by (has_under H1.out.2.2.1 H2.out.2) H3.out.2 hg) H4.out.2 hg, below_of_only H3B.out (by have := HN.out; omega) H4.out.2, own_past (own_past H2.out.1 H3.out.2 hv) H4.out.2 hv⟩)
    go_wp2_with (first | (refine load_jo rfl _ rfl V rfl R (.slice a2 n c2) H4.out.1 ?_) | (refine store_jo rfl _ _ rfl G rfl R a2 n c2 rfl zJ (.slice none 0 0) H5.out.1 ?_; intro w5 h5 g5))
    exact ret_jo2 (x := R) (v := .slice a2 n c2) rfl rfl rfl rfl h5 ⟨a2, n, c2, rfl, Lib.hid ⟨by rw [HRS.out]; exact World.ownsRow.mono (own_past H5.out.2.2 g5 H1.out.2.2.2) H1.out.1.size, Nat.le_refl _, below_of_only H5.out.2.1 (by have := HN.out; omega) g5⟩⟩
set_option maxRecDepth 100000 in
set_option maxHeartbeats 8000000 in
theorem at_finish (j : JS) (a : Option Addr) (n c : Nat) (m : Bool) (now : Int) (w : World) (h : JIn w a n j.s) (hn : n ≤ 1024) :
    Calls Try.prog 45 #[.int .i64 now, jV j (.slice a n c), .bool m, .func (.func 50) #[] #[]] w fun e w' => ∃ a' n' c', e = .returned (.tuple #[jV (caV now j m (finishJ j)) (.slice a' n' c'), .int .i64 (caE now j m)]) ∧ Hid (OwnS w' w.heap.size (.slice a' n' c') (caV now j m (finishJ j)).s ∧ n' ≤ n ∧ Below w.heap.size w w') := by
  obtain ⟨V, X, hV, hX, HXB, HH⟩ := box_jo w j (.slice a n c)
  obtain ⟨G, Z, hG, hZ, HZB, HG⟩ := box_zero X
  have HN : Hid (w.heap.size = V ∧ G = V + 1 ∧ Below w.heap.size w Z ∧ Z.heap.size = G + 1) := Lib.hid ⟨hV, by have := HXB.out.2; omega, below_then HXB.out.1 HZB.out.1, HZB.out.2⟩
  have HHZ : Hid (Has Z V j (.slice a n c)) := Lib.hid (has_under HH.out HZB.out.1)
  by_cases ht : 0 ≤ now ∧ now ≤ 1099511627776
  case neg =>
    obtain ⟨e2, e3⟩ := ca_no ht j m (finishJ j)
    rw [e2, e3]
    have HI := in_as (decide_eq_false ht)
    clear h hn e2 e3 ht
    go_enter Try.func45, Try.ntmps45
    go_wp2_with fail
    clear hV hX hG hZ
    refine (HI.out _).mono ?_
    rintro e w1 ⟨rfl, rfl⟩
    go_wp2_with (refine store_jo rfl _ _ rfl G rfl zJ none 0 0 rfl zJ (.slice none 0 0) HG.out ?_; intro w5 h5 g5)
    exact ret_jo2 (x := zJ) (v := .slice none 0 0) rfl rfl rfl rfl h5 ⟨none, 0, 0, rfl, Lib.hid ⟨World.ownsRow_nil _ _ _ _, Nat.zero_le _, below_of_only HN.out.2.2.1 (by have := HN.out; omega) g5⟩⟩
  obtain ⟨e2, e3⟩ := ca_yes ht j m (finishJ j)
  rw [e2, e3]
  have HI := in_as (decide_eq_true ht)
  have HC := Lib.hid (changed_finish j a n c m Z (h.under HN.out.2.2.1) hn)
  obtain ⟨R, hR⟩ : ∃ R, chV j m (finishJ j) = R := ⟨_, rfl⟩
  obtain ⟨E, hE⟩ : ∃ E, chE j m = E := ⟨_, rfl⟩
  rw [hR, hE] at HC
  rw [hR, hE]
  clear h hn e2 e3 ht hR hE
  go_enter Try.func45, Try.ntmps45
  go_wp2_with fail
  clear hV hX hG hZ
  refine (HI.out _).mono ?_
  rintro e w1 ⟨rfl, rfl⟩
  go_wp2_with (refine load_jo rfl _ rfl V rfl j (.slice a n c) HHZ.out ?_)
  refine HC.out.mono ?_
  rintro e w2 ⟨a2, n2, c2, rfl, H2⟩
  have HG2 : Hid (Has w2 G zJ (.slice none 0 0) ∧ Below w.heap.size w w2) := Lib.hid ⟨has_under HG.out H2.out.2.2, below_then HN.out.2.2.1 H2.out.2.2⟩
  go_wp2_with (refine store_jo rfl _ _ rfl G rfl R a2 n2 c2 rfl zJ (.slice none 0 0) HG2.out.1 ?_; intro w5 h5 g5)
  exact ret_jo2 (x := R) (v := .slice a2 n2 c2) rfl rfl rfl rfl h5 ⟨a2, n2, c2, rfl, Lib.hid ⟨World.ownsRow.mono (own_past H2.out.1 g5 (by have := HN.out; omega)) HN.out.2.2.1.size, H2.out.2.1, below_of_only HG2.out.2 (by have := HN.out; omega) g5⟩⟩
end Go.Proofs.Ytghlgmlelipjfaa.Job.Im
namespace Go.Proofs.Ytghlgmlelipjfaa.Job.Im
open Go.RowKit Go.Lib
open Goods (St Sts OwnS)

set_option maxRecDepth 100000 in
set_option maxHeartbeats 8000000 in
theorem changed_deliver (j : JS) (a : Option Addr) (n c : Nat) (m : Bool) (w : World) (h : JIn w a n j.s) (hn : n ≤ 1024) :
    Calls Try.prog 48 #[jV j (.slice a n c), .bool m, .func (.func 51) #[] #[]] w fun e w' => ∃ a' n' c', e = .returned (.tuple #[jV (chV j m (deliverJ j)) (.slice a' n' c'), .int .i64 (chE j m)]) ∧ Hid (OwnS w' w.heap.size (.slice a' n' c') (chV j m (deliverJ j)).s ∧ n' ≤ n ∧ Below w.heap.size w w') := by
  obtain ⟨V, X, hV, hX, HXB, HH⟩ := box_jo w j (.slice a n c)
  obtain ⟨G, Z, hG, hZ, HZB, HG⟩ := box_zero X
  have HN : Hid (w.heap.size = V ∧ G = V + 1 ∧ Below w.heap.size w Z ∧ Z.heap.size = G + 1) := Lib.hid ⟨hV, by have := HXB.out.2; omega, below_then HXB.out.1 HZB.out.1, HZB.out.2⟩
  have HHZ : Hid (Has Z V j (.slice a n c)) := Lib.hid (has_under HH.out HZB.out.1)
  obtain ⟨er, her⟩ : ∃ er, chk j = er := ⟨_, rfl⟩
  have HC := check_im j a n c Z (h.under HN.out.2.2.1) hn
  rw [her] at HC
  have HC := Lib.hid HC
  by_cases ho : Ok j
  case neg =>
    obtain ⟨e2, e3⟩ := ch_bad ho m (deliverJ j)
    rw [e2, e3]
    obtain rfl : er = 1 := her.symm.trans (chk_no ho)
    clear h hn her ho e2 e3
    go_enter Try.func48, Try.ntmps48
    go_wp2_with (refine load_jo rfl _ rfl V rfl j (.slice a n c) HHZ.out ?_)
    clear hV hX hG hZ
    refine HC.out.mono ?_
    rintro e w1 ⟨rfl, h1⟩
    have HG1 : Hid (Has w1 G zJ (.slice none 0 0) ∧ Below w.heap.size w w1) := Lib.hid ⟨has_under HG.out h1, below_then HN.out.2.2.1 h1⟩
    clear h1
    go_wp2_with (refine store_jo rfl _ _ rfl G rfl zJ none 0 0 rfl zJ (.slice none 0 0) HG1.out.1 ?_; intro w5 h5 g5)
    exact ret_jo2 (x := zJ) (v := .slice none 0 0) rfl rfl rfl rfl h5 ⟨none, 0, 0, rfl, Lib.hid ⟨World.ownsRow_nil _ _ _ _, Nat.zero_le _, below_of_only HG1.out.2 (by have := HN.out; omega) g5⟩⟩
  obtain rfl : er = 0 := her.symm.trans (chk_yes ho)
  cases m with
  | false =>
    obtain ⟨e2, e3⟩ := ch_not ho (deliverJ j)
    rw [e2, e3]
    clear h hn her ho e2 e3
    go_enter Try.func48, Try.ntmps48
    go_wp2_with (refine load_jo rfl _ rfl V rfl j (.slice a n c) HHZ.out ?_)
    clear hV hX hG hZ
    refine HC.out.mono ?_
    rintro e w1 ⟨rfl, h1⟩
    have HG1 : Hid (Has w1 G zJ (.slice none 0 0) ∧ Below w.heap.size w w1) := Lib.hid ⟨has_under HG.out h1, below_then HN.out.2.2.1 h1⟩
    clear h1
    go_wp2_with (refine store_jo rfl _ _ rfl G rfl zJ none 0 0 rfl zJ (.slice none 0 0) HG1.out.1 ?_; intro w5 h5 g5)
    exact ret_jo2 (x := zJ) (v := .slice none 0 0) rfl rfl rfl rfl h5 ⟨none, 0, 0, rfl, Lib.hid ⟨World.ownsRow_nil _ _ _ _, Nat.zero_le _, below_of_only HG1.out.2 (by have := HN.out; omega) g5⟩⟩
  | true =>
    obtain ⟨e2, e3⟩ := ch_yes ho (deliverJ j)
    rw [e2, e3]
    obtain ⟨R, hR⟩ : ∃ R, deliverJ j = R := ⟨_, rfl⟩
    have HRS : Hid (R.s = j.s) := Lib.hid (by rw [← hR]; rfl)
    have HJ : Hid (∀ W, Below w.heap.size w W → JIn W a n j.s ∧ n ≤ 1024) := Lib.hid fun W hW => ⟨h.under hW, hn⟩
    have HF : Hid (∀ W v, Has W V j v → Calls Try.prog 51 #[ptr V] W fun e w' => e = .returned (.tuple #[]) ∧ Hid (Has w' V R v ∧ W.grownBy w' (some V))) := Lib.hid fun W v h1 => by
      rw [← hR]
      exact (deliver_fn V j v W h1).mono fun _ _ ⟨e, h3, h4⟩ => ⟨e, Lib.hid ⟨h3, h4⟩⟩
    rw [hR]
    clear h hn her ho e2 e3 hR
    go_enter Try.func48, Try.ntmps48
    go_wp2_with (refine load_jo rfl _ rfl V rfl j (.slice a n c) HHZ.out ?_)
    clear hV hX hG hZ
    refine HC.out.mono ?_
    rintro e w1 ⟨rfl, h1⟩
    have H1 : Hid (Below w.heap.size w w1 ∧ Has w1 V j (.slice a n c) ∧ Has w1 G zJ (.slice none 0 0) ∧ G < w1.heap.size) := Lib.hid ⟨below_then HN.out.2.2.1 h1, has_under HHZ.out h1, has_under HG.out h1, by have := h1.size; have := HN.out; omega⟩
    have k11 : w1.cell? ⟨V, 11, none⟩ = some (.slice a n c) := cell_block (j := 11) H1.out.2.1 rfl
    have HCL := Lib.hid (clone_im a n c j.s w1 (HJ.out w1 H1.out.1).1.1 (HJ.out w1 H1.out.1).1.2 (by have := (HJ.out w1 H1.out.1).2; omega))
    clear h1
    go_wp2_with fail
    clear k11
    refine HCL.out.mono ?_
    rintro e w2 ⟨a2, c2, rfl, H2⟩
    have HV2 : Hid (Has w2 V j (.slice a n c)) := Lib.hid (has_under H1.out.2.1 H2.out.2)
    have k11 : w2.cell? ⟨V, 11, none⟩ = some (.slice a n c) := cell_block (j := 11) HV2.out rfl
    have f11 := free_block 11 HV2.out
    obtain ⟨w3, hw3⟩ : ∃ w3, w2.setCell ⟨V, 11, none⟩ (.slice a2 n c2) = w3 := ⟨_, rfl⟩
    have H3 : Hid (Has w3 V j (.slice a2 n c2) ∧ w2.grownBy w3 (some V)) := Lib.hid (by rw [← hw3]; exact ⟨set_needs HV2.out _, only_setCell (only_refl w2 _) _ _⟩)
    have H3B : Hid (Below w.heap.size w w3) := Lib.hid (below_of_only (below_then H1.out.1 H2.out.2) (by have := HN.out; omega) H3.out.2)
    have HFF := Lib.hid (HF.out w3 (.slice a2 n c2) H3.out.1)
    go_wp2_with fail
    clear hw3 k11 f11
    refine HFF.out.mono ?_
    rintro e w4 ⟨rfl, H4⟩
    have H5 : Hid (Has w4 G zJ (.slice none 0 0) ∧ Below w.heap.size w w4 ∧ OwnS w4 w1.heap.size (.slice a2 n c2) j.s) := Lib.hid (by
      have hg : V ≠ G := by have := HN.out; omega
      have hv : V < w1.heap.size := by have := H1.out.2.2.2; have := HN.out; omega
      exact ⟨has_by (has_by (has_under H1.out.2.2.1 H2.out.2) H3.out.2 hg) H4.out.2 hg, below_of_only H3B.out (by have := HN.out; omega) H4.out.2, own_past (own_past H2.out.1 H3.out.2 hv) H4.out.2 hv⟩)
    go_wp2_with (first | (refine load_jo rfl _ rfl V rfl R (.slice a2 n c2) H4.out.1 ?_) | (refine store_jo rfl _ _ rfl G rfl R a2 n c2 rfl zJ (.slice none 0 0) H5.out.1 ?_; intro w5 h5 g5))
    exact ret_jo2 (x := R) (v := .slice a2 n c2) rfl rfl rfl rfl h5 ⟨a2, n, c2, rfl, Lib.hid ⟨by rw [HRS.out]; exact World.ownsRow.mono (own_past H5.out.2.2 g5 H1.out.2.2.2) H1.out.1.size, Nat.le_refl _, below_of_only H5.out.2.1 (by have := HN.out; omega) g5⟩⟩
end Go.Proofs.Ytghlgmlelipjfaa.Job.Im
