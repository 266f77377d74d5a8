/- The jobs of awake, and what is done to them. What must come, whatever the arguments are. JobBytes: any job's bytes, and the job of any bytes. -/
import Derived.Test.YtghlgmlelipjfaaZJobFnC
import Derived.Test.YtghlgmlelipjfaaZJobTkI
import Derived.Test.YtghlgmlelipjfaaZJobTk
import Derived.Test.YtghlgmlelipjfaaZJobPut
import Derived.Test.YtghlgmlelipjfaaZJobPIm
import Derived.Test.YtghlgmlelipjfaaZJobSame
namespace Go.Proofs.Ytghlgmlelipjfaa.Job.Im
open Go.RowKit Go.Lib
open Goods (St Sts OwnS)

theorem listed_nil : Goods.Listed [] 32 := by
  refine ⟨by simp, ?_, rfl, fun s hs => by cases hs⟩
  refine Goods.errN_ok (fun s hs => by cases hs) ?_
  rintro ⟨k, h⟩
  have e : Goods.cnt [] k = 0 := Goods.cnt_none fun s hs => by cases hs
  rw [e] at h
  unfold Goods.mq at h
  omega
theorem plain_ok : Ok plainJ := by
  refine ⟨⟨?_, ?_, ?_, ?_, ?_, ?_, ?_, ?_, ?_, ⟨?_, ?_⟩, ?_⟩, ⟨.inl rfl, listed_nil⟩, .inl ⟨.inl rfl, rfl, rfl, ?_⟩⟩
  all_goals
    unfold plainJ
    decide
def j1 : JS := startJ 5 plainJ
def j2 : JS := pauseJ 8 j1
def j3 : JS := resumeJ j2
def j4 : JS := startJ 20 j3
def j6 : JS := finishJ j4
def j7 : JS := deliverJ j6
theorem j1_ok : Ok j1 := start_ok plain_ok rfl (by decide)
theorem j2_ok : Ok j2 := pause_ok j1_ok rfl (by decide)
theorem j3_ok : Ok j3 := resume_ok j2_ok rfl
theorem j4_ok : Ok j4 := start_ok j3_ok rfl (by decide)
theorem j6_ok : Ok j6 := finish_ok (now := 27) j4_ok rfl (by decide)
/-- What comes of a call: a job, and its stacks (none). -/
abbrev Gave (fn : Nat) (args : Array Value) (w : World) (J : JS) (E : Int) : Prop := Calls Try.prog fn args w fun e w' => ∃ a' n' c', e = .returned (.tuple #[jV J (.slice a' n' c'), .int .i64 E]) ∧ Hid (JIn w' a' n' [] ∧ n' ≤ 1024 ∧ Below w.heap.size w w')
theorem gave {fn : Nat} {args : Array Value} {w : World} {R J : JS} {E E' : Int} {n : Nat} (h : Calls Try.prog fn args w fun e w' => ∃ a' n' c', e = .returned (.tuple #[jV R (.slice a' n' c'), .int .i64 E]) ∧ Hid (OwnS w' w.heap.size (.slice a' n' c') R.s ∧ n' ≤ n ∧ Below w.heap.size w w')) (hn : n ≤ 1024) (hR : R = J) (hE : E = E') (hs : J.s = []) : Gave fn args w J E' := by
  subst hR hE
  refine h.mono ?_
  rintro e w' ⟨a', n', c', rfl, H⟩
  have h1 := sts_row H.out.1
  rw [hs] at h1
  exact ⟨a', n', c', rfl, Lib.hid ⟨h1, by have := H.out.2.1; omega, H.out.2.2⟩⟩
theorem aw1 (a : Option Addr) (n c : Nat) (w : World) (h : JIn w a n []) (hn : n ≤ 1024) : Gave 21 #[jV plainJ (.slice a n c), .int .i64 5] w j1 0 := gave (start_im plainJ a n c 5 w h hn) hn ((ca_yes (by decide) plainJ true (startJ 5 plainJ)).2.trans (ch_yes plain_ok (startJ 5 plainJ)).2) ((ca_yes (by decide) plainJ true (startJ 5 plainJ)).1.trans (ch_yes plain_ok (startJ 5 plainJ)).1) rfl
theorem aw2 (a : Option Addr) (n c : Nat) (w : World) (h : JIn w a n []) (hn : n ≤ 1024) : Gave 22 #[jV j1 (.slice a n c), .int .i64 8] w j2 0 := gave (pause_im j1 a n c 8 w h hn) hn ((ca_yes (by decide) j1 true (pauseJ 8 j1)).2.trans (ch_yes j1_ok (pauseJ 8 j1)).2) ((ca_yes (by decide) j1 true (pauseJ 8 j1)).1.trans (ch_yes j1_ok (pauseJ 8 j1)).1) rfl
theorem aw3 (a : Option Addr) (n c : Nat) (w : World) (h : JIn w a n []) (hn : n ≤ 1024) : Gave 23 #[jV j2 (.slice a n c)] w j3 0 := gave (resume_im j2 a n c w h hn) hn (ch_yes j2_ok (resumeJ j2)).2 (ch_yes j2_ok (resumeJ j2)).1 rfl
theorem aw4 (a : Option Addr) (n c : Nat) (w : World) (h : JIn w a n []) (hn : n ≤ 1024) : Gave 21 #[jV j3 (.slice a n c), .int .i64 20] w j4 0 := gave (start_im j3 a n c 20 w h hn) hn ((ca_yes (by decide) j3 true (startJ 20 j3)).2.trans (ch_yes j3_ok (startJ 20 j3)).2) ((ca_yes (by decide) j3 true (startJ 20 j3)).1.trans (ch_yes j3_ok (startJ 20 j3)).1) rfl
theorem aw5 (a : Option Addr) (n c : Nat) (w : World) (h : JIn w a n []) (hn : n ≤ 1024) : Gave 24 #[jV j4 (.slice a n c), .int .i64 26] w zJ 9 := gave (finish_im j4 a n c 26 w h hn) hn ((ca_yes (by decide) j4 false (finishJ j4)).2.trans (ch_not j4_ok (finishJ j4)).2) ((ca_yes (by decide) j4 false (finishJ j4)).1.trans (ch_not j4_ok (finishJ j4)).1) rfl
theorem aw6 (a : Option Addr) (n c : Nat) (w : World) (h : JIn w a n []) (hn : n ≤ 1024) : Gave 24 #[jV j4 (.slice a n c), .int .i64 27] w j6 0 := gave (finish_im j4 a n c 27 w h hn) hn ((ca_yes (by decide) j4 true (finishJ j4)).2.trans (ch_yes j4_ok (finishJ j4)).2) ((ca_yes (by decide) j4 true (finishJ j4)).1.trans (ch_yes j4_ok (finishJ j4)).1) rfl
theorem aw7 (a : Option Addr) (n c : Nat) (w : World) (h : JIn w a n []) (hn : n ≤ 1024) : Gave 25 #[jV j6 (.slice a n c)] w j7 0 := gave (deliver_im j6 a n c w h hn) hn (ch_yes j6_ok (deliverJ j6)).2 (ch_yes j6_ok (deliverJ j6)).1 rfl
theorem aw8 (v : Value) (w : World) : Calls Try.prog 12 #[jV j7 v] w fun e w' => e = .returned (.bool false) ∧ Hid (Below w.heap.size w w') := (open_im j7 v w).mono fun _ _ ⟨e, h⟩ => ⟨e, Lib.hid h⟩
theorem aw9 (v : Value) (w : World) : Calls Try.prog 12 #[jV j6 v] w fun e w' => e = .returned (.bool true) ∧ Hid (Below w.heap.size w w') := (open_im j6 v w).mono fun _ _ ⟨e, h⟩ => ⟨e, Lib.hid h⟩
end Go.Proofs.Ytghlgmlelipjfaa.Job.Im
namespace Go.Proofs.Ytghlgmlelipjfaa.Job.Im
open Go.RowKit Go.Lib
open Goods (St Sts OwnS)

set_option maxRecDepth 100000 in
set_option maxHeartbeats 16000000 in
theorem awake_im (w : World) : Calls Try.prog 6 #[] w fun e w' => e = .returned (.bool true) ∧ Hid (Below w.heap.size w w') := by
  go_enter Try.func6, Try.ntmps6
  go_wp2_with fail
  refine (plain_im w).mono ?_
  rintro e w0 ⟨rfl, P0⟩
  go_wp2_with fail
  refine (aw1 none 0 0 w0 (JIn.nil _) (by omega)).mono ?_
  rintro e v1 ⟨a1, n1, c1, rfl, H1⟩
  obtain ⟨U1, y1, hU1, hy1, HB1, HZ1⟩ := box_zero v1
  go_wp2_with (first
    | ((with_reducible show wpList _ _ _ _ _ y1); refine store_jo rfl _ _ rfl U1 rfl j1 a1 n1 c1 rfl zJ (.slice none 0 0) HZ1.out ?_; intro w1 h1 g1; have L1 : Hid (Below w0.heap.size w0 w1 ∧ Below v1.heap.size v1 w1) := Lib.hid (by have hb := below_of_only HB1.out.1 (Nat.le_of_eq hU1) g1; exact ⟨below_then H1.out.2.2 hb, hb⟩); have HU1_1 := Lib.hid h1; have T1_1 : Hid (JIn w1 a1 n1 [] ∧ n1 ≤ 1024) := Lib.hid ⟨H1.out.1.under L1.out.2, H1.out.2.1⟩; clear h1 g1 hy1)
    | ((with_reducible show wpList _ _ _ _ _ w1); refine load_jo rfl _ rfl U1 rfl j1 (.slice a1 n1 c1) HU1_1.out ?_))
  refine (aw2 a1 n1 c1 w1 (T1_1.out.1) (T1_1.out.2)).mono ?_
  rintro e v2 ⟨a2, n2, c2, rfl, H2⟩
  obtain ⟨U2, y2, hU2, hy2, HB2, HZ2⟩ := box_zero v2
  go_wp2_with (first
    | ((with_reducible show wpList _ _ _ _ _ y2); refine store_jo rfl _ _ rfl U2 rfl j2 a2 n2 c2 rfl zJ (.slice none 0 0) HZ2.out ?_; intro w2 h2 g2; have L2 : Hid (Below w1.heap.size w1 w2 ∧ Below v2.heap.size v2 w2) := Lib.hid (by have hb := below_of_only HB2.out.1 (Nat.le_of_eq hU2) g2; exact ⟨below_then H2.out.2.2 hb, hb⟩); have HU2_2 := Lib.hid h2; have T2_2 : Hid (JIn w2 a2 n2 [] ∧ n2 ≤ 1024) := Lib.hid ⟨H2.out.1.under L2.out.2, H2.out.2.1⟩; have HU1_2 := Lib.hid (has_under HU1_1.out L2.out.1); have T1_2 : Hid (JIn w2 a1 n1 [] ∧ n1 ≤ 1024) := Lib.hid ⟨T1_1.out.1.under L2.out.1, T1_1.out.2⟩; clear h2 g2 hy2)
    | ((with_reducible show wpList _ _ _ _ _ w2); refine load_jo rfl _ rfl U2 rfl j2 (.slice a2 n2 c2) HU2_2.out ?_))
  refine (aw3 a2 n2 c2 w2 (T2_2.out.1) (T2_2.out.2)).mono ?_
  rintro e v3 ⟨a3, n3, c3, rfl, H3⟩
  obtain ⟨U3, y3, hU3, hy3, HB3, HZ3⟩ := box_zero v3
  go_wp2_with (first
    | ((with_reducible show wpList _ _ _ _ _ y3); refine store_jo rfl _ _ rfl U3 rfl j3 a3 n3 c3 rfl zJ (.slice none 0 0) HZ3.out ?_; intro w3 h3 g3; have L3 : Hid (Below w2.heap.size w2 w3 ∧ Below v3.heap.size v3 w3) := Lib.hid (by have hb := below_of_only HB3.out.1 (Nat.le_of_eq hU3) g3; exact ⟨below_then H3.out.2.2 hb, hb⟩); have HU3_3 := Lib.hid h3; have T3_3 : Hid (JIn w3 a3 n3 [] ∧ n3 ≤ 1024) := Lib.hid ⟨H3.out.1.under L3.out.2, H3.out.2.1⟩; have HU1_3 := Lib.hid (has_under HU1_2.out L3.out.1); have T1_3 : Hid (JIn w3 a1 n1 [] ∧ n1 ≤ 1024) := Lib.hid ⟨T1_2.out.1.under L3.out.1, T1_2.out.2⟩; have HU2_3 := Lib.hid (has_under HU2_2.out L3.out.1); have T2_3 : Hid (JIn w3 a2 n2 [] ∧ n2 ≤ 1024) := Lib.hid ⟨T2_2.out.1.under L3.out.1, T2_2.out.2⟩; clear h3 g3 hy3)
    | ((with_reducible show wpList _ _ _ _ _ w3); refine load_jo rfl _ rfl U3 rfl j3 (.slice a3 n3 c3) HU3_3.out ?_))
  refine (aw4 a3 n3 c3 w3 (T3_3.out.1) (T3_3.out.2)).mono ?_
  rintro e v4 ⟨a4, n4, c4, rfl, H4⟩
  obtain ⟨U4, y4, hU4, hy4, HB4, HZ4⟩ := box_zero v4
  go_wp2_with (first
    | ((with_reducible show wpList _ _ _ _ _ y4); refine store_jo rfl _ _ rfl U4 rfl j4 a4 n4 c4 rfl zJ (.slice none 0 0) HZ4.out ?_; intro w4 h4 g4; have L4 : Hid (Below w3.heap.size w3 w4 ∧ Below v4.heap.size v4 w4) := Lib.hid (by have hb := below_of_only HB4.out.1 (Nat.le_of_eq hU4) g4; exact ⟨below_then H4.out.2.2 hb, hb⟩); have HU4_4 := Lib.hid h4; have T4_4 : Hid (JIn w4 a4 n4 [] ∧ n4 ≤ 1024) := Lib.hid ⟨H4.out.1.under L4.out.2, H4.out.2.1⟩; have HU1_4 := Lib.hid (has_under HU1_3.out L4.out.1); have T1_4 : Hid (JIn w4 a1 n1 [] ∧ n1 ≤ 1024) := Lib.hid ⟨T1_3.out.1.under L4.out.1, T1_3.out.2⟩; have HU2_4 := Lib.hid (has_under HU2_3.out L4.out.1); have T2_4 : Hid (JIn w4 a2 n2 [] ∧ n2 ≤ 1024) := Lib.hid ⟨T2_3.out.1.under L4.out.1, T2_3.out.2⟩; have HU3_4 := Lib.hid (has_under HU3_3.out L4.out.1); have T3_4 : Hid (JIn w4 a3 n3 [] ∧ n3 ≤ 1024) := Lib.hid ⟨T3_3.out.1.under L4.out.1, T3_3.out.2⟩; clear h4 g4 hy4)
    | ((with_reducible show wpList _ _ _ _ _ w4); refine load_jo rfl _ rfl U4 rfl j4 (.slice a4 n4 c4) HU4_4.out ?_))
  refine (aw5 a4 n4 c4 w4 (T4_4.out.1) (T4_4.out.2)).mono ?_
  rintro e v5 ⟨a5, n5, c5, rfl, H5⟩
  obtain ⟨U5, y5, hU5, hy5, HB5, HZ5⟩ := box_zero v5
  go_wp2_with (first
    | ((with_reducible show wpList _ _ _ _ _ y5); refine store_jo rfl _ _ rfl U5 rfl zJ a5 n5 c5 rfl zJ (.slice none 0 0) HZ5.out ?_; intro w5 h5 g5; have L5 : Hid (Below w4.heap.size w4 w5 ∧ Below v5.heap.size v5 w5) := Lib.hid (by have hb := below_of_only HB5.out.1 (Nat.le_of_eq hU5) g5; exact ⟨below_then H5.out.2.2 hb, hb⟩); have HU5_5 := Lib.hid h5; have T5_5 : Hid (JIn w5 a5 n5 [] ∧ n5 ≤ 1024) := Lib.hid ⟨H5.out.1.under L5.out.2, H5.out.2.1⟩; have HU1_5 := Lib.hid (has_under HU1_4.out L5.out.1); have T1_5 : Hid (JIn w5 a1 n1 [] ∧ n1 ≤ 1024) := Lib.hid ⟨T1_4.out.1.under L5.out.1, T1_4.out.2⟩; have HU2_5 := Lib.hid (has_under HU2_4.out L5.out.1); have T2_5 : Hid (JIn w5 a2 n2 [] ∧ n2 ≤ 1024) := Lib.hid ⟨T2_4.out.1.under L5.out.1, T2_4.out.2⟩; have HU3_5 := Lib.hid (has_under HU3_4.out L5.out.1); have T3_5 : Hid (JIn w5 a3 n3 [] ∧ n3 ≤ 1024) := Lib.hid ⟨T3_4.out.1.under L5.out.1, T3_4.out.2⟩; have HU4_5 := Lib.hid (has_under HU4_4.out L5.out.1); have T4_5 : Hid (JIn w5 a4 n4 [] ∧ n4 ≤ 1024) := Lib.hid ⟨T4_4.out.1.under L5.out.1, T4_4.out.2⟩; clear h5 g5 hy5)
    | ((with_reducible show wpList _ _ _ _ _ w5); refine load_jo rfl _ rfl U4 rfl j4 (.slice a4 n4 c4) HU4_5.out ?_))
  refine (aw6 a4 n4 c4 w5 (T4_5.out.1) (T4_5.out.2)).mono ?_
  rintro e v6 ⟨a6, n6, c6, rfl, H6⟩
  obtain ⟨U6, y6, hU6, hy6, HB6, HZ6⟩ := box_zero v6
  go_wp2_with (first
    | ((with_reducible show wpList _ _ _ _ _ y6); refine store_jo rfl _ _ rfl U6 rfl j6 a6 n6 c6 rfl zJ (.slice none 0 0) HZ6.out ?_; intro w6 h6 g6; have L6 : Hid (Below w5.heap.size w5 w6 ∧ Below v6.heap.size v6 w6) := Lib.hid (by have hb := below_of_only HB6.out.1 (Nat.le_of_eq hU6) g6; exact ⟨below_then H6.out.2.2 hb, hb⟩); have HU6_6 := Lib.hid h6; have T6_6 : Hid (JIn w6 a6 n6 [] ∧ n6 ≤ 1024) := Lib.hid ⟨H6.out.1.under L6.out.2, H6.out.2.1⟩; have HU1_6 := Lib.hid (has_under HU1_5.out L6.out.1); have T1_6 : Hid (JIn w6 a1 n1 [] ∧ n1 ≤ 1024) := Lib.hid ⟨T1_5.out.1.under L6.out.1, T1_5.out.2⟩; have HU2_6 := Lib.hid (has_under HU2_5.out L6.out.1); have T2_6 : Hid (JIn w6 a2 n2 [] ∧ n2 ≤ 1024) := Lib.hid ⟨T2_5.out.1.under L6.out.1, T2_5.out.2⟩; have HU3_6 := Lib.hid (has_under HU3_5.out L6.out.1); have T3_6 : Hid (JIn w6 a3 n3 [] ∧ n3 ≤ 1024) := Lib.hid ⟨T3_5.out.1.under L6.out.1, T3_5.out.2⟩; have HU4_6 := Lib.hid (has_under HU4_5.out L6.out.1); have T4_6 : Hid (JIn w6 a4 n4 [] ∧ n4 ≤ 1024) := Lib.hid ⟨T4_5.out.1.under L6.out.1, T4_5.out.2⟩; have HU5_6 := Lib.hid (has_under HU5_5.out L6.out.1); have T5_6 : Hid (JIn w6 a5 n5 [] ∧ n5 ≤ 1024) := Lib.hid ⟨T5_5.out.1.under L6.out.1, T5_5.out.2⟩; clear h6 g6 hy6)
    | ((with_reducible show wpList _ _ _ _ _ w6); refine load_jo rfl _ rfl U6 rfl j6 (.slice a6 n6 c6) HU6_6.out ?_))
  refine (aw7 a6 n6 c6 w6 (T6_6.out.1) (T6_6.out.2)).mono ?_
  rintro e v7 ⟨a7, n7, c7, rfl, H7⟩
  obtain ⟨U7, y7, hU7, hy7, HB7, HZ7⟩ := box_zero v7
  go_wp2_with (first
    | ((with_reducible show wpList _ _ _ _ _ y7); refine store_jo rfl _ _ rfl U7 rfl j7 a7 n7 c7 rfl zJ (.slice none 0 0) HZ7.out ?_; intro w7 h7 g7; have L7 : Hid (Below w6.heap.size w6 w7 ∧ Below v7.heap.size v7 w7) := Lib.hid (by have hb := below_of_only HB7.out.1 (Nat.le_of_eq hU7) g7; exact ⟨below_then H7.out.2.2 hb, hb⟩); have HU7_7 := Lib.hid h7; have T7_7 : Hid (JIn w7 a7 n7 [] ∧ n7 ≤ 1024) := Lib.hid ⟨H7.out.1.under L7.out.2, H7.out.2.1⟩; have HU1_7 := Lib.hid (has_under HU1_6.out L7.out.1); have T1_7 : Hid (JIn w7 a1 n1 [] ∧ n1 ≤ 1024) := Lib.hid ⟨T1_6.out.1.under L7.out.1, T1_6.out.2⟩; have HU2_7 := Lib.hid (has_under HU2_6.out L7.out.1); have T2_7 : Hid (JIn w7 a2 n2 [] ∧ n2 ≤ 1024) := Lib.hid ⟨T2_6.out.1.under L7.out.1, T2_6.out.2⟩; have HU3_7 := Lib.hid (has_under HU3_6.out L7.out.1); have T3_7 : Hid (JIn w7 a3 n3 [] ∧ n3 ≤ 1024) := Lib.hid ⟨T3_6.out.1.under L7.out.1, T3_6.out.2⟩; have HU4_7 := Lib.hid (has_under HU4_6.out L7.out.1); have T4_7 : Hid (JIn w7 a4 n4 [] ∧ n4 ≤ 1024) := Lib.hid ⟨T4_6.out.1.under L7.out.1, T4_6.out.2⟩; have HU5_7 := Lib.hid (has_under HU5_6.out L7.out.1); have T5_7 : Hid (JIn w7 a5 n5 [] ∧ n5 ≤ 1024) := Lib.hid ⟨T5_6.out.1.under L7.out.1, T5_6.out.2⟩; have HU6_7 := Lib.hid (has_under HU6_6.out L7.out.1); have T6_7 : Hid (JIn w7 a6 n6 [] ∧ n6 ≤ 1024) := Lib.hid ⟨T6_6.out.1.under L7.out.1, T6_6.out.2⟩; have q1 : w7.cell? ⟨U1, 14, none⟩ = some (.int .i64 15) := cell_block (j := 14) HU1_7.out rfl; have q2 : w7.cell? ⟨U2, 15, none⟩ = some (.int .i64 7) := cell_block (j := 15) HU2_7.out rfl; have q4 : w7.cell? ⟨U4, 14, none⟩ = some (.int .i64 27) := cell_block (j := 14) HU4_7.out rfl; have q6 : w7.cell? ⟨U6, 12, none⟩ = some (.int .i64 4) := cell_block (j := 12) HU6_7.out rfl; have q7 : w7.cell? ⟨U7, 12, none⟩ = some (.int .i64 5) := cell_block (j := 12) HU7_7.out rfl; clear h7 g7 hy7)
    | ((with_reducible show wpList _ _ _ _ _ w7); refine load_joG rfl _ rfl U7 rfl j7 (.slice a7 n7 c7) HU7_7.out ?_))
  refine (aw8 _ w7).mono ?_
  rintro e w8 ⟨rfl, G8⟩
  have K8 := Lib.hid (has_under HU6_7.out G8.out)
  go_wp2_with (refine load_joG rfl _ rfl U6 rfl j6 (.slice a6 n6 c6) K8.out ?_)
  refine (aw9 _ w8).mono ?_
  rintro e w9 ⟨rfl, G9⟩
  go_wp2_with fail
  go_ret
  exact ⟨rfl, Lib.hid (below_then (below_then (below_then (below_then (below_then (below_then (below_then (below_then (below_then P0.out L1.out.1) L2.out.1) L3.out.1) L4.out.1) L5.out.1) L6.out.1) L7.out.1) G8.out) G9.out)⟩
end Go.Proofs.Ytghlgmlelipjfaa.Job.Im
namespace Go.Proofs.Ytghlgmlelipjfaa.Job
open Go.RowKit Go.Lib
open Goods (St Sts OwnS)

theorem putV_size (j : JS) : (putV j).size ≤ 1000 := by
  by_cases h : chk j = 0
  · have h3 := (ok_pos (chk_zero h)).2.2.1
    rw [(put_yes h).1]
    have h1 := numsB_size (ints j)
    have h2 := intsS_length j.s
    have hL : (ints j).length ≤ 40 := by
      simp [ints, front, back]
      omega
    omega
  · rw [(put_no h).1]
    exact Nat.zero_le _
set_option maxRecDepth 100000 in
set_option maxHeartbeats 32000000 in
theorem jobBytes_in (j : JS) (a : Option Addr) (n c : Nat) (S : ByteArray) (w : World) (h : JIn w a n j.s) (hn : n ≤ 9223372036854775807) (hS : S.size ≤ 9223372036854775807) :
    Calls Try.prog 4 #[jV j (.slice a n c), .string S] w fun e w' => e = .returned (.bool true) ∧ Below w.heap.size w w' := by
  obtain ⟨V, X, hV, hX, HXB, HH⟩ := box_jo w j (.slice a n c)
  have k11 : X.cell? ⟨V, 11, none⟩ = some (.slice a n c) := cell_block (j := 11) HH.out rfl
  have HAW : Hid (∀ W, Calls Try.prog 6 #[] W fun e w' => e = .returned (.bool true) ∧ Hid (Below W.heap.size W w')) := Lib.hid fun W => Im.awake_im W
  have hS2 : (S.size : Int) ≤ 9223372036854775807 := by omega
  have hn2 : (n : Int) ≤ 9223372036854775807 := by omega
  by_cases hb : 12 < n
  · have d1 : decide ((12 : Int) < (n : Int)) = true := by simp; omega
    have d2 : decide (12 < n) = true := by simp; omega
    have d3 : (12 : Int) < (n : Int) := by omega
    clear h hn hb hS hS2 hn2
    go_enter Try.func4, Try.ntmps4
    go_wp2_with fail
    clear hV hX
    refine (HAW.out _).mono ?_
    rintro e w1 ⟨rfl, H1⟩
    go_wp2_with fail
    go_ret
    exact ⟨rfl, below_then HXB.out.1 H1.out⟩
  have d1 : decide ((12 : Int) < (n : Int)) = false := by simp; omega
  have d2 : decide (12 < n) = false := by simp; omega
  have d3 : ¬ (12 : Int) < (n : Int) := by omega
  by_cases hc : 512 < S.size
  · have e1 : decide ((512 : Int) < (S.size : Int)) = true := by simp; omega
    have e2 : decide (512 < S.size) = true := by simp; omega
    have e3 : (512 : Int) < (S.size : Int) := by omega
    clear h hn hb hS hS2 hn2 hc
    go_enter Try.func4, Try.ntmps4
    go_wp2_with fail
    clear hV hX
    refine (HAW.out _).mono ?_
    rintro e w1 ⟨rfl, H1⟩
    go_wp2_with fail
    go_ret
    exact ⟨rfl, below_then HXB.out.1 H1.out⟩
  have e1 : decide ((512 : Int) < (S.size : Int)) = false := by simp; omega
  have e2 : decide (512 < S.size) = false := by simp; omega
  have e3 : ¬ (512 : Int) < (S.size : Int) := by omega
  have HJ : Hid (∀ W, Below X.heap.size X W → JIn W a n j.s ∧ n ≤ 12 ∧ Has W V j (.slice a n c) ∧ Below w.heap.size w W) := Lib.hid fun W hW => ⟨(h.under HXB.out.1).under hW, by omega, has_under HH.out hW, below_then HXB.out.1 hW⟩
  obtain ⟨PV, hPV⟩ : ∃ v, putV j = v := ⟨_, rfl⟩
  obtain ⟨PE, hPE⟩ : ∃ v, putE j = v := ⟨_, rfl⟩
  obtain ⟨TV, hTV⟩ : ∃ v, takV S = v := ⟨_, rfl⟩
  obtain ⟨TE, hTE⟩ : ∃ v, takE S = v := ⟨_, rfl⟩
  obtain ⟨BV, hBV⟩ : ∃ v, takV PV = v := ⟨_, rfl⟩
  obtain ⟨BE, hBE⟩ : ∃ v, takE PV = v := ⟨_, rfl⟩
  obtain ⟨QV, hQV⟩ : ∃ v, putV TV = v := ⟨_, rfl⟩
  obtain ⟨QE, hQE⟩ : ∃ v, putE TV = v := ⟨_, rfl⟩
  have HPB : Hid (PE = 0 → BE = 0 ∧ BV = j) := Lib.hid fun h => by
    rw [← hPE] at h
    have := tak_put h
    rw [hPV, hBE, hBV] at this
    exact this
  have HTQ : Hid (TE = 0 → QE = 0 ∧ QV = S) := Lib.hid fun h => by
    rw [← hTE] at h
    have := put_tak h
    rw [hTV, hQV, hQE] at this
    exact this
  have hpz : PV.size ≤ 1000 := by rw [← hPV]; exact putV_size j
  have HPUT : Hid (∀ W, Below X.heap.size X W → Calls Try.prog 16 #[jV j (.slice a n c)] W fun e w' => e = .returned (.tuple #[.string PV, .int .i64 PE]) ∧ Hid (Below W.heap.size W w')) := Lib.hid fun W hW => by
    rw [← hPV, ← hPE]
    exact Im.put_im j a n c W (HJ.out W hW).1 (HJ.out W hW).2.1
  have HDPUT : Hid (∀ W, Below X.heap.size X W → Calls Try.prog 17 #[jV j (.slice a n c)] W fun e w' => e = .returned (.tuple #[.string PV, .int .i64 PE]) ∧ Hid (Below W.heap.size W w')) := Lib.hid fun W hW => by
    rw [← hPV, ← hPE]
    exact dput j a n c W (HJ.out W hW).1 (by have := (HJ.out W hW).2.1; omega)
  have HTAKE : Hid (∀ W, Calls Try.prog 18 #[.string S] W fun e w' => ∃ a m c, e = .returned (.tuple #[jV TV (.slice a m c), .int .i64 TE]) ∧ Hid (JIn w' a m TV.s ∧ m ≤ 8 ∧ Below W.heap.size W w')) := Lib.hid fun W => by
    rw [← hTV, ← hTE]
    exact Im.take_im S W (by omega)
  have HDTAKE : Hid (∀ W, Calls Try.prog 19 #[.string S] W fun e w' => ∃ a m c, e = .returned (.tuple #[jV TV (.slice a m c), .int .i64 TE]) ∧ Hid (JIn w' a m TV.s ∧ m ≤ 8 ∧ Below W.heap.size W w')) := Lib.hid fun W => by
    rw [← hTV, ← hTE]
    exact dtake S W (by omega)
  have HBACK : Hid (∀ W, Calls Try.prog 18 #[.string PV] W fun e w' => ∃ a m c, e = .returned (.tuple #[jV BV (.slice a m c), .int .i64 BE]) ∧ Hid (JIn w' a m BV.s ∧ m ≤ 8 ∧ Below W.heap.size W w')) := Lib.hid fun W => by
    rw [← hBV, ← hBE]
    exact Im.take_im PV W (by omega)
  have HPAG : Hid (∀ W a m c, JIn W a m TV.s → m ≤ 8 → Calls Try.prog 16 #[jV TV (.slice a m c)] W fun e w' => e = .returned (.tuple #[.string QV, .int .i64 QE]) ∧ Hid (Below W.heap.size W w')) := Lib.hid fun W a m c h1 h2 => by
    rw [← hQV, ← hQE]
    exact Im.put_im TV a m c W h1 (by omega)
  clear h hn hb hS hS2 hn2 hc hPV hPE hTV hTE hBV hBE hQV hQE hpz
  go_enter Try.func4, Try.ntmps4
  go_wp2_with ((with_reducible show wpList _ _ _ (Oper.mk (some 28) _ _ _ _ _ :: _) _ X); refine load_jo rfl _ rfl V rfl j (.slice a n c) HH.out ?_)
  clear hV hX k11 e1 e2 e3 d1 d2 d3
  refine (HPUT.out X (Below.refl _ _)).mono ?_
  rintro e w1 ⟨rfl, H1⟩
  have HHV := (HJ.out w1 H1.out).2.2.1
  go_wp2_with ((with_reducible show wpList _ _ _ (Oper.mk (some 33) _ _ _ _ _ :: _) _ w1); refine load_jo rfl _ rfl V rfl j (.slice a n c) HHV ?_)
  clear HHV
  refine (HDPUT.out w1 H1.out).mono ?_
  rintro e w2 ⟨rfl, H2⟩
  have B2 : Hid (Below X.heap.size X w2) := Lib.hid (below_then H1.out H2.out)
  go_wp2_with fail
  refine (HTAKE.out w2).mono ?_
  rintro e v3 ⟨a3, m3, c3, rfl, H3⟩
  obtain ⟨U9, y3, hU9, hy3, HB3, HZ3⟩ := box_zero v3
  go_wp2_with ((with_reducible show wpList _ _ _ (Oper.mk none _ _ _ _ _ :: _) _ y3); refine store_jo rfl _ _ rfl U9 rfl TV a3 m3 c3 rfl zJ (.slice none 0 0) HZ3.out ?_; intro w3 h3 g3; have L3 : Hid (Below v3.heap.size v3 w3 ∧ Has w3 U9 TV (.slice a3 m3 c3)) := Lib.hid ⟨below_of_only HB3.out.1 (Nat.le_of_eq hU9) g3, h3⟩; clear h3 g3 hy3 hU9)
  have B3 : Hid (Below X.heap.size X w3 ∧ JIn w3 a3 m3 TV.s ∧ m3 ≤ 8) := Lib.hid ⟨below_then B2.out (below_then H3.out.2.2 L3.out.1), H3.out.1.under L3.out.1, H3.out.2.1⟩
  refine (HDTAKE.out w3).mono ?_
  rintro e v4 ⟨a4, m4, c4, rfl, H4⟩
  obtain ⟨U11, y4, hU11, hy4, HB4, HZ4⟩ := box_zero v4
  have en : (PE != PE) = false := by simp
  have tn : (TE != TE) = false := by simp
  go_wp2_with (first
    | ((with_reducible show wpList _ _ _ (Oper.mk none _ _ _ _ _ :: _) _ y4); refine store_jo rfl _ _ rfl U11 rfl TV a4 m4 c4 rfl zJ (.slice none 0 0) HZ4.out ?_; intro w4 h4 g4; have L4 : Hid (Below w3.heap.size w3 w4 ∧ Has w4 U11 TV (.slice a4 m4 c4) ∧ JIn w4 a4 m4 TV.s ∧ m4 ≤ 8) := Lib.hid (by have hb := below_of_only HB4.out.1 (Nat.le_of_eq hU11) g4; exact ⟨below_then H4.out.2.2 hb, h4, H4.out.1.under hb, H4.out.2.1⟩); have K4 : Hid (Has w4 U9 TV (.slice a3 m3 c3) ∧ JIn w4 a3 m3 TV.s ∧ Below X.heap.size X w4) := Lib.hid ⟨has_under L3.out.2 L4.out.1, B3.out.2.1.under L4.out.1, below_then B3.out.1 L4.out.1⟩; clear h4 g4 hy4 hU11)
    | ((with_reducible show wpList _ _ _ (Oper.mk (some 56) _ _ _ _ _ :: _) _ w4); refine load_joG rfl _ rfl U9 rfl TV (.slice a3 m3 c3) K4.out.1 ?_)
    | ((with_reducible show wpList _ _ _ (Oper.mk (some 57) _ _ _ _ _ :: _) _ w4); refine load_joG rfl _ rfl U11 rfl TV (.slice a4 m4 c4) L4.out.2.1 ?_))
  refine (dsame_jo TV a3 m3 c3 a4 m4 c4 w4 K4.out.2.1 (by have := B3.out.2.2; omega) L4.out.2.2.1 (by have := L4.out.2.2.2; omega)).mono ?_
  rintro e w5 ⟨rfl, H5⟩
  have B5 : Hid (Below X.heap.size X w5 ∧ Has w5 U9 TV (.slice a3 m3 c3) ∧ JIn w5 a3 m3 TV.s) := Lib.hid ⟨below_then K4.out.2.2 H5.out, has_under K4.out.1 H5.out, K4.out.2.1.under H5.out⟩
  go_wp2_with fail
  refine (HBACK.out w5).mono ?_
  rintro e v6 ⟨a6, m6, c6, rfl, H6⟩
  obtain ⟨U13, y6, hU13, hy6, HB6, HZ6⟩ := box_zero v6
  go_wp2_with (first
    | ((with_reducible show wpList _ _ _ (Oper.mk none _ _ _ _ _ :: _) _ y6); refine store_jo rfl _ _ rfl U13 rfl BV a6 m6 c6 rfl zJ (.slice none 0 0) HZ6.out ?_; intro w6 h6 g6; have L6 : Hid (Below w5.heap.size w5 w6 ∧ Has w6 U13 BV (.slice a6 m6 c6) ∧ JIn w6 a6 m6 BV.s ∧ m6 ≤ 8) := Lib.hid (by have hb := below_of_only HB6.out.1 (Nat.le_of_eq hU13) g6; exact ⟨below_then H6.out.2.2 hb, h6, H6.out.1.under hb, H6.out.2.1⟩); have K6 : Hid (Has w6 U9 TV (.slice a3 m3 c3) ∧ JIn w6 a3 m3 TV.s ∧ Below X.heap.size X w6) := Lib.hid ⟨has_under B5.out.2.1 L6.out.1, B5.out.2.2.under L6.out.1, below_then B5.out.1 L6.out.1⟩; clear h6 g6 hy6 hU13)
    | ((with_reducible show wpList _ _ _ (Oper.mk (some 72) _ _ _ _ _ :: _) _ w6); refine load_jo rfl _ rfl U9 rfl TV (.slice a3 m3 c3) K6.out.1 ?_))
  refine (HPAG.out w6 a3 m3 c3 K6.out.2.1 B3.out.2.2).mono ?_
  rintro e w7 ⟨rfl, H7⟩
  have K7 : Hid (Has w7 U13 BV (.slice a6 m6 c6) ∧ JIn w7 a6 m6 BV.s ∧ Below X.heap.size X w7) := Lib.hid ⟨has_under L6.out.2.1 H7.out, L6.out.2.2.1.under H7.out, below_then K6.out.2.2 H7.out⟩
  clear en tn
  by_cases hp : PE = 0
  · obtain ⟨hp1, hp2⟩ := HPB.out hp
    subst hp1 hp2 hp
    have K8 := Lib.hid (HJ.out w7 K7.out.2.2)
    by_cases ht : TE = 0
    · obtain ⟨ht1, ht2⟩ := HTQ.out ht
      subst ht1 ht2 ht
      go_wp2_with (first
      | ((with_reducible show wpList _ _ _ (Oper.mk (some 82) _ _ _ _ _ :: _) _ w7); refine load_joG rfl _ rfl U13 rfl BV (.slice a6 m6 c6) K7.out.1 ?_)
      | ((with_reducible show wpList _ _ _ (Oper.mk (some 83) _ _ _ _ _ :: _) _ w7); refine load_joG rfl _ rfl V rfl BV (.slice a n c) K8.out.2.2.1 ?_))
      refine (dsame_jo BV a6 m6 c6 a n c w7 K7.out.2.1 (by have := L6.out.2.2.2; omega) K8.out.1 (by have := K8.out.2.1; omega)).mono ?_
      rintro e w8 ⟨rfl, H8⟩
      go_wp2_with fail
      refine (HAW.out _).mono ?_
      rintro e w9 ⟨rfl, H9⟩
      go_wp2_with fail
      go_ret
      exact ⟨rfl, below_then (HJ.out _ (below_then K7.out.2.2 H8.out)).2.2.2 H9.out⟩
    · have tn : (TE != 0) = true := by simpa using ht
      clear ht
      go_wp2_with (first
      | ((with_reducible show wpList _ _ _ (Oper.mk (some 82) _ _ _ _ _ :: _) _ w7); refine load_joG rfl _ rfl U13 rfl BV (.slice a6 m6 c6) K7.out.1 ?_)
      | ((with_reducible show wpList _ _ _ (Oper.mk (some 83) _ _ _ _ _ :: _) _ w7); refine load_joG rfl _ rfl V rfl BV (.slice a n c) K8.out.2.2.1 ?_))
      refine (dsame_jo BV a6 m6 c6 a n c w7 K7.out.2.1 (by have := L6.out.2.2.2; omega) K8.out.1 (by have := K8.out.2.1; omega)).mono ?_
      rintro e w8 ⟨rfl, H8⟩
      go_wp2_with fail
      refine (HAW.out _).mono ?_
      rintro e w9 ⟨rfl, H9⟩
      go_wp2_with fail
      go_ret
      exact ⟨rfl, below_then (HJ.out _ (below_then K7.out.2.2 H8.out)).2.2.2 H9.out⟩
  · have pn : (PE != 0) = true := by simpa using hp
    clear hp
    by_cases ht : TE = 0
    · obtain ⟨ht1, ht2⟩ := HTQ.out ht
      subst ht1 ht2 ht
      go_wp2_with fail
      refine (HAW.out _).mono ?_
      rintro e w9 ⟨rfl, H9⟩
      go_wp2_with fail
      go_ret
      exact ⟨rfl, below_then (HJ.out _ K7.out.2.2).2.2.2 H9.out⟩
    · have tn : (TE != 0) = true := by simpa using ht
      clear ht
      go_wp2_with fail
      refine (HAW.out _).mono ?_
      rintro e w9 ⟨rfl, H9⟩
      go_wp2_with fail
      go_ret
      exact ⟨rfl, below_then (HJ.out _ K7.out.2.2).2.2.2 H9.out⟩
end Go.Proofs.Ytghlgmlelipjfaa.Job
