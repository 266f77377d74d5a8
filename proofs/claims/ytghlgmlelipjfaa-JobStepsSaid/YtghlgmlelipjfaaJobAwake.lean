/- What must come, whatever the arguments are. -/
import Derived.Test.YtghlgmlelipjfaaJobAw
namespace Go.Proofs.Ytghlgmlelipjfaa.Job.Im
open Go.RowKit Go.Lib
open Goods (St Sts OwnS)

set_option maxRecDepth 100000 in
set_option maxHeartbeats 16000000 in
theorem awake_im (w : World) : Calls Try.prog 6 #[] w fun e w' => e = .returned (.bool true) ∧ Hid (Below w.heap.size w w') := by
  go_enter Try.func6, Try.ntmps6
  go_wp2_with fail
  refine (plain_im w).mono ?_
  rintro e w0 ⟨rfl, P0⟩
  go_wp2_with fail
  refine (aw1 none 0 0 w0 (JIn.nil _) (by omega)).mono ?_
  rintro e v1 ⟨a1, n1, c1, rfl, H1⟩
  obtain ⟨U1, y1, hU1, hy1, HB1, HZ1⟩ := box_zero v1
  go_wp2_with (first
    | ((with_reducible show wpList _ _ _ _ _ y1); refine store_jo rfl _ _ rfl U1 rfl j1 a1 n1 c1 rfl zJ (.slice none 0 0) HZ1.out ?_; intro w1 h1 g1; have L1 : Hid (Below w0.heap.size w0 w1 ∧ Below v1.heap.size v1 w1) := Lib.hid (by have hb := below_of_only HB1.out.1 (Nat.le_of_eq hU1) g1; exact ⟨below_then H1.out.2.2 hb, hb⟩); have HU1_1 := Lib.hid h1; have T1_1 : Hid (JIn w1 a1 n1 [] ∧ n1 ≤ 1024) := Lib.hid ⟨H1.out.1.under L1.out.2, H1.out.2.1⟩; clear h1 g1 hy1)
    | ((with_reducible show wpList _ _ _ _ _ w1); refine load_jo rfl _ rfl U1 rfl j1 (.slice a1 n1 c1) HU1_1.out ?_))
  refine (aw2 a1 n1 c1 w1 (T1_1.out.1) (T1_1.out.2)).mono ?_
  rintro e v2 ⟨a2, n2, c2, rfl, H2⟩
  obtain ⟨U2, y2, hU2, hy2, HB2, HZ2⟩ := box_zero v2
  go_wp2_with (first
    | ((with_reducible show wpList _ _ _ _ _ y2); refine store_jo rfl _ _ rfl U2 rfl j2 a2 n2 c2 rfl zJ (.slice none 0 0) HZ2.out ?_; intro w2 h2 g2; have L2 : Hid (Below w1.heap.size w1 w2 ∧ Below v2.heap.size v2 w2) := Lib.hid (by have hb := below_of_only HB2.out.1 (Nat.le_of_eq hU2) g2; exact ⟨below_then H2.out.2.2 hb, hb⟩); have HU2_2 := Lib.hid h2; have T2_2 : Hid (JIn w2 a2 n2 [] ∧ n2 ≤ 1024) := Lib.hid ⟨H2.out.1.under L2.out.2, H2.out.2.1⟩; have HU1_2 := Lib.hid (has_under HU1_1.out L2.out.1); have T1_2 : Hid (JIn w2 a1 n1 [] ∧ n1 ≤ 1024) := Lib.hid ⟨T1_1.out.1.under L2.out.1, T1_1.out.2⟩; clear h2 g2 hy2)
    | ((with_reducible show wpList _ _ _ _ _ w2); refine load_jo rfl _ rfl U2 rfl j2 (.slice a2 n2 c2) HU2_2.out ?_))
  refine (aw3 a2 n2 c2 w2 (T2_2.out.1) (T2_2.out.2)).mono ?_
  rintro e v3 ⟨a3, n3, c3, rfl, H3⟩
  obtain ⟨U3, y3, hU3, hy3, HB3, HZ3⟩ := box_zero v3
  go_wp2_with (first
    | ((with_reducible show wpList _ _ _ _ _ y3); refine store_jo rfl _ _ rfl U3 rfl j3 a3 n3 c3 rfl zJ (.slice none 0 0) HZ3.out ?_; intro w3 h3 g3; have L3 : Hid (Below w2.heap.size w2 w3 ∧ Below v3.heap.size v3 w3) := Lib.hid (by have hb := below_of_only HB3.out.1 (Nat.le_of_eq hU3) g3; exact ⟨below_then H3.out.2.2 hb, hb⟩); have HU3_3 := Lib.hid h3; have T3_3 : Hid (JIn w3 a3 n3 [] ∧ n3 ≤ 1024) := Lib.hid ⟨H3.out.1.under L3.out.2, H3.out.2.1⟩; have HU1_3 := Lib.hid (has_under HU1_2.out L3.out.1); have T1_3 : Hid (JIn w3 a1 n1 [] ∧ n1 ≤ 1024) := Lib.hid ⟨T1_2.out.1.under L3.out.1, T1_2.out.2⟩; have HU2_3 := Lib.hid (has_under HU2_2.out L3.out.1); have T2_3 : Hid (JIn w3 a2 n2 [] ∧ n2 ≤ 1024) := Lib.hid ⟨T2_2.out.1.under L3.out.1, T2_2.out.2⟩; clear h3 g3 hy3)
    | ((with_reducible show wpList _ _ _ _ _ w3); refine load_jo rfl _ rfl U3 rfl j3 (.slice a3 n3 c3) HU3_3.out ?_))
  refine (aw4 a3 n3 c3 w3 (T3_3.out.1) (T3_3.out.2)).mono ?_
  rintro e v4 ⟨a4, n4, c4, rfl, H4⟩
  obtain ⟨U4, y4, hU4, hy4, HB4, HZ4⟩ := box_zero v4
  go_wp2_with (first
    | ((with_reducible show wpList _ _ _ _ _ y4); refine store_jo rfl _ _ rfl U4 rfl j4 a4 n4 c4 rfl zJ (.slice none 0 0) HZ4.out ?_; intro w4 h4 g4; have L4 : Hid (Below w3.heap.size w3 w4 ∧ Below v4.heap.size v4 w4) := Lib.hid (by have hb := below_of_only HB4.out.1 (Nat.le_of_eq hU4) g4; exact ⟨below_then H4.out.2.2 hb, hb⟩); have HU4_4 := Lib.hid h4; have T4_4 : Hid (JIn w4 a4 n4 [] ∧ n4 ≤ 1024) := Lib.hid ⟨H4.out.1.under L4.out.2, H4.out.2.1⟩; have HU1_4 := Lib.hid (has_under HU1_3.out L4.out.1); have T1_4 : Hid (JIn w4 a1 n1 [] ∧ n1 ≤ 1024) := Lib.hid ⟨T1_3.out.1.under L4.out.1, T1_3.out.2⟩; have HU2_4 := Lib.hid (has_under HU2_3.out L4.out.1); have T2_4 : Hid (JIn w4 a2 n2 [] ∧ n2 ≤ 1024) := Lib.hid ⟨T2_3.out.1.under L4.out.1, T2_3.out.2⟩; have HU3_4 := Lib.hid (has_under HU3_3.out L4.out.1); have T3_4 : Hid (JIn w4 a3 n3 [] ∧ n3 ≤ 1024) := Lib.hid ⟨T3_3.out.1.under L4.out.1, T3_3.out.2⟩; clear h4 g4 hy4)
    | ((with_reducible show wpList _ _ _ _ _ w4); refine load_jo rfl _ rfl U4 rfl j4 (.slice a4 n4 c4) HU4_4.out ?_))
  refine (aw5 a4 n4 c4 w4 (T4_4.out.1) (T4_4.out.2)).mono ?_
  rintro e v5 ⟨a5, n5, c5, rfl, H5⟩
  obtain ⟨U5, y5, hU5, hy5, HB5, HZ5⟩ := box_zero v5
  go_wp2_with (first
    | ((with_reducible show wpList _ _ _ _ _ y5); refine store_jo rfl _ _ rfl U5 rfl zJ a5 n5 c5 rfl zJ (.slice none 0 0) HZ5.out ?_; intro w5 h5 g5; have L5 : Hid (Below w4.heap.size w4 w5 ∧ Below v5.heap.size v5 w5) := Lib.hid (by have hb := below_of_only HB5.out.1 (Nat.le_of_eq hU5) g5; exact ⟨below_then H5.out.2.2 hb, hb⟩); have HU5_5 := Lib.hid h5; have T5_5 : Hid (JIn w5 a5 n5 [] ∧ n5 ≤ 1024) := Lib.hid ⟨H5.out.1.under L5.out.2, H5.out.2.1⟩; have HU1_5 := Lib.hid (has_under HU1_4.out L5.out.1); have T1_5 : Hid (JIn w5 a1 n1 [] ∧ n1 ≤ 1024) := Lib.hid ⟨T1_4.out.1.under L5.out.1, T1_4.out.2⟩; have HU2_5 := Lib.hid (has_under HU2_4.out L5.out.1); have T2_5 : Hid (JIn w5 a2 n2 [] ∧ n2 ≤ 1024) := Lib.hid ⟨T2_4.out.1.under L5.out.1, T2_4.out.2⟩; have HU3_5 := Lib.hid (has_under HU3_4.out L5.out.1); have T3_5 : Hid (JIn w5 a3 n3 [] ∧ n3 ≤ 1024) := Lib.hid ⟨T3_4.out.1.under L5.out.1, T3_4.out.2⟩; have HU4_5 := Lib.hid (has_under HU4_4.out L5.out.1); have T4_5 : Hid (JIn w5 a4 n4 [] ∧ n4 ≤ 1024) := Lib.hid ⟨T4_4.out.1.under L5.out.1, T4_4.out.2⟩; clear h5 g5 hy5)
    | ((with_reducible show wpList _ _ _ _ _ w5); refine load_jo rfl _ rfl U4 rfl j4 (.slice a4 n4 c4) HU4_5.out ?_))
  refine (aw6 a4 n4 c4 w5 (T4_5.out.1) (T4_5.out.2)).mono ?_
  rintro e v6 ⟨a6, n6, c6, rfl, H6⟩
  obtain ⟨U6, y6, hU6, hy6, HB6, HZ6⟩ := box_zero v6
  go_wp2_with (first
    | ((with_reducible show wpList _ _ _ _ _ y6); refine store_jo rfl _ _ rfl U6 rfl j6 a6 n6 c6 rfl zJ (.slice none 0 0) HZ6.out ?_; intro w6 h6 g6; have L6 : Hid (Below w5.heap.size w5 w6 ∧ Below v6.heap.size v6 w6) := Lib.hid (by have hb := below_of_only HB6.out.1 (Nat.le_of_eq hU6) g6; exact ⟨below_then H6.out.2.2 hb, hb⟩); have HU6_6 := Lib.hid h6; have T6_6 : Hid (JIn w6 a6 n6 [] ∧ n6 ≤ 1024) := Lib.hid ⟨H6.out.1.under L6.out.2, H6.out.2.1⟩; have HU1_6 := Lib.hid (has_under HU1_5.out L6.out.1); have T1_6 : Hid (JIn w6 a1 n1 [] ∧ n1 ≤ 1024) := Lib.hid ⟨T1_5.out.1.under L6.out.1, T1_5.out.2⟩; have HU2_6 := Lib.hid (has_under HU2_5.out L6.out.1); have T2_6 : Hid (JIn w6 a2 n2 [] ∧ n2 ≤ 1024) := Lib.hid ⟨T2_5.out.1.under L6.out.1, T2_5.out.2⟩; have HU3_6 := Lib.hid (has_under HU3_5.out L6.out.1); have T3_6 : Hid (JIn w6 a3 n3 [] ∧ n3 ≤ 1024) := Lib.hid ⟨T3_5.out.1.under L6.out.1, T3_5.out.2⟩; have HU4_6 := Lib.hid (has_under HU4_5.out L6.out.1); have T4_6 : Hid (JIn w6 a4 n4 [] ∧ n4 ≤ 1024) := Lib.hid ⟨T4_5.out.1.under L6.out.1, T4_5.out.2⟩; have HU5_6 := Lib.hid (has_under HU5_5.out L6.out.1); have T5_6 : Hid (JIn w6 a5 n5 [] ∧ n5 ≤ 1024) := Lib.hid ⟨T5_5.out.1.under L6.out.1, T5_5.out.2⟩; clear h6 g6 hy6)
    | ((with_reducible show wpList _ _ _ _ _ w6); refine load_jo rfl _ rfl U6 rfl j6 (.slice a6 n6 c6) HU6_6.out ?_))
  refine (aw7 a6 n6 c6 w6 (T6_6.out.1) (T6_6.out.2)).mono ?_
  rintro e v7 ⟨a7, n7, c7, rfl, H7⟩
  obtain ⟨U7, y7, hU7, hy7, HB7, HZ7⟩ := box_zero v7
  go_wp2_with (first
    | ((with_reducible show wpList _ _ _ _ _ y7); refine store_jo rfl _ _ rfl U7 rfl j7 a7 n7 c7 rfl zJ (.slice none 0 0) HZ7.out ?_; intro w7 h7 g7; have L7 : Hid (Below w6.heap.size w6 w7 ∧ Below v7.heap.size v7 w7) := Lib.hid (by have hb := below_of_only HB7.out.1 (Nat.le_of_eq hU7) g7; exact ⟨below_then H7.out.2.2 hb, hb⟩); have HU7_7 := Lib.hid h7; have T7_7 : Hid (JIn w7 a7 n7 [] ∧ n7 ≤ 1024) := Lib.hid ⟨H7.out.1.under L7.out.2, H7.out.2.1⟩; have HU1_7 := Lib.hid (has_under HU1_6.out L7.out.1); have T1_7 : Hid (JIn w7 a1 n1 [] ∧ n1 ≤ 1024) := Lib.hid ⟨T1_6.out.1.under L7.out.1, T1_6.out.2⟩; have HU2_7 := Lib.hid (has_under HU2_6.out L7.out.1); have T2_7 : Hid (JIn w7 a2 n2 [] ∧ n2 ≤ 1024) := Lib.hid ⟨T2_6.out.1.under L7.out.1, T2_6.out.2⟩; have HU3_7 := Lib.hid (has_under HU3_6.out L7.out.1); have T3_7 : Hid (JIn w7 a3 n3 [] ∧ n3 ≤ 1024) := Lib.hid ⟨T3_6.out.1.under L7.out.1, T3_6.out.2⟩; have HU4_7 := Lib.hid (has_under HU4_6.out L7.out.1); have T4_7 : Hid (JIn w7 a4 n4 [] ∧ n4 ≤ 1024) := Lib.hid ⟨T4_6.out.1.under L7.out.1, T4_6.out.2⟩; have HU5_7 := Lib.hid (has_under HU5_6.out L7.out.1); have T5_7 : Hid (JIn w7 a5 n5 [] ∧ n5 ≤ 1024) := Lib.hid ⟨T5_6.out.1.under L7.out.1, T5_6.out.2⟩; have HU6_7 := Lib.hid (has_under HU6_6.out L7.out.1); have T6_7 : Hid (JIn w7 a6 n6 [] ∧ n6 ≤ 1024) := Lib.hid ⟨T6_6.out.1.under L7.out.1, T6_6.out.2⟩; have q1 : w7.cell? ⟨U1, 14, none⟩ = some (.int .i64 15) := cell_block (j := 14) HU1_7.out rfl; have q2 : w7.cell? ⟨U2, 15, none⟩ = some (.int .i64 7) := cell_block (j := 15) HU2_7.out rfl; have q4 : w7.cell? ⟨U4, 14, none⟩ = some (.int .i64 27) := cell_block (j := 14) HU4_7.out rfl; have q6 : w7.cell? ⟨U6, 12, none⟩ = some (.int .i64 4) := cell_block (j := 12) HU6_7.out rfl; have q7 : w7.cell? ⟨U7, 12, none⟩ = some (.int .i64 5) := cell_block (j := 12) HU7_7.out rfl; clear h7 g7 hy7)
    | ((with_reducible show wpList _ _ _ _ _ w7); refine load_joG rfl _ rfl U7 rfl j7 (.slice a7 n7 c7) HU7_7.out ?_))
  refine (aw8 _ w7).mono ?_
  rintro e w8 ⟨rfl, G8⟩
  have K8 := Lib.hid (has_under HU6_7.out G8.out)
  go_wp2_with (refine load_joG rfl _ rfl U6 rfl j6 (.slice a6 n6 c6) K8.out ?_)
  refine (aw9 _ w8).mono ?_
  rintro e w9 ⟨rfl, G9⟩
  go_wp2_with fail
  go_ret
  exact ⟨rfl, Lib.hid (below_then (below_then (below_then (below_then (below_then (below_then (below_then (below_then (below_then P0.out L1.out.1) L2.out.1) L3.out.1) L4.out.1) L5.out.1) L6.out.1) L7.out.1) G8.out) G9.out)⟩
end Go.Proofs.Ytghlgmlelipjfaa.Job.Im
