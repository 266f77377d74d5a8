/- The laws PenPuts and PenNobody walked. -/
import Derived.Test.YtidfoflbebampaaPenJ
namespace Go.Proofs.Ytidfoflbebampaa
open Go.RowKit Go.Lib

set_option maxHeartbeats 2000000 in
theorem lawPuts (n : Int) (s : ByteArray) (w : World) (a1 : -9223372036854775808 ≤ n) (a2 : n ≤ 9223372036854775807) (hs : s.size ≤ 9223372036854775807) :
    Calls Try.prog 3 #[.int .i64 n, .string s] w fun e w' => e = .returned (.bool true) ∧ Below w.heap.size w w' := by
  by_cases h : s.size ≤ 1024
  · go_enter Try.func3, Try.ntmps3
    go_wp2_with fail
    refine (puint_any n _ a2).mono ?_
    rintro e w1 ⟨rfl, hb1⟩
    go_wp2_with fail
    refine (ruint_bytes n _ a2).mono ?_
    rintro e w2 ⟨rfl, hb2⟩
    go_wp2_with fail
    refine (pint_any n _ a1 a2).mono ?_
    rintro e w3 ⟨rfl, hb3⟩
    go_wp2_with fail
    refine (rint_bytes n _ a1 a2).mono ?_
    rintro e w4 ⟨rfl, hb4⟩
    go_wp2_with fail
    refine (ptext_any s _ (by omega)).mono ?_
    rintro e w5 ⟨rfl, hb5⟩
    go_wp2_with fail
    refine (rtext_bytes s _ (by omega)).mono ?_
    rintro e w6 ⟨rfl, hb6⟩
    go_wp2_with fail
    refine (awake_any _).mono ?_
    rintro e w7 ⟨rfl, hb7⟩
    go_wp2_with fail
    go_ret
    exact ⟨rfl, below_then (below_then (below_then (below_then (below_then (below_then hb1 hb2) hb3) hb4) hb5) hb6) hb7⟩
  · have h' : (1024 : Int) < (s.size : Int) := by omega
    go_enter Try.func3, Try.ntmps3
    go_wp2_with fail
    refine (awake_any _).mono ?_
    rintro e w7 ⟨rfl, hb7⟩
    go_wp2_with fail
    go_ret
    exact ⟨rfl, hb7⟩

theorem none_ui (most : Int) : uiN none most = 0 ∧ uiS none most = none := by
  unfold uiN uiS; split <;> exact ⟨rfl, rfl⟩
theorem none_tm (most : Int) : tmN none most = 0 ∧ tmS none most = none := by
  unfold tmN tmS; rw [(none_ui most).1, (none_ui most).2]; simp [leftOf]
theorem none_tx (most : Int) : txV none most = ⟨#[]⟩ ∧ txS none most = none := by
  unfold txV txS; rw [(none_tm most).2]; exact ⟨rfl, rfl⟩

set_option maxRecDepth 100000 in
set_option maxHeartbeats 2000000 in
theorem lawNobody (n : Int) (w : World) (a2 : n ≤ 9223372036854775807) :
    Calls Try.prog 6 #[.int .i64 n] w fun e w' => e = .returned (.bool true) ∧ Below w.heap.size w w' := by
  go_enter Try.func6, Try.ntmps6
  go_wp2
  go_loopw [4] (fun i wr => ∃ k : Nat, k ≤ 2 ∧ i = .int .i64 k ∧ Rd wr w.heap.size none ∧ wr.cell? ⟨w.heap.size + 1, 0, none⟩ = some (.pointer none) ∧ wr.cell? ⟨w.heap.size + 1, 1, none⟩ = some (.pointer (some ⟨w.heap.size, 0, none⟩)) ∧ w.heap.size + 2 ≤ wr.heap.size ∧ Below w.heap.size w wr) (fun i _ => 2 - (intOf i).toNat)
  case atStart =>
    refine ⟨0, by omega, rfl, ?_, ?_, ?_, by simp, ((Below.refl _ _).alloc (Nat.le_refl _) _).alloc (by simp) _⟩
    · have h := rd_new w ⟨#[]⟩
      show ((w.alloc _).alloc _).heap[w.heap.size]? = _
      rw [Below.heap_alloc _ _ _ (by simp), heap_alloc_new]
      rfl
    · simp
    · simp
  case round =>
    obtain ⟨k, hk, rfl, H, c0, c1, hz, hbel⟩ := hrel
    have hR : w.heap.size ≠ w.heap.size + 1 := by omega
    rcases (show k = 0 ∨ k = 1 ∨ k = 2 by omega) with rfl | rfl | rfl
    · go_wp2_with fail
      refine (uint_nil n _ a2).mono ?_
      rintro e w' ⟨rfl, rfl⟩
      go_wp2_with fail
      refine (int_nil _).mono ?_
      rintro e w' ⟨rfl, rfl⟩
      go_wp2_with fail
      refine (text_nil n _ a2).mono ?_
      rintro e w' ⟨rfl, rfl⟩
      go_wp2_with fail
      refine (times_nil n _ a2).mono ?_
      rintro e w' ⟨rfl, rfl⟩
      go_wp2_with fail
      refine (left_nil _).mono ?_
      rintro e w' ⟨rfl, rfl⟩
      go_wp2_with fail
      refine (bad_nil _).mono ?_
      rintro e w' ⟨rfl, rfl⟩
      go_wp2_with fail
      refine (done_nil _).mono ?_
      rintro e w' ⟨rfl, rfl⟩
      go_wp2_with fail
      go_roundw
      case rel => exact ⟨1, by omega, rfl, H, c0, c1, hz, hbel⟩
      case measure => simp [intOf]
    · go_wp2_with fail
      refine (uint_any _ none n _ H Fit.none a2).mono ?_
      rintro e w1 ⟨rfl, H1, hg1⟩
      rw [(none_ui n).1]; rw [(none_ui n).2] at H1
      go_wp2_with fail
      refine (int_any _ none _ H1 Fit.none).mono ?_
      rintro e w2 ⟨rfl, H2, hg2⟩
      rw [show inN none = 0 from rfl]; rw [show inS none = none from rfl] at H2
      go_wp2_with fail
      refine (text_any _ none n _ H2 Fit.none a2).mono ?_
      rintro e w3 ⟨rfl, H3, hg3⟩
      rw [(none_tx n).1]; rw [(none_tx n).2] at H3
      go_wp2_with fail
      refine (times_any _ none n _ H3 Fit.none a2).mono ?_
      rintro e w4 ⟨rfl, H4, hg4⟩
      rw [(none_tm n).1]; rw [(none_tm n).2] at H4
      go_wp2_with fail
      refine (left_any _ none _ H4).mono ?_
      rintro e w' ⟨rfl, rfl⟩
      go_wp2_with fail
      refine (bad_any _ none _ H4).mono ?_
      rintro e w' ⟨rfl, rfl⟩
      go_wp2_with fail
      refine (done_any _ none _ H4).mono ?_
      rintro e w' ⟨rfl, rfl⟩
      go_wp2_with fail
      have hg := only_trans (only_trans (only_trans hg1 hg2) hg3) hg4
      go_roundw
      case rel =>
        exact ⟨2, by omega, rfl, H4, (hg.cell_far _ (by simp; omega) (by simp)).trans c0, (hg.cell_far _ (by simp; omega) (by simp)).trans c1, Nat.le_trans hz hg.size, below_of_only hbel (Nat.le_refl _) hg⟩
      case measure => simp [intOf]
    · go_wp2_with fail
      refine (awake_any _).mono ?_
      rintro e w7 ⟨rfl, hb7⟩
      go_wp2_with fail
      go_ret
      exact ⟨rfl, below_then hbel hb7⟩
end Go.Proofs.Ytidfoflbebampaa
