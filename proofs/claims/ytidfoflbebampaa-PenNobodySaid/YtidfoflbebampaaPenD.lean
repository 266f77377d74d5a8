/- Package pen: Times and Text walked. -/
import Derived.Test.YtidfoflbebampaaPenC
namespace Go.Proofs.Ytidfoflbebampaa
open Go.RowKit Go.Lib

set_option maxHeartbeats 1000000 in
theorem times_any (R : Nat) (st : Option ByteArray) (most : Int) (w : World) (h : Rd w R st) (hf : Fit st) (hm : most ≤ 9223372036854775807) :
    Calls Try.prog 21 #[.pointer (some ⟨R, 0, none⟩), .int .i64 most] w fun e w' => e = .returned (.int .i64 (tmN st most)) ∧ Rd w' R (tmS st most) ∧ w.grownBy w' (some R) := by
  obtain ⟨n, hn⟩ : ∃ n, uiN st most = n := ⟨_, rfl⟩
  obtain ⟨l, hl⟩ : ∃ l, leftOf (uiS st most) = l := ⟨_, rfl⟩
  have hn63 := uiN_le st most hm
  have hl0 := leftOf_nonneg (uiS st most)
  rw [hn] at hn63; rw [hl] at hl0
  have HN := Lib.hid hn; have HL := Lib.hid hl
  by_cases hgt : l < (n : Int)
  · have hN : tmN st most = 0 := by unfold tmN; rw [hl, hn, if_pos hgt]
    have hS : tmS st most = none := by unfold tmS; rw [hl, hn, if_pos hgt]
    have HNN := Lib.hid hN; have HSS := Lib.hid hS
    clear hN hS hn hl
    go_enter Try.func21, Try.ntmps21
    go_wp2_with fail
    refine (uint_any R st most _ h hf hm).mono ?_
    rintro e w1 ⟨rfl, H', hg⟩
    rw [HN.out]
    go_wp2_with fail
    refine (left_any R _ _ H').mono ?_
    rintro e w' ⟨rfl, rfl⟩
    rw [HL.out]
    go_wp2_with fail
    refine (spoil_any R _ _ H').mono ?_
    rintro e w' ⟨rfl, H2, hg2⟩
    go_wp2_with fail
    go_ret
    exact ⟨ret_i64 (by rw [HNN.out]; rfl), by rw [HSS.out]; exact H2, only_trans hg hg2⟩
  · have hN : tmN st most = n := by unfold tmN; rw [hl, hn, if_neg hgt]
    have hS : tmS st most = uiS st most := by unfold tmS; rw [hl, hn, if_neg hgt]
    have HNN := Lib.hid hN; have HSS := Lib.hid hS
    clear hN hS hn hl
    go_enter Try.func21, Try.ntmps21
    go_wp2_with fail
    refine (uint_any R st most _ h hf hm).mono ?_
    rintro e w1 ⟨rfl, H', hg⟩
    rw [HN.out]
    go_wp2_with fail
    refine (left_any R _ _ H').mono ?_
    rintro e w' ⟨rfl, rfl⟩
    rw [HL.out]
    go_wp2_with fail
    go_ret
    exact ⟨ret_i64 (by rw [HNN.out]), by rw [HSS.out]; exact H', hg⟩
theorem times_nil (most : Int) (w : World) (hm : most ≤ 9223372036854775807) :
    Calls Try.prog 21 #[.pointer none, .int .i64 most] w fun e w' => e = .returned (.int .i64 0) ∧ w = w' := by
  go_enter Try.func21, Try.ntmps21
  go_wp2_with fail
  refine (uint_nil most _ hm).mono ?_
  rintro e w' ⟨rfl, rfl⟩
  go_wp2_with fail
  refine (left_nil _).mono ?_
  rintro e w' ⟨rfl, rfl⟩
  go_wp2_with fail
  go_ret
  exact ⟨rfl, rfl⟩
theorem text_nil (most : Int) (w : World) (hm : most ≤ 9223372036854775807) :
    Calls Try.prog 19 #[.pointer none, .int .i64 most] w fun e w' => e = .returned (.string ⟨#[]⟩) ∧ w = w' := by
  go_enter Try.func19, Try.ntmps19
  go_wp2_with fail
  refine (times_nil most _ hm).mono ?_
  rintro e w' ⟨rfl, rfl⟩
  go_wp2_with fail
  refine (bad_nil _).mono ?_
  rintro e w' ⟨rfl, rfl⟩
  go_wp2_with fail
  go_ret
  exact ⟨rfl, rfl⟩
set_option maxHeartbeats 1000000 in
theorem text_any (R : Nat) (st : Option ByteArray) (most : Int) (w : World) (h : Rd w R st) (hf : Fit st) (hm : most ≤ 9223372036854775807) :
    Calls Try.prog 19 #[.pointer (some ⟨R, 0, none⟩), .int .i64 most] w fun e w' => e = .returned (.string (txV st most)) ∧ Rd w' R (txS st most) ∧ w.grownBy w' (some R) := by
  obtain ⟨n, hn⟩ : ∃ n, tmN st most = n := ⟨_, rfl⟩
  have HN := Lib.hid hn
  cases hs : tmS st most with
  | none =>
    have hV : txV st most = ⟨#[]⟩ := by unfold txV; rw [hs]
    have hS : txS st most = none := by unfold txS; rw [hs]
    have HV := Lib.hid hV; have HSS := Lib.hid hS; have HS := Lib.hid hs
    clear hV hS hs hn
    go_enter Try.func19, Try.ntmps19
    go_wp2_with fail
    refine (times_any R st most _ h hf hm).mono ?_
    rintro e w1 ⟨rfl, H', hg⟩
    rw [HS.out] at H'
    rw [HN.out]
    go_wp2_with fail
    refine (bad_any R _ _ H').mono ?_
    rintro e w' ⟨rfl, rfl⟩
    go_wp2_with fail
    go_ret
    exact ⟨ret_str (by rw [HV.out]), by rw [HSS.out]; exact H', hg⟩
  | some s =>
    have hle := tmN_left hs
    rw [hn] at hle
    have hsz := (hf.tm most) s hs
    have hV : txV st most = s.extract 0 n := by unfold txV; rw [hs, hn]
    have hS : txS st most = some (s.extract n s.size) := by unfold txS; rw [hs, hn]
    have HV := Lib.hid hV; have HSS := Lib.hid hS; have HS := Lib.hid hs
    clear hV hS hs hn
    go_enter Try.func19, Try.ntmps19
    go_wp2_with fail
    refine (times_any R st most _ h hf hm).mono ?_
    rintro e w1 ⟨rfl, H', hg⟩
    rw [HS.out] at H'
    rw [HN.out]
    obtain ⟨c0, c1, f0, f1⟩ := H'.good
    go_wp2_with fail
    refine (bad_any R _ _ H').mono ?_
    rintro e w' ⟨rfl, rfl⟩
    go_wp2_with fail
    go_ret
    exact ⟨ret_str (by rw [HV.out]), by rw [HSS.out]; exact H'.rest _, only_setCell hg _ _⟩
end Go.Proofs.Ytidfoflbebampaa
