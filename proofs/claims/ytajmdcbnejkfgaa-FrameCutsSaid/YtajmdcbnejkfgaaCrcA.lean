/- The walks over the steps and sums of bytes: package crc's and the document's. -/
import Derived.Test.YtajmdcbnejkfgaaRows
import Derived.Test.YtajmdcbnejkfgaaCrcMath
import Derived.WalkSpells
import Derived.WalkLawsBesides
import Derived.Laws.BitsAllLaws
import Derived.RegionTactic
namespace Go.Proofs.Ytajmdcbnejkfgaa.Crc
open Go.RowKit Go.Lib

theorem ret_u32 {a b : Int} (h : a = b) : Ending.returned (.int .u32 a) = .returned (.int .u32 b) := by rw [h]
theorem low_u32 (n : Nat) (h : n < 4294967296) : bits .and .u32 (n : Int) 1 = ((n % 2 : Nat) : Int) := by
  rw [show (1 : Int) = ((1 : Nat) : Int) from rfl, u32_and_nat n 1 h (by omega), Nat.and_one_is_mod]
theorem half_turned (n : Nat) (h : n < 4294967296) : bits .xor .u32 ((n : Int) / 2) 3988292384 = ((n / 2 ^^^ turns : Nat) : Int) := by
  have e := u32_xor_nat (n / 2) 3988292384 (by omega) (by omega)
  exact e
theorem not_u32 (n : Nat) (h : n < 4294967296) : bits .xor .u32 IntKind.u32.max (n : Int) = ((ones ^^^ n : Nat) : Int) := u32_xor_nat 4294967295 n (by omega) h

set_option maxHeartbeats 400000 in
theorem step_any (n : Nat) (w : World) (hn : n < 4294967296) :
    Calls Try.prog 35 #[.int .u32 n] w fun e w' => e = .returned (.int .u32 (step n : Nat)) ∧ w = w' := by
  have hl := low_u32 n hn
  have ht := half_turned n hn
  rcases Nat.mod_two_eq_zero_or_one n with ha | ha
  · have hs := step_even ha
    rw [ha] at hl
    have hd : (bits .and .u32 (n : Int) 1 == 1) = false := by rw [hl]; rfl
    have HS := Lib.hid hs; clear hs ht hl ha
    go_enter Try.func35, Try.ntmps35
    go_wp2_with fail
    go_ret
    exact ⟨ret_u32 (by rw [HS.out]; omega), rfl⟩
  · have hs := step_odd ha
    rw [ha] at hl
    have hd : (bits .and .u32 (n : Int) 1 == 1) = true := by rw [hl]; rfl
    have HS := Lib.hid hs; have HT := Lib.hid ht; clear hs ht hl ha
    go_enter Try.func35, Try.ntmps35
    go_wp2_with fail
    go_ret
    exact ⟨ret_u32 (by rw [HS.out, HT.out]), rfl⟩
set_option maxHeartbeats 400000 in
theorem rstep_any (n : Nat) (w : World) (hn : n < 4294967296) :
    Calls Try.prog 32 #[.int .u32 n] w fun e w' => e = .returned (.int .u32 (step n : Nat)) ∧ w = w' := by
  have hl := low_u32 n hn
  have ht := half_turned n hn
  rcases Nat.mod_two_eq_zero_or_one n with ha | ha
  · have hs := step_even ha
    rw [ha] at hl
    have hd : (bits .and .u32 (n : Int) 1 == 1) = false := by rw [hl]; rfl
    have HS := Lib.hid hs; clear hs ht hl ha
    go_enter Try.func32, Try.ntmps32
    go_wp2_with fail
    go_ret
    exact ⟨ret_u32 (by rw [HS.out]; omega), rfl⟩
  · have hs := step_odd ha
    rw [ha] at hl
    have hd : (bits .and .u32 (n : Int) 1 == 1) = true := by rw [hl]; rfl
    have HS := Lib.hid hs; have HT := Lib.hid ht; clear hs ht hl ha
    go_enter Try.func32, Try.ntmps32
    go_wp2_with fail
    go_ret
    exact ⟨ret_u32 (by rw [HS.out, HT.out]), rfl⟩

set_option maxHeartbeats 400000 in
theorem come_any (n b : Nat) (w : World) (hn : n < 4294967296) (hb : b < 256) :
    Calls Try.prog 34 #[.int .u32 n, .int .u8 b] w fun e w' => e = .returned (.int .u32 (come n b : Nat)) ∧ w = w' := by
  have hx := u32_xor_nat n b hn (by omega)
  obtain ⟨x, hxx⟩ : ∃ x, n ^^^ b = x := ⟨_, rfl⟩
  have hx1 : x < 4294967296 := by rw [← hxx]; exact xor_lt hn (by omega)
  have hc : come n b = steps 8 x := by rw [← hxx]; rfl
  rw [hxx] at hx
  rw [hc]
  clear hxx hc
  go_enter Try.func34, Try.ntmps34
  go_wp2_with fail
  clear hx
  go_loop [0, 9] (fun t i => ∃ k : Nat, k ≤ 8 ∧ t = .int .u32 (steps k x : Nat) ∧ i = .int .i64 k) (fun _ i => 8 - (intOf i).toNat)
  case atStart => exact ⟨0, by omega, rfl, rfl⟩
  case round =>
    obtain ⟨k, hk, rfl, rfl⟩ := hrel
    by_cases hlt : k < 8
    · have hs := steps_lt hx1 k
      go_wp2_with (go_at_call 35; refine (step_any _ _ hs).mono ?_; rintro e w' ⟨rfl, rfl⟩)
      go_round
      case rel => exact ⟨k + 1, by omega, rfl, by go_num⟩
      case measure => simp [intOf]; omega
    · obtain rfl : k = 8 := by omega
      go_wp2_with fail
      go_ret
      exact ⟨rfl, rfl⟩

theorem take_snoc (s : ByteArray) (k : Nat) (h : k < s.size) : s.data.toList.take (k + 1) = s.data.toList.take k ++ [s[k]] := by
  rw [List.take_succ_eq_append_getElem (by simpa using h)]; rfl
theorem run_take (x : Nat) (s : ByteArray) (k : Nat) (h : k < s.size) : run x (s.data.toList.take (k + 1)) = come (run x (s.data.toList.take k)) s[k].toNat := by
  rw [take_snoc s k h, run_snoc]
theorem more_all (sum : Nat) (s : ByteArray) (k : Nat) (h : s.size ≤ k) : ones ^^^ run (ones ^^^ sum) (s.data.toList.take k) = more sum s := by
  rw [List.take_of_length_le (by rw [size_list]; exact h)]; rfl
set_option maxHeartbeats 400000 in
theorem more_any (sum : Nat) (s : ByteArray) (w : World) (hn : sum < 4294967296) (hs : s.size ≤ maxLen) :
    Calls Try.prog 31 #[.int .u32 sum, .string s] w fun e w' => e = .returned (.int .u32 (more sum s : Nat)) ∧ w = w' := by
  unfold maxLen at hs
  have hx := not_u32 sum hn
  obtain ⟨x, hxx⟩ : ∃ x, ones ^^^ sum = x := ⟨_, rfl⟩
  have hx1 : x < 4294967296 := by rw [← hxx]; exact xor_lt (by unfold ones; omega) hn
  have HM := Lib.hid (more_all sum s)
  rw [hxx] at hx HM
  clear hxx
  go_enter Try.func31, Try.ntmps31
  go_wp2_with fail
  clear hx
  go_loop [5, 11] (fun t i => ∃ k : Nat, k ≤ s.size ∧ t = .int .u32 (run x (s.data.toList.take k) : Nat) ∧ i = .int .i64 k) (fun _ i => s.size - (intOf i).toNat)
  case atStart => exact ⟨0, by omega, rfl, rfl⟩
  case round =>
    obtain ⟨k, hk, rfl, rfl⟩ := hrel
    have hr := run_lt (s.data.toList.take k) hx1
    by_cases hlt : k < s.size
    · have HS := Lib.hid (run_take x s k hlt)
      have hb := s[k].toNat_lt
      go_wp2_with (go_at_call 34; refine (come_any _ _ _ hr hb).mono ?_; rintro e w' ⟨rfl, rfl⟩)
      go_round
      case rel => exact ⟨k + 1, by omega, by rw [HS.out], by go_num⟩
      case measure => simp [intOf]; omega
    · have hn := not_u32 _ hr
      have HN := Lib.hid hn; clear hn
      go_wp2_with fail
      go_ret
      exact ⟨ret_u32 (by rw [HN.out, HM.out k (by omega)]), rfl⟩
set_option maxHeartbeats 400000 in
theorem sum_any (s : ByteArray) (w : World) (hs : s.size ≤ maxLen) :
    Calls Try.prog 26 #[.string s] w fun e w' => e = .returned (.int .u32 (more 0 s : Nat)) ∧ w = w' := by
  go_enter Try.func26, Try.ntmps26
  go_wp2_with fail
  refine (more_any 0 s _ (by omega) hs).mono ?_
  rintro e w' ⟨rfl, rfl⟩
  go_wp2_with fail
  go_ret
  exact ⟨rfl, rfl⟩
set_option maxHeartbeats 400000 in
theorem rmore_any (sum : Nat) (s : ByteArray) (w : World) (hn : sum < 4294967296) (hs : s.size ≤ maxLen) :
    Calls Try.prog 27 #[.int .u32 sum, .string s] w fun e w' => e = .returned (.int .u32 (more sum s : Nat)) ∧ w = w' := by
  unfold maxLen at hs
  have hx := not_u32 sum hn
  obtain ⟨x, hxx⟩ : ∃ x, ones ^^^ sum = x := ⟨_, rfl⟩
  have hx1 : x < 4294967296 := by rw [← hxx]; exact xor_lt (by unfold ones; omega) hn
  have HM := Lib.hid (more_all sum s)
  rw [hxx] at hx HM
  clear hxx
  go_enter Try.func27, Try.ntmps27
  go_wp2_with fail
  clear hx
  go_loop [5, 6, 7] (fun t i _ => ∃ k : Nat, k ≤ s.size ∧ t = .int .u32 (run x (s.data.toList.take k) : Nat) ∧ i = .int .i64 k) (fun _ i _ => s.size - (intOf i).toNat)
  case atStart => exact ⟨0, by omega, rfl, rfl⟩
  case round =>
    obtain ⟨k, hk, rfl, rfl⟩ := hrel
    have hr := run_lt (s.data.toList.take k) hx1
    by_cases hlt : k < s.size
    · have hb := s[k].toNat_lt
      have hxb := u32_xor_nat (run x (s.data.toList.take k)) s[k].toNat hr (by omega)
      have hrt := run_take x s k hlt
      obtain ⟨y, hy⟩ : ∃ y, run x (s.data.toList.take k) ^^^ s[k].toNat = y := ⟨_, rfl⟩
      have hy1 : y < 4294967296 := by rw [← hy]; exact xor_lt hr (by omega)
      unfold come at hrt
      rw [hy] at hrt hxb
      have HS := Lib.hid hrt; clear hy hrt
      go_wp2_with fail
      clear hxb
      go_loop [5, 7] (fun t i => ∃ j : Nat, j ≤ 8 ∧ t = .int .u32 (steps j y : Nat) ∧ i = .int .i64 j) (fun _ i => 8 - (intOf i).toNat)
      case atStart => exact ⟨0, by omega, rfl, rfl⟩
      case round =>
        obtain ⟨j, hj, rfl, rfl⟩ := hrel
        by_cases hlj : j < 8
        · have hs := steps_lt hy1 j
          go_wp2_with (go_at_call 32; refine (rstep_any _ _ hs).mono ?_; rintro e w' ⟨rfl, rfl⟩)
          go_round
          case rel => exact ⟨j + 1, by omega, rfl, by go_num⟩
          case measure => simp [intOf]; omega
        · obtain rfl : j = 8 := by omega
          go_wp2_with fail
          go_round
          case rel => exact ⟨k + 1, by omega, by rw [HS.out], by go_num⟩
          case measure => simp [intOf]; omega
    · have hn := not_u32 _ hr
      have HN := Lib.hid hn; clear hn
      go_wp2_with fail
      go_ret
      exact ⟨ret_u32 (by rw [HN.out, HM.out k (by omega)]), rfl⟩
set_option maxHeartbeats 400000 in
theorem rsum_any (s : ByteArray) (w : World) (hs : s.size ≤ maxLen) :
    Calls Try.prog 20 #[.string s] w fun e w' => e = .returned (.int .u32 (more 0 s : Nat)) ∧ w = w' := by
  go_enter Try.func20, Try.ntmps20
  go_wp2_with fail
  refine (rmore_any 0 s _ (by omega) hs).mono ?_
  rintro e w' ⟨rfl, rfl⟩
  go_wp2_with fail
  go_ret
  exact ⟨rfl, rfl⟩
end Go.Proofs.Ytajmdcbnejkfgaa.Crc
