/- The walks over sums of bytes 0, texts put together, few texts, and the laws' guard. -/
import Derived.Test.YtolcjapbhdbcdaaCrcA
import Derived.Test.YtolcjapbhdbcdaaBytes
import Derived.OneCell
import Derived.Laws.IdiomStrings
namespace Go.Proofs.Ytolcjapbhdbcdaa.Crc
open Go.RowKit Go.Lib

def cnt (n : Int) : Nat := (min n 1048576).toNat
theorem come_none (n : Nat) (w : World) (hn : n < 4294967296) :
    Calls Try.prog 17 #[.int .u32 n, .int .u8 0] w fun e w' => e = .returned (.int .u32 (steps 8 n : Nat)) ∧ w = w' := by
  have h := come_any n 0 w hn (by omega)
  unfold come at h
  rw [Nat.xor_zero] at h
  exact h
theorem steps_more (x k : Nat) : steps 8 (steps (8 * k) x) = steps (8 * (k + 1)) x := by rw [← steps_add]; rfl
set_option maxHeartbeats 400000 in
theorem zeros_at (sum : Nat) (n : Int) (w : World) (hn : sum < 4294967296) (h1 : -9223372036854775808 ≤ n) (h2 : n ≤ 1048576) :
    Calls Try.prog 14 #[.int .u32 sum, .int .i64 n] w fun e w' => e = .returned (.int .u32 (zeros sum n.toNat : Nat)) ∧ w = w' := by
  have hx := not_u32 sum hn
  obtain ⟨x, hxx⟩ : ∃ x, ones ^^^ sum = x := ⟨_, rfl⟩
  have hx1 : x < 4294967296 := by rw [← hxx]; exact xor_lt (by unfold ones; omega) hn
  have HZ := Lib.hid (show ∀ k, ones ^^^ steps (8 * k) x = zeros sum k by intro k; rw [← hxx]; rfl)
  rw [hxx] at hx
  clear hxx
  go_enter Try.func14, Try.ntmps14
  go_wp2_with fail
  clear hx
  go_loop [5, 10] (fun t i => ∃ k : Nat, k ≤ n.toNat ∧ t = .int .u32 (steps (8 * k) x : Nat) ∧ i = .int .i64 k) (fun _ i => n.toNat - (intOf i).toNat)
  case atStart => exact ⟨0, by omega, rfl, rfl⟩
  case round =>
    obtain ⟨k, hk, rfl, rfl⟩ := hrel
    have hr := steps_lt hx1 (8 * k)
    by_cases hlt : (k : Int) < n
    · have HS := Lib.hid (steps_more x k)
      go_wp2_with (go_at_call 17; refine (come_none _ _ hr).mono ?_; rintro e w' ⟨rfl, rfl⟩)
      go_round
      case rel => exact ⟨k + 1, by omega, by rw [HS.out], by go_num⟩
      case measure => simp [intOf]; omega
    · obtain rfl : k = n.toNat := by omega
      have HN := Lib.hid (not_u32 _ hr)
      go_wp2_with fail
      go_ret
      exact ⟨ret_u32 (by rw [HN.out, HZ.out]), rfl⟩
set_option maxHeartbeats 400000 in
theorem zeros_over (sum : Nat) (n : Int) (w : World) (hn : sum < 4294967296) (h1 : 1048576 < n) :
    Calls Try.prog 14 #[.int .u32 sum, .int .i64 n] w fun e w' => e = .returned (.int .u32 (zeros sum 1048576 : Nat)) ∧ w = w' := by
  have hx := not_u32 sum hn
  obtain ⟨x, hxx⟩ : ∃ x, ones ^^^ sum = x := ⟨_, rfl⟩
  have hx1 : x < 4294967296 := by rw [← hxx]; exact xor_lt (by unfold ones; omega) hn
  have HZ := Lib.hid (show ∀ k, ones ^^^ steps (8 * k) x = zeros sum k by intro k; rw [← hxx]; rfl)
  rw [hxx] at hx
  clear hxx
  go_enter Try.func14, Try.ntmps14
  go_wp2_with fail
  clear hx
  go_loop [5, 10] (fun t i => ∃ k : Nat, (k : Int) ≤ 1048576 ∧ t = .int .u32 (steps (8 * k) x : Nat) ∧ i = .int .i64 k) (fun _ i => 1048576 - (intOf i).toNat)
  case atStart => exact ⟨0, by omega, rfl, rfl⟩
  case round =>
    obtain ⟨k, hk, rfl, rfl⟩ := hrel
    have hr := steps_lt hx1 (8 * k)
    by_cases hlt : (k : Int) < 1048576
    · have HS := Lib.hid (steps_more x k)
      go_wp2_with (go_at_call 17; refine (come_none _ _ hr).mono ?_; rintro e w' ⟨rfl, rfl⟩)
      go_round
      case rel => exact ⟨k + 1, by omega, by rw [HS.out], by go_num⟩
      case measure => simp [intOf]; omega
    · have HN := Lib.hid (not_u32 _ hr)
      have he : k = 1048576 := by omega
      have HE := Lib.hid he; clear he
      go_wp2_with fail
      go_ret
      exact ⟨ret_u32 (by rw [HN.out, HZ.out, HE.out]), rfl⟩
theorem zeros_any (sum : Nat) (n : Int) (w : World) (hn : sum < 4294967296) (h1 : -9223372036854775808 ≤ n) (h2 : n ≤ 9223372036854775807) :
    Calls Try.prog 14 #[.int .u32 sum, .int .i64 n] w fun e w' => e = .returned (.int .u32 (zeros sum (cnt n) : Nat)) ∧ w = w' := by
  by_cases h : n ≤ 1048576
  · have : cnt n = n.toNat := by unfold cnt; omega
    rw [this]
    exact zeros_at sum n w hn h1 h
  · have : cnt n = 1048576 := by unfold cnt; omega
    rw [this]
    exact zeros_over sum n w hn (by omega)
set_option maxHeartbeats 400000 in
theorem rzeros_any (sum : Nat) (n : Int) (w : World) (hn : sum < 4294967296) (h1 : -9223372036854775808 ≤ n) (h2 : n ≤ 9223372036854775807) :
    Calls Try.prog 16 #[.int .u32 sum, .int .i64 n] w fun e w' => e = .returned (.int .u32 (zeros sum (cnt n) : Nat)) ∧ w = w' := by
  obtain ⟨c, hc⟩ : ∃ c, cnt n = c := ⟨_, rfl⟩
  have hc1 : (c : Int) ≤ 1048576 ∧ ((c : Int) ≤ n ∨ c = 0) ∧ (∀ k : Nat, (k : Int) < n → (k : Int) < 1048576 → k < c) := by
    rw [← hc]; unfold cnt; exact ⟨by omega, by omega, fun k a b => by omega⟩
  rw [hc]
  clear hc
  obtain ⟨c1, c2, c3⟩ := hc1
  have C3 := Lib.hid c3; clear c3
  have hx := not_u32 sum hn
  obtain ⟨x, hxx⟩ : ∃ x, ones ^^^ sum = x := ⟨_, rfl⟩
  have hx1 : x < 4294967296 := by rw [← hxx]; exact xor_lt (by unfold ones; omega) hn
  have HZ := Lib.hid (show ∀ k, ones ^^^ steps (8 * k) x = zeros sum k by intro k; rw [← hxx]; rfl)
  rw [hxx] at hx
  clear hxx
  go_enter Try.func16, Try.ntmps16
  go_wp2_with fail
  clear hx
  go_loop [5, 6, 7] (fun t i _ => ∃ k : Nat, k ≤ c ∧ t = .int .u32 (steps (8 * k) x : Nat) ∧ i = .int .i64 k) (fun _ i _ => c - (intOf i).toNat)
  case atStart => exact ⟨0, by omega, rfl, rfl⟩
  case round =>
    obtain ⟨k, hk, rfl, rfl⟩ := hrel
    have hr := steps_lt hx1 (8 * k)
    by_cases hlt : (k : Int) < n
    · by_cases hlt2 : (k : Int) < 1048576
      · have HS := Lib.hid (steps_more x k)
        have hkc : k < c := C3.out k hlt (by omega)
        obtain ⟨y, hy⟩ : ∃ y, steps (8 * k) x = y := ⟨_, rfl⟩
        rw [hy] at hr HS
        rw [hy]
        clear hy
        go_wp2_with fail
        have hc63 : c ≤ 2 ^ 63 - 1 := by omega
        clear hlt hlt2 c1 c2
        go_loop [5, 7] (fun t i => ∃ j : Nat, j ≤ 8 ∧ t = .int .u32 (steps j y : Nat) ∧ i = .int .i64 j) (fun _ i => 8 - (intOf i).toNat)
        case atStart => exact ⟨0, by omega, rfl, rfl⟩
        case round =>
          obtain ⟨j, hj, rfl, rfl⟩ := hrel
          by_cases hlj : j < 8
          · have hs := steps_lt hr j
            go_wp2_with (go_at_call 18; refine (rstep_any _ _ hs).mono ?_; rintro e w' ⟨rfl, rfl⟩)
            go_round
            case rel => exact ⟨j + 1, by omega, rfl, by go_num⟩
            case measure => simp [intOf]; omega
          · obtain rfl : j = 8 := by omega
            go_wp2_with fail
            go_round
            case rel => exact ⟨k + 1, by omega, by rw [HS.out], by go_num⟩
            case measure => simp [intOf]; omega
      · have HN := Lib.hid (not_u32 _ hr)
        obtain rfl : k = c := by omega
        go_wp2_with fail
        go_ret
        exact ⟨ret_u32 (by rw [HN.out, HZ.out]), rfl⟩
    · have HN := Lib.hid (not_u32 _ hr)
      obtain rfl : k = c := by omega
      go_wp2_with fail
      go_ret
      exact ⟨ret_u32 (by rw [HN.out, HZ.out]), rfl⟩

theorem c_a : more 0 ⟨#[49, 50, 51, 52, 53, 54, 55, 56, 57]⟩ = 3421780262 := by decide +kernel
theorem c_b : more (more 0 ⟨#[49, 50, 51, 52]⟩) ⟨#[53, 54, 55, 56, 57]⟩ = 3421780262 := by decide +kernel
theorem c_c : zeros (more 0 ⟨#[97]⟩) (cnt 2) = more 0 ⟨#[97, 0, 0]⟩ := by decide +kernel
theorem c_d : more 0 ⟨#[]⟩ = 0 := by decide +kernel
theorem more_lt (sum : Nat) (s : ByteArray) (h : sum < 4294967296) : more sum s < 4294967296 :=
  xor_lt (by unfold ones; omega) (run_lt _ (xor_lt (by unfold ones; omega) h))
set_option maxHeartbeats 1000000 in
theorem awake_any (w : World) :
    Calls Try.prog 8 #[] w fun e w' => e = .returned (.bool true) ∧ w = w' := by
  go_enter Try.func8, Try.ntmps8
  go_wp2_with fail
  refine (sum_any ⟨#[49, 50, 51, 52, 53, 54, 55, 56, 57]⟩ _ (by decide)).mono ?_
  rintro e w' ⟨rfl, rfl⟩
  rw [c_a]
  go_wp2_with fail
  refine (sum_any ⟨#[49, 50, 51, 52]⟩ _ (by decide)).mono ?_
  rintro e w' ⟨rfl, rfl⟩
  have hb := c_b
  have hl := more_lt 0 ⟨#[49, 50, 51, 52]⟩ (by omega)
  revert hb hl
  generalize more 0 ⟨#[49, 50, 51, 52]⟩ = s1
  intro hb hl
  have HB := Lib.hid hb; clear hb
  go_wp2_with fail
  refine (more_any s1 ⟨#[53, 54, 55, 56, 57]⟩ _ hl (by decide)).mono ?_
  rintro e w' ⟨rfl, rfl⟩
  rw [HB.out]
  clear HB
  go_wp2_with fail
  refine (sum_any ⟨#[97]⟩ _ (by decide)).mono ?_
  rintro e w' ⟨rfl, rfl⟩
  have hb := c_c
  have hl2 := more_lt 0 ⟨#[97]⟩ (by omega)
  revert hb hl2
  generalize more 0 ⟨#[97]⟩ = s2
  intro hb hl2
  have HB := Lib.hid hb; clear hb
  go_wp2_with fail
  refine (zeros_any s2 2 _ hl2 (by omega) (by omega)).mono ?_
  rintro e w' ⟨rfl, rfl⟩
  rw [HB.out]
  clear HB
  go_wp2_with fail
  refine (sum_any ⟨#[97, 0, 0]⟩ _ (by decide)).mono ?_
  rintro e w' ⟨rfl, rfl⟩
  go_wp2_with fail
  refine (sum_any ⟨#[]⟩ _ (by decide)).mono ?_
  rintro e w' ⟨rfl, rfl⟩
  rw [c_d]
  go_wp2_with fail
  go_ret
  exact ⟨rfl, rfl⟩
end Go.Proofs.Ytolcjapbhdbcdaa.Crc
