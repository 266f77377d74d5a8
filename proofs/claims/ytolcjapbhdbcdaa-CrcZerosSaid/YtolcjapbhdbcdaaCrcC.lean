/- The walks over the laws CrcSums and CrcZeros. -/
import Derived.Test.YtolcjapbhdbcdaaCrcB
namespace Go.Proofs.Ytolcjapbhdbcdaa.Crc
open Go.RowKit Go.Lib

theorem same_u32 (x : Nat) : ((x : Int) == (x : Int)) = true := by simp
set_option maxHeartbeats 1000000 in
theorem lawSums (s : ByteArray) (sum : Nat) (w : World) (hs : s.size ≤ maxLen) (hn : sum < 4294967296) :
    Calls Try.prog 3 #[.string s, .int .u32 sum] w fun e w' => e = .returned (.bool true) ∧ w = w' := by
  have HL := Lib.hid hs
  unfold maxLen at hs
  by_cases h : 1024 < s.size
  · go_enter Try.func3, Try.ntmps3
    go_wp2_with fail
    refine (awake_any _).mono ?_
    rintro e w' ⟨rfl, rfl⟩
    go_wp2_with fail
    go_ret
    exact ⟨rfl, rfl⟩
  · have hc0 := more_lt 0 s (by omega)
    have hc1 := more_lt sum s hn
    go_enter Try.func3, Try.ntmps3
    go_wp2_with fail
    refine (sum_any s _ HL.out).mono ?_
    rintro e w' ⟨rfl, rfl⟩
    go_wp2_with fail
    refine (rsum_any s _ HL.out).mono ?_
    rintro e w' ⟨rfl, rfl⟩
    go_wp2_with fail
    refine (more_any sum s _ hn HL.out).mono ?_
    rintro e w' ⟨rfl, rfl⟩
    go_wp2_with fail
    refine (rmore_any sum s _ hn HL.out).mono ?_
    rintro e w' ⟨rfl, rfl⟩
    go_wp2_with fail
    refine (awake_any _).mono ?_
    rintro e w' ⟨rfl, rfl⟩
    go_wp2_with fail
    go_ret
    exact ⟨rfl, rfl⟩
set_option maxHeartbeats 1000000 in
theorem lawZeros (sum : Nat) (n : Int) (w : World) (hn : sum < 4294967296) (h1 : -9223372036854775808 ≤ n) (h2 : n ≤ 9223372036854775807) :
    Calls Try.prog 7 #[.int .u32 sum, .int .i64 n] w fun e w' => e = .returned (.bool true) ∧ w = w' := by
  by_cases h : 4096 < n
  · go_enter Try.func7, Try.ntmps7
    go_wp2_with fail
    refine (awake_any _).mono ?_
    rintro e w' ⟨rfl, rfl⟩
    go_wp2_with fail
    go_ret
    exact ⟨rfl, rfl⟩
  · go_enter Try.func7, Try.ntmps7
    go_wp2_with fail
    refine (zeros_any sum n _ hn h1 h2).mono ?_
    rintro e w' ⟨rfl, rfl⟩
    go_wp2_with fail
    refine (rzeros_any sum n _ hn h1 h2).mono ?_
    rintro e w' ⟨rfl, rfl⟩
    go_wp2_with fail
    refine (awake_any _).mono ?_
    rintro e w' ⟨rfl, rfl⟩
    go_wp2_with fail
    go_ret
    exact ⟨rfl, rfl⟩
end Go.Proofs.Ytolcjapbhdbcdaa.Crc
