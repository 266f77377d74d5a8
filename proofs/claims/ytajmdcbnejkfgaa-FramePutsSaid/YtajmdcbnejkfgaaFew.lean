/- The texts of a slice, and whether they are few (for a seat that has the document's Few). -/
import Derived.Test.YtajmdcbnejkfgaaRows
import Derived.Test.YtajmdcbnejkfgaaCommon
import Derived.IntWalk
namespace Go.Proofs.Ytajmdcbnejkfgaa
open Go.RowKit Go.Lib

/-- The texts of a slice that came in. -/
abbrev Strs (w : World) (a : Option Addr) (n : Nat) (T : Nat → ByteArray) : Prop := ∀ j, j < n → ∃ b off, a = some ⟨b, off, none⟩ ∧ b < w.heap.size ∧ w.cell? ⟨b, off + j, none⟩ = some (.string (T j))
theorem strs_below {w w' : World} {a : Option Addr} {n : Nat} {T : Nat → ByteArray} (h : Strs w a n T) (hb : Below w.heap.size w w') : Strs w' a n T := fun j hj => by
  obtain ⟨b, off, e, hlt, hc⟩ := h j hj
  exact ⟨b, off, e, Nat.lt_of_lt_of_le hlt hb.size, ((bcell hb).1 b _ hlt).trans hc⟩
set_option maxHeartbeats 400000 in
theorem few_yes (M S : Nat) (a : Option Addr) (len cap : Nat) (T : Nat → ByteArray) (w : World) (hM : M ≤ 1048576) (hc : Strs w a len T) (hl : len ≤ M) (hT : ∀ j, j < len → (T j).size ≤ S) :
    Calls Try.prog 7 #[.slice a len cap, .int .i64 (M : Nat), .int .i64 (S : Nat)] w fun e w' => e = .returned (.bool true) ∧ w = w' := by
  have HC := Lib.hid hc; have HT := Lib.hid hT
  clear hc hT
  go_enter Try.func7, Try.ntmps7
  go_wp2_with fail
  go_loop [7] (fun i => ∃ k : Nat, k ≤ len ∧ i = .int .i64 k) (fun i => len - (RowKit.intOf i).toNat)
  case atStart => exact ⟨0, by omega, rfl⟩
  case round =>
    obtain ⟨k, hk, rfl⟩ := hrel
    by_cases hlt : k < len
    · obtain ⟨b, off, rfl, hb, hc⟩ := HC.out k hlt
      have hs := HT.out k hlt
      have hkM : k < M := by omega
      go_wp2_with fail
      go_round
      case rel => exact ⟨k + 1, by omega, by go_num⟩
      case measure => simp [RowKit.intOf]; omega
    · go_wp2_with fail
      go_ret
      exact ⟨rfl, rfl⟩
set_option maxHeartbeats 400000 in
theorem few_no (M S : Nat) (a : Option Addr) (len cap : Nat) (T : Nat → ByteArray) (w : World) (hM : M ≤ 1048576) (hc : Strs w a len T) (hm : ∀ j, j < len → (T j).size ≤ maxLen) (hl63 : len ≤ 2 ^ 63 - 1) (h : ¬ (len ≤ M ∧ ∀ j, j < len → (T j).size ≤ S)) :
    Calls Try.prog 7 #[.slice a len cap, .int .i64 (M : Nat), .int .i64 (S : Nat)] w fun e w' => e = .returned (.bool false) ∧ w = w' := by
  have HC := Lib.hid hc; have HN := Lib.hid h; have HM := Lib.hid hm
  clear hc h hm
  go_enter Try.func7, Try.ntmps7
  go_wp2_with fail
  go_loop [7] (fun i => ∃ k : Nat, k ≤ len ∧ k ≤ M ∧ Hid (∀ j, j < k → (T j).size ≤ S) ∧ i = .int .i64 k) (fun i => len - (RowKit.intOf i).toNat)
  case atStart => exact ⟨0, by omega, by omega, Lib.hid (fun j hj => by omega), rfl⟩
  case round =>
    obtain ⟨k, hk, hk2, hall, rfl⟩ := hrel
    by_cases hlt : k < len
    · by_cases hkM : k < M
      · obtain ⟨b, off, rfl, hb, hc⟩ := HC.out k hlt
        have hsm := HM.out k hlt
        unfold maxLen at hsm
        by_cases hs : (T k).size ≤ S
        · have hall2 : ∀ j, j < k + 1 → (T j).size ≤ S := fun j hj => by
            rcases Nat.lt_or_ge j k with h | h
            · exact hall.out j h
            · obtain rfl : j = k := by omega
              exact hs
          have HA := Lib.hid hall2
          clear hall2
          go_wp2_with fail
          go_round
          case rel => exact ⟨k + 1, by omega, by omega, HA, by go_num⟩
          case measure => simp [RowKit.intOf]; omega
        · have hs2 : S < (T k).size := by omega
          go_wp2_with fail
          go_ret
          exact ⟨rfl, rfl⟩
      · go_wp2_with fail
        go_ret
        exact ⟨ret_bool (decide_eq_false (by omega)), rfl⟩
    · have hlM : M < len := by
        rcases Nat.lt_or_ge M len with h | h
        · exact h
        · obtain rfl : k = len := by omega
          exact absurd ⟨h, hall.out⟩ HN.out
      exfalso
      omega
end Go.Proofs.Ytajmdcbnejkfgaa
