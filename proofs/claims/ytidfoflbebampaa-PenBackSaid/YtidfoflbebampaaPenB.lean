/- Package pen: the number that a text begins with. -/
import Derived.Test.YtidfoflbebampaaPenA
namespace Go.Proofs.Ytidfoflbebampaa
open Go.RowKit Go.Lib

theorem or_gen (acc d k : Nat) (ha : acc < 2 ^ (7 * k)) (hd : d * 2 ^ (7 * k) + acc < 18446744073709551616) (z : Int) (hz : z = d) :
    bits .or .u64 (acc : Int) (IntKind.u64.wrap (z * 2 ^ (7 * k))) = ((acc + d * 2 ^ (7 * k) : Nat) : Int) := by
  subst hz
  have e : ((d : Int) * 2 ^ (7 * k)) = ((d * 2 ^ (7 * k) : Nat) : Int) := by simp
  rw [wrap_u64_, e, Int.emod_eq_of_lt (by omega) (by omega), u64_or_nat acc (d * 2 ^ (7 * k)) (by omega) (by omega), Nat.or_comm, nat_join (7 * k) (d * 2 ^ (7 * k)) acc (Nat.mul_mod_left _ _) ha, Nat.add_comm]
theorem pow_le (k : Nat) (h : k ≤ 8) : 2 ^ (7 * k) ≤ 72057594037927936 := by
  have e : (2:Nat) ^ (7 * k) ≤ 2 ^ 56 := Nat.pow_le_pow_right (by omega) (by omega)
  have e2 : (2:Nat) ^ 56 = 72057594037927936 := by decide
  omega
theorem or_more (acc c k : Nat) (hk : k ≤ 8) (ha : acc < 2 ^ (7 * k)) (h1 : 128 ≤ c) (h2 : c < 256) :
    bits .or .u64 (acc : Int) (IntKind.u64.wrap (((c : Int) - 128) * 2 ^ (7 * k))) = ((acc + (c - 128) * 2 ^ (7 * k) : Nat) : Int) ∧ acc + (c - 128) * 2 ^ (7 * k) < 2 ^ (7 * (k + 1)) := by
  have e := pow_le k hk
  have e3 : (c - 128) * 2 ^ (7 * k) ≤ 127 * 2 ^ (7 * k) := Nat.mul_le_mul (by omega) (Nat.le_refl _)
  have e4 : (2:Nat) ^ (7 * (k + 1)) = 128 * 2 ^ (7 * k) := by rw [show 7 * (k + 1) = 7 * k + 7 by omega, Nat.pow_add]; omega
  exact ⟨or_gen acc (c - 128) k ha (by omega) _ (by omega), by omega⟩
theorem or_last (acc c k : Nat) (hk : k ≤ 9) (ha : acc < 2 ^ (7 * k)) (h1 : c < 128) (h2 : ¬ (k = 9 ∧ 1 < c)) :
    bits .or .u64 (acc : Int) (IntKind.u64.wrap ((c : Int) * 2 ^ (7 * k))) = ((acc + c * 2 ^ (7 * k) : Nat) : Int) := by
  by_cases h9 : k = 9
  · subst h9
    have e : (2:Nat) ^ (7 * 9) = 9223372036854775808 := by decide
    have e3 : c * 2 ^ (7 * 9) ≤ 1 * 2 ^ (7 * 9) := Nat.mul_le_mul (by omega) (Nat.le_refl _)
    exact or_gen acc c 9 ha (by omega) _ rfl
  · have e := pow_le k (by omega)
    have e3 : c * 2 ^ (7 * k) ≤ 127 * 2 ^ (7 * k) := Nat.mul_le_mul (by omega) (Nat.le_refl _)
    exact or_gen acc c k ha (by omega) _ rfl
theorem gb_at (s : ByteArray) (k : Nat) (h : k < s.size) : gb s k = s[k].toNat := by
  unfold gb
  have h' : k < s.data.toList.length := by rw [Array.length_toList]; exact h
  rw [List.getD_eq_getElem?_getD, List.getElem?_eq_getElem h', Option.getD_some, Array.getElem_toList]
  rfl
/-- What the loop knows behind k bytes. -/
def FirstAt (s : ByteArray) (k acc : Nat) (z : Int) : Prop := (k < 10 → z = acc ∧ acc < 2 ^ (7 * k)) ∧ P s = scan (gb s) s.size (10 - k) k acc
theorem scan_out (f : Nat → Nat) (len k acc : Nat) (h : ¬ (k < len ∧ k < 10)) : scan f len (10 - k) k acc = none := by
  by_cases hk : k < 10
  · obtain ⟨d, hd⟩ : ∃ d, 10 - k = d + 1 := ⟨9 - k, by omega⟩
    rw [hd]; unfold scan; rw [if_neg (by omega)]
  · rw [show 10 - k = 0 by omega]; rfl
theorem scan_more (f : Nat → Nat) (len k acc : Nat) (h1 : k < len) (h2 : k < 10) (h3 : ¬ f k < 128) : scan f len (10 - k) k acc = scan f len (10 - (k + 1)) (k + 1) (acc + (f k - 128) * 2 ^ (7 * k)) := by
  obtain ⟨d, hd⟩ : ∃ d, 10 - k = d + 1 := ⟨9 - k, by omega⟩
  rw [hd, show 10 - (k + 1) = d by omega]
  conv => lhs; unfold scan
  rw [if_pos h1, if_neg h3]
theorem scan_bad (f : Nat → Nat) (len k acc : Nat) (h1 : k < len) (h2 : k < 10) (h3 : f k < 128) (h4 : (f k = 0 ∧ 0 < k) ∨ (k = 9 ∧ 1 < f k)) : scan f len (10 - k) k acc = none := by
  obtain ⟨d, hd⟩ : ∃ d, 10 - k = d + 1 := ⟨9 - k, by omega⟩
  rw [hd]; unfold scan; rw [if_pos h1, if_pos h3, if_pos h4]
theorem scan_end (f : Nat → Nat) (len k acc : Nat) (h1 : k < len) (h2 : k < 10) (h3 : f k < 128) (h4 : ¬ ((f k = 0 ∧ 0 < k) ∨ (k = 9 ∧ 1 < f k))) : scan f len (10 - k) k acc = some (acc + f k * 2 ^ (7 * k), k + 1) := by
  obtain ⟨d, hd⟩ : ∃ d, 10 - k = d + 1 := ⟨9 - k, by omega⟩
  rw [hd]; unfold scan; rw [if_pos h1, if_pos h3, if_neg h4]
theorem first_none {s : ByteArray} (h : P s = none) : Ending.returned (.tuple #[.int .u64 0, .int .i64 0]) = Ending.returned (.tuple #[.int .u64 (FV s), .int .i64 (FK s)]) := by simp [FV, FK, h]
theorem first_some {s : ByteArray} {n k : Nat} {a b : Int} (h : P s = some (n, k)) (ha : a = n) (hb : b = k) : Ending.returned (.tuple #[.int .u64 a, .int .i64 b]) = Ending.returned (.tuple #[.int .u64 (FV s), .int .i64 (FK s)]) := by simp [FV, FK, h, ha, hb]

set_option maxRecDepth 100000 in
set_option maxHeartbeats 1000000 in
theorem first_any (s : ByteArray) (w : World) (hs : s.size ≤ 9223372036854775807) :
    Calls Try.prog 37 #[.string s] w fun e w' => e = .returned (.tuple #[.int .u64 (FV s), .int .i64 (FK s)]) ∧ w = w' := by
  go_enter Try.func37, Try.ntmps37
  go_wp2
  all_goals
    go_loop [4, 10] (fun n i => ∃ (k acc : Nat) (z : Int), k ≤ 10 ∧ k ≤ s.size ∧ i = .int .i64 k ∧ n = .int .u64 z ∧ FirstAt s k acc z) (fun _ i => 10 - (intOf i).toNat)
    case atStart => exact ⟨0, 0, 0, by omega, by omega, rfl, rfl, ⟨fun _ => ⟨rfl, by simp⟩, rfl⟩⟩
    case round =>
      obtain ⟨k, acc, z, hk, hks, rfl, rfl, hP⟩ := hrel
      by_cases h1 : k < s.size ∧ k < 10
      · obtain ⟨h1, h2⟩ := h1
        obtain ⟨hz, hP⟩ := hP
        obtain ⟨rfl, ha⟩ := hz h2
        clear hz
        obtain ⟨c, hc⟩ : ∃ c, s[k].toNat = c := ⟨_, rfl⟩
        have hg : gb s k = c := by rw [gb_at s k h1, hc]
        have hc256 : c < 256 := by have := gb_lt s k; omega
        have HP := Lib.hid hP; have HG := Lib.hid hg
        have HA := Lib.hid ha
        clear hP hg ha
        by_cases hlt : c < 128
        · by_cases hend : (c = 0 ∧ 0 < k) ∨ (k = 9 ∧ 1 < c)
          · have HE := Lib.hid hend
            clear hend
            go_wp2_with fail
            refine (mayEnd_no c k _ (by omega) (by omega) (by omega) (by omega) (by have := HE.out; omega)).mono ?_
            rintro e w' ⟨rfl, rfl⟩
            go_wp2_with fail
            go_ret2
            exact ⟨first_none (by rw [HP.out]; exact scan_bad _ _ _ _ h1 h2 (by rw [HG.out]; exact hlt) (by rw [HG.out]; exact HE.out)), rfl⟩
          · have HE := Lib.hid hend
            clear hend
            go_wp2_with fail
            refine (mayEnd_yes c k _ (by omega) (by omega) (by omega) (by omega) (by have := HE.out; omega)).mono ?_
            rintro e w' ⟨rfl, rfl⟩
            go_wp2_with fail
            go_ret2
            exact ⟨first_some (by rw [HP.out]; exact scan_end _ _ _ _ h1 h2 (by rw [HG.out]; exact hlt) (by rw [HG.out]; exact HE.out)) (by rw [HG.out]; exact or_last acc c k (by omega) HA.out hlt (fun h => HE.out (Or.inr h))) (by omega), rfl⟩
        · have hge : (128 : Int) ≤ (c : Int) := by omega
          go_wp2_with fail
          go_round
          case rel =>
            refine ⟨k + 1, acc + (c - 128) * 2 ^ (7 * k), _, by omega, by omega, by go_num, rfl, ?_, ?_⟩
            · intro h9
              exact or_more acc c k (by omega) HA.out (by omega) hc256
            · rw [HP.out, scan_more _ _ _ _ h1 h2 (by rw [HG.out]; exact hlt), HG.out]
          case measure => simp [intOf]; omega
      · have HP := Lib.hid hP.2; clear hP
        go_wp2_with fail
        go_ret2
        exact ⟨first_none (by rw [HP.out]; exact scan_out _ _ _ _ h1), rfl⟩
end Go.Proofs.Ytidfoflbebampaa
