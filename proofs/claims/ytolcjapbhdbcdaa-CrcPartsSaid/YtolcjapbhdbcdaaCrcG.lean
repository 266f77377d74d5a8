/- However bytes are parted the sum is the same: few texts, the mathematics, and the law's walk. -/
import Derived.Test.YtolcjapbhdbcdaaCrcB
import Derived.Deep.RegionWith
import Derived.Deep.OwnRows
import Derived.Laws.OwnMore
import Derived.IntWalk
namespace Go.Proofs.Ytolcjapbhdbcdaa.Crc
open Go.RowKit Go.Lib

theorem ones_twice (x : Nat) : ones ^^^ (ones ^^^ x) = x := by rw [← Nat.xor_assoc, Nat.xor_self, Nat.zero_xor]
theorem toList_append (a b : ByteArray) : (a ++ b).data.toList = a.data.toList ++ b.data.toList := by rw [ByteArray.data_append, Array.toList_append]
theorem more_more (n : Nat) (a b : ByteArray) : more (more n a) b = more n (a ++ b) := by
  unfold more
  rw [ones_twice, toList_append, run_append]
def zerosB (n : Nat) : ByteArray := ⟨(List.replicate n 0).toArray⟩
theorem zerosB_size (n : Nat) : (zerosB n).size = n := by simp [zerosB, ByteArray.size]
theorem zeros_more (n : Nat) (a : ByteArray) (m : Nat) : zeros (more n a) m = more n (a ++ zerosB m) := by
  unfold zeros more
  rw [ones_twice, toList_append, run_append]
  congr 1
  show _ = run _ (List.replicate m 0)
  rw [run_zeros]
def catB (T : Nat → ByteArray) : Nat → ByteArray
  | 0 => ⟨#[]⟩
  | k + 1 => catB T k ++ T k
theorem catB_size (T : Nat → ByteArray) : ∀ k, (∀ j, j < k → (T j).size ≤ 256) → (catB T k).size ≤ 256 * k
  | 0, _ => by simp [catB, ByteArray.size]
  | k + 1, h => by
    have h1 := catB_size T k (fun j hj => h j (by omega))
    have h2 := h k (by omega)
    simp only [catB, ByteArray.size_append]
    omega
theorem back_made (W : World) (B m : Nat) (h : W.heap[B]? = some (.cells (madeCells #[.int .u8 0] m) 5 (0, 0))) :
    (convert 31 9 (.slice (some ⟨B, 0, none⟩) m m)).run Try.prog W = .ok (.string (zerosB m)) W := by
  have hr := run_convert_bytes_back W 31 9 5 ⟨B, 0, none⟩ m (List.replicate m 0) Try.underlying31 Try.underlying5 Try.underlying9 (fun j hj => by
    have hj' : j < m := by simpa using hj
    have hadd : (⟨B, 0, none⟩ : Addr).add j = ⟨B, j, none⟩ := by unfold Addr.add; split <;> simp_all
    rw [hadd, cell_of_row W B j _ _ (0, 0) h, ← Array.getElem?_toList, toList_madeCells_one, List.getElem?_replicate, if_pos hj']
    simp)
  rw [List.length_replicate] at hr
  exact hr

/-- The texts of a slice that came in. -/
abbrev Strs (w : World) (a : Option Addr) (len : Nat) (T : Nat → ByteArray) : Prop := ∀ j, j < len → ∃ b off, a = some ⟨b, off, none⟩ ∧ b < w.heap.size ∧ w.cell? ⟨b, off + j, none⟩ = some (.string (T j))

set_option maxHeartbeats 400000 in
theorem few_yes (a : Option Addr) (len cap : Nat) (T : Nat → ByteArray) (w : World) (hc : Strs w a len T) (hl : len ≤ 12) (hT : ∀ j, j < len → (T j).size ≤ 256) :
    Calls Try.prog 13 #[.slice a len cap, .int .i64 12, .int .i64 256] w fun e w' => e = .returned (.bool true) ∧ w = w' := by
  have HC := Lib.hid hc; have HT := Lib.hid hT
  clear hc hT
  go_enter Try.func13, Try.ntmps13
  go_wp2_with fail
  go_loop [7] (fun i => ∃ k : Nat, k ≤ len ∧ i = .int .i64 k) (fun i => len - (intOf i).toNat)
  case atStart => exact ⟨0, by omega, rfl⟩
  case round =>
    obtain ⟨k, hk, rfl⟩ := hrel
    by_cases hlt : k < len
    · obtain ⟨b, off, rfl, hb, hc⟩ := HC.out k hlt
      have hs := HT.out k hlt
      have hk12 : k < 12 := by omega
      go_wp2_with fail
      go_round
      case rel => exact ⟨k + 1, by omega, by go_num⟩
      case measure => simp [intOf]; omega
    · go_wp2_with fail
      go_ret
      exact ⟨ret_bool (decide_eq_true (by omega)), rfl⟩
set_option maxHeartbeats 400000 in
theorem few_no (a : Option Addr) (len cap : Nat) (T : Nat → ByteArray) (w : World) (hc : Strs w a len T) (hm : ∀ j, j < len → (T j).size ≤ maxLen) (hl63 : len ≤ 2 ^ 63 - 1) (h : ¬ (len ≤ 12 ∧ ∀ j, j < len → (T j).size ≤ 256)) :
    Calls Try.prog 13 #[.slice a len cap, .int .i64 12, .int .i64 256] w fun e w' => e = .returned (.bool false) ∧ w = w' := by
  have HC := Lib.hid hc; have HN := Lib.hid h; have HM := Lib.hid hm
  clear hc h hm
  go_enter Try.func13, Try.ntmps13
  go_wp2_with fail
  go_loop [7] (fun i => ∃ k : Nat, k ≤ len ∧ k ≤ 12 ∧ Hid (∀ j, j < k → (T j).size ≤ 256) ∧ i = .int .i64 k) (fun i => len - (intOf i).toNat)
  case atStart => exact ⟨0, by omega, by omega, Lib.hid (fun j hj => by omega), rfl⟩
  case round =>
    obtain ⟨k, hk, hk2, hall, rfl⟩ := hrel
    by_cases hlt : k < len
    · by_cases hk12 : k < 12
      · obtain ⟨b, off, rfl, hb, hc⟩ := HC.out k hlt
        have hsm := HM.out k hlt
        unfold maxLen at hsm
        by_cases hs : (T k).size ≤ 256
        · have hall2 : ∀ j, j < k + 1 → (T j).size ≤ 256 := fun j hj => by
            rcases Nat.lt_or_ge j k with h | h
            · exact hall.out j h
            · obtain rfl : j = k := by omega
              exact hs
          have HA := Lib.hid hall2
          clear hall2
          go_wp2_with fail
          go_round
          case rel => exact ⟨k + 1, by omega, by omega, HA, by go_num⟩
          case measure => simp [intOf]; omega
        · go_wp2_with fail
          go_ret
          exact ⟨rfl, rfl⟩
      · go_wp2_with fail
        go_ret
        exact ⟨ret_bool (decide_eq_false (by omega)), rfl⟩
    · have hl12 : 12 < len := by
        rcases Nat.lt_or_ge 12 len with h | h
        · exact h
        · obtain rfl : k = len := by omega
          exact absurd ⟨h, hall.out⟩ HN.out
      exfalso
      omega
set_option maxHeartbeats 1000000 in
theorem lawParts_no (a : Option Addr) (len cap : Nat) (T : Nat → ByteArray) (n : Nat) (w : World) (hc : Strs w a len T) (hm : ∀ j, j < len → (T j).size ≤ maxLen) (hl63 : len ≤ 2 ^ 63 - 1) (h : ¬ (len ≤ 12 ∧ ∀ j, j < len → (T j).size ≤ 256)) :
    Calls Try.prog 4 #[.slice a len cap, .int .u16 n] w fun e w' => e = .returned (.bool true) ∧ Below w.heap.size w w' := by
  have HF := Lib.hid (few_no a len cap T w hc hm hl63 h)
  clear hc hm h
  go_enter Try.func4, Try.ntmps4
  go_wp2_with fail
  refine HF.out.mono ?_
  rintro e w' ⟨rfl, rfl⟩
  go_wp2_with fail
  refine (awake_any _).mono ?_
  rintro e w' ⟨rfl, rfl⟩
  go_wp2_with fail
  go_ret
  exact ⟨rfl, Below.refl _ _⟩
set_option maxRecDepth 100000 in
set_option maxHeartbeats 1000000 in
theorem lawParts_yes (a : Option Addr) (len cap : Nat) (T : Nat → ByteArray) (n : Nat) (w : World) (hc : Strs w a len T) (hn : n < 65536) (hl : len ≤ 12) (hT : ∀ j, j < len → (T j).size ≤ 256) :
    Calls Try.prog 4 #[.slice a len cap, .int .u16 n] w fun e w' => e = .returned (.bool true) ∧ Below w.heap.size w w' := by
  have HF := Lib.hid (few_yes a len cap T w hc hl hT)
  have HC := Lib.hid hc; have HT := Lib.hid hT
  clear hc hT
  obtain ⟨m, hm⟩ : ∃ m, n &&& 1023 = m := ⟨_, rfl⟩
  have hm1 : m ≤ 1023 := by rw [← hm]; exact Nat.and_le_right
  have hmany := u16_and_nat n 1023 hn (by omega)
  rw [hm] at hmany
  replace hmany : bits .and .u16 (n : Int) 1023 = (m : Int) := hmany
  clear hm
  go_enter Try.func4, Try.ntmps4
  go_wp2_with fail
  refine HF.out.mono ?_
  rintro e w' ⟨rfl, rfl⟩
  go_wp2_with fail
  refine (sum_any ⟨#[]⟩ _ (by decide)).mono ?_
  rintro e w' ⟨rfl, rfl⟩
  go_wp2_with fail
  go_loop [5, 6, 7] (fun s u i => ∃ k : Nat, k ≤ len ∧ i = .int .i64 k ∧ s = .string (catB T k) ∧ u = .int .u32 (more 0 (catB T k) : Nat)) (fun _ _ i => len - (intOf i).toNat)
  case atStart => exact ⟨0, by omega, rfl, rfl, rfl⟩
  case round =>
    obtain ⟨k, hk, rfl, rfl, rfl⟩ := hrel
    have hcs := catB_size T k (fun j hj => HT.out j (by omega))
    have hml := more_lt 0 (catB T k) (by omega)
    by_cases hlt : k < len
    · obtain ⟨b, off, rfl, hb, hc⟩ := HC.out k hlt
      have hs := HT.out k hlt
      have hsz : ¬ 9223372036854775807 < (catB T k).size + (T k).size := by omega
      have HM := Lib.hid (more_more 0 (catB T k) (T k))
      go_wp2_with fail
      refine (more_any _ (T k) _ hml (by unfold maxLen; omega)).mono ?_
      rintro e w' ⟨rfl, rfl⟩
      rw [HM.out]
      go_wp2_with fail
      go_round
      case rel => exact ⟨k + 1, by omega, by go_num, rfl, rfl⟩
      case measure => simp [intOf]; omega
    · obtain rfl : k = len := by omega
      obtain ⟨A, hA⟩ : ∃ A, catB T k = A := ⟨_, rfl⟩
      rw [hA] at hcs hml
      rw [hA]
      have hAs : A.size ≤ 3072 := by omega
      obtain ⟨Z, hZ⟩ : ∃ Z, zerosB m = Z := ⟨_, rfl⟩
      have hZs : Z.size = m := by rw [← hZ]; exact zerosB_size m
      have hzm := zeros_more 0 A m
      have hmade := back_made ((w.alloc (.cells (madeCells #[.int .u8 0] m) 5)).drew) w.heap.size m (heap_alloc_new w _)
      rw [hZ] at hzm hmade
      obtain ⟨AZ, hAZ⟩ : ∃ AZ, A ++ Z = AZ := ⟨_, rfl⟩
      have hAZs : AZ.size ≤ 4095 := by rw [← hAZ, ByteArray.size_append]; omega
      have hAZn : ¬ 9223372036854775807 < A.size + Z.size := by omega
      rw [hAZ] at hzm
      have hvl := more_lt 0 AZ (by omega)
      obtain ⟨v, hv⟩ : ∃ v, more 0 AZ = v := ⟨_, rfl⟩
      obtain ⟨u, hu⟩ : ∃ u, more 0 A = u := ⟨_, rfl⟩
      rw [hu] at hml hzm
      rw [hv] at hzm hvl
      rw [hu]
      have S1 : Hid (∀ W, Calls Try.prog 9 #[.string A] W fun e w' => e = .returned (.int .u32 (u : Int)) ∧ W = w') := Lib.hid (fun W => by rw [← hu]; exact sum_any A W (by unfold maxLen; omega))
      have S2 : Hid (∀ W, Calls Try.prog 9 #[.string AZ] W fun e w' => e = .returned (.int .u32 (v : Int)) ∧ W = w') := Lib.hid (fun W => by rw [← hv]; exact sum_any AZ W (by unfold maxLen; omega))
      have S3 : Hid (∀ W, Calls Try.prog 14 #[.int .u32 (u : Int), .int .i64 (m : Int)] W fun e w' => e = .returned (.int .u32 (v : Int)) ∧ W = w') := Lib.hid (fun W => by
        have h := zeros_any u (m : Int) W hml (by omega) (by omega)
        rw [show cnt (m : Int) = m by unfold cnt; omega, hzm] at h
        exact h)
      have hmk := run_make_row' (P := Try.prog) 31 5 (.int .u8 0) 1 Try.underlying31 info_u8 rfl .i64 .i64 m (by omega) (by omega)
      clear hA hu hcs hzm hv hZ hZs
      go_wp2_with fail
      clear hmany
      go_region_with (first | (go_at_call 9; (first | refine (S1.out _).mono ?_ | refine (S2.out _).mono ?_); rintro e w' ⟨rfl, rfl⟩) | (go_at_call 14; refine (S3.out _).mono ?_; rintro e w' ⟨rfl, rfl⟩) | (go_at_call 8; refine (awake_any _).mono ?_; rintro e w' ⟨rfl, rfl⟩))
      all_goals
        go_wp2_with fail
        go_ret
        exact ⟨rfl, ((Below.refl _ w).alloc (Nat.le_refl _) _).drew⟩
theorem lawParts_any (a : Option Addr) (len cap : Nat) (T : Nat → ByteArray) (n : Nat) (w : World) (hc : Strs w a len T) (hm : ∀ j, j < len → (T j).size ≤ maxLen) (hl : len ≤ maxLen) (hn : n < 65536) :
    Calls Try.prog 4 #[.slice a len cap, .int .u16 n] w fun e w' => e = .returned (.bool true) ∧ Below w.heap.size w w' := by
  by_cases h : len ≤ 12 ∧ ∀ j, j < len → (T j).size ≤ 256
  · exact lawParts_yes a len cap T n w hc hn h.1 h.2
  · exact lawParts_no a len cap T n w hc hm (by unfold maxLen at hl; omega) h
end Go.Proofs.Ytolcjapbhdbcdaa.Crc
