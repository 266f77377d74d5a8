/- The program's reader in memory. The program's reader: spoil. The program's reader: Bad. The program's reader: a word. The program's reader: Uint. The program's reader: Left. The program's reader: Times. The program's reader: Done. The program's reader: New. -/
import Derived.Test.YteaclacbdelinaaZPrMath
namespace Go.Proofs.Yteaclacbdelinaa.Pen
open Go.RowKit Go.Lib

/-- A reader's block: what is left, or that it is bad. -/
def rdCells : Option ByteArray → Array Value
  | some s => #[.string s, .bool true]
  | none => #[.string ⟨#[]⟩, .bool false]
def Rd (w : World) (R : Nat) (st : Option ByteArray) : Prop := w.heap[R]? = some (.cells (rdCells st) 98 (0, 0))
theorem Rd.good {w : World} {R : Nat} {s : ByteArray} (h : Rd w R (some s)) : w.cell? ⟨R, 0, none⟩ = some (.string s) ∧ w.cell? ⟨R, 1, none⟩ = some (.bool true) ∧ w.frozen? ⟨R, 0, none⟩ = false ∧ w.frozen? ⟨R, 1, none⟩ = false :=
  ⟨cell_block h rfl, cell_block h rfl, free_block 0 h, free_block 1 h⟩
theorem Rd.bad {w : World} {R : Nat} (h : Rd w R none) : w.cell? ⟨R, 0, none⟩ = some (.string ⟨#[]⟩) ∧ w.cell? ⟨R, 1, none⟩ = some (.bool false) ∧ w.frozen? ⟨R, 0, none⟩ = false ∧ w.frozen? ⟨R, 1, none⟩ = false :=
  ⟨cell_block h rfl, cell_block h rfl, free_block 0 h, free_block 1 h⟩
theorem Rd.lt {w : World} {R : Nat} {st : Option ByteArray} (h : Rd w R st) : R < w.heap.size := by
  rcases Nat.lt_or_ge R w.heap.size with h' | h'
  · exact h'
  · unfold Rd at h; simp [Array.getElem?_eq_none h'] at h
theorem Rd.spoilt {w : World} {R : Nat} {st : Option ByteArray} (h : Rd w R st) : Rd ((w.setCell ⟨R, 0, none⟩ (.string ⟨#[]⟩)).setCell ⟨R, 1, none⟩ (.bool false)) R none := by
  have h1 := heap_setCell_same w R 0 _ _ (.string ⟨#[]⟩) h
  have h2 := heap_setCell_same _ R 1 _ _ (.bool false) h1
  unfold Rd
  rw [h2]
  cases st <;> rfl
theorem Rd.rest {w : World} {R : Nat} {s : ByteArray} (h : Rd w R (some s)) (t : ByteArray) : Rd (w.setCell ⟨R, 0, none⟩ (.string t)) R (some t) := by
  have h1 := heap_setCell_same w R 0 _ _ (.string t) h
  unfold Rd
  rw [h1]
  rfl
theorem Rd.of_grown {w w' : World} {R : Nat} {st : Option ByteArray} {row : Option Nat} (h : Rd w R st) (hg : w.grownBy w' row) (hne : some R ≠ row) : Rd w' R st :=
  (hg.block R h.lt hne).trans h
theorem Rd.of_below {w w' : World} {R : Nat} {st : Option ByteArray} (h : Rd w R st) (hg : Below w.heap.size w w') : Rd w' R st :=
  (hg.block R h.lt).trans h
theorem Rd.drewN {w : World} {R : Nat} {st : Option ByteArray} (h : Rd w R st) (n : Nat) : Rd (w.drewN n) R st := h
end Go.Proofs.Yteaclacbdelinaa.Pen
namespace Go.Proofs.Yteaclacbdelinaa.Pen
open Go.RowKit Go.Lib

theorem spoil_any (R : Nat) (st : Option ByteArray) (w : World) (h : Rd w R st) :
    Calls Try.prog 82 #[.pointer (some ⟨R, 0, none⟩)] w fun e w' => e = .returned (.tuple #[]) ∧ Rd w' R none ∧ w.grownBy w' (some R) := by
  have H := h
  cases st with
  | some s =>
    obtain ⟨c0, c1, f0, f1⟩ := h.good
    clear h
    go_enter Try.func82, Try.ntmps82
    go_wp2
    go_end0
    exact ⟨rfl, H.spoilt, only_setCell (only_setCell (only_refl _ _) _ _) _ _⟩
  | none =>
    obtain ⟨c0, c1, f0, f1⟩ := h.bad
    clear h
    go_enter Try.func82, Try.ntmps82
    go_wp2
    go_end0
    exact ⟨rfl, H.spoilt, only_setCell (only_setCell (only_refl _ _) _ _) _ _⟩
theorem spoil_nil (w : World) :
    Calls Try.prog 82 #[.pointer none] w fun e w' => e = .returned (.tuple #[]) ∧ w = w' := by
  go_enter Try.func82, Try.ntmps82
  go_wp2
  go_end0
  exact ⟨rfl, rfl⟩
end Go.Proofs.Yteaclacbdelinaa.Pen
namespace Go.Proofs.Yteaclacbdelinaa.Pen
open Go.RowKit Go.Lib

theorem bad_any (R : Nat) (st : Option ByteArray) (w : World) (h : Rd w R st) :
    Calls Try.prog 65 #[.pointer (some ⟨R, 0, none⟩)] w fun e w' => e = .returned (.bool (isBad st)) ∧ w = w' := by
  cases st with
  | some s =>
    obtain ⟨c0, c1, _, _⟩ := h.good
    clear h
    go_enter Try.func65, Try.ntmps65
    go_wp2
    go_ret
    exact ⟨rfl, rfl⟩
  | none =>
    obtain ⟨c0, c1, _, _⟩ := h.bad
    clear h
    go_enter Try.func65, Try.ntmps65
    go_wp2
    go_ret
    exact ⟨rfl, rfl⟩
theorem bad_nil (w : World) :
    Calls Try.prog 65 #[.pointer none] w fun e w' => e = .returned (.bool true) ∧ w = w' := by
  go_enter Try.func65, Try.ntmps65
  go_wp2
  go_ret
  exact ⟨rfl, rfl⟩
end Go.Proofs.Yteaclacbdelinaa.Pen
namespace Go.Proofs.Yteaclacbdelinaa.Pen
open Go.RowKit Go.Lib

set_option maxHeartbeats 400000 in
theorem mayEnd_yes (b i : Int) (w : World) (h0 : 0 ≤ b) (h1 : b ≤ 127) (h2 : 0 ≤ i) (h3 : i ≤ 9) (h : ¬ ((b = 0 ∧ 0 < i) ∨ (i = 9 ∧ 1 < b))) :
    Calls Try.prog 86 #[.int .u8 b, .int .i64 i] w fun e w' => e = .returned (.bool true) ∧ w = w' := by
  by_cases hb : b = 0
  · have hi : decide (0 < i) = false := by simp; omega
    have h9 : decide (i < 9) = true := by simp; omega
    have hB : (b == 0) = true := by simp [hb]
    clear hb h
    go_enter Try.func86, Try.ntmps86
    go_wp2
    go_ret
    exact ⟨rfl, rfl⟩
  · have hB : (b == 0) = false := by simp [hb]
    by_cases h9 : i < 9
    · have hd : decide (i < 9) = true := by simp [h9]
      clear hb h
      go_enter Try.func86, Try.ntmps86
      go_wp2
      go_ret
      exact ⟨rfl, rfl⟩
    · have hd : decide (i < 9) = false := by simp; omega
      have hB1 : (b == 1) = true := by simp; omega
      clear hb h
      go_enter Try.func86, Try.ntmps86
      go_wp2
      go_ret
      exact ⟨rfl, rfl⟩
set_option maxHeartbeats 400000 in
theorem mayEnd_no (b i : Int) (w : World) (h0 : 0 ≤ b) (h1 : b ≤ 127) (h2 : 0 ≤ i) (h3 : i ≤ 9) (h : (b = 0 ∧ 0 < i) ∨ (i = 9 ∧ 1 < b)) :
    Calls Try.prog 86 #[.int .u8 b, .int .i64 i] w fun e w' => e = .returned (.bool false) ∧ w = w' := by
  by_cases hb : b = 0
  · have hi : decide (0 < i) = true := by simp; omega
    have hB : (b == 0) = true := by simp [hb]
    clear hb h
    go_enter Try.func86, Try.ntmps86
    go_wp2
    go_ret
    exact ⟨rfl, rfl⟩
  · have hB : (b == 0) = false := by simp [hb]
    have hd : decide (i < 9) = false := by simp; omega
    have hB1 : (b == 1) = false := by simp; omega
    clear hb h
    go_enter Try.func86, Try.ntmps86
    go_wp2
    go_ret
    exact ⟨rfl, rfl⟩
set_option maxRecDepth 100000 in
set_option maxHeartbeats 1000000 in
theorem first_any (s : ByteArray) (w : World) (hs : s.size ≤ 9223372036854775807) :
    Calls Try.prog 85 #[.string s] w fun e w' => e = .returned (.tuple #[.int .u64 (FV s), .int .i64 (FK s)]) ∧ w = w' := by
  go_enter Try.func85, Try.ntmps85
  go_wp2
  all_goals
    go_loop [4, 10] (fun n i => ∃ (k acc : Nat) (z : Int), k ≤ 10 ∧ k ≤ s.size ∧ i = .int .i64 k ∧ n = .int .u64 z ∧ FirstAt s k acc z) (fun _ i => 10 - (intOf i).toNat)
    case atStart => exact ⟨0, 0, 0, by omega, by omega, rfl, rfl, ⟨fun _ => ⟨rfl, by simp⟩, rfl⟩⟩
    case round =>
      obtain ⟨k, acc, z, hk, hks, rfl, rfl, hP⟩ := hrel
      by_cases h1 : k < s.size ∧ k < 10
      · obtain ⟨h1, h2⟩ := h1
        obtain ⟨hz, hP⟩ := hP
        obtain ⟨rfl, ha⟩ := hz h2
        clear hz
        obtain ⟨c, hc⟩ : ∃ c, s[k].toNat = c := ⟨_, rfl⟩
        have hg : gb s k = c := by rw [gb_at s k h1, hc]
        have hc256 : c < 256 := by have := gb_lt s k; omega
        have HP := Lib.hid hP; have HG := Lib.hid hg
        have HA := Lib.hid ha
        clear hP hg ha
        by_cases hlt : c < 128
        · by_cases hend : (c = 0 ∧ 0 < k) ∨ (k = 9 ∧ 1 < c)
          · have HE := Lib.hid hend
            clear hend
            go_wp2_with fail
            refine (mayEnd_no c k _ (by omega) (by omega) (by omega) (by omega) (by have := HE.out; omega)).mono ?_
            rintro e w' ⟨rfl, rfl⟩
            go_wp2_with fail
            go_ret2
            exact ⟨first_none (by rw [HP.out]; exact scan_bad _ _ _ _ h1 h2 (by rw [HG.out]; exact hlt) (by rw [HG.out]; exact HE.out)), rfl⟩
          · have HE := Lib.hid hend
            clear hend
            go_wp2_with fail
            refine (mayEnd_yes c k _ (by omega) (by omega) (by omega) (by omega) (by have := HE.out; omega)).mono ?_
            rintro e w' ⟨rfl, rfl⟩
            go_wp2_with fail
            go_ret2
            exact ⟨first_some (by rw [HP.out]; exact scan_end _ _ _ _ h1 h2 (by rw [HG.out]; exact hlt) (by rw [HG.out]; exact HE.out)) (by rw [HG.out]; exact or_last acc c k (by omega) HA.out hlt (fun h => HE.out (Or.inr h))) (by omega), rfl⟩
        · have hge : (128 : Int) ≤ (c : Int) := by omega
          go_wp2_with fail
          go_round
          case rel =>
            refine ⟨k + 1, acc + (c - 128) * 2 ^ (7 * k), _, by omega, by omega, by go_num, rfl, ?_, ?_⟩
            · intro h9
              exact or_more acc c k (by omega) HA.out (by omega) hc256
            · rw [HP.out, scan_more _ _ _ _ h1 h2 (by rw [HG.out]; exact hlt), HG.out]
          case measure => simp [intOf]; omega
      · have HP := Lib.hid hP.2; clear hP
        go_wp2_with fail
        go_ret2
        exact ⟨first_none (by rw [HP.out]; exact scan_out _ _ _ _ h1), rfl⟩
set_option maxRecDepth 100000 in
set_option maxHeartbeats 1000000 in
theorem take_any (R : Nat) (st : Option ByteArray) (most : Nat) (w : World) (h : Rd w R st) (hf : Fit st) (_hm : most < 18446744073709551616) :
    Calls Try.prog 83 #[.pointer (some ⟨R, 0, none⟩), .int .u64 most] w fun e w' => e = .returned (.int .u64 (tkN st most)) ∧ Rd w' R (tkS st most) ∧ w.grownBy w' (some R) := by
  have H := h
  cases st with
  | none =>
    clear h
    go_enter Try.func83, Try.ntmps83
    go_wp2_with fail
    refine (bad_any R none _ H).mono ?_
    rintro e w' ⟨rfl, rfl⟩
    go_wp2_with fail
    go_ret
    exact ⟨rfl, H, only_refl _ _⟩
  | some s =>
    obtain ⟨c0, c1, f0, f1⟩ := h.good
    clear h
    have hs := hf s rfl
    obtain ⟨n, hn⟩ : ∃ n, FV s = n := ⟨_, rfl⟩
    obtain ⟨k, hk⟩ : ∃ k, FK s = k := ⟨_, rfl⟩
    have hn64 := FV_lt s
    have hkle := (FK_le s).1
    have hk10 := (FK_le s).2
    rw [hn] at hn64; rw [hk] at hkle hk10
    have HN := Lib.hid hn; have HK := Lib.hid hk
    by_cases hz : k = 0
    · have hd : ((k : Int) == 0) = true := by simp [hz]
      have hN : tkN (some s) most = 0 := by simp [tkN, hk, hz]
      have hS : tkS (some s) most = none := by simp [tkS, hk, hz]
      have HNN := Lib.hid hN; have HSS := Lib.hid hS
      clear hN hS hn hk hz
      go_enter Try.func83, Try.ntmps83
      go_wp2_with fail
      refine (bad_any R (some s) _ H).mono ?_
      rintro e w' ⟨rfl, rfl⟩
      go_wp2_with fail
      refine (first_any s _ hs).mono ?_
      rintro e w' ⟨rfl, rfl⟩
      rw [HN.out, HK.out]
      go_wp2_with fail
      refine (spoil_any R _ _ H).mono ?_
      rintro e w' ⟨rfl, H', hg⟩
      go_wp2_with fail
      go_ret
      exact ⟨ret_u64 (by rw [HNN.out]; rfl), by rw [HSS.out]; exact H', hg⟩
    · have hd : ((k : Int) == 0) = false := by simp [hz]
      by_cases hgt : most < n
      · have hgt' : (most : Int) < (n : Int) := by omega
        have hN : tkN (some s) most = 0 := by simp [tkN, hn, hgt]
        have hS : tkS (some s) most = none := by simp [tkS, hn, hgt]
        have HNN := Lib.hid hN; have HSS := Lib.hid hS
        clear hN hS hn hk hz
        go_enter Try.func83, Try.ntmps83
        go_wp2_with fail
        refine (bad_any R (some s) _ H).mono ?_
        rintro e w' ⟨rfl, rfl⟩
        go_wp2_with fail
        refine (first_any s _ hs).mono ?_
        rintro e w' ⟨rfl, rfl⟩
        rw [HN.out, HK.out]
        go_wp2_with fail
        refine (spoil_any R _ _ H).mono ?_
        rintro e w' ⟨rfl, H', hg⟩
        go_wp2_with fail
        go_ret
        exact ⟨ret_u64 (by rw [HNN.out]; rfl), by rw [HSS.out]; exact H', hg⟩
      · have hgt' : (n : Int) ≤ (most : Int) := by omega
        have hd2 : decide (most < n) = false := by simp; omega
        have hN : tkN (some s) most = n := by unfold tkN; simp only []; rw [if_neg (by omega), hn]
        have hS : tkS (some s) most = some (s.extract k s.size) := by unfold tkS; simp only []; rw [if_neg (by omega), hk]
        have HNN := Lib.hid hN; have HSS := Lib.hid hS
        clear hN hS hn hk hz
        go_enter Try.func83, Try.ntmps83
        go_wp2_with fail
        refine (bad_any R (some s) _ H).mono ?_
        rintro e w' ⟨rfl, rfl⟩
        go_wp2_with fail
        refine (first_any s _ hs).mono ?_
        rintro e w' ⟨rfl, rfl⟩
        rw [HN.out, HK.out]
        go_wp2_with fail
        go_ret
        exact ⟨ret_u64 (by rw [HNN.out]), by rw [HSS.out]; exact H.rest _, only_setCell (only_refl _ _) _ _⟩
theorem take_nil (most : Nat) (w : World) :
    Calls Try.prog 83 #[.pointer none, .int .u64 most] w fun e w' => e = .returned (.int .u64 0) ∧ w = w' := by
  go_enter Try.func83, Try.ntmps83
  go_wp2_with fail
  refine (bad_nil _).mono ?_
  rintro e w' ⟨rfl, rfl⟩
  go_wp2_with fail
  go_ret
  exact ⟨rfl, rfl⟩
end Go.Proofs.Yteaclacbdelinaa.Pen
namespace Go.Proofs.Yteaclacbdelinaa.Pen
open Go.RowKit Go.Lib

set_option maxHeartbeats 1000000 in
theorem uint_any (R : Nat) (st : Option ByteArray) (most : Int) (w : World) (h : Rd w R st) (hf : Fit st) (hm : most ≤ 9223372036854775807) :
    Calls Try.prog 77 #[.pointer (some ⟨R, 0, none⟩), .int .i64 most] w fun e w' => e = .returned (.int .i64 (uiN st most)) ∧ Rd w' R (uiS st most) ∧ w.grownBy w' (some R) := by
  by_cases hneg : most < 0
  · have hN : uiN st most = 0 := by unfold uiN; rw [if_pos hneg]
    have hS : uiS st most = none := by unfold uiS; rw [if_pos hneg]
    have HNN := Lib.hid hN; have HSS := Lib.hid hS
    clear hN hS
    go_enter Try.func77, Try.ntmps77
    go_wp2_with fail
    refine (spoil_any R st _ h).mono ?_
    rintro e w' ⟨rfl, H', hg⟩
    go_wp2_with fail
    go_ret
    exact ⟨ret_i64 (by rw [HNN.out]; rfl), by rw [HSS.out]; exact H', hg⟩
  · obtain ⟨m, rfl⟩ : ∃ m : Nat, most = m := ⟨most.toNat, by omega⟩
    obtain ⟨n, hn⟩ : ∃ n, tkN st m = n := ⟨_, rfl⟩
    have hN : uiN st m = n := by unfold uiN; rw [if_neg hneg, Int.toNat_natCast, hn]
    have hS : uiS st m = tkS st m := by unfold uiS; rw [if_neg hneg, Int.toNat_natCast]
    have hle := (tkN_le st m).1
    rw [hn] at hle
    have hd : decide ((m : Int) < 0) = false := by simp
    have HNN := Lib.hid hN; have HSS := Lib.hid hS; have HN := Lib.hid hn
    clear hN hS hneg hn
    go_enter Try.func77, Try.ntmps77
    go_wp2_with fail
    refine (take_any R st m _ h hf (by omega)).mono ?_
    rintro e w' ⟨rfl, H', hg⟩
    rw [HN.out]
    go_wp2_with fail
    go_ret
    exact ⟨ret_i64 (by rw [HNN.out]), by rw [HSS.out]; exact H', hg⟩
theorem uint_nil (most : Int) (w : World) (hm : most ≤ 9223372036854775807) :
    Calls Try.prog 77 #[.pointer none, .int .i64 most] w fun e w' => e = .returned (.int .i64 0) ∧ w = w' := by
  by_cases hneg : most < 0
  · go_enter Try.func77, Try.ntmps77
    go_wp2_with fail
    refine (spoil_nil _).mono ?_
    rintro e w' ⟨rfl, rfl⟩
    go_wp2_with fail
    go_ret
    exact ⟨rfl, rfl⟩
  · obtain ⟨m, rfl⟩ : ∃ m : Nat, most = m := ⟨most.toNat, by omega⟩
    have hd : decide ((m : Int) < 0) = false := by simp
    clear hneg
    go_enter Try.func77, Try.ntmps77
    go_wp2_with fail
    refine (take_nil m _).mono ?_
    rintro e w' ⟨rfl, rfl⟩
    go_wp2_with fail
    go_ret
    exact ⟨rfl, rfl⟩
end Go.Proofs.Yteaclacbdelinaa.Pen
namespace Go.Proofs.Yteaclacbdelinaa.Pen
open Go.RowKit Go.Lib

theorem left_any (R : Nat) (st : Option ByteArray) (w : World) (h : Rd w R st) :
    Calls Try.prog 84 #[.pointer (some ⟨R, 0, none⟩)] w fun e w' => e = .returned (.int .i64 (leftOf st)) ∧ w = w' := by
  have H := h
  cases st with
  | some s =>
    obtain ⟨c0, c1, _, _⟩ := h.good
    clear h
    go_enter Try.func84, Try.ntmps84
    go_wp2_with fail
    refine (bad_any R _ _ H).mono ?_
    rintro e w' ⟨rfl, rfl⟩
    go_wp2
    go_ret
    exact ⟨rfl, rfl⟩
  | none =>
    go_enter Try.func84, Try.ntmps84
    go_wp2_with fail
    refine (bad_any R _ _ H).mono ?_
    rintro e w' ⟨rfl, rfl⟩
    go_wp2
    go_ret
    exact ⟨rfl, rfl⟩
theorem left_nil (w : World) :
    Calls Try.prog 84 #[.pointer none] w fun e w' => e = .returned (.int .i64 0) ∧ w = w' := by
  go_enter Try.func84, Try.ntmps84
  go_wp2_with fail
  refine (bad_nil _).mono ?_
  rintro e w' ⟨rfl, rfl⟩
  go_wp2_with fail
  go_ret
  exact ⟨rfl, rfl⟩
end Go.Proofs.Yteaclacbdelinaa.Pen
namespace Go.Proofs.Yteaclacbdelinaa.Pen
open Go.RowKit Go.Lib

set_option maxHeartbeats 1000000 in
theorem times_any (R : Nat) (st : Option ByteArray) (most : Int) (w : World) (h : Rd w R st) (hf : Fit st) (hm : most ≤ 9223372036854775807) :
    Calls Try.prog 78 #[.pointer (some ⟨R, 0, none⟩), .int .i64 most] w fun e w' => e = .returned (.int .i64 (tmN st most)) ∧ Rd w' R (tmS st most) ∧ w.grownBy w' (some R) := by
  obtain ⟨n, hn⟩ : ∃ n, uiN st most = n := ⟨_, rfl⟩
  obtain ⟨l, hl⟩ : ∃ l, leftOf (uiS st most) = l := ⟨_, rfl⟩
  have hn63 := uiN_le st most hm
  have hl0 := leftOf_nonneg (uiS st most)
  rw [hn] at hn63; rw [hl] at hl0
  have HN := Lib.hid hn; have HL := Lib.hid hl
  by_cases hgt : l < (n : Int)
  · have hN : tmN st most = 0 := by unfold tmN; rw [hl, hn, if_pos hgt]
    have hS : tmS st most = none := by unfold tmS; rw [hl, hn, if_pos hgt]
    have HNN := Lib.hid hN; have HSS := Lib.hid hS
    clear hN hS hn hl
    go_enter Try.func78, Try.ntmps78
    go_wp2_with fail
    refine (uint_any R st most _ h hf hm).mono ?_
    rintro e w1 ⟨rfl, H', hg⟩
    rw [HN.out]
    go_wp2_with fail
    refine (left_any R _ _ H').mono ?_
    rintro e w' ⟨rfl, rfl⟩
    rw [HL.out]
    go_wp2_with fail
    refine (spoil_any R _ _ H').mono ?_
    rintro e w' ⟨rfl, H2, hg2⟩
    go_wp2_with fail
    go_ret
    exact ⟨ret_i64 (by rw [HNN.out]; rfl), by rw [HSS.out]; exact H2, only_trans hg hg2⟩
  · have hN : tmN st most = n := by unfold tmN; rw [hl, hn, if_neg hgt]
    have hS : tmS st most = uiS st most := by unfold tmS; rw [hl, hn, if_neg hgt]
    have HNN := Lib.hid hN; have HSS := Lib.hid hS
    clear hN hS hn hl
    go_enter Try.func78, Try.ntmps78
    go_wp2_with fail
    refine (uint_any R st most _ h hf hm).mono ?_
    rintro e w1 ⟨rfl, H', hg⟩
    rw [HN.out]
    go_wp2_with fail
    refine (left_any R _ _ H').mono ?_
    rintro e w' ⟨rfl, rfl⟩
    rw [HL.out]
    go_wp2_with fail
    go_ret
    exact ⟨ret_i64 (by rw [HNN.out]), by rw [HSS.out]; exact H', hg⟩
theorem times_nil (most : Int) (w : World) (hm : most ≤ 9223372036854775807) :
    Calls Try.prog 78 #[.pointer none, .int .i64 most] w fun e w' => e = .returned (.int .i64 0) ∧ w = w' := by
  go_enter Try.func78, Try.ntmps78
  go_wp2_with fail
  refine (uint_nil most _ hm).mono ?_
  rintro e w' ⟨rfl, rfl⟩
  go_wp2_with fail
  refine (left_nil _).mono ?_
  rintro e w' ⟨rfl, rfl⟩
  go_wp2_with fail
  go_ret
  exact ⟨rfl, rfl⟩
end Go.Proofs.Yteaclacbdelinaa.Pen
namespace Go.Proofs.Yteaclacbdelinaa.Pen
open Go.RowKit Go.Lib

theorem done_any (R : Nat) (st : Option ByteArray) (w : World) (h : Rd w R st) :
    Calls Try.prog 46 #[.pointer (some ⟨R, 0, none⟩)] w fun e w' => e = .returned (.bool (doneOf st)) ∧ w = w' := by
  have H := h
  cases st with
  | some s =>
    obtain ⟨c0, c1, _, _⟩ := h.good
    clear h
    go_enter Try.func46, Try.ntmps46
    go_wp2_with fail
    refine (bad_any R _ _ H).mono ?_
    rintro e w' ⟨rfl, rfl⟩
    go_wp2
    go_ret
    exact ⟨rfl, rfl⟩
  | none =>
    go_enter Try.func46, Try.ntmps46
    go_wp2_with fail
    refine (bad_any R _ _ H).mono ?_
    rintro e w' ⟨rfl, rfl⟩
    go_wp2
    go_ret
    exact ⟨rfl, rfl⟩
theorem done_nil (w : World) :
    Calls Try.prog 46 #[.pointer none] w fun e w' => e = .returned (.bool false) ∧ w = w' := by
  go_enter Try.func46, Try.ntmps46
  go_wp2_with fail
  refine (bad_nil _).mono ?_
  rintro e w' ⟨rfl, rfl⟩
  go_wp2_with fail
  go_ret
  exact ⟨rfl, rfl⟩
end Go.Proofs.Yteaclacbdelinaa.Pen
namespace Go.Proofs.Yteaclacbdelinaa.Pen
open Go.RowKit Go.Lib

theorem new_any (s : ByteArray) (w : World) :
    Calls Try.prog 44 #[.string s] w fun e w' => e = .returned (.pointer (some ⟨w.heap.size, 0, none⟩)) ∧ w.alloc (.cells (rdCells (some s)) 98) = w' := by
  go_enter Try.func44, Try.ntmps44
  go_wp2
  go_ret
  exact ⟨rfl, rfl⟩
end Go.Proofs.Yteaclacbdelinaa.Pen
