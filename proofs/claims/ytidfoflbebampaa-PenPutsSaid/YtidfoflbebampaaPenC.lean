/- Package pen: the reader's methods walked: what each answers, and what is left behind it. -/
import Derived.Test.YtidfoflbebampaaPenB
namespace Go.Proofs.Ytidfoflbebampaa
open Go.RowKit Go.Lib

def Fit (st : Option ByteArray) : Prop := ∀ s, st = some s → s.size ≤ 9223372036854775807
def tkN (st : Option ByteArray) (most : Nat) : Nat := match st with | none => 0 | some s => if FK s = 0 ∨ most < FV s then 0 else FV s
def tkS (st : Option ByteArray) (most : Nat) : Option ByteArray := match st with | none => none | some s => if FK s = 0 ∨ most < FV s then none else some (s.extract (FK s) s.size)
def uiN (st : Option ByteArray) (most : Int) : Nat := if most < 0 then 0 else tkN st most.toNat
def uiS (st : Option ByteArray) (most : Int) : Option ByteArray := if most < 0 then none else tkS st most.toNat
def inN (st : Option ByteArray) : Int := placedOf (tkN st 18446744073709551615)
def inS (st : Option ByteArray) : Option ByteArray := tkS st 18446744073709551615
def tmN (st : Option ByteArray) (most : Int) : Nat := if leftOf (uiS st most) < (uiN st most : Int) then 0 else uiN st most
def tmS (st : Option ByteArray) (most : Int) : Option ByteArray := if leftOf (uiS st most) < (uiN st most : Int) then none else uiS st most
def txV (st : Option ByteArray) (most : Int) : ByteArray := match tmS st most with | none => ⟨#[]⟩ | some s => s.extract 0 (tmN st most)
def txS (st : Option ByteArray) (most : Int) : Option ByteArray := match tmS st most with | none => none | some s => some (s.extract (tmN st most) s.size)

theorem Fit.none : Fit none := fun _ h => by simp at h
theorem Fit.ext {s : ByteArray} (h : Fit (some s)) (a b : Nat) : Fit (some (s.extract a b)) := fun t ht => by
  injection ht with ht
  have := h s rfl
  rw [← ht, ByteArray.size_extract]; omega
theorem Fit.tk {st : Option ByteArray} (h : Fit st) (most : Nat) : Fit (tkS st most) := by
  unfold tkS
  cases st with
  | none => exact Fit.none
  | some s => simp only []; split <;> first | exact Fit.none | exact h.ext _ _
theorem Fit.ui {st : Option ByteArray} (h : Fit st) (most : Int) : Fit (uiS st most) := by
  unfold uiS; split
  · exact Fit.none
  · exact h.tk _
theorem Fit.tm {st : Option ByteArray} (h : Fit st) (most : Int) : Fit (tmS st most) := by
  unfold tmS; split
  · exact Fit.none
  · exact h.ui _
theorem Fit.tx {st : Option ByteArray} (h : Fit st) (most : Int) : Fit (txS st most) := by
  unfold txS
  have := h.tm most
  cases e : tmS st most with
  | none => exact Fit.none
  | some s => rw [e] at this; exact this.ext _ _
theorem tkN_le (st : Option ByteArray) (most : Nat) : tkN st most ≤ most ∧ tkN st most < 18446744073709551616 := by
  unfold tkN
  cases st with
  | none => simp
  | some s => simp only []; have := FV_lt s; split <;> omega
theorem uiN_le (st : Option ByteArray) (most : Int) (h : most ≤ 9223372036854775807) : uiN st most ≤ 9223372036854775807 := by
  unfold uiN; split
  · omega
  · have := (tkN_le st most.toNat).1; omega
theorem leftOf_nonneg (st : Option ByteArray) : 0 ≤ leftOf st := by unfold leftOf; cases st <;> simp
theorem tmN_left {st : Option ByteArray} {most : Int} {s : ByteArray} (h : tmS st most = some s) : tmN st most ≤ s.size := by
  unfold tmS at h; unfold tmN
  by_cases hc : leftOf (uiS st most) < (uiN st most : Int)
  · rw [if_pos hc] at h; simp at h
  · rw [if_neg hc] at h ⊢
    rw [h] at hc
    simp only [leftOf] at hc; omega

set_option maxRecDepth 100000 in
set_option maxHeartbeats 1000000 in
theorem take_any (R : Nat) (st : Option ByteArray) (most : Nat) (w : World) (h : Rd w R st) (hf : Fit st) (_hm : most < 18446744073709551616) :
    Calls Try.prog 33 #[.pointer (some ⟨R, 0, none⟩), .int .u64 most] w fun e w' => e = .returned (.int .u64 (tkN st most)) ∧ Rd w' R (tkS st most) ∧ w.grownBy w' (some R) := by
  have H := h
  cases st with
  | none =>
    clear h
    go_enter Try.func33, Try.ntmps33
    go_wp2_with fail
    refine (bad_any R none _ H).mono ?_
    rintro e w' ⟨rfl, rfl⟩
    go_wp2_with fail
    go_ret
    exact ⟨rfl, H, only_refl _ _⟩
  | some s =>
    obtain ⟨c0, c1, f0, f1⟩ := h.good
    clear h
    have hs := hf s rfl
    obtain ⟨n, hn⟩ : ∃ n, FV s = n := ⟨_, rfl⟩
    obtain ⟨k, hk⟩ : ∃ k, FK s = k := ⟨_, rfl⟩
    have hn64 := FV_lt s
    have hkle := (FK_le s).1
    have hk10 := (FK_le s).2
    rw [hn] at hn64; rw [hk] at hkle hk10
    have HN := Lib.hid hn; have HK := Lib.hid hk
    by_cases hz : k = 0
    · have hd : ((k : Int) == 0) = true := by simp [hz]
      have hN : tkN (some s) most = 0 := by simp [tkN, hk, hz]
      have hS : tkS (some s) most = none := by simp [tkS, hk, hz]
      have HNN := Lib.hid hN; have HSS := Lib.hid hS
      clear hN hS hn hk hz
      go_enter Try.func33, Try.ntmps33
      go_wp2_with fail
      refine (bad_any R (some s) _ H).mono ?_
      rintro e w' ⟨rfl, rfl⟩
      go_wp2_with fail
      refine (first_any s _ hs).mono ?_
      rintro e w' ⟨rfl, rfl⟩
      rw [HN.out, HK.out]
      go_wp2_with fail
      refine (spoil_any R _ _ H).mono ?_
      rintro e w' ⟨rfl, H', hg⟩
      go_wp2_with fail
      go_ret
      exact ⟨ret_u64 (by rw [HNN.out]; rfl), by rw [HSS.out]; exact H', hg⟩
    · have hd : ((k : Int) == 0) = false := by simp [hz]
      by_cases hgt : most < n
      · have hgt' : (most : Int) < (n : Int) := by omega
        have hN : tkN (some s) most = 0 := by simp [tkN, hn, hgt]
        have hS : tkS (some s) most = none := by simp [tkS, hn, hgt]
        have HNN := Lib.hid hN; have HSS := Lib.hid hS
        clear hN hS hn hk hz
        go_enter Try.func33, Try.ntmps33
        go_wp2_with fail
        refine (bad_any R (some s) _ H).mono ?_
        rintro e w' ⟨rfl, rfl⟩
        go_wp2_with fail
        refine (first_any s _ hs).mono ?_
        rintro e w' ⟨rfl, rfl⟩
        rw [HN.out, HK.out]
        go_wp2_with fail
        refine (spoil_any R _ _ H).mono ?_
        rintro e w' ⟨rfl, H', hg⟩
        go_wp2_with fail
        go_ret
        exact ⟨ret_u64 (by rw [HNN.out]; rfl), by rw [HSS.out]; exact H', hg⟩
      · have hgt' : (n : Int) ≤ (most : Int) := by omega
        have hd2 : decide (most < n) = false := by simp; omega
        have hN : tkN (some s) most = n := by unfold tkN; simp only []; rw [if_neg (by omega), hn]
        have hS : tkS (some s) most = some (s.extract k s.size) := by unfold tkS; simp only []; rw [if_neg (by omega), hk]
        have HNN := Lib.hid hN; have HSS := Lib.hid hS
        clear hN hS hn hk hz
        go_enter Try.func33, Try.ntmps33
        go_wp2_with fail
        refine (bad_any R (some s) _ H).mono ?_
        rintro e w' ⟨rfl, rfl⟩
        go_wp2_with fail
        refine (first_any s _ hs).mono ?_
        rintro e w' ⟨rfl, rfl⟩
        rw [HN.out, HK.out]
        go_wp2_with fail
        go_ret
        exact ⟨ret_u64 (by rw [HNN.out]), by rw [HSS.out]; exact H.rest _, only_setCell (only_refl _ _) _ _⟩
theorem take_nil (most : Nat) (w : World) :
    Calls Try.prog 33 #[.pointer none, .int .u64 most] w fun e w' => e = .returned (.int .u64 0) ∧ w = w' := by
  go_enter Try.func33, Try.ntmps33
  go_wp2_with fail
  refine (bad_nil _).mono ?_
  rintro e w' ⟨rfl, rfl⟩
  go_wp2_with fail
  go_ret
  exact ⟨rfl, rfl⟩

set_option maxHeartbeats 1000000 in
theorem uint_any (R : Nat) (st : Option ByteArray) (most : Int) (w : World) (h : Rd w R st) (hf : Fit st) (hm : most ≤ 9223372036854775807) :
    Calls Try.prog 15 #[.pointer (some ⟨R, 0, none⟩), .int .i64 most] w fun e w' => e = .returned (.int .i64 (uiN st most)) ∧ Rd w' R (uiS st most) ∧ w.grownBy w' (some R) := by
  by_cases hneg : most < 0
  · have hN : uiN st most = 0 := by unfold uiN; rw [if_pos hneg]
    have hS : uiS st most = none := by unfold uiS; rw [if_pos hneg]
    have HNN := Lib.hid hN; have HSS := Lib.hid hS
    clear hN hS
    go_enter Try.func15, Try.ntmps15
    go_wp2_with fail
    refine (spoil_any R st _ h).mono ?_
    rintro e w' ⟨rfl, H', hg⟩
    go_wp2_with fail
    go_ret
    exact ⟨ret_i64 (by rw [HNN.out]; rfl), by rw [HSS.out]; exact H', hg⟩
  · obtain ⟨m, rfl⟩ : ∃ m : Nat, most = m := ⟨most.toNat, by omega⟩
    obtain ⟨n, hn⟩ : ∃ n, tkN st m = n := ⟨_, rfl⟩
    have hN : uiN st m = n := by unfold uiN; rw [if_neg hneg, Int.toNat_natCast, hn]
    have hS : uiS st m = tkS st m := by unfold uiS; rw [if_neg hneg, Int.toNat_natCast]
    have hle := (tkN_le st m).1
    rw [hn] at hle
    have hd : decide ((m : Int) < 0) = false := by simp
    have HNN := Lib.hid hN; have HSS := Lib.hid hS; have HN := Lib.hid hn
    clear hN hS hneg hn
    go_enter Try.func15, Try.ntmps15
    go_wp2_with fail
    refine (take_any R st m _ h hf (by omega)).mono ?_
    rintro e w' ⟨rfl, H', hg⟩
    rw [HN.out]
    go_wp2_with fail
    go_ret
    exact ⟨ret_i64 (by rw [HNN.out]), by rw [HSS.out]; exact H', hg⟩
theorem uint_nil (most : Int) (w : World) (hm : most ≤ 9223372036854775807) :
    Calls Try.prog 15 #[.pointer none, .int .i64 most] w fun e w' => e = .returned (.int .i64 0) ∧ w = w' := by
  by_cases hneg : most < 0
  · go_enter Try.func15, Try.ntmps15
    go_wp2_with fail
    refine (spoil_nil _).mono ?_
    rintro e w' ⟨rfl, rfl⟩
    go_wp2_with fail
    go_ret
    exact ⟨rfl, rfl⟩
  · obtain ⟨m, rfl⟩ : ∃ m : Nat, most = m := ⟨most.toNat, by omega⟩
    have hd : decide ((m : Int) < 0) = false := by simp
    clear hneg
    go_enter Try.func15, Try.ntmps15
    go_wp2_with fail
    refine (take_nil m _).mono ?_
    rintro e w' ⟨rfl, rfl⟩
    go_wp2_with fail
    go_ret
    exact ⟨rfl, rfl⟩
theorem int_any (R : Nat) (st : Option ByteArray) (w : World) (h : Rd w R st) (hf : Fit st) :
    Calls Try.prog 17 #[.pointer (some ⟨R, 0, none⟩)] w fun e w' => e = .returned (.int .i64 (inN st)) ∧ Rd w' R (inS st) ∧ w.grownBy w' (some R) := by
  have h64 := (tkN_le st 18446744073709551615).2
  go_enter Try.func17, Try.ntmps17
  go_wp2_with fail
  refine (take_any R st 18446744073709551615 _ h hf (by omega)).mono ?_
  rintro e w' ⟨rfl, H', hg⟩
  go_wp2_with fail
  refine (placed_any _ _ h64).mono ?_
  rintro e w' ⟨rfl, rfl⟩
  go_wp2_with fail
  go_ret
  exact ⟨rfl, H', hg⟩
theorem int_nil (w : World) :
    Calls Try.prog 17 #[.pointer none] w fun e w' => e = .returned (.int .i64 0) ∧ w = w' := by
  go_enter Try.func17, Try.ntmps17
  go_wp2_with fail
  refine (take_nil 18446744073709551615 _).mono ?_
  rintro e w' ⟨rfl, rfl⟩
  go_wp2_with fail
  refine (placed_any 0 _ (by omega)).mono ?_
  rintro e w' ⟨rfl, rfl⟩
  go_wp2_with fail
  go_ret
  exact ⟨rfl, rfl⟩
theorem left_nil (w : World) :
    Calls Try.prog 23 #[.pointer none] w fun e w' => e = .returned (.int .i64 0) ∧ w = w' := by
  go_enter Try.func23, Try.ntmps23
  go_wp2_with fail
  refine (bad_nil _).mono ?_
  rintro e w' ⟨rfl, rfl⟩
  go_wp2_with fail
  go_ret
  exact ⟨rfl, rfl⟩
theorem done_nil (w : World) :
    Calls Try.prog 26 #[.pointer none] w fun e w' => e = .returned (.bool false) ∧ w = w' := by
  go_enter Try.func26, Try.ntmps26
  go_wp2_with fail
  refine (bad_nil _).mono ?_
  rintro e w' ⟨rfl, rfl⟩
  go_wp2_with fail
  go_ret
  exact ⟨rfl, rfl⟩
end Go.Proofs.Ytidfoflbebampaa
