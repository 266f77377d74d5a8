/- The program's upTo and Check of fees. -/
import Derived.Test.YteaclacbdelinaaZFeeS
namespace Go.Proofs.Yteaclacbdelinaa.Fee
open Go.RowKit Go.Lib

/-! upTo -/
theorem upto_yes (n m : Int) (w : World) (h0 : 0 ≤ n) (h1 : n ≤ m) : Calls Try.prog 50 #[.int .i64 n, .int .i64 m] w fun e w' => e = .returned (.bool true) ∧ w = w' := by
  go_enter Try.func50, Try.ntmps50
  go_wp2_with fail
  go_ret
  exact ⟨rfl, rfl⟩
theorem upto_no (n m : Int) (w : World) (h : n < 0 ∨ m < n) : Calls Try.prog 50 #[.int .i64 n, .int .i64 m] w fun e w' => e = .returned (.bool false) ∧ w = w' := by
  have h2 : n < 0 ∨ (¬ n < 0 ∧ m < n) := by omega
  clear h
  rcases h2 with h | ⟨h, k⟩
  · have d1 : decide (0 ≤ n) = false := decide_eq_false (by omega)
    go_enter Try.func50, Try.ntmps50
    go_wp2_with fail
    go_ret
    exact ⟨rfl, rfl⟩
  · have d1 : decide (0 ≤ n) = true := decide_eq_true (by omega)
    have d2 : decide (n ≤ m) = false := decide_eq_false (by omega)
    go_enter Try.func50, Try.ntmps50
    go_wp2_with fail
    go_ret
    exact ⟨rfl, rfl⟩
/-- As walks want it: what it tells is named ahead. -/
theorem upto_at (n m : Int) : ∃ b : Bool, Hid (∀ w, Calls Try.prog 50 #[.int .i64 n, .int .i64 m] w fun e w' => e = .returned (.bool b) ∧ w = w') ∧ ((b = true ∧ 0 ≤ n ∧ n ≤ m) ∨ (b = false ∧ (n < 0 ∨ m < n))) := by
  by_cases h : 0 ≤ n ∧ n ≤ m
  · exact ⟨true, Lib.hid fun w => upto_yes n m w h.1 h.2, .inl ⟨rfl, h⟩⟩
  · exact ⟨false, Lib.hid fun w => upto_no n m w (by omega), .inr ⟨rfl, by omega⟩⟩
set_option maxRecDepth 100000 in
set_option maxHeartbeats 1000000 in
theorem check_im (f : FS) (w : World) :
    Calls Try.prog 31 #[f.v] w fun e w' => e = .returned (.int .i64 (chkF f)) ∧ Below w.heap.size w w' := by
  obtain ⟨b, l, s⟩ := f
  obtain ⟨x, HX, hx⟩ := upto_at b 10000
  obtain ⟨y, HY, hy⟩ := upto_at s 10000
  obtain ⟨z, HZ, hz⟩ := upto_at l 1152921504606846976
  obtain ⟨t, ht⟩ : ∃ t, chkF ⟨b, l, s⟩ = t := ⟨_, rfl⟩
  have hxyz : (x = true ∧ y = true ∧ z = true ∧ t = 0) ∨ ((x = false ∨ (x = true ∧ (y = false ∨ (y = true ∧ z = false)))) ∧ t = 1) := by
    by_cases h : FeeOk ⟨b, l, s⟩
    · left
      rw [chkF_yes h] at ht
      unfold FeeOk at h
      dsimp only at h
      refine ⟨?_, ?_, ?_, ht.symm⟩
      · rcases hx with h1 | h1
        · exact h1.1
        · omega
      · rcases hy with h1 | h1
        · exact h1.1
        · omega
      · rcases hz with h1 | h1
        · exact h1.1
        · omega
    · right
      rw [chkF_no h] at ht
      unfold FeeOk at h
      dsimp only at h
      refine ⟨?_, ht.symm⟩
      rcases hx with h1 | h1
      · refine .inr ⟨h1.1, ?_⟩
        rcases hy with h2 | h2
        · refine .inr ⟨h2.1, ?_⟩
          rcases hz with h3 | h3
          · omega
          · exact h3.1
        · exact .inl h2.1
      · exact .inl h1.1
  rw [ht]
  clear ht hx hy hz
  rcases hxyz with ⟨rfl, rfl, rfl, rfl⟩ | ⟨rfl | ⟨rfl, rfl | ⟨rfl, rfl⟩⟩, rfl⟩
  · go_enter Try.func31, Try.ntmps31
    go_wp2_with fail
    refine (HX.out _).mono ?_
    rintro e w' ⟨rfl, rfl⟩
    go_wp2_with fail
    refine (HY.out _).mono ?_
    rintro e w' ⟨rfl, rfl⟩
    go_wp2_with fail
    refine (HZ.out _).mono ?_
    rintro e w' ⟨rfl, rfl⟩
    go_wp2_with fail
    go_ret
    exact ⟨rfl, (Below.refl _ w).alloc (Nat.le_refl _) _⟩
  · go_enter Try.func31, Try.ntmps31
    go_wp2_with fail
    refine (HX.out _).mono ?_
    rintro e w' ⟨rfl, rfl⟩
    go_wp2_with fail
    go_ret
    exact ⟨rfl, (Below.refl _ w).alloc (Nat.le_refl _) _⟩
  · go_enter Try.func31, Try.ntmps31
    go_wp2_with fail
    refine (HX.out _).mono ?_
    rintro e w' ⟨rfl, rfl⟩
    go_wp2_with fail
    refine (HY.out _).mono ?_
    rintro e w' ⟨rfl, rfl⟩
    go_wp2_with fail
    go_ret
    exact ⟨rfl, (Below.refl _ w).alloc (Nat.le_refl _) _⟩
  · go_enter Try.func31, Try.ntmps31
    go_wp2_with fail
    refine (HX.out _).mono ?_
    rintro e w' ⟨rfl, rfl⟩
    go_wp2_with fail
    refine (HY.out _).mono ?_
    rintro e w' ⟨rfl, rfl⟩
    go_wp2_with fail
    refine (HZ.out _).mono ?_
    rintro e w' ⟨rfl, rfl⟩
    go_wp2_with fail
    go_ret
    exact ⟨rfl, (Below.refl _ w).alloc (Nat.le_refl _) _⟩
end Go.Proofs.Yteaclacbdelinaa.Fee
