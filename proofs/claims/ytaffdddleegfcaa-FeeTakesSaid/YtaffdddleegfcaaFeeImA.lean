/- The program's Scale, as fees reach it; its Check, Broker, Sale, Bay. -/
import Derived.Test.YtaffdddleegfcaaFeeG
import Derived.Test.YtaffdddleegfcaaCalcScaleP
namespace Go.Proofs.Ytaffdddleegfcaa.Fee
open Go.RowKit Go.Lib

theorem ret_money {a b : Int} (h : a = b) : Ending.returned (.tuple #[.int .i64 a, .int .i64 0]) = .returned (.tuple #[.int .i64 b, .int .i64 0]) := by rw [h]
theorem pscale (a b c : Int) (up : Bool) (w : World) (a0 : 0 ≤ a) (a1 : a ≤ 9223372036854775807) (b0 : 0 ≤ b) (b1 : b ≤ 9223372036854775807) (c0 : 1 ≤ c) (c1 : c ≤ 9223372036854775807) (hm : a * b ≤ c * 2305843009213693952) :
    Calls Try.prog 20 #[.int .i64 a, .int .i64 b, .int .i64 c, .bool up] w fun e w' => e = .returned (.tuple #[.int .i64 (sc a b c up), .int .i64 0]) ∧ Below w.heap.size w w' := by
  have h0 : 0 ≤ a * b := Int.mul_nonneg a0 b0
  have h1 : 0 ≤ a * b / c := Int.ediv_nonneg h0 (by omega)
  have h2 : a * b / c ≤ 2305843009213693952 := Int.ediv_le_of_le_mul (by omega) (by omega)
  have h3 : 0 ≤ sc a b c up ∧ sc a b c up ≤ 9223372036854775807 := by unfold sc; split <;> omega
  refine (Calc.scale_any a b c up w a0 a1 b0 b1 c0 c1).mono ?_
  rintro e w' ⟨he, n, rfl⟩
  have e1 : Calc.scaleQ a b c up = sc a b c up := rfl
  rw [e1, Calc.valN_in (by omega) h3.2, Calc.valE_in (by omega) h3.2] at he
  exact ⟨he, below_drewN (Below.refl _ _) n⟩
/-- What is taken at one rate. -/
theorem prate_at {x r : Int} (up : Bool) (x0 : 0 ≤ x) (x1 : x ≤ 1152921504606846976) (r0 : 0 ≤ r) (r1 : r ≤ 10000) :
    Hid (∀ W, Calls Try.prog 20 #[.int .i64 x, .int .i64 r, .int .i64 10000, .bool up] W fun e w' => e = .returned (.tuple #[.int .i64 (sc x r 10000 up), .int .i64 0]) ∧ Below W.heap.size W w') ∧ 0 ≤ sc x r 10000 up ∧ sc x r 10000 up ≤ 1152921504606846977 := by
  have hp := Int.mul_nonneg x0 r0
  have hq : x * r ≤ 1152921504606846976 * 10000 := Int.mul_le_mul x1 r1 r0 (by omega)
  exact ⟨Lib.hid (fun W => pscale x r 10000 up W x0 (by omega) r0 (by omega) (by omega) (by omega) (by omega)), sc_in up hp (by omega) (by omega)⟩
/-! upTo -/
theorem upto_yes (n m : Int) (w : World) (h0 : 0 ≤ n) (h1 : n ≤ m) : Calls Try.prog 19 #[.int .i64 n, .int .i64 m] w fun e w' => e = .returned (.bool true) ∧ w = w' := by
  go_enter Try.func19, Try.ntmps19
  go_wp2_with fail
  go_ret
  exact ⟨rfl, rfl⟩
theorem upto_no (n m : Int) (w : World) (h : n < 0 ∨ m < n) : Calls Try.prog 19 #[.int .i64 n, .int .i64 m] w fun e w' => e = .returned (.bool false) ∧ w = w' := by
  have h2 : n < 0 ∨ (¬ n < 0 ∧ m < n) := by omega
  clear h
  rcases h2 with h | ⟨h, k⟩
  · have d1 : decide (0 ≤ n) = false := decide_eq_false (by omega)
    go_enter Try.func19, Try.ntmps19
    go_wp2_with fail
    go_ret
    exact ⟨rfl, rfl⟩
  · have d1 : decide (0 ≤ n) = true := decide_eq_true (by omega)
    have d2 : decide (n ≤ m) = false := decide_eq_false (by omega)
    go_enter Try.func19, Try.ntmps19
    go_wp2_with fail
    go_ret
    exact ⟨rfl, rfl⟩
/-- As walks want it: what it tells is named ahead. -/
theorem upto_at (n m : Int) : ∃ b : Bool, Hid (∀ w, Calls Try.prog 19 #[.int .i64 n, .int .i64 m] w fun e w' => e = .returned (.bool b) ∧ w = w') ∧ ((b = true ∧ 0 ≤ n ∧ n ≤ m) ∨ (b = false ∧ (n < 0 ∨ m < n))) := by
  by_cases h : 0 ≤ n ∧ n ≤ m
  · exact ⟨true, Lib.hid fun w => upto_yes n m w h.1 h.2, .inl ⟨rfl, h⟩⟩
  · exact ⟨false, Lib.hid fun w => upto_no n m w (by omega), .inr ⟨rfl, by omega⟩⟩
set_option maxRecDepth 100000 in
set_option maxHeartbeats 1000000 in
theorem check_im (f : FS) (w : World) :
    Calls Try.prog 12 #[f.v] w fun e w' => e = .returned (.int .i64 (chkF f)) ∧ Below w.heap.size w w' := by
  obtain ⟨b, l, s⟩ := f
  obtain ⟨x, HX, hx⟩ := upto_at b 10000
  obtain ⟨y, HY, hy⟩ := upto_at s 10000
  obtain ⟨z, HZ, hz⟩ := upto_at l 1152921504606846976
  obtain ⟨t, ht⟩ : ∃ t, chkF ⟨b, l, s⟩ = t := ⟨_, rfl⟩
  have hxyz : (x = true ∧ y = true ∧ z = true ∧ t = 0) ∨ ((x = false ∨ (x = true ∧ (y = false ∨ (y = true ∧ z = false)))) ∧ t = 1) := by
    by_cases h : FeeOk ⟨b, l, s⟩
    · left
      rw [chkF_yes h] at ht
      unfold FeeOk at h
      dsimp only at h
      refine ⟨?_, ?_, ?_, ht.symm⟩
      · rcases hx with h1 | h1
        · exact h1.1
        · omega
      · rcases hy with h1 | h1
        · exact h1.1
        · omega
      · rcases hz with h1 | h1
        · exact h1.1
        · omega
    · right
      rw [chkF_no h] at ht
      unfold FeeOk at h
      dsimp only at h
      refine ⟨?_, ht.symm⟩
      rcases hx with h1 | h1
      · refine .inr ⟨h1.1, ?_⟩
        rcases hy with h2 | h2
        · refine .inr ⟨h2.1, ?_⟩
          rcases hz with h3 | h3
          · omega
          · exact h3.1
        · exact .inl h2.1
      · exact .inl h1.1
  rw [ht]
  clear ht hx hy hz
  rcases hxyz with ⟨rfl, rfl, rfl, rfl⟩ | ⟨rfl | ⟨rfl, rfl | ⟨rfl, rfl⟩⟩, rfl⟩
  · go_enter Try.func12, Try.ntmps12
    go_wp2_with fail
    refine (HX.out _).mono ?_
    rintro e w' ⟨rfl, rfl⟩
    go_wp2_with fail
    refine (HY.out _).mono ?_
    rintro e w' ⟨rfl, rfl⟩
    go_wp2_with fail
    refine (HZ.out _).mono ?_
    rintro e w' ⟨rfl, rfl⟩
    go_wp2_with fail
    go_ret
    exact ⟨rfl, (Below.refl _ w).alloc (Nat.le_refl _) _⟩
  · go_enter Try.func12, Try.ntmps12
    go_wp2_with fail
    refine (HX.out _).mono ?_
    rintro e w' ⟨rfl, rfl⟩
    go_wp2_with fail
    go_ret
    exact ⟨rfl, (Below.refl _ w).alloc (Nat.le_refl _) _⟩
  · go_enter Try.func12, Try.ntmps12
    go_wp2_with fail
    refine (HX.out _).mono ?_
    rintro e w' ⟨rfl, rfl⟩
    go_wp2_with fail
    refine (HY.out _).mono ?_
    rintro e w' ⟨rfl, rfl⟩
    go_wp2_with fail
    go_ret
    exact ⟨rfl, (Below.refl _ w).alloc (Nat.le_refl _) _⟩
  · go_enter Try.func12, Try.ntmps12
    go_wp2_with fail
    refine (HX.out _).mono ?_
    rintro e w' ⟨rfl, rfl⟩
    go_wp2_with fail
    refine (HY.out _).mono ?_
    rintro e w' ⟨rfl, rfl⟩
    go_wp2_with fail
    refine (HZ.out _).mono ?_
    rintro e w' ⟨rfl, rfl⟩
    go_wp2_with fail
    go_ret
    exact ⟨rfl, (Below.refl _ w).alloc (Nat.le_refl _) _⟩
theorem pcheck_at (f : FS) : Hid (∀ W, Calls Try.prog 12 #[f.v] W fun e w' => e = .returned (.int .i64 (chkF f)) ∧ Below W.heap.size W w') := Lib.hid (check_im f)
set_option maxRecDepth 100000 in
set_option maxHeartbeats 4000000 in
theorem broker_im (f : FS) (x : Int) (w : World) :
    Calls Try.prog 6 #[f.v, .int .i64 x] w fun e w' => e = .returned (.tuple #[.int .i64 (brokV f x), .int .i64 (feeE f x)]) ∧ Below w.heap.size w w' := by
  have HC := pcheck_at f
  by_cases hf : FeeOk f
  · rw [chkF_yes hf] at HC
    by_cases hx : MoneyOk x
    · rw [brokV_yes hf hx, feeE_yes hf hx]
      obtain ⟨b, l, s⟩ := f
      obtain ⟨x0, x1⟩ := hx
      obtain ⟨HS, i0, i1⟩ := prate_at true x0 x1 hf.1.1 hf.1.2
      obtain ⟨z, hz⟩ : ∃ z, sc x b 10000 true = z := ⟨_, rfl⟩
      obtain ⟨m, hm⟩ : ∃ m, max z l = m := ⟨_, rfl⟩
      change Calls Try.prog 6 _ _ fun e w' => e = .returned (.tuple #[.int .i64 (max (sc x b 10000 true) l), .int .i64 0]) ∧ Below w.heap.size w w'
      change Hid (∀ W, Calls Try.prog 20 #[.int .i64 x, .int .i64 b, .int .i64 10000, .bool true] W fun e w' => e = .returned (.tuple #[.int .i64 (sc x b 10000 true), .int .i64 0]) ∧ Below W.heap.size W w') at HS
      rw [hz] at HS ⊢
      rw [hm]
      have HU := Lib.hid (fun W => upto_yes x 1152921504606846976 W x0 x1)
      have hmm : (z = l ∧ m = l) ∨ (z < l ∧ m = l) ∨ (l < z ∧ m = z) := by omega
      clear i0 i1 hz hm hf
      rcases hmm with ⟨rfl, rfl⟩ | ⟨h1, rfl⟩ | ⟨h1, rfl⟩
      all_goals
        go_enter Try.func6, Try.ntmps6
        go_wp2_with fail
        refine (HC.out _).mono ?_
        rintro e w1 ⟨rfl, hb⟩
        obtain ⟨k0, k1, k2, HB⟩ := fee_kept hb
        have HBB := Lib.hid hb
        clear hb
        go_wp2_with fail
        refine (HU.out w1).mono ?_
        rintro e w2 ⟨rfl, rfl⟩
        go_wp2_with fail
        refine (HS.out w1).mono ?_
        rintro e w2 ⟨rfl, hb2⟩
        obtain ⟨k3, k4, k5, HB2⟩ := fee_kept (below_then HBB.out hb2)
        clear hb2 k0 k1 k2
        go_wp2_with fail
        go_ret2
        exact ⟨ret_money (by omega), HB2.out⟩
    · have hno : ¬ (FeeOk f ∧ MoneyOk x) := fun h => hx h.2
      rw [brokV_no hno, feeE_no hno]
      obtain ⟨b, l, s⟩ := f
      have HU := Lib.hid (fun W => upto_no x 1152921504606846976 W (by unfold MoneyOk at hx; omega))
      clear hf hno hx
      go_enter Try.func6, Try.ntmps6
      go_wp2_with fail
      refine (HC.out _).mono ?_
      rintro e w1 ⟨rfl, hb⟩
      obtain ⟨k0, k1, k2, HB⟩ := fee_kept hb
      clear hb
      go_wp2_with fail
      refine (HU.out w1).mono ?_
      rintro e w2 ⟨rfl, rfl⟩
      go_wp2_with fail
      go_ret2
      exact ⟨rfl, HB.out⟩
  · rw [chkF_no hf] at HC
    have hno : ¬ (FeeOk f ∧ MoneyOk x) := fun h => hf h.1
    rw [brokV_no hno, feeE_no hno]
    obtain ⟨b, l, s⟩ := f
    clear hf hno
    go_enter Try.func6, Try.ntmps6
    go_wp2_with fail
    refine (HC.out _).mono ?_
    rintro e w1 ⟨rfl, hb⟩
    obtain ⟨k0, k1, k2, HB⟩ := fee_kept hb
    clear hb
    go_wp2_with fail
    go_ret2
    exact ⟨rfl, HB.out⟩
set_option maxRecDepth 100000 in
set_option maxHeartbeats 4000000 in
theorem sale_im (f : FS) (x : Int) (w : World) :
    Calls Try.prog 8 #[f.v, .int .i64 x] w fun e w' => e = .returned (.tuple #[.int .i64 (saleV f x), .int .i64 (feeE f x)]) ∧ Below w.heap.size w w' := by
  have HC := pcheck_at f
  by_cases hf : FeeOk f
  · rw [chkF_yes hf] at HC
    by_cases hx : MoneyOk x
    · rw [saleV_yes hf hx, feeE_yes hf hx]
      obtain ⟨b, l, s⟩ := f
      obtain ⟨x0, x1⟩ := hx
      obtain ⟨HS, i0, i1⟩ := prate_at false x0 x1 hf.2.1.1 hf.2.1.2
      obtain ⟨z, hz⟩ : ∃ z, sc x s 10000 false = z := ⟨_, rfl⟩
      change Calls Try.prog 8 _ _ fun e w' => e = .returned (.tuple #[.int .i64 (sc x s 10000 false), .int .i64 0]) ∧ Below w.heap.size w w'
      change Hid (∀ W, Calls Try.prog 20 #[.int .i64 x, .int .i64 s, .int .i64 10000, .bool false] W fun e w' => e = .returned (.tuple #[.int .i64 (sc x s 10000 false), .int .i64 0]) ∧ Below W.heap.size W w') at HS
      rw [hz] at HS ⊢
      have HU := Lib.hid (fun W => upto_yes x 1152921504606846976 W x0 x1)
      clear i0 i1 hz hf
      go_enter Try.func8, Try.ntmps8
      go_wp2_with fail
      refine (HC.out _).mono ?_
      rintro e w1 ⟨rfl, hb⟩
      obtain ⟨k0, k1, k2, HB⟩ := fee_kept hb
      clear hb
      go_wp2_with fail
      refine (HU.out w1).mono ?_
      rintro e w2 ⟨rfl, rfl⟩
      go_wp2_with fail
      refine (HS.out w1).mono ?_
      rintro e w2 ⟨rfl, hb2⟩
      go_wp2_with fail
      go_ret2
      exact ⟨rfl, below_then HB.out hb2⟩
    · have hno : ¬ (FeeOk f ∧ MoneyOk x) := fun h => hx h.2
      rw [saleV_no hno, feeE_no hno]
      obtain ⟨b, l, s⟩ := f
      have HU := Lib.hid (fun W => upto_no x 1152921504606846976 W (by unfold MoneyOk at hx; omega))
      clear hf hno hx
      go_enter Try.func8, Try.ntmps8
      go_wp2_with fail
      refine (HC.out _).mono ?_
      rintro e w1 ⟨rfl, hb⟩
      obtain ⟨k0, k1, k2, HB⟩ := fee_kept hb
      clear hb
      go_wp2_with fail
      refine (HU.out w1).mono ?_
      rintro e w2 ⟨rfl, rfl⟩
      go_wp2_with fail
      go_ret2
      exact ⟨rfl, HB.out⟩
  · rw [chkF_no hf] at HC
    have hno : ¬ (FeeOk f ∧ MoneyOk x) := fun h => hf h.1
    rw [saleV_no hno, feeE_no hno]
    obtain ⟨b, l, s⟩ := f
    clear hf hno
    go_enter Try.func8, Try.ntmps8
    go_wp2_with fail
    refine (HC.out _).mono ?_
    rintro e w1 ⟨rfl, hb⟩
    obtain ⟨k0, k1, k2, HB⟩ := fee_kept hb
    clear hb
    go_wp2_with fail
    go_ret2
    exact ⟨rfl, HB.out⟩
set_option maxRecDepth 100000 in
set_option maxHeartbeats 4000000 in
theorem bay_im (r t : Int) (w : World) :
    Calls Try.prog 10 #[.int .i64 r, .int .i64 t] w fun e w' => e = .returned (.tuple #[.int .i64 (bayV r t), .int .i64 (bayE r t)]) ∧ Below w.heap.size w w' := by
  by_cases h : BayOk r t
  · rw [(bay_yes h).1, (bay_yes h).2]
    obtain ⟨⟨r0, r1⟩, t0, t1⟩ := h
    obtain ⟨HS, i0, i1⟩ := prate_at true t0 (by omega) r0 r1
    obtain ⟨z, hz⟩ : ∃ z, sc t r 10000 true = z := ⟨_, rfl⟩
    rw [hz] at HS ⊢
    have HU := Lib.hid (fun W => upto_yes r 10000 W r0 r1)
    have HV := Lib.hid (fun W => upto_yes t 1099511627776 W t0 t1)
    clear i0 i1 hz
    go_enter Try.func10, Try.ntmps10
    go_wp2_with fail
    refine (HU.out w).mono ?_
    rintro e w2 ⟨rfl, rfl⟩
    go_wp2_with fail
    refine (HV.out w).mono ?_
    rintro e w2 ⟨rfl, rfl⟩
    go_wp2_with fail
    refine (HS.out w).mono ?_
    rintro e w2 ⟨rfl, hb2⟩
    go_wp2_with fail
    go_ret2
    exact ⟨rfl, hb2⟩
  · rw [(bay_no h).1, (bay_no h).2]
    by_cases hr : 0 ≤ r ∧ r ≤ 10000
    · have HU := Lib.hid (fun W => upto_yes r 10000 W hr.1 hr.2)
      have HV := Lib.hid (fun W => upto_no t 1099511627776 W (by unfold BayOk at h; omega))
      clear h hr
      go_enter Try.func10, Try.ntmps10
      go_wp2_with fail
      refine (HU.out w).mono ?_
      rintro e w2 ⟨rfl, rfl⟩
      go_wp2_with fail
      refine (HV.out w).mono ?_
      rintro e w2 ⟨rfl, rfl⟩
      go_wp2_with fail
      go_ret2
      exact ⟨rfl, Below.refl _ _⟩
    · have HU := Lib.hid (fun W => upto_no r 10000 W (by omega))
      clear h hr
      go_enter Try.func10, Try.ntmps10
      go_wp2_with fail
      refine (HU.out w).mono ?_
      rintro e w2 ⟨rfl, rfl⟩
      go_wp2_with fail
      go_ret2
      exact ⟨rfl, Below.refl _ _⟩
end Go.Proofs.Ytaffdddleegfcaa.Fee
