/- The document's Sale, Bay. -/
import Derived.Test.YtaffdddleegfcaaFeeB
namespace Go.Proofs.Ytaffdddleegfcaa.Fee
open Go.RowKit Go.Lib

set_option maxRecDepth 100000 in
set_option maxHeartbeats 4000000 in
theorem dsale (f : FS) (x : Int) (w : World) :
    Calls Try.prog 9 #[f.v, .int .i64 x] w fun e w' => e = .returned (.tuple #[.int .i64 (saleV f x), .int .i64 (feeE f x)]) ∧ Below w.heap.size w w' := by
  have HC := check_at f
  by_cases hf : FeeOk f
  · rw [chkF_yes hf] at HC
    by_cases hx : MoneyOk x
    · rw [saleV_yes hf hx, feeE_yes hf hx]
      obtain ⟨b, l, s⟩ := f
      obtain ⟨x0, x1⟩ := hx
      obtain ⟨HS, i0, i1⟩ := rate_at false x0 x1 hf.2.1.1 hf.2.1.2
      obtain ⟨z, hz⟩ : ∃ z, sc x s 10000 false = z := ⟨_, rfl⟩
      change Calls Try.prog 9 _ _ fun e w' => e = .returned (.tuple #[.int .i64 (sc x s 10000 false), .int .i64 0]) ∧ Below w.heap.size w w'
      change Hid (∀ W, Calls Try.prog 18 #[.int .i64 x, .int .i64 s, .int .i64 10000, .bool false] W fun e w' => e = .returned (.tuple #[.int .i64 (sc x s 10000 false), .int .i64 0]) ∧ W = w') at HS
      rw [hz] at HS ⊢
      clear i0 i1 hz hf
      go_enter Try.func9, Try.ntmps9
      go_wp2_with fail
      refine (HC.out _).mono ?_
      rintro e w1 ⟨rfl, hb⟩
      obtain ⟨k0, k1, k2, HB⟩ := fee_kept hb
      clear hb
      go_wp2_with fail
      refine (HS.out w1).mono ?_
      rintro e w2 ⟨rfl, rfl⟩
      go_wp2_with fail
      go_ret2
      exact ⟨rfl, HB.out⟩
    · have hno : ¬ (FeeOk f ∧ MoneyOk x) := fun h => hx h.2
      rw [saleV_no hno, feeE_no hno]
      obtain ⟨b, l, s⟩ := f
      have hx2 : x < 0 ∨ (¬ x < 0 ∧ 1152921504606846976 < x) := by unfold MoneyOk at hx; omega
      clear hf hno hx
      rcases hx2 with h1 | ⟨h1, h2⟩
      all_goals
        go_enter Try.func9, Try.ntmps9
        go_wp2_with fail
        refine (HC.out _).mono ?_
        rintro e w1 ⟨rfl, hb⟩
        obtain ⟨k0, k1, k2, HB⟩ := fee_kept hb
        clear hb
        go_wp2_with fail
        go_ret2
        exact ⟨rfl, HB.out⟩
  · rw [chkF_no hf] at HC
    have hno : ¬ (FeeOk f ∧ MoneyOk x) := fun h => hf h.1
    rw [saleV_no hno, feeE_no hno]
    obtain ⟨b, l, s⟩ := f
    clear hf hno
    go_enter Try.func9, Try.ntmps9
    go_wp2_with fail
    refine (HC.out _).mono ?_
    rintro e w1 ⟨rfl, hb⟩
    obtain ⟨k0, k1, k2, HB⟩ := fee_kept hb
    clear hb
    go_wp2_with fail
    go_ret2
    exact ⟨rfl, HB.out⟩
theorem bay_yes {r t : Int} (h : BayOk r t) : bayV r t = sc t r 10000 true ∧ bayE r t = 0 := by
  unfold bayV bayE
  rw [if_pos h, if_pos h]
  exact ⟨rfl, rfl⟩
theorem bay_no {r t : Int} (h : ¬ BayOk r t) : bayV r t = 0 ∧ bayE r t = 1 := by
  unfold bayV bayE
  rw [if_neg h, if_neg h]
  exact ⟨rfl, rfl⟩
set_option maxRecDepth 100000 in
set_option maxHeartbeats 4000000 in
theorem dbay (r t : Int) (w : World) :
    Calls Try.prog 11 #[.int .i64 r, .int .i64 t] w fun e w' => e = .returned (.tuple #[.int .i64 (bayV r t), .int .i64 (bayE r t)]) ∧ Below w.heap.size w w' := by
  by_cases h : BayOk r t
  · rw [(bay_yes h).1, (bay_yes h).2]
    obtain ⟨⟨r0, r1⟩, t0, t1⟩ := h
    obtain ⟨HS, i0, i1⟩ := rate_at true t0 (by omega) r0 r1
    obtain ⟨z, hz⟩ : ∃ z, sc t r 10000 true = z := ⟨_, rfl⟩
    rw [hz] at HS ⊢
    clear i0 i1 hz
    go_enter Try.func11, Try.ntmps11
    go_wp2_with fail
    refine (HS.out w).mono ?_
    rintro e w2 ⟨rfl, rfl⟩
    go_wp2_with fail
    go_ret2
    exact ⟨rfl, Below.refl _ _⟩
  · rw [(bay_no h).1, (bay_no h).2]
    have hno : r < 0 ∨ (¬ r < 0 ∧ 10000 < r) ∨ (¬ r < 0 ∧ ¬ 10000 < r ∧ t < 0) ∨ (¬ r < 0 ∧ ¬ 10000 < r ∧ ¬ t < 0 ∧ 1099511627776 < t) := by unfold BayOk at h; omega
    clear h
    rcases hno with h1 | ⟨h1, h2⟩ | ⟨h1, h2, h3⟩ | ⟨h1, h2, h3, h4⟩
    all_goals
      go_enter Try.func11, Try.ntmps11
      go_wp2_with fail
      go_ret2
      exact ⟨rfl, Below.refl _ _⟩
end Go.Proofs.Ytaffdddleegfcaa.Fee
