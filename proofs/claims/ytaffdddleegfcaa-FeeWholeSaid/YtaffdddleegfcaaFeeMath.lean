/- The mathematics of fees: scaling bit by bit; shares by what is left. -/
namespace Go.Proofs.Ytaffdddleegfcaa.Fee

/-- A number times another one by a third, rounded up or down. -/
def sc (a b c : Int) (up : Bool) : Int := if up = true ∧ a * b % c ≠ 0 then a * b / c + 1 else a * b / c
theorem dm {P c q r : Int} (h : P = c * q + r) (h0 : 0 ≤ r) (h1 : r < c) : P / c = q ∧ P % c = r :=
  (Int.ediv_emod_unique (by omega)).2 ⟨by rw [h, Int.add_comm], h0, h1⟩
theorem dm_of (P : Int) {c : Int} (hc : 0 < c) : P = c * (P / c) + P % c ∧ 0 ≤ P % c ∧ P % c < c :=
  ⟨(Int.mul_ediv_add_emod P c).symm, Int.emod_nonneg _ (by omega), Int.emod_lt_of_pos _ hc⟩
/-- Twice as much. -/
theorem dm_two (P : Int) {c : Int} (hc : 0 < c) : (c ≤ 2 * (P % c) → 2 * P / c = 2 * (P / c) + 1 ∧ 2 * P % c = 2 * (P % c) - c) ∧ (2 * (P % c) < c → 2 * P / c = 2 * (P / c) ∧ 2 * P % c = 2 * (P % c)) := by
  obtain ⟨h, h0, h1⟩ := dm_of P hc
  obtain ⟨q, hq⟩ : ∃ q, P / c = q := ⟨_, rfl⟩
  obtain ⟨r, hr⟩ : ∃ r, P % c = r := ⟨_, rfl⟩
  rw [hq, hr] at h ⊢
  rw [hr] at h0 h1
  refine ⟨fun h2 => dm ?_ (by omega) (by omega), fun h2 => dm ?_ (by omega) (by omega)⟩
  · rw [h, Int.mul_add, Int.mul_add, Int.mul_one, Int.mul_left_comm]; omega
  · rw [h, Int.mul_add, Int.mul_left_comm]
/-- So much more. -/
theorem dm_more (P a : Int) {c : Int} (hc : 0 < c) : (c ≤ P % c + a % c → (P + a) / c = P / c + a / c + 1 ∧ (P + a) % c = P % c + a % c - c) ∧ (P % c + a % c < c → (P + a) / c = P / c + a / c ∧ (P + a) % c = P % c + a % c) := by
  obtain ⟨h, h0, h1⟩ := dm_of P hc
  obtain ⟨g, g0, g1⟩ := dm_of a hc
  obtain ⟨q, hq⟩ : ∃ q, P / c = q := ⟨_, rfl⟩
  obtain ⟨r, hr⟩ : ∃ r, P % c = r := ⟨_, rfl⟩
  obtain ⟨u, hu⟩ : ∃ u, a / c = u := ⟨_, rfl⟩
  obtain ⟨s, hs⟩ : ∃ s, a % c = s := ⟨_, rfl⟩
  rw [hq, hr] at h
  rw [hu, hs] at g
  rw [hq, hr, hu, hs]
  rw [hr] at h0 h1
  rw [hs] at g0 g1
  refine ⟨fun h2 => dm ?_ (by omega) (by omega), fun h2 => dm ?_ (by omega) (by omega)⟩
  · rw [h, g, Int.mul_add, Int.mul_add, Int.mul_one]; omega
  · rw [h, g, Int.mul_add]; omega
/-- The bits so far, and one more. -/
theorem bit_step (b : Int) (k : Nat) : b / 2 ^ k = 2 * (b / 2 ^ (k + 1)) + b / 2 ^ k % 2 := by
  have h : b / 2 ^ (k + 1) = b / 2 ^ k / 2 := by rw [Int.pow_succ, Int.ediv_ediv_of_nonneg (by exact Int.pow_nonneg (by decide))]
  rw [h]
  omega
theorem bit_top {b : Int} {k : Nat} (h0 : 0 ≤ b) (h1 : b < 2 ^ k) : b / 2 ^ k = 0 := Int.ediv_eq_zero_of_lt h0 h1
theorem bit_end (b : Int) : b / 2 ^ 0 = b := by simp
theorem bit_le {b : Int} (h0 : 0 ≤ b) (k : Nat) : 0 ≤ b / 2 ^ k ∧ b / 2 ^ k ≤ b := ⟨Int.ediv_nonneg h0 (Int.pow_nonneg (by decide)), Int.ediv_le_self _ h0⟩
end Go.Proofs.Ytaffdddleegfcaa.Fee
