/- Plain mathematics of layer 2: what was written is read again, and what is read was written by just these bytes. -/
import Derived.Test.YtghlgmlelipjfaaZPrW
namespace Go.Proofs.Ytghlgmlelipjfaa.Pen

theorem scan_step (f : Nat → Nat) (len d k acc : Nat) (h1 : k < len) (h2 : ¬ f k < 128) : scan f len (d + 1) k acc = scan f len d (k + 1) (acc + (f k - 128) * 2 ^ (7 * k)) := by
  conv => lhs; unfold scan
  rw [if_pos h1, if_neg h2]
theorem scan_last (f : Nat → Nat) (len d k acc : Nat) (h1 : k < len) (h2 : f k < 128) (h3 : ¬ ((f k = 0 ∧ 0 < k) ∨ (k = 9 ∧ 1 < f k))) : scan f len (d + 1) k acc = some (acc + f k * 2 ^ (7 * k), k + 1) := by
  unfold scan
  rw [if_pos h1, if_pos h2, if_neg h3]
theorem pow_next (k : Nat) : (2:Nat) ^ (7 * (k + 1)) = 128 * 2 ^ (7 * k) := by rw [show 7 * (k + 1) = 7 * k + 7 by omega, Nat.pow_add]; omega
theorem scan_wb (f : Nat → Nat) (len : Nat) : ∀ (d k m acc : Nat), d + k = 9 → m < 2 * 128 ^ d → (0 < k → 0 < m) → (∀ i (h : i < (wb d m).length), f (k + i) = ((wb d m)[i]).toNat) → k + (wb d m).length ≤ len →
    scan f len (d + 1) k acc = some (acc + m * 2 ^ (7 * k), k + (wb d m).length) := by
  intro d
  induction d with
  | zero =>
    intro k m acc hk hm h0 hf hl
    have hm1 : m < 2 := by simpa using hm
    have hfk : f k = m := by have := hf 0 (by simp [wb]); simp [wb] at this; omega
    have hl1 : k < len := by simp [wb] at hl; omega
    rw [scan_last f len 0 k acc hl1 (by omega) (by have := h0 (by omega); omega), hfk]
    simp [wb]
  | succ d ih =>
    intro k m acc hk hm h0 hf hl
    by_cases hlt : m < 128
    · rw [wb_small hlt] at hf hl ⊢
      have hfk : f k = m := by have := hf 0 (by simp); simp at this; omega
      have hl1 : k < len := by simp at hl; omega
      rw [scan_last f len (d + 1) k acc hl1 (by omega) (by intro h; rcases h with ⟨h1, h2⟩ | ⟨h1, h2⟩ <;> have := h0 <;> omega), hfk]
      simp
    · rw [wb_big hlt] at hf hl ⊢
      have hfk : f k = 128 + m % 128 := by have := hf 0 (by simp); simp at this; omega
      simp only [List.length_cons] at hl ⊢
      rw [scan_step f len (d + 1) k acc (by omega) (by omega), hfk]
      have hm1 : m / 128 < 2 * 128 ^ d := by rw [Nat.pow_succ] at hm; exact Nat.div_lt_of_lt_mul (by omega)
      rw [ih (k + 1) (m / 128) _ (by omega) hm1 (by omega) (fun i h => by
        have := hf (i + 1) (by simp; omega)
        rw [show k + 1 + i = k + (i + 1) by omega, this]; rfl) (by omega)]
      have e : 128 + m % 128 - 128 = m % 128 := by omega
      rw [pow_next, e]
      have hv : acc + m % 128 * 2 ^ (7 * k) + m / 128 * (128 * 2 ^ (7 * k)) = acc + m * 2 ^ (7 * k) := by
        have hdm : m = m % 128 + m / 128 * 128 := by omega
        conv => rhs; rw [hdm]
        rw [Nat.add_mul, Nat.mul_assoc, Nat.add_assoc]
      have hj : k + 1 + (wb d (m / 128)).length = k + ((wb d (m / 128)).length + 1) := by omega
      rw [hv, hj]
theorem wb_scan (f : Nat → Nat) (len : Nat) (hf : ∀ k, f k < 256) : ∀ (d k acc n j : Nat), scan f len (d + 1) k acc = some (n, j) →
    ∃ m, n = acc + m * 2 ^ (7 * k) ∧ j = k + (wb d m).length ∧ (∀ i (h : i < (wb d m).length), f (k + i) = ((wb d m)[i]).toNat) ∧ (0 < k → 0 < m) := by
  intro d
  induction d with
  | zero =>
    intro k acc n j h
    unfold scan at h
    split at h
    · split at h
      · split at h
        · simp at h
        · rename_i h1 h2 h3
          injection h with h
          injection h with hn hj
          refine ⟨f k, hn.symm, by simp [wb]; omega, fun i hi => ?_, fun hk => by omega⟩
          obtain rfl : i = 0 := by simp [wb] at hi; omega
          simp [wb]; omega
      · simp [scan] at h
    · simp at h
  | succ d ih =>
    intro k acc n j h
    by_cases h1 : k < len
    · by_cases h2 : f k < 128
      · unfold scan at h
        rw [if_pos h1, if_pos h2] at h
        split at h
        · simp at h
        · rename_i h3
          injection h with h
          injection h with hn hj
          refine ⟨f k, hn.symm, by rw [wb_small h2]; simp; omega, fun i hi => ?_, fun hk => by omega⟩
          rw [wb_small h2] at hi
          obtain rfl : i = 0 := by simp at hi; omega
          simp [wb_small h2]; omega
      · rw [scan_step f len (d + 1) k acc h1 h2] at h
        obtain ⟨m, hn, hj, hb, h0⟩ := ih (k + 1) _ n j h
        have hm := h0 (by omega)
        have h256 := hf k
        have hbig : ¬ (f k - 128 + m * 128) < 128 := by omega
        have e1 : (f k - 128 + m * 128) % 128 = f k - 128 := by omega
        have e2 : (f k - 128 + m * 128) / 128 = m := by omega
        have hw : wb (d + 1) (f k - 128 + m * 128) = UInt8.ofNat (f k) :: wb d m := by rw [wb_big hbig, e1, e2, show 128 + (f k - 128) = f k by omega]
        refine ⟨f k - 128 + m * 128, ?_, ?_, fun i hi => ?_, fun _ => by omega⟩
        · rw [hn, pow_next, Nat.add_mul, Nat.mul_assoc, Nat.add_assoc]
        · rw [hw, List.length_cons, hj]; omega
        · simp only [hw] at hi ⊢
          cases i with
          | zero => simp; omega
          | succ i =>
            have := hb i (by simpa using hi)
            rw [show k + (i + 1) = k + 1 + i by omega, this]; rfl
    · unfold scan at h; rw [if_neg h1] at h; simp at h

theorem gb_front (a b : ByteArray) (i : Nat) (h : i < a.data.toList.length) : gb (a ++ b) i = (a.data.toList[i]).toNat := by
  unfold gb
  rw [ByteArray.data_append, Array.toList_append, List.getD_eq_getElem?_getD, List.getElem?_append_left h, List.getElem?_eq_getElem h]
  rfl
theorem P_word (n : Nat) (rest : ByteArray) (hn : n < 18446744073709551616) : P (wordB n ++ rest) = some (n, (wordB n).size) := by
  have e : (wordB n).data.toList = wb 9 n := by simp [wordB]
  have hs : (wordB n).size = (wb 9 n).length := by rw [← size_list, e]
  unfold P
  rw [scan_wb _ _ 9 0 n 0 rfl (by omega) (by omega) (fun i h => by
      have h' : i < (wordB n).data.toList.length := by rw [e]; exact h
      rw [Nat.zero_add, gb_front _ _ i h']
      simp only [e]) (by rw [ByteArray.size_append, hs]; omega)]
  simp [hs]
theorem P_back {s : ByteArray} {n j : Nat} (h : P s = some (n, j)) : wordB n = s.extract 0 j := by
  have hP := P_facts h
  obtain ⟨m, hn, hj, hb, _⟩ := wb_scan (gb s) s.size (gb_lt s) 9 0 0 n j h
  have hm : n = m := by simpa using hn
  subst hm
  apply ByteArray.ext
  apply Array.toList_inj.1
  have e2 : (s.extract 0 j).data.toList = s.data.toList.take j := by
    rw [ByteArray.data_extract, Array.toList_extract]
    simp
  have e1 : (wordB n).data.toList = wb 9 n := by simp [wordB]
  rw [e1, e2]
  have hl : s.data.toList.length = s.size := size_list s
  apply List.ext_getElem
  · rw [List.length_take, hl]; omega
  · intro i h1 h2
    have := hb i h1
    rw [Nat.zero_add] at this
    unfold gb at this
    have hi : i < s.data.toList.length := by rw [List.length_take] at h2; omega
    rw [List.getD_eq_getElem?_getD, List.getElem?_eq_getElem hi, Option.getD_some] at this
    rw [List.getElem_take]
    exact (UInt8.toNat_inj.1 this).symm
theorem place_placed (n : Nat) : placeOf (placedOf n) = n := by
  unfold placeOf placedOf
  by_cases h : n % 2 = 1
  · rw [if_pos h]; rw [if_pos (by omega)]; omega
  · rw [if_neg h]; rw [if_neg (by omega)]; omega
theorem placed_place (z : Int) : placedOf (placeOf z) = z := by
  unfold placeOf placedOf
  by_cases h : z < 0
  · rw [if_pos h]; rw [if_pos (by omega)]; omega
  · rw [if_neg h]; rw [if_neg (by omega)]; omega
theorem FVK (n : Nat) (rest : ByteArray) (hn : n < 18446744073709551616) : FV (wordB n ++ rest) = n ∧ FK (wordB n ++ rest) = (wordB n).size := by
  unfold FV FK
  rw [P_word n rest hn]
  exact ⟨rfl, rfl⟩
theorem tk_word (n most : Nat) (rest : ByteArray) (hn : n < 18446744073709551616) (hm : n ≤ most) : tkN (some (wordB n ++ rest)) most = n ∧ tkS (some (wordB n ++ rest)) most = some rest := by
  obtain ⟨h1, h2⟩ := FVK n rest hn
  have h3 := (wordB_size n).1
  unfold tkN tkS
  simp only []
  rw [h1, h2, if_neg (by omega), if_neg (by omega), cut_front]
  exact ⟨rfl, rfl⟩
theorem in_back (z : Int) (rest : ByteArray) (a1 : -9223372036854775808 ≤ z) (a2 : z ≤ 9223372036854775807) : inN (some (intB z ++ rest)) = z ∧ inS (some (intB z ++ rest)) = some rest := by
  have h := placeOf_lt z a1 a2
  obtain ⟨h1, h2⟩ := tk_word (placeOf z) 18446744073709551615 rest h (by omega)
  unfold inN inS intB
  rw [h1, h2, placed_place]
  exact ⟨rfl, rfl⟩
theorem ui_back (n : Nat) (most : Int) (rest : ByteArray) (hn : (n : Int) ≤ most) (hm : most ≤ 9223372036854775807) : uiN (some (uintB n ++ rest)) most = n ∧ uiS (some (uintB n ++ rest)) most = some rest := by
  obtain ⟨h1, h2⟩ := tk_word n most.toNat rest (by omega) (by omega)
  have e : uintB (n : Int) = wordB n := by unfold uintB; rw [if_neg (by omega)]; rfl
  unfold uiN uiS
  rw [e, if_neg (by omega), if_neg (by omega)]
  exact ⟨h1, h2⟩
theorem tx_back (t rest : ByteArray) (most : Int) (ht : (t.size : Int) ≤ most) (hm : most ≤ 9223372036854775807) : txV (some (textB t ++ rest)) most = t ∧ txS (some (textB t ++ rest)) most = some rest := by
  obtain ⟨h1, h2⟩ := ui_back t.size most (t ++ rest) ht hm
  have e : textB t ++ rest = uintB (t.size : Int) ++ (t ++ rest) := by unfold textB; exact append_assoc _ _ _
  rw [← e] at h1 h2
  obtain ⟨h3, h4⟩ := tm_in h2 (by rw [h1, ByteArray.size_append]; omega)
  unfold txV txS
  rw [h4, h3, h1]
  simp only []
  rw [take_front, cut_front]
  exact ⟨rfl, rfl⟩
/-- What is read of any bytes was written by just these. -/
theorem ui_wrote {s t : ByteArray} {most : Int} (h : uiS (some s) most = some t) : uintB (uiN (some s) most) = s.extract 0 (s.size - t.size) ∧ t.size ≤ s.size := by
  by_cases hc : most < wdN (some s) ∨ wdS (some s) = none
  · rw [(ui_fail _ most hc).2] at h; simp at h
  · cases e : wdS (some s) with
    | none => exact absurd (Or.inr e) hc
    | some u =>
      obtain ⟨h1, h2⟩ := ui_ok (some s) most (by omega) u e
      rw [h2] at h
      injection h with h
      subst h
      unfold wdS at e
      simp only [] at e
      by_cases hk : FK s = 0
      · rw [if_pos hk] at e; simp at e
      · rw [if_neg hk] at e
        injection e with e
        have hp : P s = some (FV s, FK s) := by
          unfold FK at hk; unfold FV FK
          cases h : P s with
          | none => rw [h] at hk; simp at hk
          | some x => rfl
        have hkl := (FK_le s).1
        have hsz : u.size = s.size - FK s := by rw [← e, ByteArray.size_extract]; omega
        rw [h1, uintB_word, hsz, show s.size - (s.size - FK s) = FK s by omega]
        exact ⟨P_back hp, by omega⟩
  where uintB_word : uintB ((wdN (some s) : Nat) : Int) = wordB (FV s) := by unfold uintB; rw [if_neg (by omega)]; rfl
theorem in_wrote {s t : ByteArray} (h : inS (some s) = some t) : intB (inN (some s)) = s.extract 0 (s.size - t.size) ∧ t.size ≤ s.size := by
  obtain ⟨e1, e2⟩ := tk_wd (some s)
  unfold inS at h
  unfold inN
  rw [e2] at h
  rw [e1]
  unfold wdS at h
  simp only [] at h
  by_cases hk : FK s = 0
  · rw [if_pos hk] at h; simp at h
  · rw [if_neg hk] at h
    injection h with h
    have hp : P s = some (FV s, FK s) := by
      unfold FK at hk; unfold FV FK
      cases h : P s with
      | none => rw [h] at hk; simp at hk
      | some x => rfl
    have hkl := (FK_le s).1
    have hsz : t.size = s.size - FK s := by rw [← h, ByteArray.size_extract]; omega
    unfold intB
    rw [place_placed, hsz, show s.size - (s.size - FK s) = FK s by omega]
    exact ⟨P_back hp, by omega⟩
end Go.Proofs.Ytghlgmlelipjfaa.Pen
