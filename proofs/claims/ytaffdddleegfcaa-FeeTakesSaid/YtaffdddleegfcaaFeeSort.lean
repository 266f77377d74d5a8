/- What an insertion sort makes of 0, 1 .. n - 1: the order of those of which most is left. -/
import Derived.Test.YtaffdddleegfcaaFeeD
namespace Go.Proofs.Ytaffdddleegfcaa.Fee

theorem ahead_trans {r : List Int} {a b c : Nat} (h : Ahead r a b) (k : Ahead r b c) : Ahead r a c := by unfold Ahead at *; omega
/-- The first i are in their order; behind them each stands at its place. -/
def Far (r : List Int) (n i : Nat) (l : List Nat) : Prop := ∃ L, l = L ++ List.range' i (n - i) ∧ L.Perm (List.range i) ∧ L.Pairwise (Ahead r)
/-- i is on its way down: it stands at place j. -/
def Way (r : List Int) (n i j : Nat) (l : List Nat) : Prop := ∃ A B, l = A ++ i :: (B ++ List.range' (i + 1) (n - (i + 1))) ∧ A.length = j ∧ (A ++ B).Perm (List.range i) ∧ (A ++ B).Pairwise (Ahead r) ∧ ∀ b ∈ B, Ahead r i b
theorem far_start (r : List Int) (n : Nat) (h : 1 ≤ n) : Far r n 1 (List.range n) := by
  refine ⟨[0], ?_, by simp [List.range_succ], by simp⟩
  obtain ⟨m, rfl⟩ : ∃ m, n = m + 1 := ⟨n - 1, by omega⟩
  rw [List.range_eq_range', List.range'_succ]
  simp
theorem far_way {r : List Int} {n i : Nat} {l : List Nat} (h : Far r n i l) (hi : i < n) : Way r n i i l := by
  obtain ⟨L, h1, h2, h3⟩ := h
  refine ⟨L, [], ?_, by rw [h2.length_eq, List.length_range], by simpa using h2, by simpa using h3, by simp⟩
  obtain ⟨m, hm⟩ : ∃ m, n - i = m + 1 := ⟨n - i - 1, by omega⟩
  rw [h1, hm, List.range'_succ, show n - (i + 1) = m by omega]
  rfl
theorem way_done {r : List Int} {n i j : Nat} {l : List Nat} (h : Way r n i j l) (ha : ∀ A, l.take j = A → ∀ a ∈ A, Ahead r a i) : Far r n (i + 1) l := by
  obtain ⟨A, B, h1, h2, h3, h4, h5⟩ := h
  have hA : ∀ a ∈ A, Ahead r a i := ha A (by rw [h1, ← h2, List.take_left])
  obtain ⟨p1, p2, p3⟩ := List.pairwise_append.1 h4
  refine ⟨A ++ i :: B, by rw [h1]; simp, ?_, List.pairwise_append.2 ⟨p1, List.pairwise_cons.2 ⟨h5, p2⟩, fun a hm b hb => ?_⟩⟩
  · rw [List.range_succ]
    exact (List.perm_middle.trans ((h3.cons i).trans (List.perm_append_comm (l₁ := [i]) (l₂ := List.range i))))
  · rcases List.mem_cons.1 hb with rfl | hb
    · exact hA a hm
    · exact p3 a hm b hb
theorem way_end {r : List Int} {n i : Nat} {l : List Nat} (h : Way r n i 0 l) : Far r n (i + 1) l := way_done h fun A e a hm => by
  rw [List.take_zero] at e
  subst e
  cases hm
theorem way_step {r : List Int} {n i j : Nat} {l : List Nat} (h : Way r n i (j + 1) l) : l[j + 1]? = some i ∧ ∃ y, l[j]? = some y ∧ y < i ∧
    (nth r y < nth r i → Way r n i j ((l.set (j + 1) y).set j i)) ∧ (¬ nth r y < nth r i → Far r n (i + 1) l) := by
  have H := h
  obtain ⟨A, B, h1, h2, h3, h4, h5⟩ := h
  obtain ⟨A', y, rfl⟩ : ∃ A' y, A = A' ++ [y] := ⟨A.dropLast, A.getLast (by rintro rfl; simp at h2), (List.dropLast_concat_getLast _).symm⟩
  have hj : A'.length = j := by simpa using h2
  have hy : y < i := List.mem_range.1 (h3.mem_iff.1 (by simp))
  have e1 : l = A' ++ y :: i :: (B ++ List.range' (i + 1) (n - (i + 1))) := by rw [h1]; simp
  refine ⟨by rw [h1, ← h2]; simp, y, by rw [e1, ← hj]; simp, hy, fun hlt => ?_, fun hge => way_done H fun X e a hm => ?_⟩
  · refine ⟨A', y :: B, ?_, hj, by simpa using h3, by simpa using h4, fun b hb => ?_⟩
    · rw [e1, ← hj, List.set_append_right _ _ (by omega), show A'.length + 1 - A'.length = 1 by omega, List.set_append_right _ _ (Nat.le_refl _), Nat.sub_self]
      rfl
    · rcases List.mem_cons.1 hb with rfl | hb
      · exact .inl hlt
      · exact h5 b hb
  · have hX : X = A' ++ [y] := by rw [← e, h1, ← h2, List.take_left]
    subst hX
    have hyi : Ahead r y i := by unfold Ahead; omega
    obtain ⟨p1, _, _⟩ := List.pairwise_append.1 h4
    obtain ⟨_, _, p3⟩ := List.pairwise_append.1 p1
    rcases List.mem_append.1 hm with hm | hm
    · exact ahead_trans (p3 a hm y (by simp)) hyi
    · obtain rfl : a = y := by simpa using hm
      exact hyi
theorem far_end {r : List Int} {n : Nat} {l : List Nat} (hr : r.length = n) (h : Far r n n l) : l = ordF r := by
  obtain ⟨L, h1, h2, h3⟩ := h
  rw [Nat.sub_self] at h1
  simp at h1
  subst h1
  exact order_one ⟨by rw [hr]; exact h2, h3⟩ (ordF_is r)
theorem way_lt {r : List Int} {n i j : Nat} {l : List Nat} (h : Way r n i j l) (hi : i < n) : l.length = n ∧ j < n ∧ ∀ x ∈ l, x < n := by
  obtain ⟨A, B, h1, h2, h3, _⟩ := h
  have hl := h3.length_eq
  rw [List.length_append, List.length_range] at hl
  refine ⟨by rw [h1]; simp; omega, by omega, fun x hx => ?_⟩
  rw [h1] at hx
  rcases List.mem_append.1 hx with hx | hx
  · have := List.mem_range.1 (h3.mem_iff.1 (List.mem_append_left _ hx)); omega
  · rcases List.mem_cons.1 hx with rfl | hx
    · exact hi
    · rcases List.mem_append.1 hx with hx | hx
      · have := List.mem_range.1 (h3.mem_iff.1 (List.mem_append_right _ hx)); omega
      · have := List.mem_range'_1.1 hx; omega
theorem far_length {r : List Int} {n i : Nat} {l : List Nat} (h : Far r n i l) (hi : i ≤ n) : l.length = n := by
  obtain ⟨L, h1, h2, _⟩ := h
  rw [h1, List.length_append, h2.length_eq, List.length_range, List.length_range']
  omega
end Go.Proofs.Ytaffdddleegfcaa.Fee
