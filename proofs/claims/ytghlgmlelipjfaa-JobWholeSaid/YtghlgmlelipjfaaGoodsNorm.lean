/- The document's way to the normal stacks: type by type, the least one first. -/
import Derived.Test.YtghlgmlelipjfaaGoodsMath
namespace Go.Proofs.Ytghlgmlelipjfaa.Goods

/-- The normal stacks whose types are p at most. -/
def upto (l : List St) (p : Int) : List St := (nl l).filter fun s => decide (s.kind ≤ p)
theorem norm_upto {l : List St} (h : Fine l) (p : Int) : Norm (upto l p) :=
  have hn := norm_nl h
  ⟨hn.rise.sublist List.filter_sublist, fun s hs => hn.kind s (List.mem_filter.1 hs).1, fun s hs => hn.qty s (List.mem_filter.1 hs).1⟩
theorem cnt_keep (l : List St) (p k : Int) : cnt (l.filter fun s => decide (s.kind ≤ p)) k = if k ≤ p then cnt l k else 0 := by
  induction l with
  | nil => simp [cnt]
  | cons s l ih =>
    rw [List.filter_cons]
    by_cases h : s.kind ≤ p
    · rw [decide_eq_true h, if_pos rfl, cnt, cnt, ih]
      by_cases hk : k ≤ p
      · rw [if_pos hk, if_pos hk]
      · rw [if_neg hk, if_neg hk, if_neg (by omega)]
        omega
    · rw [decide_eq_false h, if_neg (by decide), ih, cnt]
      by_cases hk : k ≤ p
      · rw [if_pos hk, if_pos hk, if_neg (by omega)]
        omega
      · rw [if_neg hk, if_neg hk]
theorem cnt_upto (l : List St) (p k : Int) : cnt (upto l p) k = if k ≤ p then cnt l k else 0 := by
  unfold upto
  rw [cnt_keep, cnt_nl]
theorem upto_low {l : List St} (h : Fine l) : upto l 0 = [] := by
  refine norm_one (norm_upto h 0) ⟨.nil, fun _ h => by simp at h, fun _ h => by simp at h⟩ fun k => ?_
  rw [cnt_upto, cnt_nil]
  split
  · exact cnt_none fun s hs => by have := (h s hs).1; omega
  · rfl
theorem mem_upto {l : List St} {p : Int} {s : St} (h : s ∈ upto l p) : s.kind ≤ p := of_decide_eq_true (List.mem_filter.1 h).2
/-- The least type above p comes next. -/
theorem upto_next {l : List St} (h : Fine l) {p k : Int} (hp : p < k) (hk : ∀ s ∈ l, p < s.kind → k ≤ s.kind) (h1 : 1 ≤ k) (h0 : 0 < cnt l k) : upto l k = upto l p ++ [⟨k, cnt l k⟩] := by
  have hu := norm_upto h p
  refine norm_one (norm_upto h k) ⟨List.pairwise_append.2 ⟨hu.rise, List.pairwise_singleton _ _, fun a ha b hb => ?_⟩, fun s hs => ?_, fun s hs => ?_⟩ fun j => ?_
  · rw [List.mem_singleton.1 hb]
    have := mem_upto ha
    show a.kind < k
    omega
  · rcases List.mem_append.1 hs with hs | hs
    · exact hu.kind s hs
    · rw [List.mem_singleton.1 hs]; exact h1
  · rcases List.mem_append.1 hs with hs | hs
    · exact hu.qty s hs
    · rw [List.mem_singleton.1 hs]; show 1 ≤ cnt l k; omega
  · rw [cnt_append, cnt_upto, cnt_upto, cnt, cnt_nil]
    simp only
    by_cases e : k = j
    · subst e
      rw [if_pos (Int.le_refl _), if_neg (by omega), if_pos rfl]
      omega
    · rw [if_neg e]
      by_cases hj : j ≤ p
      · rw [if_pos (by omega), if_pos hj]
        omega
      · rw [if_neg hj]
        by_cases hjk : j ≤ k
        · rw [if_pos hjk, cnt_none fun s hs e2 => by have := hk s hs (by omega); omega]
          omega
        · rw [if_neg hjk]
          rfl
theorem upto_none {l : List St} (h : Fine l) {p k : Int} (hp : p < k) (hk : ∀ s ∈ l, p < s.kind → k ≤ s.kind) (h0 : cnt l k = 0) : upto l k = upto l p := by
  refine norm_one (norm_upto h k) (norm_upto h p) fun j => ?_
  rw [cnt_upto, cnt_upto]
  by_cases hj : j ≤ p
  · rw [if_pos (by omega), if_pos hj]
  · rw [if_neg hj]
    split
    · by_cases e : j = k
      · rw [e, h0]
      · exact cnt_none fun s hs e2 => by have := hk s hs (by omega); omega
    · rfl
theorem upto_all {l : List St} (h : Fine l) {p : Int} (hp : ∀ s ∈ l, s.kind ≤ p) : upto l p = nl l := by
  refine norm_one (norm_upto h p) (norm_nl h) fun j => ?_
  rw [cnt_upto, cnt_nl]
  split
  · rfl
  · exact (cnt_none fun s hs => by have := hp s hs; omega).symm
/-- The least type above p among the first i; 0: none. -/
structure LeastK (l : List St) (p : Int) (i : Nat) (k : Int) : Prop where
  is : k = 0 ∨ (p < k ∧ ∃ s ∈ l.take i, s.kind = k)
  all : ∀ s ∈ l.take i, p < s.kind → k ≠ 0 ∧ k ≤ s.kind
theorem least_zero (l : List St) (p : Int) : LeastK l p 0 0 := ⟨.inl rfl, fun s hs => by simp at hs⟩
theorem mem_take_succ {l : List St} {i : Nat} {t : St} (h : l[i]? = some t) {s : St} : s ∈ l.take (i + 1) ↔ s ∈ l.take i ∨ s = t := by
  rw [List.take_add_one, h]
  simp
theorem least_new {l : List St} {p : Int} {i : Nat} {k : Int} {t : St} (h : LeastK l p i k) (hp : 0 ≤ p) (ht : l[i]? = some t) (h1 : p < t.kind) (h2 : k = 0 ∨ t.kind < k) : LeastK l p (i + 1) t.kind := by
  refine ⟨.inr ⟨h1, t, (mem_take_succ ht).2 (.inr rfl), rfl⟩, fun s hs hps => ?_⟩
  rcases (mem_take_succ ht).1 hs with hs | rfl
  · have := h.all s hs hps
    exact ⟨by omega, by omega⟩
  · exact ⟨by omega, Int.le_refl _⟩
theorem least_old {l : List St} {p : Int} {i : Nat} {k : Int} {t : St} (h : LeastK l p i k) (ht : l[i]? = some t) (h2 : ¬ p < t.kind ∨ (k ≠ 0 ∧ k ≤ t.kind)) : LeastK l p (i + 1) k := by
  refine ⟨?_, fun s hs hps => ?_⟩
  · rcases h.is with h3 | ⟨h3, s, hs, e⟩
    · exact .inl h3
    · exact .inr ⟨h3, s, (mem_take_succ ht).2 (.inl hs), e⟩
  · rcases (mem_take_succ ht).1 hs with hs | rfl
    · exact h.all s hs hps
    · rcases h2 with h2 | h2
      · exact absurd hps h2
      · exact h2
theorem cnt_take_succ {l : List St} {i : Nat} {t : St} (h : l[i]? = some t) (k : Int) : cnt (l.take (i + 1)) k = cnt (l.take i) k + (if t.kind = k then t.qty else 0) := by
  rw [List.take_add_one, h, cnt_append]
  simp [cnt]
theorem cnt_take_le {l : List St} (h : Fine l) (i : Nat) (k : Int) : cnt (l.take i) k ≤ cnt l k := by
  have h1 := cnt_append (l.take i) (l.drop i) k
  rw [List.take_append_drop] at h1
  have h2 := cnt_nonneg (fun s hs => (h s (List.mem_of_mem_drop hs)).2) k (l := l.drop i)
  omega
/-- Fewer are left above the next type. -/
theorem left_less {l : List St} {p k : Int} (hp : p < k) {s : St} (hs : s ∈ l) (hk : s.kind = k) : (l.filter fun s => decide (k < s.kind)).length < (l.filter fun s => decide (p < s.kind)).length := by
  induction l with
  | nil => simp at hs
  | cons x l ih =>
    have hle : ∀ m : List St, (m.filter fun s => decide (k < s.kind)).length ≤ (m.filter fun s => decide (p < s.kind)).length := fun m => by
      induction m with
      | nil => simp
      | cons y m ihm =>
        rw [List.filter_cons, List.filter_cons]
        by_cases h1 : k < y.kind
        · rw [decide_eq_true h1, decide_eq_true (by omega : p < y.kind)]
          simpa using ihm
        · rw [decide_eq_false h1, if_neg (by decide)]
          split
          · simp; omega
          · exact ihm
    rw [List.filter_cons, List.filter_cons]
    rcases List.mem_cons.1 hs with rfl | hs
    · rw [decide_eq_false (by omega : ¬ k < s.kind), decide_eq_true (by omega : p < s.kind), if_neg (by decide), if_pos rfl]
      have := hle l
      simp
      omega
    · have h1 := ih hs
      by_cases h2 : k < x.kind
      · rw [decide_eq_true h2, decide_eq_true (by omega : p < x.kind)]
        simpa using h1
      · rw [decide_eq_false h2, if_neg (by decide)]
        split
        · simp; omega
        · exact h1
end Go.Proofs.Ytghlgmlelipjfaa.Goods
