/- A heap as a list: two change places, one rises, one sinks; what stays so. -/
import Derived.Test.YtfbdkafpfminlaaHeapMath
namespace Go.Proofs.Ytfbdkafpfminlaa.Heap

def sw (l : List Tm) (i k : Nat) : List Tm := (l.set i (nthT l k)).set k (nthT l i)
theorem length_sw (l : List Tm) (i k : Nat) : (sw l i k).length = l.length := by simp [sw]
theorem nthT_set (l : List Tm) (i : Nat) (t : Tm) (j : Nat) (hi : i < l.length) : nthT (l.set i t) j = if j = i then t else nthT l j := by
  unfold nthT
  rw [List.getD_eq_getElem?_getD, List.getElem?_set, List.getD_eq_getElem?_getD]
  by_cases h : i = j
  · subst h
    simp [hi]
  · have h2 : ¬ j = i := fun e => h e.symm
    simp [h, h2]
theorem nthT_sw (l : List Tm) (i k : Nat) (hi : i < l.length) (hk : k < l.length) (j : Nat) : nthT (sw l i k) j = if j = k then nthT l i else if j = i then nthT l k else nthT l j := by
  unfold sw
  rw [nthT_set _ _ _ _ (by simpa using hk), nthT_set _ _ _ _ hi]
theorem nthT_at {l : List Tm} {i : Nat} (h : i < l.length) : l[i]? = some (nthT l i) := by
  unfold nthT
  rw [List.getD_eq_getElem?_getD, List.getElem?_eq_getElem h]
  rfl
theorem nthT_of {l : List Tm} {i : Nat} {t : Tm} (h : l[i]? = some t) : nthT l i = t := by
  unfold nthT
  rw [List.getD_eq_getElem?_getD, h]
  rfl
theorem nthT_get {l : List Tm} {i : Nat} (h : i < l.length) : nthT l i = l[i] := nthT_of (List.getElem?_eq_getElem h)
theorem perm_sw (l : List Tm) (i k : Nat) (hi : i < l.length) (hk : k < l.length) : (sw l i k).Perm l := by
  unfold sw
  rw [nthT_get hi, nthT_get hk]
  exact List.set_set_perm hi hk
def par (i : Nat) : Nat := (i - 1) / 2
/-- Does the one at i not come ahead of the one above it? -/
def Edge (l : List Tm) (i : Nat) : Prop := ¬ ahead (nthT l i) (nthT l (par i))
def HeapOK (l : List Tm) : Prop := ∀ i, 0 < i → i < l.length → Edge l i
structure RiseInv (l : List Tm) (k0 j : Nat) : Prop where
  edge : ∀ i, 0 < i → i < l.length → i ≠ j → (par i = k0 ∧ j = k0) ∨ Edge l i
  below : ∀ c, 0 < c → c < l.length → par c = j → 0 < j → ¬ ahead (nthT l c) (nthT l (par j))
structure SinkInv (l : List Tm) (j : Nat) : Prop where
  edge : ∀ i, 0 < i → i < l.length → par i ≠ j → Edge l i
  below : ∀ c, 0 < c → c < l.length → par c = j → 0 < j → ¬ ahead (nthT l c) (nthT l (par j))
theorem par_lt {i : Nat} (h : 0 < i) : par i < i := by unfold par; omega
theorem not_ahead_trans {a b c : Tm} (h : ¬ ahead b a) (k : ¬ ahead c b) : ¬ ahead c a := by unfold ahead at *; omega
theorem ahead_asymm {a b : Tm} (h : ahead a b) : ¬ ahead b a := by unfold ahead at *; omega
theorem rise_step {l : List Tm} {k0 j : Nat} (h : RiseInv l k0 j) (h0 : 0 < j) (hj : j < l.length) (hk : j ≤ k0) (ha : ahead (nthT l j) (nthT l (par j))) : RiseInv (sw l j (par j)) k0 (par j) := by
  have hp := par_lt h0
  have hpl : par j < l.length := by omega
  have N := nthT_sw l j (par j) hj hpl
  refine ⟨fun i i0 il ine => ?_, fun c c0 cl ce p0 => ?_⟩
  · rw [length_sw] at il
    by_cases hij : i = j
    · subst hij
      right
      unfold Edge
      rw [N i, N (par i), if_neg (by omega), if_pos rfl, if_pos rfl]
      exact ahead_asymm ha
    · by_cases h1 : par i = j
      · right
        unfold Edge
        rw [N i, N (par i), if_neg ine, if_neg hij, if_neg (by omega), if_pos h1]
        exact h.below i i0 il h1 h0
      · rcases h.edge i i0 il hij with ⟨h2, h3⟩ | h2
        · exact absurd (h2.trans h3.symm) h1
        · right
          unfold Edge
          rw [N i, if_neg ine, if_neg hij, N (par i)]
          by_cases h4 : par i = par j
          · rw [if_pos h4]
            unfold Edge at h2
            rw [h4] at h2
            exact not_ahead_trans (ahead_asymm ha) h2
          · rw [if_neg h4, if_neg h1]
            exact h2
  · rw [length_sw] at cl
    have hpp : par (par j) < par j := par_lt p0
    have hE : Edge l (par j) := by
      rcases h.edge (par j) p0 hpl (by omega) with ⟨h2, h3⟩ | h2
      · omega
      · exact h2
    rw [N (par (par j)), if_neg (by omega), if_neg (by omega), N c]
    have hcp : c ≠ par j := by have := par_lt c0; omega
    rw [if_neg hcp]
    by_cases hcj : c = j
    · rw [if_pos hcj]
      exact hE
    · rw [if_neg hcj]
      rcases h.edge c c0 cl hcj with ⟨h2, h3⟩ | h2
      · omega
      · unfold Edge at h2
        rw [ce] at h2
        exact not_ahead_trans hE h2
theorem rise_end {l : List Tm} {k0 j : Nat} (h : RiseInv l k0 j) (hk : j ≤ k0) (hl : k0 < l.length) (ha : j = 0 ∨ ¬ ahead (nthT l j) (nthT l (par j))) : SinkInv l k0 := by
  have hE : ∀ i, 0 < i → i < l.length → par i ≠ k0 → Edge l i := fun i i0 il ine => by
    by_cases hij : i = j
    · subst hij
      rcases ha with ha | ha
      · omega
      · exact ha
    · rcases h.edge i i0 il hij with ⟨h2, _⟩ | h2
      · exact absurd h2 ine
      · exact h2
  refine ⟨hE, fun c c0 cl ce k00 => ?_⟩
  rcases Nat.lt_or_ge j k0 with hlt | hge
  · have h1 : Edge l c := by
      rcases h.edge c c0 cl (by have := par_lt c0; omega) with ⟨_, h3⟩ | h2
      · omega
      · exact h2
    have h2 : Edge l k0 := by
      rcases h.edge k0 k00 hl (by omega) with ⟨_, h3⟩ | h2
      · omega
      · exact h2
    unfold Edge at h1
    rw [ce] at h1
    exact not_ahead_trans h2 h1
  · have : j = k0 := by omega
    subst this
    exact h.below c c0 cl ce k00
theorem sink_step {l : List Tm} {j c : Nat} (h : SinkInv l j) (c0 : 0 < c) (cl : c < l.length) (ce : par c = j) (ha : ahead (nthT l c) (nthT l j)) (hm : ∀ d, 0 < d → d < l.length → par d = j → ¬ ahead (nthT l d) (nthT l c)) : SinkInv (sw l j c) c := by
  have hjc : j < c := by rw [← ce]; exact par_lt c0
  have N := nthT_sw l j c (by omega) cl
  refine ⟨fun i i0 il ine => ?_, fun d d0 dl de _ => ?_⟩
  · rw [length_sw] at il
    unfold Edge
    by_cases hic : i = c
    · subst hic
      rw [N i, if_pos rfl, N (par i), if_neg (by omega), if_pos ce]
      exact ahead_asymm ha
    · by_cases hpj : par i = j
      · rw [N i, if_neg hic, if_neg (by have := par_lt i0; omega), N (par i), if_neg ine, if_pos hpj]
        exact hm i i0 il hpj
      · by_cases hij : i = j
        · subst hij
          rw [N i, if_neg hic, if_pos rfl, N (par i), if_neg ine, if_neg hpj]
          exact h.below c c0 cl ce i0
        · rw [N i, if_neg hic, if_neg hij, N (par i), if_neg ine, if_neg hpj]
          exact h.edge i i0 il hpj
  · rw [length_sw] at dl
    have hdc : c < d := by have := par_lt d0; omega
    rw [N d, if_neg (by omega), if_neg (by omega), ce, N j, if_neg (by omega), if_pos rfl]
    have := h.edge d d0 dl (by omega)
    unfold Edge at this
    rw [de] at this
    exact this
theorem sink_end {l : List Tm} {j : Nat} (h : SinkInv l j) (hm : ∀ d, 0 < d → d < l.length → par d = j → ¬ ahead (nthT l d) (nthT l j)) : HeapOK l := fun i i0 il => by
  by_cases hp : par i = j
  · unfold Edge
    rw [hp]
    exact hm i i0 il hp
  · exact h.edge i i0 il hp
theorem heap_first {l : List Tm} (h : HeapOK l) : ∀ n i, i ≤ n → i < l.length → ¬ ahead (nthT l i) (nthT l 0)
  | 0, i, hn, _ => by
    obtain rfl : i = 0 := by omega
    exact ahead_irrefl _
  | n + 1, i, hn, hl => by
    by_cases h0 : i = 0
    · subst h0
      exact ahead_irrefl _
    · have hp := par_lt (i := i) (by omega)
      exact not_ahead_trans (heap_first h n (par i) (by omega) (by omega)) (h i (by omega) hl)
theorem nthT_app (l : List Tm) (t : Tm) {i : Nat} (h : i < l.length) : nthT (l ++ [t]) i = nthT l i := by
  refine nthT_of ?_
  rw [List.getElem?_append_left h]
  exact nthT_at h
theorem nthT_last (l : List Tm) (t : Tm) : nthT (l ++ [t]) l.length = t := nthT_of (by simp)
theorem rise_app {l : List Tm} (t : Tm) (h : HeapOK l) : RiseInv (l ++ [t]) l.length l.length := by
  refine ⟨fun i i0 il ine => ?_, fun c c0 cl ce _ => ?_⟩
  · right
    have hi : i < l.length := by rw [List.length_append, List.length_singleton] at il; omega
    unfold Edge
    rw [nthT_app _ _ hi, nthT_app _ _ (Nat.lt_trans (par_lt i0) hi)]
    exact h i i0 hi
  · rw [List.length_append, List.length_singleton] at cl
    have := par_lt c0
    omega
theorem sink_last {l : List Tm} {n : Nat} (h : SinkInv l n) (hn : l.length = n + 1) : HeapOK l := fun i i0 il => h.edge i i0 il (by have := par_lt i0; omega)
theorem nthT_take (l : List Tm) (n : Nat) {i : Nat} (h : i < n) : nthT (l.take n) i = nthT l i := by
  unfold nthT
  rw [List.getD_eq_getElem?_getD, List.getD_eq_getElem?_getD, List.getElem?_take_of_lt h]
/-- What is left behind the one at k has gone to the end, and away. -/
def off (l : List Tm) (k : Nat) : List Tm := (sw l k (l.length - 1)).take (l.length - 1)
theorem length_off (l : List Tm) (k : Nat) : (off l k).length = l.length - 1 := by
  unfold off
  rw [List.length_take, length_sw]
  omega
theorem nthT_off {l : List Tm} {k i : Nat} (hk : k < l.length) (hi : i < l.length - 1) : nthT (off l k) i = if i = k then nthT l (l.length - 1) else nthT l i := by
  unfold off
  rw [nthT_take _ _ hi, nthT_sw _ _ _ hk (by omega), if_neg (by omega)]
theorem rise_off {l : List Tm} {k : Nat} (h : HeapOK l) (hk : k < l.length - 1) : RiseInv (off l k) k k := by
  refine ⟨fun i i0 il ine => ?_, fun c c0 cl ce k0 => ?_⟩
  · rw [length_off] at il
    by_cases hp : par i = k
    · exact .inl ⟨hp, rfl⟩
    · right
      unfold Edge
      have := par_lt i0
      rw [nthT_off (by omega) il, nthT_off (by omega) (by omega), if_neg ine, if_neg hp]
      exact h i i0 (by omega)
  · rw [length_off] at cl
    have h1 := par_lt c0
    have h2 := par_lt k0
    rw [nthT_off (by omega) cl, nthT_off (by omega) (by omega), if_neg (by omega), if_neg (by omega)]
    have h3 := h c c0 (by omega)
    unfold Edge at h3
    rw [ce] at h3
    exact not_ahead_trans (h k k0 (by omega)) h3
theorem heap_off {l : List Tm} {k : Nat} (h : HeapOK l) (hk : k + 1 = l.length) : HeapOK (off l k) := fun i i0 il => by
  rw [length_off] at il
  have := par_lt i0
  unfold Edge
  rw [nthT_off (by omega) il, nthT_off (by omega) (by omega), if_neg (by omega), if_neg (by omega)]
  exact h i i0 (by omega)
theorem perm_off {l : List Tm} {k : Nat} (hk : k < l.length) : (nthT l k :: off l k).Perm l := by
  have h1 := perm_sw l k (l.length - 1) hk (by omega)
  have h2 : sw l k (l.length - 1) = off l k ++ [nthT l k] := by
    have h3 : sw l k (l.length - 1) = (sw l k (l.length - 1)).take (l.length - 1) ++ (sw l k (l.length - 1)).drop (l.length - 1) := (List.take_append_drop _ _).symm
    have h4 : (sw l k (l.length - 1)).drop (l.length - 1) = [nthT l k] := by
      have hl : l.length - 1 < (sw l k (l.length - 1)).length := by rw [length_sw]; omega
      rw [List.drop_eq_getElem_cons hl, ← nthT_get hl, nthT_sw _ _ _ hk (by omega), if_pos rfl, List.drop_eq_nil_of_le (by rw [length_sw]; omega)]
    rw [h4] at h3
    exact h3
  rw [h2] at h1
  exact (List.perm_append_singleton _ _).symm.trans h1
/-! A heap of a queue's timers -/
structure Rep (l : List Tm) (q : QS) : Prop where
  heap : HeapOK l
  perm : l.Perm q.l
theorem nthT_find {l : List Tm} {x : Tm} (hu : Uniq l) (hx : x ∈ l) : findK x.id l < l.length ∧ nthT l (findK x.id l) = x := by
  have h1 : findK x.id l < l.length := by
    rcases Nat.lt_or_ge (findK x.id l) l.length with h | h
    · exact h
    · have := findK_le x.id l
      exact absurd rfl ((findK_none x.id l).1 (by omega) x hx)
  refine ⟨h1, ?_⟩
  obtain ⟨y, h2, h3⟩ := findK_at x.id l h1
  rw [nthT_of h2]
  have hy : y ∈ l := List.mem_of_getElem? h2
  obtain ⟨i, hi, rfl⟩ := List.mem_iff_getElem.1 hx
  obtain ⟨j, hj, rfl⟩ := List.mem_iff_getElem.1 hy
  rcases Nat.lt_trichotomy i j with h | h | h
  · exact absurd h3.symm (List.pairwise_iff_getElem.1 hu i j hi hj h)
  · subst h; rfl
  · exact absurd h3 (List.pairwise_iff_getElem.1 hu j i hj hi h)
theorem perm_cut {l : List Tm} {k : Nat} (h : k < l.length) : (nthT l k :: cut l k).Perm l := by
  have h1 : l = l.take k ++ nthT l k :: l.drop (k + 1) := by
    rw [nthT_get h, ← List.drop_eq_getElem_cons h, List.take_append_drop]
  have h2 := (@List.perm_middle _ (nthT l k) (l.take k) (l.drop (k + 1))).symm
  rw [← h1] at h2
  exact h2
theorem perm_put (l : List Tm) (t : Tm) : (t :: l).Perm (put l t) := by
  have h2 := (@List.perm_middle _ t (l.take (putK t l)) (l.drop (putK t l))).symm
  rw [List.take_append_drop] at h2
  exact h2
theorem Rep.off {l : List Tm} {q : QS} (h : Rep l q) (hg : Good q) {k : Nat} (hk : k < l.length) : (off l k).Perm (cut q.l (findK (nthT l k).id q.l)) := by
  have hx : nthT l k ∈ q.l := h.perm.mem_iff.1 (List.mem_of_getElem? (nthT_at hk))
  obtain ⟨h1, h2⟩ := nthT_find hg.uniq hx
  have h3 := (perm_off hk).trans (h.perm.trans (perm_cut h1).symm)
  rw [h2] at h3
  exact h3.cons_inv
theorem Rep.first {l : List Tm} {q : QS} (h : Rep l q) (hg : Good q) {t : Tm} {r : List Tm} (hq : q.l = t :: r) : nthT l 0 = t := by
  have hl : 0 < l.length := by rw [h.perm.length_eq, hq]; simp
  have h0 : nthT l 0 ∈ q.l := h.perm.mem_iff.1 (List.mem_of_getElem? (nthT_at hl))
  have ht : t ∈ l := h.perm.mem_iff.2 (by rw [hq]; simp)
  obtain ⟨i, hi, e⟩ := List.mem_iff_getElem.1 ht
  have h1 := heap_first h.heap i i (Nat.le_refl _) hi
  rw [nthT_get hi, e] at h1
  rw [hq] at h0
  rcases List.mem_cons.1 h0 with h2 | h2
  · exact h2
  · have h3 := hg.sorted
    unfold Sorted at h3
    rw [hq] at h3
    exact absurd ((List.pairwise_cons.1 h3).1 _ h2) h1
end Go.Proofs.Ytfbdkafpfminlaa.Heap
