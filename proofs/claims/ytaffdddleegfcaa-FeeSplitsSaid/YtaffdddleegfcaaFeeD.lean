/- The mathematics of shares: what is left, who gets one more; said without a program. -/
import Derived.WalkKit
namespace Go.Proofs.Ytaffdddleegfcaa.Fee

def sumL : List Int → Int
  | [] => 0
  | x :: l => x + sumL l
theorem sumL_append (a b : List Int) : sumL (a ++ b) = sumL a + sumL b := by
  induction a with
  | nil => simp [sumL]
  | cons x a ih => rw [List.cons_append, sumL, sumL, ih]; omega
theorem sumL_nonneg : ∀ {l : List Int}, (∀ x ∈ l, 0 ≤ x) → 0 ≤ sumL l
  | [], _ => Int.le_refl _
  | x :: l, h => by
    have h1 := h x (by simp)
    have h2 := sumL_nonneg (l := l) fun y hy => h y (by simp [hy])
    rw [sumL]
    omega
theorem sumL_le {M : Int} : ∀ {l : List Int}, (∀ x ∈ l, x ≤ M) → sumL l ≤ l.length * M
  | [], _ => by simp [sumL]
  | x :: l, h => by
    have h1 := h x (by simp)
    have h2 := sumL_le (l := l) (M := M) fun y hy => h y (by simp [hy])
    rw [sumL, List.length_cons]
    push_cast
    rw [Int.add_mul]
    omega
theorem sumL_take_succ {l : List Int} {i : Nat} {x : Int} (h : l[i]? = some x) : sumL (l.take (i + 1)) = sumL (l.take i) + x := by
  rw [List.take_add_one, h, sumL_append]
  simp [sumL]
theorem sumL_take_le {l : List Int} (h : ∀ x ∈ l, 0 ≤ x) (i : Nat) : sumL (l.take i) ≤ sumL l := by
  have h1 := sumL_append (l.take i) (l.drop i)
  rw [List.take_append_drop] at h1
  have h2 := sumL_nonneg (l := l.drop i) fun x hx => h x (List.mem_of_mem_drop hx)
  omega
/-- What stands at a place, 0 behind the end. -/
def nth (l : List Int) (i : Nat) : Int := (l[i]?).getD 0
theorem nth_of {l : List Int} {i : Nat} {x : Int} (h : l[i]? = some x) : nth l i = x := by unfold nth; rw [h]; rfl
theorem nth_some {l : List Int} {i : Nat} (h : i < l.length) : l[i]? = some (nth l i) := by
  unfold nth
  rw [List.getElem?_eq_getElem h]
  rfl
theorem nth_map {f : Int → Int} {l : List Int} {i : Nat} (h : i < l.length) : nth (l.map f) i = f (nth l i) := by
  unfold nth
  rw [List.getElem?_map, List.getElem?_eq_getElem h]
  rfl
theorem nth_set (l : List Int) (k : Nat) (x : Int) (i : Nat) (hk : k < l.length) : nth (l.set k x) i = if i = k then x else nth l i := by
  unfold nth
  rw [List.getElem?_set]
  by_cases e : k = i
  · subst e
    simp [hk]
  · rw [if_neg e, if_neg (fun h => e h.symm)]
theorem ext_nth {a b : List Int} (hl : a.length = b.length) (h : ∀ i, i < a.length → nth a i = nth b i) : a = b := by
  apply List.ext_getElem?
  intro i
  by_cases hi : i < a.length
  · rw [nth_some hi, nth_some (by omega), h i hi]
  · rw [List.getElem?_eq_none (by omega), List.getElem?_eq_none (by omega)]
theorem sumL_set {l : List Int} {k : Nat} (x : Int) (hk : k < l.length) : sumL (l.set k x) = sumL l - nth l k + x := by
  induction l generalizing k with
  | nil => simp at hk
  | cons y l ih =>
    cases k with
    | zero =>
      simp only [List.set_cons_zero, sumL]
      have : nth (y :: l) 0 = y := rfl
      omega
    | succ k =>
      have h1 := ih (k := k) (by simpa using hk)
      simp only [List.set_cons_succ, sumL]
      have : nth (y :: l) (k + 1) = nth l k := by simp [nth]
      rw [h1, this]
      omega
/-- One goes ahead of another one: more is left, or as much and it stands ahead. -/
def Ahead (r : List Int) (i j : Nat) : Prop := nth r j < nth r i ∨ (nth r i = nth r j ∧ i < j)
instance (r : List Int) (i j : Nat) : Decidable (Ahead r i j) := by unfold Ahead; infer_instance
structure Order (r : List Int) (ks : List Nat) : Prop where
  perm : ks.Perm (List.range r.length)
  rise : ks.Pairwise (Ahead r)
theorem order_one {r : List Int} {a b : List Nat} (ha : Order r a) (hb : Order r b) : a = b :=
  List.Perm.eq_of_pairwise (le := Ahead r) (fun i j _ _ h1 h2 => by unfold Ahead at h1 h2; omega) ha.rise hb.rise (ha.perm.trans hb.perm.symm)
theorem order_ex (r : List Int) : ∃ ks, Order r ks := by
  have tr : ∀ a b c : Nat, decide (Ahead r a b ∨ a = b) = true → decide (Ahead r b c ∨ b = c) = true → decide (Ahead r a c ∨ a = c) = true := fun a b c h1 h2 => by
    have h3 := of_decide_eq_true h1
    have h4 := of_decide_eq_true h2
    refine decide_eq_true ?_
    unfold Ahead at *
    rcases h3 with h3 | rfl
    · rcases h4 with h4 | rfl
      · omega
      · exact .inl h3
    · exact h4
  have to : ∀ a b : Nat, (decide (Ahead r a b ∨ a = b) || decide (Ahead r b a ∨ b = a)) = true := fun a b => by
    simp only [Bool.or_eq_true, decide_eq_true_eq]
    unfold Ahead
    omega
  refine ⟨(List.range r.length).mergeSort fun a b => decide (Ahead r a b ∨ a = b), List.mergeSort_perm _ _, ?_⟩
  have h1 := List.pairwise_mergeSort tr to (List.range r.length)
  have h2 : ((List.range r.length).mergeSort fun a b => decide (Ahead r a b ∨ a = b)).Nodup := (List.mergeSort_perm _ _).nodup_iff.2 List.nodup_range
  refine (h1.and h2).imp (fun {a b} h => ?_)
  rcases of_decide_eq_true h.1 with h3 | h3
  · exact h3
  · exact absurd h3 h.2
noncomputable def ordF (r : List Int) : List Nat := Classical.choose (order_ex r)
theorem ordF_is (r : List Int) : Order r (ordF r) := Classical.choose_spec (order_ex r)
theorem Order.length {r : List Int} {ks : List Nat} (h : Order r ks) : ks.length = r.length := by rw [h.perm.length_eq, List.length_range]
theorem Order.lt {r : List Int} {ks : List Nat} (h : Order r ks) {k : Nat} (hk : k ∈ ks) : k < r.length := List.mem_range.1 (h.perm.mem_iff.1 hk)
theorem Order.mem {r : List Int} {ks : List Nat} (h : Order r ks) {k : Nat} (hk : k < r.length) : k ∈ ks := h.perm.mem_iff.2 (List.mem_range.2 hk)
theorem Order.nodup {r : List Int} {ks : List Nat} (h : Order r ks) : ks.Nodup := h.perm.nodup_iff.2 List.nodup_range
/-- One more for each of some. -/
def bump (l : List Int) (ks : List Nat) : List Int := l.mapIdx fun i x => if i ∈ ks then x + 1 else x
/-- Those who have got one. -/
def mark (l : List Int) (ks : List Nat) : List Int := l.mapIdx fun i x => if i ∈ ks then -1 else x
theorem bump_length (l : List Int) (ks : List Nat) : (bump l ks).length = l.length := by simp [bump]
theorem mark_length (l : List Int) (ks : List Nat) : (mark l ks).length = l.length := by simp [mark]
theorem bump_nth {l : List Int} {ks : List Nat} {i : Nat} (h : i < l.length) : nth (bump l ks) i = if i ∈ ks then nth l i + 1 else nth l i := by
  unfold nth bump
  rw [List.getElem?_mapIdx, List.getElem?_eq_getElem h]
  rfl
theorem mark_nth {l : List Int} {ks : List Nat} {i : Nat} (h : i < l.length) : nth (mark l ks) i = if i ∈ ks then -1 else nth l i := by
  unfold nth mark
  rw [List.getElem?_mapIdx, List.getElem?_eq_getElem h]
  rfl
theorem bump_nil (l : List Int) : bump l [] = l := ext_nth (bump_length _ _) fun i hi => by rw [bump_nth (by rw [← bump_length l []]; exact hi)]; simp
theorem mark_nil (l : List Int) : mark l [] = l := ext_nth (mark_length _ _) fun i hi => by rw [mark_nth (by rw [← mark_length l []]; exact hi)]; simp
theorem bump_more {l : List Int} {ks : List Nat} {k : Nat} (hk : k < l.length) (hn : k ∉ ks) : bump l (ks ++ [k]) = (bump l ks).set k (nth (bump l ks) k + 1) := by
  refine ext_nth (by rw [List.length_set, bump_length, bump_length]) fun i hi => ?_
  rw [bump_length] at hi
  rw [nth_set _ _ _ _ (by rw [bump_length]; exact hk), bump_nth hi, bump_nth hk, bump_nth hi]
  by_cases e : i = k
  · subst e
    simp [hn]
  · simp [e]
theorem mark_more {l : List Int} {ks : List Nat} {k : Nat} (hk : k < l.length) : mark l (ks ++ [k]) = (mark l ks).set k (-1) := by
  refine ext_nth (by rw [List.length_set, mark_length, mark_length]) fun i hi => ?_
  rw [mark_length] at hi
  rw [nth_set _ _ _ _ (by rw [mark_length]; exact hk), mark_nth hi, mark_nth hi]
  by_cases e : i = k
  · simp [e]
  · simp [e]
/-- The one of which most is left, that stands ahead. -/
structure IsTop (l : List Int) (k : Nat) : Prop where
  lt : k < l.length
  first : ∀ i, i < k → nth l i < nth l k
  most : ∀ i, i < l.length → nth l i ≤ nth l k
theorem top_one {l : List Int} {a b : Nat} (ha : IsTop l a) (hb : IsTop l b) : a = b := by
  rcases Nat.lt_trichotomy a b with h | h | h
  · have h1 := hb.first a h
    have h2 := ha.most b hb.lt
    omega
  · exact h
  · have h1 := ha.first b h
    have h2 := hb.most a ha.lt
    omega
theorem mem_take_idx {ks : List Nat} (hn : ks.Nodup) {j i : Nat} (hi : i < ks.length) : ks[i] ∈ ks.take j ↔ i < j := by
  constructor
  · intro h
    obtain ⟨m, hm, e⟩ := List.mem_iff_getElem.1 h
    rw [List.length_take] at hm
    rw [List.getElem_take] at e
    have hp := List.pairwise_iff_getElem.1 hn
    rcases Nat.lt_trichotomy m i with h1 | h1 | h1
    · exact absurd e (hp m i (by omega) hi h1)
    · omega
    · exact absurd e.symm (hp i m hi (by omega) h1)
  · intro h
    exact List.mem_iff_getElem.2 ⟨i, by rw [List.length_take]; omega, by rw [List.getElem_take]⟩
theorem top_mark {r : List Int} {ks : List Nat} (h : Order r ks) (h0 : ∀ x ∈ r, 0 ≤ x) {j : Nat} (hj : j < ks.length) : IsTop (mark r (ks.take j)) ks[j] := by
  have hkl := h.lt (List.getElem_mem hj)
  have hno : ks[j] ∉ ks.take j := fun e => by have := (mem_take_idx h.nodup hj).1 e; omega
  have hr0 : 0 ≤ nth r ks[j] := h0 _ (List.mem_of_getElem? (nth_some hkl))
  have hcmp : ∀ i, i < r.length → i ≠ ks[j] → (i ∈ ks.take j ∧ nth (mark r (ks.take j)) i = -1) ∨ (Ahead r ks[j] i ∧ nth (mark r (ks.take j)) i = nth r i) := fun i hi hne => by
    rw [mark_nth hi]
    by_cases hm : i ∈ ks.take j
    · left
      exact ⟨hm, if_pos hm⟩
    · right
      rw [if_neg hm]
      refine ⟨?_, rfl⟩
      obtain ⟨m, hm2, e⟩ := List.mem_iff_getElem.1 (h.mem hi)
      have hlt : ¬ m < j := fun hh => hm (by rw [← e]; exact (mem_take_idx h.nodup hm2).2 hh)
      have hne2 : m ≠ j := fun hh => by subst hh; exact hne e.symm
      rw [← e]
      exact List.pairwise_iff_getElem.1 h.rise j m hj hm2 (by omega)
  refine ⟨by rw [mark_length]; exact hkl, fun i hi => ?_, fun i hi => ?_⟩
  · rw [mark_nth hkl, if_neg hno]
    rcases hcmp i (by omega) (by omega) with ⟨_, e⟩ | ⟨ha, e⟩
    · rw [e]
      omega
    · rw [e]
      unfold Ahead at ha
      omega
  · rw [mark_length] at hi
    by_cases e : i = ks[j]
    · rw [e]
      exact Int.le_refl _
    · rw [mark_nth (i := ks[j]) hkl, if_neg hno]
      rcases hcmp i hi e with ⟨_, e⟩ | ⟨ha, e⟩
      · rw [e]
        omega
      · rw [e]
        unfold Ahead at ha
        omega
theorem take_succ_get {ks : List Nat} {j : Nat} (hj : j < ks.length) : ks.take (j + 1) = ks.take j ++ [ks[j]] := by
  rw [List.take_add_one, List.getElem?_eq_getElem hj]
  rfl
theorem sumL_bump {l : List Int} {r : List Int} {ks : List Nat} (h : Order r ks) (hl : l.length = r.length) : ∀ j, j ≤ ks.length → sumL (bump l (ks.take j)) = sumL l + j
  | 0, _ => by rw [List.take_zero, bump_nil]; simp
  | j + 1, hj => by
    have ih := sumL_bump h hl j (by omega)
    have hk := h.lt (List.getElem_mem (show j < ks.length by omega))
    have hno : ks[j] ∉ ks.take j := fun e => by have := (mem_take_idx h.nodup (show j < ks.length by omega)).1 e; omega
    rw [take_succ_get (by omega), bump_more (by omega) hno, sumL_set _ (by rw [bump_length]; omega), ih]
    push_cast
    omega
/-! n by weights of which all together are S -/
def flo (n S : Int) (ws : List Int) : List Int := ws.map fun v => n * v / S
def rst (n S : Int) (ws : List Int) : List Int := ws.map fun v => n * v % S
theorem flo_length (n S : Int) (ws : List Int) : (flo n S ws).length = ws.length := by simp [flo]
theorem rst_length (n S : Int) (ws : List Int) : (rst n S ws).length = ws.length := by simp [rst]
theorem flo_nth {n S : Int} {ws : List Int} {i : Nat} (h : i < ws.length) : nth (flo n S ws) i = n * nth ws i / S := nth_map h
theorem rst_nth {n S : Int} {ws : List Int} {i : Nat} (h : i < ws.length) : nth (rst n S ws) i = n * nth ws i % S := nth_map h
theorem parts_sum (n S : Int) : ∀ ws : List Int, S * sumL (flo n S ws) + sumL (rst n S ws) = n * sumL ws
  | [] => by simp [flo, rst, sumL]
  | v :: ws => by
    have ih := parts_sum n S ws
    have h := Int.mul_ediv_add_emod (n * v) S
    simp only [flo, rst, List.map_cons, sumL] at ih ⊢
    rw [Int.mul_add, Int.mul_add]
    omega
theorem rst_in {n S : Int} {ws : List Int} (hS : 0 < S) : ∀ x ∈ rst n S ws, 0 ≤ x ∧ x < S := fun x hx => by
  obtain ⟨v, _, rfl⟩ := List.mem_map.1 hx
  exact ⟨Int.emod_nonneg _ (by omega), Int.emod_lt_of_pos _ hS⟩
theorem flo_in {n S : Int} {ws : List Int} (hS : 0 < S) (hn : 0 ≤ n) (hw : ∀ v ∈ ws, 0 ≤ v) : ∀ x ∈ flo n S ws, 0 ≤ x := fun x hx => by
  obtain ⟨v, hv, rfl⟩ := List.mem_map.1 hx
  exact Int.ediv_nonneg (Int.mul_nonneg hn (hw v hv)) (by omega)
/-- How many get one more. -/
def moreN (n S : Int) (ws : List Int) : Int := n - sumL (flo n S ws)
theorem more_in {n S : Int} {ws : List Int} (hS : 0 < S) (hs : sumL ws = S) : 0 ≤ moreN n S ws ∧ moreN n S ws < ws.length := by
  have h := parts_sum n S ws
  rw [hs, Int.mul_comm n S] at h
  have h0 : sumL (rst n S ws) = S * moreN n S ws := by
    unfold moreN
    rw [Int.mul_sub]
    omega
  have h1 : 0 ≤ sumL (rst n S ws) := sumL_nonneg fun x hx => (rst_in hS x hx).1
  have hl : 0 < ws.length := by
    cases ws with
    | nil => simp [sumL] at hs; omega
    | cons v ws => simp
  have h2 : sumL (rst n S ws) ≤ (rst n S ws).length * (S - 1) := sumL_le fun x hx => by have := (rst_in hS x hx).2; omega
  rw [rst_length] at h2
  rw [h0] at h1 h2
  constructor
  · exact Int.nonneg_of_mul_nonneg_right h1 hS
  · by_cases hc : moreN n S ws < ws.length
    · exact hc
    · have h3 : (ws.length : Int) * S ≤ S * moreN n S ws := by
        rw [Int.mul_comm S]
        exact Int.mul_le_mul_of_nonneg_right (by omega) (by omega)
      rw [Int.mul_sub] at h2
      omega
/-- The shares. -/
noncomputable def shares (n S : Int) (ws : List Int) : List Int := bump (flo n S ws) ((ordF (rst n S ws)).take (moreN n S ws).toNat)
theorem shares_length (n S : Int) (ws : List Int) : (shares n S ws).length = ws.length := by unfold shares; rw [bump_length, flo_length]
theorem shares_sum {n S : Int} {ws : List Int} (hS : 0 < S) (hs : sumL ws = S) : sumL (shares n S ws) = n := by
  obtain ⟨h1, h2⟩ := more_in (n := n) hS hs
  have ho := ordF_is (rst n S ws)
  unfold shares
  rw [sumL_bump ho (by rw [flo_length, rst_length]) _ (by rw [ho.length, rst_length]; omega)]
  have : ((moreN n S ws).toNat : Int) = moreN n S ws := by omega
  rw [this]
  unfold moreN
  omega
theorem shares_nth {n S : Int} {ws : List Int} {i : Nat} (hi : i < ws.length) : nth (shares n S ws) i = if i ∈ (ordF (rst n S ws)).take (moreN n S ws).toNat then n * nth ws i / S + 1 else n * nth ws i / S := by
  unfold shares
  rw [bump_nth (by rw [flo_length]; exact hi), flo_nth hi]
theorem shares_near {n S : Int} {ws : List Int} {i : Nat} (hi : i < ws.length) : n * nth ws i / S ≤ nth (shares n S ws) i ∧ nth (shares n S ws) i ≤ n * nth ws i / S + 1 := by
  rw [shares_nth hi]
  split <;> omega
/-- Of greater weights none is less. -/
theorem shares_more {n S : Int} {ws : List Int} {i k : Nat} (hn : 0 ≤ n) (hS : 0 < S) (hs : sumL ws = S) (hw : ∀ v ∈ ws, 0 ≤ v) (hi : i < ws.length) (hk : k < ws.length) (hlt : nth ws i < nth ws k) : nth (shares n S ws) i ≤ nth (shares n S ws) k := by
  rw [shares_nth hi, shares_nth hk]
  have hm : n * nth ws i ≤ n * nth ws k := Int.mul_le_mul_of_nonneg_left (by omega) hn
  have hf : n * nth ws i / S ≤ n * nth ws k / S := Int.ediv_le_ediv hS hm
  by_cases ha : i ∈ (ordF (rst n S ws)).take (moreN n S ws).toNat
  · by_cases hb : k ∈ (ordF (rst n S ws)).take (moreN n S ws).toNat
    · rw [if_pos ha, if_pos hb]
      omega
    · rw [if_pos ha, if_neg hb]
      by_cases he : n * nth ws i / S = n * nth ws k / S
      · exfalso
        have ho := ordF_is (rst n S ws)
        obtain ⟨a, ha1, ea⟩ := List.mem_iff_getElem.1 (ho.mem (k := i) (by rw [rst_length]; exact hi))
        obtain ⟨b, hb1, eb⟩ := List.mem_iff_getElem.1 (ho.mem (k := k) (by rw [rst_length]; exact hk))
        rw [← ea] at ha
        rw [← eb] at hb
        have ha2 := (mem_take_idx ho.nodup ha1).1 ha
        have hb2 : ¬ b < (moreN n S ws).toNat := fun h => hb ((mem_take_idx ho.nodup hb1).2 h)
        have h1 := List.pairwise_iff_getElem.1 ho.rise a b ha1 hb1 (by omega)
        rw [ea, eb] at h1
        unfold Ahead at h1
        rw [rst_nth hi, rst_nth hk] at h1
        have e1 := Int.mul_ediv_add_emod (n * nth ws i) S
        have e2 := Int.mul_ediv_add_emod (n * nth ws k) S
        rw [he] at e1
        -- nothing is shared, or more of it is left of the greater weight
        by_cases h0 : n = 0
        · subst h0
          have hz : moreN 0 S ws = 0 := by
            have := (more_in (n := 0) hS hs).1
            have h2 : 0 ≤ sumL (flo 0 S ws) := sumL_nonneg (flo_in hS (Int.le_refl _) hw)
            unfold moreN at this ⊢
            omega
          rw [hz] at ha2
          simp at ha2
        · have hlt2 : n * nth ws i < n * nth ws k := Int.mul_lt_mul_of_pos_left hlt (by omega)
          omega
      · omega
  · rw [if_neg ha]
    split <;> omega
end Go.Proofs.Ytaffdddleegfcaa.Fee
