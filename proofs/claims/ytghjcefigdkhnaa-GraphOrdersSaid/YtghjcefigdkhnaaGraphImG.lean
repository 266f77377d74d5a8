/- How deep a node stands, by what it needs; what Deep's closure remembers: the mathematics. -/
import Derived.Test.YtghjcefigdkhnaaGraphImD
import Derived.Test.YtghjcefigdkhnaaGraphDeeper
namespace Go.Proofs.Ytghjcefigdkhnaa.Graph.Im
open Go.RowKit Go.Lib IRows

/-- One more than the greatest of those that a node needs; 0, if it needs nothing. -/
def mxA (x : Int) (g : Int → Int) : List Nd → Int
  | [] => 0
  | t :: l => if t.a = x then max (g t.b + 1) (mxA x g l) else mxA x g l
theorem mxA_low (x : Int) (g : Int → Int) : ∀ l, 0 ≤ mxA x g l
  | [] => Int.le_refl _
  | t :: l => by
    have := mxA_low x g l
    unfold mxA
    split <;> omega
theorem mxA_append (x : Int) (g : Int → Int) : ∀ l k, mxA x g (l ++ k) = max (mxA x g l) (mxA x g k)
  | [], k => by
    have := mxA_low x g k
    show mxA x g k = max 0 (mxA x g k)
    omega
  | t :: l, k => by
    have := mxA_append x g l k
    show (if t.a = x then max (g t.b + 1) (mxA x g (l ++ k)) else mxA x g (l ++ k)) = max (if t.a = x then max (g t.b + 1) (mxA x g l) else mxA x g l) (mxA x g k)
    split <;> omega
theorem mxA_yes {x : Int} {g : Int → Int} {l : List Nd} {i : Nat} {t : Nd} (h : l[i]? = some t) (ha : t.a = x) (h0 : 0 ≤ g t.b) : mxA x g (l.take (i + 1)) = max (mxA x g (l.take i)) (g t.b + 1) := by
  rw [List.take_add_one, h, mxA_append]
  simp [mxA, ha]
  omega
theorem mxA_no {x : Int} {g : Int → Int} {l : List Nd} {i : Nat} {t : Nd} (h : l[i]? = some t) (ha : t.a ≠ x) : mxA x g (l.take (i + 1)) = mxA x g (l.take i) := by
  have := mxA_low x g (l.take i)
  rw [List.take_add_one, h, mxA_append]
  simp [mxA, ha]
  omega
theorem mxA_congr {x : Int} {g h : Int → Int} : ∀ {l : List Nd}, (∀ t ∈ l, t.a = x → g t.b = h t.b) → mxA x g l = mxA x h l
  | [], _ => rfl
  | t :: l, hh => by
    unfold mxA
    rw [mxA_congr (l := l) fun u hu => hh u (by simp [hu])]
    by_cases e : t.a = x
    · rw [if_pos e, if_pos e, hh t (by simp) e]
    · rw [if_neg e, if_neg e]
theorem mxA_high {x : Int} {g : Int → Int} {M : Int} (hM : 0 ≤ M) : ∀ {l : List Nd}, (∀ t ∈ l, t.a = x → g t.b + 1 ≤ M) → mxA x g l ≤ M
  | [], _ => hM
  | t :: l, hh => by
    have := mxA_high hM (l := l) fun u hu => hh u (by simp [hu])
    unfold mxA
    split
    · have := hh t (by simp) ‹_›
      omega
    · exact this
theorem rowD_at {x : Int} (hx : 1 ≤ x) : ∀ (l : List Nd) (D : List Int), (x - 1).toNat < D.length → 0 ≤ dp D x → (∀ t ∈ l, t.a = x → t.b ≠ x ∧ 1 ≤ t.b) → dp (rowD x l D) x = max (dp D x) (mxA x (dp D) l)
  | [], D, _, h0, _ => by
    show dp D x = max (dp D x) 0
    omega
  | t :: l, D, hl, h0, hn => by
    show dp (rowD x l (stepD x D t)) x = _
    have hup := (stepD_up (t := t) hl).1
    have hc : mxA x (dp (stepD x D t)) l = mxA x (dp D) l := mxA_congr fun u hu e => stepD_other hx (hn u (by simp [hu]) e).2 (hn u (by simp [hu]) e).1
    rw [rowD_at hx l _ (by rw [stepD_len]; exact hl) (by omega) (fun u hu => hn u (by simp [hu])), hc]
    by_cases e : t.a = x
    · have h1 : dp (stepD x D t) x = max (dp D x) (dp D t.b + 1) := by
        unfold stepD
        rw [if_pos e, dp_here hl]
        rfl
      have h2 : mxA x (dp D) (t :: l) = max (dp D t.b + 1) (mxA x (dp D) l) := by
        conv => lhs; unfold mxA
        rw [if_pos e]
      rw [h1, h2]
      omega
    · have h1 : stepD x D t = D := by
        unfold stepD
        rw [if_neg e]
      rw [h1]
      conv => rhs; unfold mxA
      rw [if_neg e]
theorem dp_zeros (n : Nat) (x : Int) : dp (List.replicate n 0) x = 0 := by
  unfold dp
  rw [List.getD_eq_getElem?_getD]
  by_cases h : (x - 1).toNat < n
  · rw [List.getElem?_replicate, if_pos h]
    rfl
  · rw [List.getElem?_replicate, if_neg h]
    rfl
/-- A node stands one deeper than the deepest that it needs. -/
theorem deg_rec {n : Int} {l : List Nd} {x : Int} (he : ordE n l = 0) (h1 : 1 ≤ x) (h2 : x ≤ n) : dp (degV n l) x = mxA x (dp (degV n l)) l := by
  obtain ⟨hm, hs, hl⟩ := ord_zero he
  obtain ⟨i, hi, e⟩ := List.mem_iff_getElem.1 (stands_all hs hl h1 h2)
  have hsplit : ordV n l = (ordV n l).take i ++ x :: (ordV n l).drop (i + 1) := by
    conv => lhs; rw [← List.take_append_drop i (ordV n l), List.drop_eq_getElem_cons hi, e]
  have hnd := hs.nodup
  rw [hsplit, List.nodup_append, List.nodup_cons] at hnd
  obtain ⟨_, ⟨n1, _⟩, n3⟩ := hnd
  have hnx : x ∉ (ordV n l).take i := fun h => n3 x h x (by simp) rfl
  have hpos : ∀ y ∈ (ordV n l).drop (i + 1), 1 ≤ y := fun y hy => (hs.node y (List.mem_of_mem_drop hy)).1
  have hpre : ∀ y ∈ (ordV n l).take i, 1 ≤ y := fun y hy => (hs.node y (List.mem_of_mem_take hy)).1
  have hd : degV n l = deepD l (ordV n l) (List.replicate n.toNat 0) := by unfold degV; rw [if_pos he]
  have hneed : ∀ t ∈ l, t.a = x → t.b ≠ x ∧ 1 ≤ t.b ∧ t.b ∉ (ordV n l).drop (i + 1) := fun t ht ea => by
    have hb := hs.behind i x (by rw [List.getElem?_eq_getElem hi, e]) t ht ea
    exact ⟨fun e2 => n3 t.b hb x (by simp) e2, (hm.2.2 t ht).2.1, fun h => n3 t.b hb t.b (List.mem_cons_of_mem _ h) rfl⟩
  generalize hD : deepD l ((ordV n l).take i) (List.replicate n.toNat 0) = D
  have hDl : D.length = n.toNat := by rw [← hD, deepD_len]; simp
  have h0 : dp D x = 0 := by rw [← hD, deepD_other h1 _ _ hpre hnx, dp_zeros]
  have hfin : degV n l = deepD l ((ordV n l).drop (i + 1)) (rowD x l D) := by
    rw [hd]
    conv => lhs; rw [hsplit]
    rw [deepD_append, hD]
    rfl
  have e1 : dp (degV n l) x = mxA x (dp D) l := by
    rw [hfin, deepD_other h1 _ _ hpos n1, rowD_at h1 l D (by omega) (by omega) (fun t ht ea => ⟨(hneed t ht ea).1, (hneed t ht ea).2.1⟩), h0]
    have := mxA_low x (dp D) l
    omega
  rw [e1]
  refine mxA_congr fun t ht ea => ?_
  obtain ⟨b1, b2, b3⟩ := hneed t ht ea
  rw [hfin, deepD_other b2 _ _ hpos b3, rowD_other h1 b2 b1]
theorem deg_b {n : Int} {l : List Nd} (he : ordE n l = 0) : ∀ (i : Nat) (x : Int), (ordV n l)[i]? = some x → 0 ≤ dp (degV n l) x ∧ dp (degV n l) x ≤ i := by
  obtain ⟨hm, hs, hl⟩ := ord_zero he
  intro i
  induction i using Nat.strongRecOn with
  | _ i ih =>
    intro x hx
    have hb := hs.node x (List.mem_of_getElem? hx)
    rw [deg_rec he hb.1 hb.2]
    refine ⟨mxA_low _ _ _, mxA_high (by omega) fun t ht ea => ?_⟩
    have h1 := hs.behind i x hx t ht ea
    obtain ⟨j, hj, hjx⟩ := List.getElem_of_mem h1
    rw [List.length_take] at hj
    rw [List.getElem_take] at hjx
    have := ih j (by omega) t.b (by rw [← hjx]; exact List.getElem?_eq_getElem (by omega))
    omega
theorem deg_64 {n : Int} {l : List Nd} (he : ordE n l = 0) {x : Int} (h1 : 1 ≤ x) (h2 : x ≤ n) : 0 ≤ dp (degV n l) x ∧ dp (degV n l) x ≤ 64 := by
  obtain ⟨hm, hs, hl⟩ := ord_zero he
  obtain ⟨i, hi, e⟩ := List.mem_iff_getElem.1 (stands_all hs hl h1 h2)
  have := deg_b he i x (by rw [List.getElem?_eq_getElem hi, e])
  have := hm.1
  omega
/-- A node itself, and what needs lead to from it. -/
def Rch (l : List Nd) (x y : Int) : Prop := y = x ∨ Lead l x y
theorem rch_lead {l : List Nd} {x y z : Int} (h : Lead l x y) (k : Rch l y z) : Lead l x z := by
  rcases k with rfl | k
  · exact h
  · exact h.trans k
/-- What is remembered of a node: what is known is right, what is not is nothing. -/
structure Gd (g : Int → Int) (b : Nat → Bool) (f : Nat → Int) (k : Nat) : Prop where
  yes : b k = true → f k = g k
  no : b k = false → f k = 0
/-- Behind a node's closure. -/
structure Dug (l : List Nd) (g : Int → Int) (p : Nat) (b : Nat → Bool) (f : Nat → Int) (b' : Nat → Bool) (f' : Nat → Int) : Prop where
  good : ∀ k : Nat, Rch l p k → Gd g b' f' k
  same : ∀ k : Nat, ¬ Rch l p k → b' k = b k ∧ f' k = f k
  here : b' p = true
/-- Within it, so many needs looked at. -/
structure Digs (l : List Nd) (g : Int → Int) (p : Nat) (b : Nat → Bool) (f : Nat → Int) (i : Nat) (b' : Nat → Bool) (f' : Nat → Int) : Prop where
  good : ∀ k : Nat, Lead l p k → Gd g b' f' k
  same : ∀ k : Nat, ¬ Rch l p k → b' k = b k ∧ f' k = f k
  now : b' p = false ∧ f' p = mxA p g (l.take i)
theorem Digs.begin {l : List Nd} {g : Int → Int} {p : Nat} {b : Nat → Bool} {f : Nat → Int} (h : ∀ k : Nat, Rch l p k → Gd g b f k) (hb : b p = false) : Digs l g p b f 0 b f :=
  ⟨fun k hk => h k (.inr hk), fun _ _ => ⟨rfl, rfl⟩, hb, by rw [(h p (.inl rfl)).no hb]; rfl⟩
theorem Digs.skip {l : List Nd} {g : Int → Int} {p i : Nat} {b b' : Nat → Bool} {f f' : Nat → Int} {t : Nd} (h : Digs l g p b f i b' f') (ht : l[i]? = some t) (ha : t.a ≠ (p : Int)) : Digs l g p b f (i + 1) b' f' :=
  ⟨h.good, h.same, h.now.1, by rw [mxA_no ht ha]; exact h.now.2⟩
theorem Digs.pre {l : List Nd} {g : Int → Int} {p i y : Nat} {b b' : Nat → Bool} {f f' : Nat → Int} {t : Nd} (h : Digs l g p b f i b' f') (ht : t ∈ l) (ha : t.a = (p : Int)) (hb : t.b = (y : Int)) : ∀ k : Nat, Rch l y k → Gd g b' f' k := fun k hk =>
  h.good k (rch_lead (by rw [← hb]; exact .one ht ha) hk)
/-- Behind the closure of what it needs. -/
theorem Digs.dug {l : List Nd} {g : Int → Int} {p i y : Nat} {b b1 b2 : Nat → Bool} {f f1 f2 : Nat → Int} {t : Nd} (hno : ∀ x, ¬ Lead l x x) (h : Digs l g p b f i b1 f1) (ht : t ∈ l) (ha : t.a = (p : Int)) (hb : t.b = (y : Int)) (k : Dug l g y b1 f1 b2 f2) : Digs l g p b f i b2 f2 ∧ f2 y = g y := by
  have hpy : Lead l p y := by rw [← hb]; exact .one ht ha
  have hnp : ¬ Rch l y p := fun hr => hno p (rch_lead hpy hr)
  refine ⟨⟨fun z hz => ?_, fun z hz => ?_, ?_⟩, (k.good y (.inl rfl)).yes k.here⟩
  · by_cases e : Rch l y z
    · exact k.good z e
    · obtain ⟨e1, e2⟩ := k.same z e
      have := h.good z hz
      exact ⟨fun hh => by rw [e2]; exact this.yes (by rw [← e1]; exact hh), fun hh => by rw [e2]; exact this.no (by rw [← e1]; exact hh)⟩
  · have hny : ¬ Rch l y z := fun hr => hz (.inr (rch_lead hpy hr))
    obtain ⟨e1, e2⟩ := k.same z hny
    obtain ⟨e3, e4⟩ := h.same z hz
    exact ⟨e1.trans e3, e2.trans e4⟩
  · obtain ⟨e1, e2⟩ := k.same p hnp
    exact ⟨e1.trans h.now.1, e2.trans h.now.2⟩
theorem Digs.step {l : List Nd} {g : Int → Int} {p i y : Nat} {b b2 : Nat → Bool} {f f2 : Nat → Int} {t : Nd} (hno : ∀ x, ¬ Lead l x x) (h : Digs l g p b f i b2 f2) (ht : l[i]? = some t) (ha : t.a = (p : Int)) (hb : t.b = (y : Int)) (h0 : 0 ≤ g y) : Digs l g p b f (i + 1) b2 (up f2 p (max (mxA p g (l.take i)) (g y + 1))) := by
  refine ⟨fun z hz => ?_, fun z hz => ?_, h.now.1, ?_⟩
  · have hne : z ≠ p := fun e => hno p (by rw [← e] at hz ⊢; exact hz)
    have := h.good z hz
    exact ⟨fun hh => by unfold up; rw [if_neg hne]; exact this.yes hh, fun hh => by unfold up; rw [if_neg hne]; exact this.no hh⟩
  · have hne : z ≠ p := fun e => hz (.inl (by rw [e]))
    unfold up
    rw [if_neg hne]
    exact h.same z hz
  · unfold up
    rw [if_pos rfl, mxA_yes ht ha (by rw [hb]; exact h0), hb]
theorem Digs.end {l : List Nd} {g : Int → Int} {p : Nat} {b b' : Nat → Bool} {f f' : Nat → Int} (_ : ∀ x, ¬ Lead l x x) (h : Digs l g p b f l.length b' f') (hg : g p = mxA p g l) : Dug l g p b f (up b' p true) f' ∧ f' p = g p := by
  have hv : f' p = g p := by rw [h.now.2, List.take_length, hg]
  refine ⟨⟨fun z hz => ?_, fun z hz => ?_, by unfold up; rw [if_pos rfl]⟩, hv⟩
  · by_cases e : z = p
    · subst e
      exact ⟨fun _ => hv, fun hh => by unfold up at hh; rw [if_pos rfl] at hh; cases hh⟩
    · have hl : Lead l p z := by
        rcases hz with hz | hz
        · omega
        · exact hz
      have := h.good z hl
      exact ⟨fun hh => this.yes (by unfold up at hh; rw [if_neg e] at hh; exact hh), fun hh => this.no (by unfold up at hh; rw [if_neg e] at hh; exact hh)⟩
  · have hne : z ≠ p := fun e => hz (.inl (by rw [e]))
    unfold up
    rw [if_neg hne]
    exact h.same z hz
end Go.Proofs.Ytghjcefigdkhnaa.Graph.Im
