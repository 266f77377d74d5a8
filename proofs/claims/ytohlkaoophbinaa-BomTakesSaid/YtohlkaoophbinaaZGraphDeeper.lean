/- Whoever needs stands deeper; said without a program. How deep a node stands, by what it needs; what Deep's closure remembers: the mathematics. The closure of the program's Deep. The row of what was seen. -/
import Derived.Test.YtohlkaoophbinaaZGraphReach
import Derived.Test.YtohlkaoophbinaaZGraphImC
import Derived.Deep.RegionWith
import Derived.Deep.RegionHeld3
import Derived.BigRegion
namespace Go.Proofs.Ytohlkaoophbinaa.Graph

/-- How deep a node stands. -/
def dp (D : List Int) (x : Int) : Int := D.getD (x - 1).toNat 0
theorem dp_set {D : List Int} {x y M : Int} (hx : 1 ≤ x) (hy : 1 ≤ y) (h : y ≠ x) : dp (D.set (x - 1).toNat M) y = dp D y := by
  unfold dp
  simp only [List.getD_eq_getElem?_getD]
  rw [List.getElem?_set_ne (by omega)]
theorem dp_here {D : List Int} {x M : Int} (hl : (x - 1).toNat < D.length) : dp (D.set (x - 1).toNat M) x = M := by
  unfold dp
  simp only [List.getD_eq_getElem?_getD]
  rw [List.getElem?_set_self hl]
  rfl
theorem stepD_len (x : Int) (D : List Int) (t : Nd) : (stepD x D t).length = D.length := by
  unfold stepD
  split <;> simp
theorem stepD_other {x y : Int} {D : List Int} {t : Nd} (hx : 1 ≤ x) (hy : 1 ≤ y) (h : y ≠ x) : dp (stepD x D t) y = dp D y := by
  unfold stepD
  split
  · exact dp_set hx hy h
  · rfl
theorem stepD_up {x : Int} {D : List Int} {t : Nd} (hl : (x - 1).toNat < D.length) : dp D x ≤ dp (stepD x D t) x ∧ (t.a = x → dp D t.b + 1 ≤ dp (stepD x D t) x) := by
  unfold stepD
  split
  · rw [dp_here hl]
    exact ⟨Int.le_max_left _ _, fun _ => Int.le_max_right _ _⟩
  · rename_i h
    exact ⟨Int.le_refl _, fun e => absurd e h⟩
theorem rowD_len (x : Int) : ∀ (l : List Nd) (D : List Int), (rowD x l D).length = D.length
  | [], _ => rfl
  | t :: l, D => by
    show (rowD x l (stepD x D t)).length = _
    rw [rowD_len x l, stepD_len]
theorem rowD_other {x y : Int} (hx : 1 ≤ x) (hy : 1 ≤ y) (h : y ≠ x) : ∀ (l : List Nd) (D : List Int), dp (rowD x l D) y = dp D y
  | [], _ => rfl
  | t :: l, D => by
    show dp (rowD x l (stepD x D t)) y = _
    rw [rowD_other hx hy h l, stepD_other hx hy h]
theorem rowD_up {x : Int} (hx : 1 ≤ x) : ∀ (l : List Nd) (D : List Int), (x - 1).toNat < D.length → dp D x ≤ dp (rowD x l D) x ∧ ∀ t ∈ l, t.a = x → t.b ≠ x → 1 ≤ t.b → dp D t.b + 1 ≤ dp (rowD x l D) x
  | [], _, _ => ⟨Int.le_refl _, fun t h => by simp at h⟩
  | u :: l, D, hl => by
    obtain ⟨h1, h2⟩ := stepD_up (t := u) hl
    obtain ⟨r1, r2⟩ := rowD_up hx l (stepD x D u) (by rw [stepD_len]; exact hl)
    refine ⟨Int.le_trans h1 r1, fun t ht e hb hb1 => ?_⟩
    rcases List.mem_cons.1 ht with rfl | ht
    · exact Int.le_trans (h2 e) r1
    · have := r2 t ht e hb hb1
      rw [stepD_other hx hb1 hb] at this
      exact this
theorem deepD_len (l : List Nd) : ∀ (o D : List Int), (deepD l o D).length = D.length
  | [], _ => rfl
  | x :: o, D => by
    show (deepD l o (rowD x l D)).length = _
    rw [deepD_len l o, rowD_len]
theorem deepD_append (l : List Nd) : ∀ (o q D : List Int), deepD l (o ++ q) D = deepD l q (deepD l o D)
  | [], _, _ => rfl
  | x :: o, q, D => deepD_append l o q (rowD x l D)
theorem deepD_other {l : List Nd} {y : Int} (hy : 1 ≤ y) : ∀ (o D : List Int), (∀ x ∈ o, 1 ≤ x) → y ∉ o → dp (deepD l o D) y = dp D y
  | [], _, _, _ => rfl
  | x :: o, D, hp, hn => by
    show dp (deepD l o (rowD x l D)) y = _
    rw [deepD_other hy o _ (fun z hz => hp z (List.mem_cons_of_mem _ hz)) (fun h => hn (List.mem_cons_of_mem _ h)), rowD_other (hp x (by simp)) hy (fun e => hn (by rw [e]; simp))]
/-- Whoever needs stands deeper. -/
theorem deeper {n : Int} {l : List Nd} (hm : May n l) (he : ordE n l = 0) {t : Nd} (ht : t ∈ l) : dp (degV n l) t.b < dp (degV n l) t.a := by
  obtain ⟨_, hs, hl⟩ := ord_zero he
  have ha := (hm.2.2 t ht).1
  have hb := (hm.2.2 t ht).2
  obtain ⟨i, hi, e⟩ := List.mem_iff_getElem.1 (stands_all hs hl ha.1 ha.2)
  have h1 := hs.behind i t.a (by rw [List.getElem?_eq_getElem hi, e]) t ht rfl
  have hsplit : ordV n l = (ordV n l).take i ++ t.a :: (ordV n l).drop (i + 1) := by
    conv => lhs; rw [← List.take_append_drop i (ordV n l), List.drop_eq_getElem_cons hi, e]
  have hnd := hs.nodup
  rw [hsplit, List.nodup_append, List.nodup_cons] at hnd
  obtain ⟨_, ⟨n1, _⟩, n3⟩ := hnd
  have hne : t.b ≠ t.a := fun e2 => n3 t.b h1 t.a (by simp) e2
  have hnb : t.b ∉ (ordV n l).drop (i + 1) := fun h => n3 t.b h1 t.b (List.mem_cons_of_mem _ h) rfl
  have hpos : ∀ x ∈ (ordV n l).drop (i + 1), 1 ≤ x := fun x hx => (hs.node x (List.mem_of_mem_drop hx)).1
  have hd : degV n l = deepD l (ordV n l) (List.replicate n.toNat 0) := by unfold degV; rw [if_pos he]
  rw [hd, hsplit, deepD_append]
  generalize hD : deepD l ((ordV n l).take i) (List.replicate n.toNat 0) = D
  have hDl : D.length = n.toNat := by rw [← hD, deepD_len]; simp
  show dp (deepD l ((ordV n l).drop (i + 1)) (rowD t.a l D)) t.b < dp (deepD l ((ordV n l).drop (i + 1)) (rowD t.a l D)) t.a
  rw [deepD_other hb.1 _ _ hpos hnb, deepD_other ha.1 _ _ hpos n1, rowD_other ha.1 hb.1 hne]
  have := (rowD_up ha.1 l D (by omega)).2 t ht rfl hne hb.1
  omega
theorem degV_len {n : Int} {l : List Nd} (he : ordE n l = 0) : (degV n l).length = n.toNat := by
  unfold degV
  rw [if_pos he, deepD_len]
  simp
end Go.Proofs.Ytohlkaoophbinaa.Graph
namespace Go.Proofs.Ytohlkaoophbinaa.Graph.Im
open Go.RowKit Go.Lib IRows

/-- One more than the greatest of those that a node needs; 0, if it needs nothing. -/
def mxA (x : Int) (g : Int → Int) : List Nd → Int
  | [] => 0
  | t :: l => if t.a = x then max (g t.b + 1) (mxA x g l) else mxA x g l
theorem mxA_low (x : Int) (g : Int → Int) : ∀ l, 0 ≤ mxA x g l
  | [] => Int.le_refl _
  | t :: l => by
    have := mxA_low x g l
    unfold mxA
    split <;> omega
theorem mxA_append (x : Int) (g : Int → Int) : ∀ l k, mxA x g (l ++ k) = max (mxA x g l) (mxA x g k)
  | [], k => by
    have := mxA_low x g k
    show mxA x g k = max 0 (mxA x g k)
    omega
  | t :: l, k => by
    have := mxA_append x g l k
    show (if t.a = x then max (g t.b + 1) (mxA x g (l ++ k)) else mxA x g (l ++ k)) = max (if t.a = x then max (g t.b + 1) (mxA x g l) else mxA x g l) (mxA x g k)
    split <;> omega
theorem mxA_yes {x : Int} {g : Int → Int} {l : List Nd} {i : Nat} {t : Nd} (h : l[i]? = some t) (ha : t.a = x) (h0 : 0 ≤ g t.b) : mxA x g (l.take (i + 1)) = max (mxA x g (l.take i)) (g t.b + 1) := by
  rw [List.take_add_one, h, mxA_append]
  simp [mxA, ha]
  omega
theorem mxA_no {x : Int} {g : Int → Int} {l : List Nd} {i : Nat} {t : Nd} (h : l[i]? = some t) (ha : t.a ≠ x) : mxA x g (l.take (i + 1)) = mxA x g (l.take i) := by
  have := mxA_low x g (l.take i)
  rw [List.take_add_one, h, mxA_append]
  simp [mxA, ha]
  omega
theorem mxA_congr {x : Int} {g h : Int → Int} : ∀ {l : List Nd}, (∀ t ∈ l, t.a = x → g t.b = h t.b) → mxA x g l = mxA x h l
  | [], _ => rfl
  | t :: l, hh => by
    unfold mxA
    rw [mxA_congr (l := l) fun u hu => hh u (by simp [hu])]
    by_cases e : t.a = x
    · rw [if_pos e, if_pos e, hh t (by simp) e]
    · rw [if_neg e, if_neg e]
theorem mxA_high {x : Int} {g : Int → Int} {M : Int} (hM : 0 ≤ M) : ∀ {l : List Nd}, (∀ t ∈ l, t.a = x → g t.b + 1 ≤ M) → mxA x g l ≤ M
  | [], _ => hM
  | t :: l, hh => by
    have := mxA_high hM (l := l) fun u hu => hh u (by simp [hu])
    unfold mxA
    split
    · have := hh t (by simp) ‹_›
      omega
    · exact this
theorem rowD_at {x : Int} (hx : 1 ≤ x) : ∀ (l : List Nd) (D : List Int), (x - 1).toNat < D.length → 0 ≤ dp D x → (∀ t ∈ l, t.a = x → t.b ≠ x ∧ 1 ≤ t.b) → dp (rowD x l D) x = max (dp D x) (mxA x (dp D) l)
  | [], D, _, h0, _ => by
    show dp D x = max (dp D x) 0
    omega
  | t :: l, D, hl, h0, hn => by
    show dp (rowD x l (stepD x D t)) x = _
    have hup := (stepD_up (t := t) hl).1
    have hc : mxA x (dp (stepD x D t)) l = mxA x (dp D) l := mxA_congr fun u hu e => stepD_other hx (hn u (by simp [hu]) e).2 (hn u (by simp [hu]) e).1
    rw [rowD_at hx l _ (by rw [stepD_len]; exact hl) (by omega) (fun u hu => hn u (by simp [hu])), hc]
    by_cases e : t.a = x
    · have h1 : dp (stepD x D t) x = max (dp D x) (dp D t.b + 1) := by
        unfold stepD
        rw [if_pos e, dp_here hl]
        rfl
      have h2 : mxA x (dp D) (t :: l) = max (dp D t.b + 1) (mxA x (dp D) l) := by
        conv => lhs; unfold mxA
        rw [if_pos e]
      rw [h1, h2]
      omega
    · have h1 : stepD x D t = D := by
        unfold stepD
        rw [if_neg e]
      rw [h1]
      conv => rhs; unfold mxA
      rw [if_neg e]
theorem dp_zeros (n : Nat) (x : Int) : dp (List.replicate n 0) x = 0 := by
  unfold dp
  rw [List.getD_eq_getElem?_getD]
  by_cases h : (x - 1).toNat < n
  · rw [List.getElem?_replicate, if_pos h]
    rfl
  · rw [List.getElem?_replicate, if_neg h]
    rfl
/-- A node stands one deeper than the deepest that it needs. -/
theorem deg_rec {n : Int} {l : List Nd} {x : Int} (he : ordE n l = 0) (h1 : 1 ≤ x) (h2 : x ≤ n) : dp (degV n l) x = mxA x (dp (degV n l)) l := by
  obtain ⟨hm, hs, hl⟩ := ord_zero he
  obtain ⟨i, hi, e⟩ := List.mem_iff_getElem.1 (stands_all hs hl h1 h2)
  have hsplit : ordV n l = (ordV n l).take i ++ x :: (ordV n l).drop (i + 1) := by
    conv => lhs; rw [← List.take_append_drop i (ordV n l), List.drop_eq_getElem_cons hi, e]
  have hnd := hs.nodup
  rw [hsplit, List.nodup_append, List.nodup_cons] at hnd
  obtain ⟨_, ⟨n1, _⟩, n3⟩ := hnd
  have hnx : x ∉ (ordV n l).take i := fun h => n3 x h x (by simp) rfl
  have hpos : ∀ y ∈ (ordV n l).drop (i + 1), 1 ≤ y := fun y hy => (hs.node y (List.mem_of_mem_drop hy)).1
  have hpre : ∀ y ∈ (ordV n l).take i, 1 ≤ y := fun y hy => (hs.node y (List.mem_of_mem_take hy)).1
  have hd : degV n l = deepD l (ordV n l) (List.replicate n.toNat 0) := by unfold degV; rw [if_pos he]
  have hneed : ∀ t ∈ l, t.a = x → t.b ≠ x ∧ 1 ≤ t.b ∧ t.b ∉ (ordV n l).drop (i + 1) := fun t ht ea => by
    have hb := hs.behind i x (by rw [List.getElem?_eq_getElem hi, e]) t ht ea
    exact ⟨fun e2 => n3 t.b hb x (by simp) e2, (hm.2.2 t ht).2.1, fun h => n3 t.b hb t.b (List.mem_cons_of_mem _ h) rfl⟩
  generalize hD : deepD l ((ordV n l).take i) (List.replicate n.toNat 0) = D
  have hDl : D.length = n.toNat := by rw [← hD, deepD_len]; simp
  have h0 : dp D x = 0 := by rw [← hD, deepD_other h1 _ _ hpre hnx, dp_zeros]
  have hfin : degV n l = deepD l ((ordV n l).drop (i + 1)) (rowD x l D) := by
    rw [hd]
    conv => lhs; rw [hsplit]
    rw [deepD_append, hD]
    rfl
  have e1 : dp (degV n l) x = mxA x (dp D) l := by
    rw [hfin, deepD_other h1 _ _ hpos n1, rowD_at h1 l D (by omega) (by omega) (fun t ht ea => ⟨(hneed t ht ea).1, (hneed t ht ea).2.1⟩), h0]
    have := mxA_low x (dp D) l
    omega
  rw [e1]
  refine mxA_congr fun t ht ea => ?_
  obtain ⟨b1, b2, b3⟩ := hneed t ht ea
  rw [hfin, deepD_other b2 _ _ hpos b3, rowD_other h1 b2 b1]
theorem deg_b {n : Int} {l : List Nd} (he : ordE n l = 0) : ∀ (i : Nat) (x : Int), (ordV n l)[i]? = some x → 0 ≤ dp (degV n l) x ∧ dp (degV n l) x ≤ i := by
  obtain ⟨hm, hs, hl⟩ := ord_zero he
  intro i
  induction i using Nat.strongRecOn with
  | _ i ih =>
    intro x hx
    have hb := hs.node x (List.mem_of_getElem? hx)
    rw [deg_rec he hb.1 hb.2]
    refine ⟨mxA_low _ _ _, mxA_high (by omega) fun t ht ea => ?_⟩
    have h1 := hs.behind i x hx t ht ea
    obtain ⟨j, hj, hjx⟩ := List.getElem_of_mem h1
    rw [List.length_take] at hj
    rw [List.getElem_take] at hjx
    have := ih j (by omega) t.b (by rw [← hjx]; exact List.getElem?_eq_getElem (by omega))
    omega
theorem deg_64 {n : Int} {l : List Nd} (he : ordE n l = 0) {x : Int} (h1 : 1 ≤ x) (h2 : x ≤ n) : 0 ≤ dp (degV n l) x ∧ dp (degV n l) x ≤ 64 := by
  obtain ⟨hm, hs, hl⟩ := ord_zero he
  obtain ⟨i, hi, e⟩ := List.mem_iff_getElem.1 (stands_all hs hl h1 h2)
  have := deg_b he i x (by rw [List.getElem?_eq_getElem hi, e])
  have := hm.1
  omega
/-- A node itself, and what needs lead to from it. -/
def Rch (l : List Nd) (x y : Int) : Prop := y = x ∨ Lead l x y
theorem rch_lead {l : List Nd} {x y z : Int} (h : Lead l x y) (k : Rch l y z) : Lead l x z := by
  rcases k with rfl | k
  · exact h
  · exact h.trans k
/-- What is remembered of a node: what is known is right, what is not is nothing. -/
structure Gd (g : Int → Int) (b : Nat → Bool) (f : Nat → Int) (k : Nat) : Prop where
  yes : b k = true → f k = g k
  no : b k = false → f k = 0
/-- Behind a node's closure. -/
structure Dug (l : List Nd) (g : Int → Int) (p : Nat) (b : Nat → Bool) (f : Nat → Int) (b' : Nat → Bool) (f' : Nat → Int) : Prop where
  good : ∀ k : Nat, Rch l p k → Gd g b' f' k
  same : ∀ k : Nat, ¬ Rch l p k → b' k = b k ∧ f' k = f k
  here : b' p = true
/-- Within it, so many needs looked at. -/
structure Digs (l : List Nd) (g : Int → Int) (p : Nat) (b : Nat → Bool) (f : Nat → Int) (i : Nat) (b' : Nat → Bool) (f' : Nat → Int) : Prop where
  good : ∀ k : Nat, Lead l p k → Gd g b' f' k
  same : ∀ k : Nat, ¬ Rch l p k → b' k = b k ∧ f' k = f k
  now : b' p = false ∧ f' p = mxA p g (l.take i)
theorem Digs.begin {l : List Nd} {g : Int → Int} {p : Nat} {b : Nat → Bool} {f : Nat → Int} (h : ∀ k : Nat, Rch l p k → Gd g b f k) (hb : b p = false) : Digs l g p b f 0 b f :=
  ⟨fun k hk => h k (.inr hk), fun _ _ => ⟨rfl, rfl⟩, hb, by rw [(h p (.inl rfl)).no hb]; rfl⟩
theorem Digs.skip {l : List Nd} {g : Int → Int} {p i : Nat} {b b' : Nat → Bool} {f f' : Nat → Int} {t : Nd} (h : Digs l g p b f i b' f') (ht : l[i]? = some t) (ha : t.a ≠ (p : Int)) : Digs l g p b f (i + 1) b' f' :=
  ⟨h.good, h.same, h.now.1, by rw [mxA_no ht ha]; exact h.now.2⟩
theorem Digs.pre {l : List Nd} {g : Int → Int} {p i y : Nat} {b b' : Nat → Bool} {f f' : Nat → Int} {t : Nd} (h : Digs l g p b f i b' f') (ht : t ∈ l) (ha : t.a = (p : Int)) (hb : t.b = (y : Int)) : ∀ k : Nat, Rch l y k → Gd g b' f' k := fun k hk =>
  h.good k (rch_lead (by rw [← hb]; exact .one ht ha) hk)
/-- Behind the closure of what it needs. -/
theorem Digs.dug {l : List Nd} {g : Int → Int} {p i y : Nat} {b b1 b2 : Nat → Bool} {f f1 f2 : Nat → Int} {t : Nd} (hno : ∀ x, ¬ Lead l x x) (h : Digs l g p b f i b1 f1) (ht : t ∈ l) (ha : t.a = (p : Int)) (hb : t.b = (y : Int)) (k : Dug l g y b1 f1 b2 f2) : Digs l g p b f i b2 f2 ∧ f2 y = g y := by
  have hpy : Lead l p y := by rw [← hb]; exact .one ht ha
  have hnp : ¬ Rch l y p := fun hr => hno p (rch_lead hpy hr)
  refine ⟨⟨fun z hz => ?_, fun z hz => ?_, ?_⟩, (k.good y (.inl rfl)).yes k.here⟩
  · by_cases e : Rch l y z
    · exact k.good z e
    · obtain ⟨e1, e2⟩ := k.same z e
      have := h.good z hz
      exact ⟨fun hh => by rw [e2]; exact this.yes (by rw [← e1]; exact hh), fun hh => by rw [e2]; exact this.no (by rw [← e1]; exact hh)⟩
  · have hny : ¬ Rch l y z := fun hr => hz (.inr (rch_lead hpy hr))
    obtain ⟨e1, e2⟩ := k.same z hny
    obtain ⟨e3, e4⟩ := h.same z hz
    exact ⟨e1.trans e3, e2.trans e4⟩
  · obtain ⟨e1, e2⟩ := k.same p hnp
    exact ⟨e1.trans h.now.1, e2.trans h.now.2⟩
theorem Digs.step {l : List Nd} {g : Int → Int} {p i y : Nat} {b b2 : Nat → Bool} {f f2 : Nat → Int} {t : Nd} (hno : ∀ x, ¬ Lead l x x) (h : Digs l g p b f i b2 f2) (ht : l[i]? = some t) (ha : t.a = (p : Int)) (hb : t.b = (y : Int)) (h0 : 0 ≤ g y) : Digs l g p b f (i + 1) b2 (up f2 p (max (mxA p g (l.take i)) (g y + 1))) := by
  refine ⟨fun z hz => ?_, fun z hz => ?_, h.now.1, ?_⟩
  · have hne : z ≠ p := fun e => hno p (by rw [← e] at hz ⊢; exact hz)
    have := h.good z hz
    exact ⟨fun hh => by unfold up; rw [if_neg hne]; exact this.yes hh, fun hh => by unfold up; rw [if_neg hne]; exact this.no hh⟩
  · have hne : z ≠ p := fun e => hz (.inl (by rw [e]))
    unfold up
    rw [if_neg hne]
    exact h.same z hz
  · unfold up
    rw [if_pos rfl, mxA_yes ht ha (by rw [hb]; exact h0), hb]
theorem Digs.end {l : List Nd} {g : Int → Int} {p : Nat} {b b' : Nat → Bool} {f f' : Nat → Int} (_ : ∀ x, ¬ Lead l x x) (h : Digs l g p b f l.length b' f') (hg : g p = mxA p g l) : Dug l g p b f (up b' p true) f' ∧ f' p = g p := by
  have hv : f' p = g p := by rw [h.now.2, List.take_length, hg]
  refine ⟨⟨fun z hz => ?_, fun z hz => ?_, by unfold up; rw [if_pos rfl]⟩, hv⟩
  · by_cases e : z = p
    · subst e
      exact ⟨fun _ => hv, fun hh => by unfold up at hh; rw [if_pos rfl] at hh; cases hh⟩
    · have hl : Lead l p z := by
        rcases hz with hz | hz
        · omega
        · exact hz
      have := h.good z hl
      exact ⟨fun hh => this.yes (by unfold up at hh; rw [if_neg e] at hh; exact hh), fun hh => this.no (by unfold up at hh; rw [if_neg e] at hh; exact hh)⟩
  · have hne : z ≠ p := fun e => hz (.inl (by rw [e]))
    unfold up
    rw [if_neg hne]
    exact h.same z hz
end Go.Proofs.Ytohlkaoophbinaa.Graph.Im
namespace Go.Proofs.Ytohlkaoophbinaa.Graph.Im
open Go.RowKit Go.Lib IRows

abbrev digV (P Q C D : Nat) : Value := .func (.func 92) #[] #[.pointer (some ⟨P, 0, none⟩), .pointer (some ⟨Q, 0, none⟩), .pointer (some ⟨C, 0, none⟩), .pointer (some ⟨D, 0, none⟩)]
/-- All that lies in memory while it goes on. -/
structure Dw (w0 W : World) (C D P Q : Nat) (s f : Value) (b : Nat → Bool) (g : Nat → Int) : Prop where
  ev : Ev w0 W C D P Q s f
  kn : RB W P b
  de : RI W Q g
  ne : P ≠ Q
theorem Dw.under {w0 W W' : World} {C D P Q : Nat} {s f : Value} {b : Nat → Bool} {g : Nat → Int} (h : Dw w0 W C D P Q s f b g) (hb : Below W.heap.size W W') : Dw w0 W' C D P Q s f b g := ⟨h.ev.under hb, h.kn.under h.ev.hiP hb, h.de.under h.ev.hiQ hb, h.ne⟩
theorem Dw.setB {w0 W : World} {C D P Q : Nat} {s f : Value} {b : Nat → Bool} {g : Nat → Int} (h : Dw w0 W C D P Q s f b g) (k : Nat) (v : Bool) : Dw w0 (W.setCell ⟨P, k, none⟩ (.bool v)) C D P Q s f (up b k v) g := ⟨h.ev.gr (gr_setP _ _ _ _ _), h.kn.set k v, h.de.other h.ne.symm _ _, h.ne⟩
theorem Dw.setI {w0 W : World} {C D P Q : Nat} {s f : Value} {b : Nat → Bool} {g : Nat → Int} (h : Dw w0 W C D P Q s f b g) (k : Nat) (v : Int) : Dw w0 (W.setCell ⟨Q, k, none⟩ (.int .i64 v)) C D P Q s f b (up g k v) := ⟨h.ev.gr (gr_setQ _ _ _ _ _), h.kn.other h.ne _ _, h.de.set k v, h.ne⟩
set_option maxRecDepth 100000 in
set_option maxHeartbeats 8000000 in
theorem dig_im (w0 : World) (n : Int) (a : Option Addr) (m c : Nat) (l : List Nd) (hl : l.length = m) (hs : Nds w0 a l) (he : ordE n l = 0) (C D P Q : Nat) :
    ∀ (i : Nat) (p : Nat) (b : Nat → Bool) (f : Nat → Int) (w : World), (ordV n l)[i]? = some (p : Int) → Dw w0 w C D P Q (.slice a m c) (digV P Q C D) b f → (∀ k : Nat, Rch l p k → Gd (dp (degV n l)) b f k) →
      Calls Try.prog 92 #[.int .i64 p, .pointer (some ⟨P, 0, none⟩), .pointer (some ⟨Q, 0, none⟩), .pointer (some ⟨C, 0, none⟩), .pointer (some ⟨D, 0, none⟩)] w fun e w' => e = .returned (.int .i64 (dp (degV n l) p)) ∧ Hid (∃ b' f', Dw w0 w' C D P Q (.slice a m c) (digV P Q C D) b' f' ∧ Gr w w' P Q ∧ Dug l (dp (degV n l)) p b f b' f') := by
  obtain ⟨hmay, hst, hlen⟩ := ord_zero he
  obtain ⟨G, hG⟩ : ∃ G : Int → Int, dp (degV n l) = G := ⟨_, rfl⟩
  have HREC : Hid (∀ x, 1 ≤ x → x ≤ n → G x = mxA x G l ∧ 0 ≤ G x ∧ G x ≤ 64) := Lib.hid fun x h1 h2 => by
    rw [← hG]
    exact ⟨deg_rec he h1 h2, deg_64 he h1 h2⟩
  have HNO : Hid (∀ x, ¬ Lead l x x) := Lib.hid ((order_iff hmay).1 he)
  have HOK := Lib.hid hmay
  have HST := Lib.hid hst
  obtain ⟨o, ho⟩ : ∃ o, ordV n l = o := ⟨_, rfl⟩
  rw [hG, ho]
  rw [ho] at HST
  have HL := Lib.hid hl
  have HT := nds_at hs
  have hm1 : (m : Int) ≤ 256 := by have := hmay.2.1; omega
  clear hl hs he hmay hst hlen hG ho
  intro i
  induction i using Nat.strongRecOn with
  | _ i ih =>
    intro p b f w hp hd hg
    have HIH : Hid (∀ (t : Nd) (y : Nat) (b1 : Nat → Bool) (f1 : Nat → Int) (w1 : World), t ∈ l → t.a = (p : Int) → t.b = (y : Int) → Dw w0 w1 C D P Q (.slice a m c) (digV P Q C D) b1 f1 → (∀ k : Nat, Rch l y k → Gd G b1 f1 k) →
      Calls Try.prog 92 #[.int .i64 y, .pointer (some ⟨P, 0, none⟩), .pointer (some ⟨Q, 0, none⟩), .pointer (some ⟨C, 0, none⟩), .pointer (some ⟨D, 0, none⟩)] w1 fun e w' => e = .returned (.int .i64 (G y)) ∧ Hid (∃ b' f', Dw w0 w' C D P Q (.slice a m c) (digV P Q C D) b' f' ∧ Gr w1 w' P Q ∧ Dug l G y b1 f1 b' f')) := Lib.hid fun t y b1 f1 w1 ht ha hb h1 h2 => by
      have h5 := HST.out.behind i (p : Int) hp t ht ha
      obtain ⟨j, hj, hjx⟩ := List.getElem_of_mem h5
      rw [List.length_take] at hj
      rw [List.getElem_take] at hjx
      exact ih j (by omega) y b1 f1 w1 (by rw [← hb, ← hjx]; exact List.getElem?_eq_getElem (by omega)) h1 h2
    have hpb := HST.out.node (p : Int) (List.mem_of_getElem? hp)
    have HPB := Lib.hid hpb
    have hn64 := HOK.out.1.2
    have hp0 : (0 : Int) ≤ (p : Int) := by omega
    have hp65 : (p : Int) < 65 := by omega
    have HP65 : Hid (p < 65) := Lib.hid (by omega)
    have HD := Lib.hid hd
    have HG := Lib.hid hg
    obtain ⟨x0, x1⟩ := hd.kn p (by omega)
    obtain ⟨y0, y1⟩ := hd.de p (by omega)
    have c0 := hd.ev.atC
    cases hb : b p with
    | true =>
      have HF : Hid (f p = G p) := Lib.hid ((hg p (.inl rfl)).yes hb)
      rw [hb] at x0
      rw [HF.out] at y0
      have HE : Hid (∃ b' f', Dw w0 w C D P Q (.slice a m c) (digV P Q C D) b' f' ∧ Gr w w P Q ∧ Dug l G p b f b' f') := Lib.hid ⟨b, f, hd, Gr.refl _ _ _, hg, fun _ _ => ⟨rfl, rfl⟩, hb⟩
      obtain ⟨r, hr⟩ : ∃ r, G (p : Int) = r := ⟨_, rfl⟩
      rw [hr] at y0 ⊢
      clear ih hp hd hg hb hpb hn64 hr
      go_enter Try.func92, Try.ntmps92
      go_wp2_with fail
      go_ret
      exact ⟨rfl, HE⟩
    | false =>
      have HBG : Hid (Digs l G p b f 0 b f) := Lib.hid (Digs.begin hg hb)
      rw [hb] at x0
      clear ih hp hd hg hb hpb hn64
      go_enter Try.func92, Try.ntmps92
      go_wp2_with fail
      clear x0 x1 y0 y1 c0
      go_loopw [17] (fun s wr => ∃ (i : Nat) (b1 : Nat → Bool) (f1 : Nat → Int), s = .int .i64 i ∧ i ≤ m ∧ Hid (Dw w0 wr C D P Q (.slice a m c) (digV P Q C D) b1 f1 ∧ Gr w wr P Q) ∧ Hid (Digs l G p b f i b1 f1)) (fun s _ => m - (RowKit.intOf s).toNat)
      case atStart => exact ⟨0, b, f, rfl, by omega, Lib.hid ⟨HD.out, Gr.refl _ _ _⟩, HBG⟩
      case round =>
        clear HBG
        obtain ⟨i, b1, f1, rfl, hi, HR, HS⟩ := hrel
        have hi0 : (0 : Int) ≤ (i : Int) := by omega
        by_cases hlt : i < m
        · have hlt2 : (i : Int) < (m : Int) := by omega
          obtain ⟨g, off, t, rfl, ht, q0, q1⟩ := HT.out wr i HR.out.1.ev.below (by rw [HL.out]; exact hlt)
          obtain ⟨U, Y, hU, hY, u0, u1, HU⟩ := box_nd wr t
          have HRY : Hid (Dw w0 Y C D P Q (.slice (some ⟨g, off, none⟩) m c) (digV P Q C D) b1 f1 ∧ Gr w Y P Q) := Lib.hid ⟨HR.out.1.under HU.out.1, HR.out.2.trans (gr_below HU.out.1)⟩
          have hok := HOK.out.2.2 t (List.mem_of_getElem? ht.out)
          obtain ⟨y, hy⟩ := Int.eq_ofNat_of_zero_le (show 0 ≤ t.b by have := hok.2.1; omega)
          have HYB : Hid (t.b = (y : Int)) := Lib.hid hy
          have HYG := Lib.hid (HREC.out (y : Int) (by have := hok.2.1; omega) (by have := hok.2.2; omega))
          rw [hy] at q1 u1 hY
          have HUB : Hid (U ≠ P ∧ U ≠ Q ∧ U < Y.heap.size) := Lib.hid ⟨by have := HR.out.1.ev.hiP; omega, by have := HR.out.1.ev.hiQ; omega, by have := HU.out.2; omega⟩
          clear hok hy
          by_cases ca : t.a = (p : Int)
          · have ca2 : (t.a == (p : Int)) = true := by simpa using ca
            have HC : Hid (Calls Try.prog 92 #[.int .i64 y, .pointer (some ⟨P, 0, none⟩), .pointer (some ⟨Q, 0, none⟩), .pointer (some ⟨C, 0, none⟩), .pointer (some ⟨D, 0, none⟩)] Y.drew fun e w' => e = .returned (.int .i64 (G y)) ∧ Hid (∃ b' f', (Dw w0 w' C D P Q (.slice (some ⟨g, off, none⟩) m c) (digV P Q C D) b' f' ∧ Gr w w' P Q) ∧ Gr Y w' P Q ∧ Digs l G p b f i b' f')) := Lib.hid (by
              refine (HIH.out t y b1 f1 Y.drew (List.mem_of_getElem? ht.out) ca HYB.out (HRY.out.1.under (Below.refl _ _).drew) (HS.out.pre (List.mem_of_getElem? ht.out) ca HYB.out)).mono ?_
              rintro e w' ⟨rfl, H⟩
              obtain ⟨b', f', k1, k2, k3⟩ := H.out
              have hgr := (gr_drew Y P Q).trans k2
              exact ⟨rfl, Lib.hid ⟨b', f', ⟨k1, HRY.out.2.trans hgr⟩, hgr, (HS.out.dug HNO.out (List.mem_of_getElem? ht.out) ca HYB.out k3).1⟩⟩)
            obtain ⟨v, hv⟩ : ∃ v, mxA (p : Int) G (l.take i) = v := ⟨_, rfl⟩
            obtain ⟨z, hz⟩ : ∃ z, G (y : Int) = z := ⟨_, rfl⟩
            have HZ := Lib.hid hz
            have z0 : 0 ≤ z ∧ z ≤ 64 := by rw [← hz]; exact HYG.out.2
            obtain ⟨z1, hz1⟩ : ∃ z1, z + 1 = z1 := ⟨_, rfl⟩
            have wz : IntKind.i64.wrap (z + 1) = z1 := by rw [hz1]; exact IntWalk.i64_in _ (by omega)
            have wz3 : IntKind.i64.wrap z1 = z1 := IntWalk.i64_in _ (by omega)
            have wz2 : wrap64 z1 = z1 := IntWalk.wrap64_in _ (by omega)
            obtain ⟨M, hM⟩ : ∃ M, max v z1 = M := ⟨_, rfl⟩
            have hM2 : (if v < z1 then z1 else v) = M := by rw [← hM]; split <;> omega
            have HMX : Hid (max (mxA (p : Int) G (l.take i)) (G (y : Int) + 1) = M) := Lib.hid (by rw [hv, hz, hz1, hM])
            have HV : Hid (f1 p = v) := Lib.hid (by rw [HS.out.now.2, hv])
            obtain ⟨y0, y1⟩ := HRY.out.1.de p HP65.out
            rw [HV.out] at y0
            have d0 := HRY.out.1.ev.atD
            have HST2 : Hid (∀ w' b2 f2, (Dw w0 w' C D P Q (.slice (some ⟨g, off, none⟩) m c) (digV P Q C D) b2 f2 ∧ Gr w w' P Q) → Digs l G p b f i b2 f2 → (Dw w0 (w'.setCell ⟨Q, p, none⟩ (.int .i64 M)) C D P Q (.slice (some ⟨g, off, none⟩) m c) (digV P Q C D) b2 (up f2 p M) ∧ Gr w (w'.setCell ⟨Q, p, none⟩ (.int .i64 M)) P Q) ∧ Digs l G p b f (i + 1) b2 (up f2 p M)) := Lib.hid fun w' b2 f2 h1 h2 => by
              refine ⟨⟨h1.1.setI p M, h1.2.trans (gr_setQ _ _ _ _ _)⟩, ?_⟩
              have := h2.step HNO.out ht.out ca HYB.out (HYG.out.2.1)
              rw [HMX.out] at this
              exact this
            rw [hz] at HC
            have HW : Hid (∀ w', Gr Y w' P Q → w'.cell? ⟨D, 0, none⟩ = some (digV P Q C D) ∧ w'.cell? ⟨U, 1, none⟩ = some (.int .i64 (y : Int))) := Lib.hid fun w' h => ⟨(h.cell 0 HRY.out.1.ev.hiD HRY.out.1.ev.neD.1 HRY.out.1.ev.neD.2).trans d0, (h.cell 1 HUB.out.2.2 HUB.out.1 HUB.out.2.1).trans u1⟩
            have HVV : Hid (∀ w' b2 f2, Dw w0 w' C D P Q (.slice (some ⟨g, off, none⟩) m c) (digV P Q C D) b2 f2 → Digs l G p b f i b2 f2 → w'.cell? ⟨Q, p, none⟩ = some (.int .i64 v) ∧ w'.frozen? ⟨Q, p, none⟩ = false) := Lib.hid fun w' b2 f2 h1 h2 => by
              obtain ⟨k0, k1⟩ := h1.de p HP65.out
              rw [h2.now.2, hv] at k0
              exact ⟨k0, k1⟩
            have D0 : Gr Y Y.drew P Q := gr_drew Y P Q
            clear ca hv hz z0 D0
            go_wp2_with fail
            clear hY hU q0 q1
            go_region_with (go_at_call 92; refine HC.out.mono ?_; rintro e w6 ⟨rfl, H6⟩; obtain ⟨b2, f2, K1, D1, K2⟩ : ∃ b2 f2, Hid (Dw w0 w6 C D P Q (.slice (some ⟨g, off, none⟩) m c) (digV P Q C D) b2 f2 ∧ Gr w w6 P Q) ∧ Hid (Gr Y w6 P Q) ∧ Hid (Digs l G p b f i b2 f2) := (by obtain ⟨b2, f2, K1, D1, K2⟩ := H6.out; exact ⟨b2, f2, Lib.hid K1, Lib.hid D1, Lib.hid K2⟩); obtain ⟨o0, o1⟩ := HVV.out w6 b2 f2 K1.out.1 K2.out)
            all_goals
              go_wp2_with fail
              go_roundw
              case rel => exact ⟨i + 1, b2, up f2 p M, by go_num, by omega, Lib.hid (HST2.out _ _ _ K1.out K2.out).1, Lib.hid (HST2.out _ _ _ K1.out K2.out).2⟩
              case measure => simp [RowKit.intOf]; omega
          · have ca2 : (t.a == (p : Int)) = false := by simpa using ca
            have HS2 := Lib.hid (HS.out.skip ht.out ca)
            clear ca
            go_wp2_with fail
            clear hY hU
            go_roundw
            case rel => exact ⟨i + 1, b1, f1, by go_num, by omega, HRY, HS2⟩
            case measure => simp [RowKit.intOf]; omega
        · obtain rfl : i = m := by omega
          have hEND := HS.out
          rw [← HL.out] at hEND
          obtain ⟨e1, e2⟩ := hEND.end HNO.out (HREC.out p HPB.out.1 HPB.out.2).1
          have HE1 := Lib.hid e1
          obtain ⟨x0, x1⟩ := HR.out.1.kn p HP65.out
          have y0 := ((HR.out.1.setB p true).de p HP65.out).1
          rw [e2] at y0
          obtain ⟨r, hr⟩ : ∃ r, G (p : Int) = r := ⟨_, rfl⟩
          have HRR := Lib.hid hr
          rw [hr] at y0
          have HF : Hid (∃ b' f', Dw w0 (wr.setCell ⟨P, p, none⟩ (.bool true)) C D P Q (.slice a i c) (digV P Q C D) b' f' ∧ Gr w (wr.setCell ⟨P, p, none⟩ (.bool true)) P Q ∧ Dug l G p b f b' f') := Lib.hid ⟨_, f1, HR.out.1.setB p true, HR.out.2.trans (gr_setP _ _ _ _ _), HE1.out⟩
          clear hEND e1 e2 hr
          go_wp2_with fail
          go_ret
          exact ⟨by rw [HRR.out]; rfl, HF⟩
end Go.Proofs.Ytohlkaoophbinaa.Graph.Im
namespace Go.Proofs.Ytohlkaoophbinaa.Graph.Im
open Go.RowKit Go.Lib

theorem info_seen : (Try.prog.info? 118).map (fun i => (i.zero, i.size)) = some (some (.agg (Array.replicate 65 (.bool false))), 65) := by kernel_rfl
end Go.Proofs.Ytohlkaoophbinaa.Graph.Im
