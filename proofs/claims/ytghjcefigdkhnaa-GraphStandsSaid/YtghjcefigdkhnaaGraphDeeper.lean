/- Whoever needs stands deeper; said without a program. -/
import Derived.Test.YtghjcefigdkhnaaGraphRound
namespace Go.Proofs.Ytghjcefigdkhnaa.Graph

/-- How deep a node stands. -/
def dp (D : List Int) (x : Int) : Int := D.getD (x - 1).toNat 0
theorem dp_set {D : List Int} {x y M : Int} (hx : 1 ≤ x) (hy : 1 ≤ y) (h : y ≠ x) : dp (D.set (x - 1).toNat M) y = dp D y := by
  unfold dp
  simp only [List.getD_eq_getElem?_getD]
  rw [List.getElem?_set_ne (by omega)]
theorem dp_here {D : List Int} {x M : Int} (hl : (x - 1).toNat < D.length) : dp (D.set (x - 1).toNat M) x = M := by
  unfold dp
  simp only [List.getD_eq_getElem?_getD]
  rw [List.getElem?_set_self hl]
  rfl
theorem stepD_len (x : Int) (D : List Int) (t : Nd) : (stepD x D t).length = D.length := by
  unfold stepD
  split <;> simp
theorem stepD_other {x y : Int} {D : List Int} {t : Nd} (hx : 1 ≤ x) (hy : 1 ≤ y) (h : y ≠ x) : dp (stepD x D t) y = dp D y := by
  unfold stepD
  split
  · exact dp_set hx hy h
  · rfl
theorem stepD_up {x : Int} {D : List Int} {t : Nd} (hl : (x - 1).toNat < D.length) : dp D x ≤ dp (stepD x D t) x ∧ (t.a = x → dp D t.b + 1 ≤ dp (stepD x D t) x) := by
  unfold stepD
  split
  · rw [dp_here hl]
    exact ⟨Int.le_max_left _ _, fun _ => Int.le_max_right _ _⟩
  · rename_i h
    exact ⟨Int.le_refl _, fun e => absurd e h⟩
theorem rowD_len (x : Int) : ∀ (l : List Nd) (D : List Int), (rowD x l D).length = D.length
  | [], _ => rfl
  | t :: l, D => by
    show (rowD x l (stepD x D t)).length = _
    rw [rowD_len x l, stepD_len]
theorem rowD_other {x y : Int} (hx : 1 ≤ x) (hy : 1 ≤ y) (h : y ≠ x) : ∀ (l : List Nd) (D : List Int), dp (rowD x l D) y = dp D y
  | [], _ => rfl
  | t :: l, D => by
    show dp (rowD x l (stepD x D t)) y = _
    rw [rowD_other hx hy h l, stepD_other hx hy h]
theorem rowD_up {x : Int} (hx : 1 ≤ x) : ∀ (l : List Nd) (D : List Int), (x - 1).toNat < D.length → dp D x ≤ dp (rowD x l D) x ∧ ∀ t ∈ l, t.a = x → t.b ≠ x → 1 ≤ t.b → dp D t.b + 1 ≤ dp (rowD x l D) x
  | [], _, _ => ⟨Int.le_refl _, fun t h => by simp at h⟩
  | u :: l, D, hl => by
    obtain ⟨h1, h2⟩ := stepD_up (t := u) hl
    obtain ⟨r1, r2⟩ := rowD_up hx l (stepD x D u) (by rw [stepD_len]; exact hl)
    refine ⟨Int.le_trans h1 r1, fun t ht e hb hb1 => ?_⟩
    rcases List.mem_cons.1 ht with rfl | ht
    · exact Int.le_trans (h2 e) r1
    · have := r2 t ht e hb hb1
      rw [stepD_other hx hb1 hb] at this
      exact this
theorem deepD_len (l : List Nd) : ∀ (o D : List Int), (deepD l o D).length = D.length
  | [], _ => rfl
  | x :: o, D => by
    show (deepD l o (rowD x l D)).length = _
    rw [deepD_len l o, rowD_len]
theorem deepD_append (l : List Nd) : ∀ (o q D : List Int), deepD l (o ++ q) D = deepD l q (deepD l o D)
  | [], _, _ => rfl
  | x :: o, q, D => deepD_append l o q (rowD x l D)
theorem deepD_other {l : List Nd} {y : Int} (hy : 1 ≤ y) : ∀ (o D : List Int), (∀ x ∈ o, 1 ≤ x) → y ∉ o → dp (deepD l o D) y = dp D y
  | [], _, _, _ => rfl
  | x :: o, D, hp, hn => by
    show dp (deepD l o (rowD x l D)) y = _
    rw [deepD_other hy o _ (fun z hz => hp z (List.mem_cons_of_mem _ hz)) (fun h => hn (List.mem_cons_of_mem _ h)), rowD_other (hp x (by simp)) hy (fun e => hn (by rw [e]; simp))]
/-- Whoever needs stands deeper. -/
theorem deeper {n : Int} {l : List Nd} (hm : May n l) (he : ordE n l = 0) {t : Nd} (ht : t ∈ l) : dp (degV n l) t.b < dp (degV n l) t.a := by
  obtain ⟨_, hs, hl⟩ := ord_zero he
  have ha := (hm.2.2 t ht).1
  have hb := (hm.2.2 t ht).2
  obtain ⟨i, hi, e⟩ := List.mem_iff_getElem.1 (stands_all hs hl ha.1 ha.2)
  have h1 := hs.behind i t.a (by rw [List.getElem?_eq_getElem hi, e]) t ht rfl
  have hsplit : ordV n l = (ordV n l).take i ++ t.a :: (ordV n l).drop (i + 1) := by
    conv => lhs; rw [← List.take_append_drop i (ordV n l), List.drop_eq_getElem_cons hi, e]
  have hnd := hs.nodup
  rw [hsplit, List.nodup_append, List.nodup_cons] at hnd
  obtain ⟨_, ⟨n1, _⟩, n3⟩ := hnd
  have hne : t.b ≠ t.a := fun e2 => n3 t.b h1 t.a (by simp) e2
  have hnb : t.b ∉ (ordV n l).drop (i + 1) := fun h => n3 t.b h1 t.b (List.mem_cons_of_mem _ h) rfl
  have hpos : ∀ x ∈ (ordV n l).drop (i + 1), 1 ≤ x := fun x hx => (hs.node x (List.mem_of_mem_drop hx)).1
  have hd : degV n l = deepD l (ordV n l) (List.replicate n.toNat 0) := by unfold degV; rw [if_pos he]
  rw [hd, hsplit, deepD_append]
  generalize hD : deepD l ((ordV n l).take i) (List.replicate n.toNat 0) = D
  have hDl : D.length = n.toNat := by rw [← hD, deepD_len]; simp
  show dp (deepD l ((ordV n l).drop (i + 1)) (rowD t.a l D)) t.b < dp (deepD l ((ordV n l).drop (i + 1)) (rowD t.a l D)) t.a
  rw [deepD_other hb.1 _ _ hpos hnb, deepD_other ha.1 _ _ hpos n1, rowD_other ha.1 hb.1 hne]
  have := (rowD_up ha.1 l D (by omega)).2 t ht rfl hne hb.1
  omega
theorem degV_len {n : Int} {l : List Nd} (he : ordE n l = 0) : (degV n l).length = n.toNat := by
  unfold degV
  rw [if_pos he, deepD_len]
  simp
end Go.Proofs.Ytghjcefigdkhnaa.Graph
