/- Accounts as pairs of a table: where one stands, what is put. -/
import Derived.Test.YteglahogimdnfaaPurMath
import Derived.Test.YteglahogimdnfaaTinMath
import Derived.Test.YteglahogimdnfaaTinA
namespace Go.Proofs.Yteglahogimdnfaa.Purse

abbrev kO (o : Int) : Tab.Key := ⟨o, 0, 0, 0⟩
def pr (a : Ac) : Tab.Pair := ⟨kO a.own, a.mon⟩
def prs (l : List Ac) : List Tab.Pair := l.map pr
theorem cmp_kO (a b : Int) : Tab.cmp (kO a) (kO b) = if a < b then -1 else if b < a then 1 else 0 := by
  show Tab.cmpFrom (kO a) (kO b) 0 4 = _
  by_cases h1 : a < b
  · rw [if_pos h1]
    exact Tab.cmpFrom_less _ _ 0 3 h1
  · by_cases h2 : b < a
    · rw [if_neg h1, if_pos h2]
      exact Tab.cmpFrom_more _ _ 0 3 h2
    · rw [if_neg h1, if_neg h2]
      have : a = b := by omega
      subst this
      exact Tab.cmp_zero.2 rfl
theorem kO_less {a b : Int} : Tab.cmp (kO a) (kO b) < 0 ↔ a < b := by
  rw [cmp_kO]
  split
  · simp_all
  · split <;> simp_all
theorem kO_same {a b : Int} : Tab.cmp (kO a) (kO b) = 0 ↔ a = b := by
  rw [Tab.cmp_zero]
  constructor
  · intro h
    injection h
  · rintro rfl
    rfl
theorem prs_rising {l : List Ac} (h : Rise l) : Tab.Rising (prs l) := by
  unfold prs Tab.Rising
  rw [List.pairwise_map]
  exact h.imp fun h1 => kO_less.2 h1
theorem prs_length (l : List Ac) : (prs l).length = l.length := by unfold prs; rw [List.length_map]
theorem has_prs : ∀ (l : List Ac) (o : Int), Tab.has (prs l) (kO o) = decide (pos l o < l.length)
  | [], o => rfl
  | a :: l, o => by
    have ih := has_prs l o
    have h1 : Tab.has (prs (a :: l)) (kO o) = (Tab.hits (kO o) (pr a) || Tab.has (prs l) (kO o)) := rfl
    have h2 : Tab.hits (kO o) (pr a) = decide (a.own = o) := by
      unfold Tab.hits
      exact decide_eq_decide.2 kO_same
    rw [h1, h2, ih]
    by_cases e : a.own = o
    · simp [pos, e]
    · simp [pos, e]
theorem place_prs {o : Int} : ∀ {l : List Ac}, Rise l → Tab.place (prs l) (kO o) = putK o l
  | [], _ => rfl
  | a :: l, h => by
    obtain ⟨h1, h2⟩ := List.pairwise_cons.1 h
    have ih := place_prs (o := o) h2
    have hb : Tab.below (kO o) (pr a) = decide (a.own < o) := by
      unfold Tab.below
      exact decide_eq_decide.2 kO_less
    have h3 : Tab.place (prs (a :: l)) (kO o) = (((pr a) :: prs l).filter (Tab.below (kO o))).length := rfl
    rw [h3, List.filter_cons, hb]
    unfold putK
    by_cases e : a.own < o
    · rw [if_pos (decide_eq_true e), if_pos e, List.length_cons]
      exact congrArg (· + 1) ih
    · rw [if_neg (by simpa using e), if_neg e, List.length_eq_zero_iff]
      refine List.filter_eq_nil_iff.2 fun p hp => ?_
      obtain ⟨x, hx, rfl⟩ := List.mem_map.1 hp
      have h4 := h1 x hx
      have h5 : Tab.below (kO o) (pr x) = decide (x.own < o) := by
        unfold Tab.below
        exact decide_eq_decide.2 kO_less
      rw [h5]
      simp
      omega
theorem putK_pos {l : List Ac} {o : Int} (h : Rise l) (hp : pos l o < l.length) : putK o l = pos l o := by
  obtain ⟨a, ha, he⟩ := pos_is hp
  obtain ⟨ha1, ha2⟩ := List.getElem?_eq_some_iff.1 ha
  refine putK_of o l _ (by omega) (fun j x hj hx => ?_) (fun x hx => ?_)
  · obtain ⟨hx1, hx2⟩ := List.getElem?_eq_some_iff.1 hx
    have := List.pairwise_iff_getElem.1 h j (pos l o) hx1 ha1 hj
    rw [hx2, ha2, he] at this
    exact this
  · rw [ha] at hx
    cases hx
    omega
theorem prs_nth {l : List Ac} {k : Nat} (hk : k < l.length) : (prs l)[k]? = some ⟨kO (ownAt l k), monAt l k⟩ := by
  unfold prs
  rw [List.getElem?_map, some_at hk]
  rfl
theorem value_prs {l : List Ac} {o : Int} (h : Rise l) : Tab.valueAt (prs l) (kO o) = monV l o := by
  unfold Tab.valueAt monV
  rw [has_prs]
  by_cases hp : pos l o < l.length
  · rw [if_pos (decide_eq_true hp), if_pos hp, place_prs h, putK_pos h hp]
    unfold Tab.nthP
    rw [List.getD_eq_getElem?_getD, prs_nth hp]
    rfl
  · rw [if_neg (by simpa using hp), if_neg hp]
theorem put_new {l : List Ac} {o : Int} (n : Int) (h : Rise l) (hp : ¬ pos l o < l.length) : Tab.put (prs l) (kO o) n = prs (put l ⟨o, n⟩) := by
  unfold Tab.put put
  rw [has_prs, if_neg (by simpa using hp), place_prs h]
  show (l.map pr).take _ ++ _ :: (l.map pr).drop _ = (l.take _ ++ ⟨o, n⟩ :: l.drop _).map pr
  rw [List.map_append, List.map_cons, List.map_take, List.map_drop]
  rfl
theorem ownAt_pos {l : List Ac} {o : Int} (hp : pos l o < l.length) : ownAt l (pos l o) = o := by
  obtain ⟨a, ha, he⟩ := pos_is hp
  rw [ownAt_of ha, he]
theorem put_old {l : List Ac} {o : Int} (n : Int) (h : Rise l) (hp : pos l o < l.length) : Tab.put (prs l) (kO o) n = prs (setM l (pos l o) n) := by
  unfold Tab.put setM
  rw [has_prs, if_pos (decide_eq_true hp), place_prs h, putK_pos h hp, ownAt_pos hp]
  show (l.map pr).take _ ++ _ :: (l.map pr).drop _ = (l.take _ ++ ⟨o, n⟩ :: l.drop _).map pr
  rw [List.map_append, List.map_cons, List.map_take, List.map_drop]
  rfl
/-! what all have -/
theorem tot_ld : ∀ {l out r : List Ac}, ld out l = some r → tot r = tot out + tot l ∧ ∀ a ∈ l, 0 ≤ a.mon ∧ a.mon ≤ mm
  | [], out, r, h => by
    simp [ld] at h
    subst h
    exact ⟨by simp [tot], fun a ha => by cases ha⟩
  | a :: l, out, r, h => by
    unfold ld at h
    by_cases e : AcOk out a
    · rw [if_pos e] at h
      obtain ⟨h1, h2⟩ := tot_ld h
      rw [tot_put] at h1
      refine ⟨by rw [h1]; simp only [tot]; omega, fun x hx => ?_⟩
      rcases List.mem_cons.1 hx with rfl | hx
      · exact e.2.1
      · exact h2 x hx
    · rw [if_neg e] at h
      cases h
theorem tot_prs (l : List Ac) (i : Nat) : ((prs l).take i).foldr (fun p s => p.v + s) 0 = tot (l.take i) := by
  unfold prs
  rw [← List.map_take]
  induction l.take i with
  | nil => rfl
  | cons a t ih =>
    show a.mon + _ = a.mon + _
    rw [ih]
end Go.Proofs.Yteglahogimdnfaa.Purse
