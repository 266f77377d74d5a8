/- Where a key stands, said without a program; keys in rows, cell by cell. -/
import Derived.Test.YtfebaiefoonncaaTbCmp
namespace Go.Proofs.Ytfebaiefoonncaa.Tb
open Go.RowKit Go.Lib

section
variable {V : Type}
theorem place_bound {l : List (Pair V)} {k : Key} {n : Nat} (hn : n ≤ l.length) (h1 : ∀ t p, t < n → l[t]? = some p → cmp p.k k < 0) (h2 : ∀ t p, n ≤ t → l[t]? = some p → 0 ≤ cmp p.k k) : place l k = n := by
  unfold place
  rw [← List.take_append_drop n l, List.filter_append, List.length_append]
  have e1 : (l.take n).filter (below k) = l.take n := by
    refine List.filter_eq_self.2 (fun p hp => ?_)
    obtain ⟨t, ht, rfl⟩ := List.getElem_of_mem hp
    rw [List.length_take] at ht
    unfold below
    refine decide_eq_true (h1 t _ (by omega) ?_)
    rw [List.getElem_take]
    exact List.getElem?_eq_getElem (by omega)
  have e2 : (l.drop n).filter (below k) = [] := by
    refine List.filter_eq_nil_iff.2 (fun p hp => ?_)
    obtain ⟨t, ht, rfl⟩ := List.getElem_of_mem hp
    rw [List.length_drop] at ht
    have := h2 (n + t) _ (by omega) (List.getElem?_eq_getElem (by omega))
    unfold below
    rw [List.getElem_drop]
    simp
    omega
  rw [e1, e2, List.length_take, List.length_nil]
  omega
theorem has_at {l : List (Pair V)} (hr : Rising l) (k : Key) : (has l k = true ↔ ∃ p, l[place l k]? = some p ∧ p.k = k) := by
  obtain ⟨A, B, hA, hB, hp, hc⟩ := rising_split k hr
  rw [hp]
  rcases hc with ⟨c1, c2⟩ | ⟨c1, v, c2⟩
  · rw [c1, c2]
    refine ⟨fun h => (by cases h), fun ⟨p, h1, h2⟩ => ?_⟩
    rw [List.getElem?_append_right (Nat.le_refl _), Nat.sub_self] at h1
    have h3 := hB p (List.mem_of_getElem? h1)
    rw [h2] at h3
    have := cmp_zero.2 (rfl : k = k)
    omega
  · rw [c1, c2]
    refine ⟨fun _ => ⟨⟨k, v⟩, ?_, rfl⟩, fun _ => rfl⟩
    rw [List.getElem?_append_right (Nat.le_refl _), Nat.sub_self]
    rfl
def up (l : List (Pair V)) (k : Key) (i : Nat) : Bool := match l[i]? with | some p => decide (0 ≤ cmp p.k k) | none => false
theorem up_some {l : List (Pair V)} {k : Key} {i : Nat} {p : Pair V} (h : l[i]? = some p) : up l k i = decide (0 ≤ cmp p.k k) := by unfold up; rw [h]
theorem up_mono {l : List (Pair V)} (hr : Rising l) (k : Key) (a b : Nat) (hab : a ≤ b) (hb : b < l.length) (h : up l k a = true) : up l k b = true := by
  rcases Nat.eq_or_lt_of_le hab with rfl | hlt
  · exact h
  · have ha : l[a]? = some l[a] := List.getElem?_eq_getElem (by omega)
    have hb' : l[b]? = some l[b] := List.getElem?_eq_getElem hb
    rw [up_some ha] at h
    rw [up_some hb']
    have h1 := of_decide_eq_true h
    have h2 : cmp l[a].k l[b].k < 0 := List.pairwise_iff_getElem.1 hr a b (by omega) hb hlt
    refine decide_eq_true ?_
    rcases Int.lt_or_le (cmp l[b].k k) 0 with h3 | h3
    · have := cmp_trans h2 h3
      omega
    · exact h3
theorem row_key {w : World} {B : Nat} {v : Value} {l : List Key} (h : OwnK w B v l) : ∃ a c, v = .slice a l.length c ∧ l.length ≤ c ∧ ∀ (i : Nat) (p : Key), l[i]? = some p → ∃ g, a = some ⟨g, 0, none⟩ ∧ g < w.heap.size ∧
    w.cell? ⟨g, i * 4, none⟩ = some (.int .i64 p.a) ∧ w.cell? ⟨g, i * 4 + 1, none⟩ = some (.int .i64 p.b) ∧ w.cell? ⟨g, i * 4 + 2, none⟩ = some (.int .i64 p.c) ∧ w.cell? ⟨g, i * 4 + 3, none⟩ = some (.int .i64 p.d) := by
  obtain ⟨a, c, hv, hc, _, _, hat⟩ := rowK h
  refine ⟨a, c, hv, hc, fun i p hi => ?_⟩
  obtain ⟨g, rfl, hg, c0⟩ := hat _ _ (kcells_at l i p hi 0 _ rfl)
  have hh : ∀ j u, (keyCells p)[j]? = some u → w.cell? ⟨g, i * 4 + j, none⟩ = some u := fun j u hj => by
    obtain ⟨g2, e, _, c1⟩ := hat _ _ (kcells_at l i p hi j u hj)
    cases e
    exact c1
  exact ⟨g, rfl, hg, c0, hh 1 _ rfl, hh 2 _ rfl, hh 3 _ rfl⟩
theorem len_keys (l : List (Pair V)) : (keys l).length = l.length := by unfold keys; rw [List.length_map]
theorem key_of {l : List (Pair V)} {i : Nat} {p : Pair V} (h : l[i]? = some p) : (keys l)[i]? = some p.k := by unfold keys; rw [List.getElem?_map, h]; rfl
theorem keys_put {l : List (Pair V)} (hr : Rising l) (k : Key) (x : V) : keys (put l k x) = if has l k then keys l else (keys l).take (place l k) ++ k :: (keys l).drop (place l k) := by
  cases hh : has l k with
  | false =>
    unfold put keys
    rw [hh, if_neg (by simp), if_neg (by simp), List.map_append, List.map_cons, List.map_take, List.map_drop]
  | true =>
    obtain ⟨p, hp, hpk⟩ := (has_at hr k).1 hh
    have hlt := (List.getElem?_eq_some_iff.1 hp).1
    unfold put
    rw [hh, if_pos rfl, if_pos rfl]
    unfold keys
    rw [List.map_append, List.map_cons, List.map_take, List.map_drop]
    have h1 : (l.map Pair.k)[place l k]? = some k := by rw [List.getElem?_map, hp, ← hpk]; rfl
    have h2 := List.getElem?_eq_some_iff.1 h1
    have h3 := List.drop_eq_getElem_cons h2.1
    rw [h2.2] at h3
    rw [← h3, List.take_append_drop]
end
end Go.Proofs.Ytfebaiefoonncaa.Tb
