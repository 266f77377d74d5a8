/- Pairs of keys and whatever values, rising, and what is put and deleted, said without a program. -/
import Derived.WalkKit
import Derived.Test.YtfebaiefoonncaaCommon
namespace Go.Proofs.Ytfebaiefoonncaa.Tb

structure Key where
  a : Int
  b : Int
  c : Int
  d : Int
structure Pair (V : Type) where
  k : Key
  v : V
section
variable {V : Type}
def Key.at (k : Key) : Nat → Int
  | 0 => k.a
  | 1 => k.b
  | 2 => k.c
  | _ => k.d
def zeroKey : Key := ⟨0, 0, 0, 0⟩
/-- From the j-th number on, n of them. -/
def cmpFrom (x y : Key) : Nat → Nat → Int
  | _, 0 => 0
  | j, n + 1 => if x.at j < y.at j then -1 else if y.at j < x.at j then 1 else cmpFrom x y (j + 1) n
def cmp (x y : Key) : Int := cmpFrom x y 0 4
def below (k : Key) (p : Pair V) : Bool := decide (cmp p.k k < 0)
def hits (k : Key) (p : Pair V) : Bool := decide (cmp p.k k = 0)
def place (l : List (Pair V)) (k : Key) : Nat := (l.filter (below k)).length
def has (l : List (Pair V)) (k : Key) : Bool := l.any (hits k)
def put (l : List (Pair V)) (k : Key) (v : V) : List (Pair V) := l.take (place l k) ++ ⟨k, v⟩ :: (if has l k then l.drop (place l k + 1) else l.drop (place l k))
def del (l : List (Pair V)) (k : Key) : List (Pair V) := if has l k then l.take (place l k) ++ l.drop (place l k + 1) else l
def within (a b : Key) (p : Pair V) : Bool := decide (0 ≤ cmp p.k a) && decide (cmp p.k b < 0)
def ranged (l : List (Pair V)) (a b : Key) (most : Int) : List (Pair V) := (l.filter (within a b)).take most.toNat
def keys (l : List (Pair V)) : List Key := l.map Pair.k
theorem key_eq {x y : Key} (h0 : x.at 0 = y.at 0) (h1 : x.at 1 = y.at 1) (h2 : x.at 2 = y.at 2) (h3 : x.at 3 = y.at 3) : x = y := by
  obtain ⟨a, b, c, d⟩ := x
  obtain ⟨a', b', c', d'⟩ := y
  simp only [Key.at] at h0 h1 h2 h3
  rw [h0, h1, h2, h3]
theorem cmpFrom_step (x y : Key) (j n : Nat) (h : x.at j = y.at j) : cmpFrom x y j (n + 1) = cmpFrom x y (j + 1) n := by
  show (if x.at j < y.at j then -1 else if y.at j < x.at j then 1 else cmpFrom x y (j + 1) n) = _
  rw [if_neg (by omega), if_neg (by omega)]
theorem cmpFrom_less (x y : Key) (j n : Nat) (h : x.at j < y.at j) : cmpFrom x y j (n + 1) = -1 := by
  show (if x.at j < y.at j then -1 else if y.at j < x.at j then 1 else cmpFrom x y (j + 1) n) = _
  rw [if_pos h]
theorem cmpFrom_more (x y : Key) (j n : Nat) (h : y.at j < x.at j) : cmpFrom x y j (n + 1) = 1 := by
  show (if x.at j < y.at j then -1 else if y.at j < x.at j then 1 else cmpFrom x y (j + 1) n) = _
  rw [if_neg (by omega), if_pos h]
/-- Either the numbers are the same, or the first that differ decide. -/
theorem cmpFrom_cases (x y : Key) : ∀ (n j : Nat), (cmpFrom x y j n = 0 ∧ ∀ i, j ≤ i → i < j + n → x.at i = y.at i) ∨ ∃ i, j ≤ i ∧ i < j + n ∧ (∀ m, j ≤ m → m < i → x.at m = y.at m) ∧ ((x.at i < y.at i ∧ cmpFrom x y j n = -1) ∨ (y.at i < x.at i ∧ cmpFrom x y j n = 1))
  | 0, j => .inl ⟨rfl, fun i h1 h2 => by omega⟩
  | n + 1, j => by
    by_cases h1 : x.at j < y.at j
    · exact .inr ⟨j, by omega, by omega, fun m hm hm' => by omega, .inl ⟨h1, cmpFrom_less x y j n h1⟩⟩
    · by_cases h2 : y.at j < x.at j
      · exact .inr ⟨j, by omega, by omega, fun m hm hm' => by omega, .inr ⟨h2, cmpFrom_more x y j n h2⟩⟩
      · have he : x.at j = y.at j := by omega
        rw [cmpFrom_step x y j n he]
        rcases cmpFrom_cases x y n (j + 1) with ⟨h3, h4⟩ | ⟨i, h3, h4, h5, h6⟩
        · refine .inl ⟨h3, fun i h5 h6 => ?_⟩
          rcases Nat.lt_or_ge j i with h7 | h7
          · exact h4 i (by omega) (by omega)
          · rw [show i = j by omega]
            exact he
        · refine .inr ⟨i, by omega, by omega, fun m hm hm' => ?_, h6⟩
          rcases Nat.lt_or_ge j m with h7 | h7
          · exact h5 m (by omega) hm'
          · rw [show m = j by omega]
            exact he
theorem cmp_zero {x y : Key} : cmp x y = 0 ↔ x = y := by
  constructor
  · intro h
    rcases cmpFrom_cases x y 4 0 with ⟨_, h1⟩ | ⟨i, _, _, _, ⟨_, h1⟩ | ⟨_, h1⟩⟩
    · exact key_eq (h1 0 (by omega) (by omega)) (h1 1 (by omega) (by omega)) (h1 2 (by omega) (by omega)) (h1 3 (by omega) (by omega))
    · have h2 : cmpFrom x y 0 4 = 0 := h
      omega
    · have h2 : cmpFrom x y 0 4 = 0 := h
      omega
  · rintro rfl
    rcases cmpFrom_cases x x 4 0 with ⟨h, _⟩ | ⟨i, _, _, _, ⟨h1, _⟩ | ⟨h1, _⟩⟩
    · exact h
    · omega
    · omega
theorem cmp_in (x y : Key) : cmp x y = -1 ∨ cmp x y = 0 ∨ cmp x y = 1 := by
  rcases cmpFrom_cases x y 4 0 with ⟨h, _⟩ | ⟨i, _, _, _, ⟨_, h⟩ | ⟨_, h⟩⟩
  · exact .inr (.inl h)
  · exact .inl h
  · exact .inr (.inr h)
/-- Below: at the first number in which they differ. -/
theorem cmp_less {x y : Key} : cmp x y < 0 ↔ ∃ i, i < 4 ∧ (∀ m, m < i → x.at m = y.at m) ∧ x.at i < y.at i := by
  constructor
  · intro h
    have h0 : cmpFrom x y 0 4 < 0 := h
    rcases cmpFrom_cases x y 4 0 with ⟨h1, _⟩ | ⟨i, _, h2, h3, ⟨h4, _⟩ | ⟨_, h4⟩⟩
    · omega
    · exact ⟨i, by omega, fun m hm => h3 m (by omega) hm, h4⟩
    · omega
  · rintro ⟨i, h1, h2, h3⟩
    show cmpFrom x y 0 4 < 0
    rcases cmpFrom_cases x y 4 0 with ⟨_, h4⟩ | ⟨j, _, h5, h6, ⟨h7, h8⟩ | ⟨h7, h8⟩⟩
    · have := h4 i (by omega) (by omega)
      omega
    · omega
    · rcases Nat.lt_trichotomy i j with h9 | h9 | h9
      · have := h6 i (by omega) h9
        omega
      · subst h9
        omega
      · have := h2 j h9
        omega
theorem cmp_swap (x y : Key) : cmp y x = -cmp x y := by
  rcases cmp_in x y with h | h | h
  · have h1 : cmp x y < 0 := by omega
    obtain ⟨i, h2, h3, h4⟩ := cmp_less.1 h1
    have h5 : cmp y x = 1 := by
      show cmpFrom y x 0 4 = 1
      rcases cmpFrom_cases y x 4 0 with ⟨_, h6⟩ | ⟨j, _, h6, h7, ⟨h8, h9⟩ | ⟨h8, h9⟩⟩
      · have := h6 i (by omega) (by omega)
        omega
      · rcases Nat.lt_trichotomy i j with h10 | h10 | h10
        · have := h7 i (by omega) h10
          omega
        · subst h10
          omega
        · have := h3 j h10
          omega
      · exact h9
    omega
  · have := cmp_zero.1 h
    subst this
    omega
  · have h5 : cmp y x = -1 := by
      show cmpFrom y x 0 4 = -1
      rcases cmpFrom_cases x y 4 0 with ⟨h6, _⟩ | ⟨j, _, h6, h7, ⟨h8, h9⟩ | ⟨h8, h9⟩⟩
      · have h10 : cmpFrom x y 0 4 = 1 := h
        omega
      · have h10 : cmpFrom x y 0 4 = 1 := h
        omega
      · have h10 : cmp y x < 0 := cmp_less.2 ⟨j, by omega, fun m hm => (h7 m (by omega) hm).symm, h8⟩
        have h11 : cmpFrom y x 0 4 < 0 := h10
        rcases cmpFrom_cases y x 4 0 with ⟨h12, _⟩ | ⟨_, _, _, _, ⟨_, h12⟩ | ⟨_, h12⟩⟩
        · omega
        · exact h12
        · omega
    omega
theorem cmp_trans {x y z : Key} (h : cmp x y < 0) (k : cmp y z < 0) : cmp x z < 0 := by
  obtain ⟨i, h1, h2, h3⟩ := cmp_less.1 h
  obtain ⟨j, k1, k2, k3⟩ := cmp_less.1 k
  refine cmp_less.2 ?_
  rcases Nat.lt_trichotomy i j with h4 | h4 | h4
  · exact ⟨i, h1, fun m hm => (h2 m hm).trans (k2 m (by omega)), by have := k2 i h4; omega⟩
  · subst h4
    exact ⟨i, h1, fun m hm => (h2 m hm).trans (k2 m hm), by omega⟩
  · exact ⟨j, k1, fun m hm => (h2 m (by omega)).trans (k2 m hm), by have := h2 j h4; omega⟩
def Rising (l : List (Pair V)) : Prop := l.Pairwise fun p q => cmp p.k q.k < 0
theorem rising_nil : Rising ([] : List (Pair V)) := List.Pairwise.nil
/-- Where a key is, in pairs that rise: what is below it, itself perhaps, what is above it. -/
theorem rising_split (k : Key) : ∀ {l : List (Pair V)}, Rising l → ∃ A B, (∀ p ∈ A, cmp p.k k < 0) ∧ (∀ p ∈ B, cmp k p.k < 0) ∧ place l k = A.length ∧ ((has l k = false ∧ l = A ++ B) ∨ (has l k = true ∧ ∃ v, l = A ++ ⟨k, v⟩ :: B))
  | [], _ => ⟨[], [], by simp, by simp, rfl, .inl ⟨rfl, rfl⟩⟩
  | p :: l, h => by
    obtain ⟨hp, hl⟩ := List.pairwise_cons.1 h
    rcases cmp_in p.k k with h1 | h1 | h1
    · obtain ⟨A, B, hA, hB, hpl, hc⟩ := rising_split k hl
      have hb : below k p = true := by unfold below; exact decide_eq_true (by omega)
      have hh : hits k p = false := by unfold hits; exact decide_eq_false (by omega)
      refine ⟨p :: A, B, fun q hq => ?_, hB, ?_, ?_⟩
      · rcases List.mem_cons.1 hq with rfl | hq
        · omega
        · exact hA q hq
      · unfold place at hpl ⊢
        rw [List.filter_cons, if_pos hb, List.length_cons, List.length_cons, hpl]
      · have hhas : has (p :: l) k = has l k := by unfold has; rw [List.any_cons, hh, Bool.false_or]
        rw [hhas]
        rcases hc with ⟨c1, c2⟩ | ⟨c1, v, c2⟩
        · exact .inl ⟨c1, by rw [c2]; rfl⟩
        · exact .inr ⟨c1, v, by rw [c2]; rfl⟩
    · have hk := cmp_zero.1 h1
      subst hk
      have hb : below p.k p = false := by unfold below; exact decide_eq_false (by omega)
      have hh : hits p.k p = true := by unfold hits; exact decide_eq_true h1
      refine ⟨[], l, by simp, hp, ?_, .inr ⟨?_, p.v, rfl⟩⟩
      · unfold place
        rw [List.filter_cons, if_neg (by rw [hb]; simp), List.length_eq_zero_iff.2]
        · rfl
        · refine List.filter_eq_nil_iff.2 (fun q hq => ?_)
          have := hp q hq
          have h2 := cmp_swap p.k q.k
          unfold below
          simp
          omega
      · unfold has
        rw [List.any_cons, hh, Bool.true_or]
    · have hb : below k p = false := by unfold below; exact decide_eq_false (by omega)
      have hh : hits k p = false := by unfold hits; exact decide_eq_false (by omega)
      have habove : ∀ q ∈ p :: l, cmp k q.k < 0 := fun q hq => by
        have h0 : cmp k p.k < 0 := by have := cmp_swap p.k k; omega
        rcases List.mem_cons.1 hq with rfl | hq
        · exact h0
        · exact cmp_trans h0 (hp q hq)
      refine ⟨[], p :: l, by simp, habove, ?_, .inl ⟨?_, rfl⟩⟩
      · unfold place
        rw [List.length_eq_zero_iff.2]
        · rfl
        · refine List.filter_eq_nil_iff.2 (fun q hq => ?_)
          have := habove q hq
          have h2 := cmp_swap k q.k
          unfold below
          simp
          omega
      · unfold has
        rw [List.any_eq_false]
        intro q hq
        have := habove q hq
        have h2 := cmp_swap k q.k
        unfold hits
        simp
        omega
theorem place_le (l : List (Pair V)) (k : Key) : place l k ≤ l.length := List.length_filter_le _ _
theorem rising_put {l : List (Pair V)} (h : Rising l) (k : Key) (v : V) : Rising (put l k v) := by
  obtain ⟨A, B, hA, hB, hp, hc⟩ := rising_split k h
  have key : ∀ {A' B' : List (Pair V)}, Rising (A' ++ B') → (∀ p ∈ A', cmp p.k k < 0) → (∀ p ∈ B', cmp k p.k < 0) → Rising (A' ++ ⟨k, v⟩ :: B') := fun {A' B'} hr h1 h2 => by
    obtain ⟨r1, r2, r3⟩ := List.pairwise_append.1 hr
    refine List.pairwise_append.2 ⟨r1, List.pairwise_cons.2 ⟨h2, r2⟩, fun p hp' q hq => ?_⟩
    rcases List.mem_cons.1 hq with rfl | hq
    · exact h1 p hp'
    · exact r3 p hp' q hq
  unfold put
  rw [hp]
  rcases hc with ⟨c1, c2⟩ | ⟨c1, u, c2⟩
  · rw [c1, if_neg (by simp), c2, List.take_left, List.drop_left]
    exact key (c2 ▸ h) hA hB
  · rw [c1, if_pos rfl, c2, List.take_left, List.drop_append]
    have h1 : A.drop (A.length + 1) = [] := List.drop_eq_nil_of_le (by omega)
    have h2 : A.length + 1 - A.length = 1 := by omega
    rw [h1, h2, List.nil_append, List.drop_one, List.tail_cons]
    refine key ?_ hA hB
    have hl : Rising (A ++ ⟨k, u⟩ :: B) := c2 ▸ h
    exact hl.sublist ((List.Sublist.refl A).append (List.sublist_cons_self _ _))
theorem rising_del {l : List (Pair V)} (h : Rising l) (k : Key) : Rising (del l k) := by
  unfold del
  split
  · rw [← List.eraseIdx_eq_take_drop_succ]
    exact h.sublist (List.eraseIdx_sublist _ _)
  · exact h
end
end Go.Proofs.Ytfebaiefoonncaa.Tb
