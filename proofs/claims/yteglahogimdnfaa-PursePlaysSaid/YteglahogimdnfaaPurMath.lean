/- Accounts: where one stands; put in, set; opened, given, taken, moved; said without a program. -/
import Derived.WalkKit
import Derived.Test.YteglahogimdnfaaCommon
namespace Go.Proofs.Yteglahogimdnfaa.Purse

structure Ac where
  own : Int
  mon : Int
structure Pay where
  src : Int
  dst : Int
  num : Int
def mt : Int := 1099511627776
def mm : Int := 1152921504606846976
/-- How much all have. -/
def tot : List Ac → Int
  | [] => 0
  | a :: l => a.mon + tot l
/-- Where an account stands; behind the end, if nowhere. -/
def pos : List Ac → Int → Nat
  | [], _ => 0
  | a :: l, o => if a.own = o then 0 else pos l o + 1
/-- How much the one at a place has. -/
def monAt (l : List Ac) (k : Nat) : Int := ((l[k]?).map Ac.mon).getD 0
def ownAt (l : List Ac) (k : Nat) : Int := ((l[k]?).map Ac.own).getD 0
def putK (o : Int) : List Ac → Nat
  | [] => 0
  | a :: l => if a.own < o then putK o l + 1 else 0
/-- Accounts with one more. -/
def put (l : List Ac) (a : Ac) : List Ac := l.take (putK a.own l) ++ a :: l.drop (putK a.own l)
/-- Accounts of which the one at a place has so much. -/
def setM (l : List Ac) (k : Nat) (n : Int) : List Ac := l.take k ++ ⟨ownAt l k, n⟩ :: l.drop (k + 1)
def openE (l : List Ac) (o : Int) : Int := if o < 0 ∨ mt < o then 1 else if pos l o < l.length then 9 else 0
def openL (l : List Ac) (o : Int) : List Ac := if openE l o = 0 then put l ⟨o, 0⟩ else l
def monE (l : List Ac) (o : Int) : Int := if pos l o < l.length then 0 else 3
def monV (l : List Ac) (o : Int) : Int := if pos l o < l.length then monAt l (pos l o) else 0
def giveE (l : List Ac) (o n : Int) : Int := if pos l o < l.length then (if n < 0 then 1 else if mm - tot l < n then 5 else 0) else 3
def giveL (l : List Ac) (o n : Int) : List Ac := if giveE l o n = 0 then setM l (pos l o) (monAt l (pos l o) + n) else l
def takeE (l : List Ac) (o n : Int) : Int := if pos l o < l.length then (if n < 0 then 1 else if monAt l (pos l o) < n then 6 else 0) else 3
def takeL (l : List Ac) (o n : Int) : List Ac := if takeE l o n = 0 then setM l (pos l o) (monAt l (pos l o) - n) else l
def moveE (l : List Ac) (f t n : Int) : Int := if pos l f < l.length ∧ pos l t < l.length then takeE l f n else 3
def moveL (l : List Ac) (f t n : Int) : List Ac := if moveE l f t n = 0 then setM (takeL l f n) (pos (takeL l f n) t) (monAt (takeL l f n) (pos (takeL l f n) t) + n) else l
/-- Payments, one behind the other, as long as none is refused. -/
def goM : List Ac → List Pay → Nat → List Ac × Nat × Int
  | l, [], i => (l, i, 0)
  | l, p :: ps, i => if moveE l p.src p.dst p.num = 0 then goM (moveL l p.src p.dst p.num) ps (i + 1) else (l, i, moveE l p.src p.dst p.num)
def movesN (l : List Ac) (ps : List Pay) : Nat := (goM l ps 0).2.1
def movesE (l : List Ac) (ps : List Pay) : Int := (goM l ps 0).2.2
def movesL (l : List Ac) (ps : List Pay) : List Ac := if movesE l ps = 0 then (goM l ps 0).1 else l
/-- An account that may be, and is none of these. -/
def AcOk (out : List Ac) (a : Ac) : Prop := (0 ≤ a.own ∧ a.own ≤ mt) ∧ (0 ≤ a.mon ∧ a.mon ≤ mm) ∧ ¬ pos out a.own < out.length
instance (out : List Ac) (a : Ac) : Decidable (AcOk out a) := by unfold AcOk; infer_instance
def ld : List Ac → List Ac → Option (List Ac)
  | out, [] => some out
  | out, a :: l => if AcOk out a then ld (put out a) l else none
def loadE (l : List Ac) : Int := match ld [] l with
  | none => 1
  | some out => if mm < tot out then 5 else 0
def loadL (l : List Ac) : List Ac := match ld [] l with
  | none => []
  | some out => if mm < tot out then [] else out
/-! where one stands -/
theorem pos_le : ∀ (l : List Ac) (o : Int), pos l o ≤ l.length
  | [], _ => Nat.le_refl _
  | a :: l, o => by
    have := pos_le l o
    unfold pos
    split
    · simp
    · simp; omega
theorem pos_is : ∀ {l : List Ac} {o : Int}, pos l o < l.length → ∃ a, l[pos l o]? = some a ∧ a.own = o
  | [], _, h => by simp [pos] at h
  | a :: l, o, h => by
    unfold pos at h ⊢
    by_cases e : a.own = o
    · rw [if_pos e]
      exact ⟨a, rfl, e⟩
    · rw [if_neg e] at h ⊢
      obtain ⟨b, hb, h2⟩ := pos_is (l := l) (o := o) (by simpa using h)
      exact ⟨b, by simpa using hb, h2⟩
theorem pos_of : ∀ {l : List Ac} {o : Int} {i : Nat} {a : Ac}, (∀ j x, j < i → l[j]? = some x → x.own ≠ o) → l[i]? = some a → a.own = o → pos l o = i
  | [], _, _, _, _, h, _ => by simp at h
  | x :: l, o, 0, a, _, h, e => by
    have : x = a := by simpa using h
    unfold pos
    rw [if_pos (by rw [this]; exact e)]
  | x :: l, o, i + 1, a, hn, h, e => by
    have h1 := hn 0 x (by omega) rfl
    unfold pos
    rw [if_neg h1, pos_of (i := i) (fun j y hj hy => hn (j + 1) y (by omega) (by simpa using hy)) (by simpa using h) e]
theorem pos_none : ∀ {l : List Ac} {o : Int}, (∀ x ∈ l, x.own ≠ o) → pos l o = l.length
  | [], _, _ => rfl
  | x :: l, o, h => by
    unfold pos
    rw [if_neg (h x (by simp)), pos_none fun y hy => h y (by simp [hy])]
    rfl
theorem pos_not {l : List Ac} {o : Int} (h : ¬ pos l o < l.length) : ∀ x ∈ l, x.own ≠ o := by
  induction l with
  | nil => intro x hx; cases hx
  | cons a l ih =>
    unfold pos at h
    by_cases e : a.own = o
    · rw [if_pos e] at h
      simp at h
    · rw [if_neg e] at h
      intro x hx
      rcases List.mem_cons.1 hx with rfl | hx
      · exact e
      · exact ih (by simpa using h) x hx
theorem pos_congr : ∀ {l k : List Ac} {o : Int}, l.map Ac.own = k.map Ac.own → pos l o = pos k o
  | [], [], _, _ => rfl
  | [], _ :: _, _, h => by simp at h
  | _ :: _, [], _, h => by simp at h
  | a :: l, b :: k, o, h => by
    simp only [List.map_cons, List.cons.injEq] at h
    unfold pos
    rw [h.1, pos_congr h.2]
theorem monAt_of {l : List Ac} {k : Nat} {a : Ac} (h : l[k]? = some a) : monAt l k = a.mon := by unfold monAt; rw [h]; rfl
theorem ownAt_of {l : List Ac} {k : Nat} {a : Ac} (h : l[k]? = some a) : ownAt l k = a.own := by unfold ownAt; rw [h]; rfl
theorem some_at {l : List Ac} {k : Nat} (h : k < l.length) : l[k]? = some ⟨ownAt l k, monAt l k⟩ := by
  have h1 := List.getElem?_eq_getElem h
  rw [ownAt_of h1, monAt_of h1]
  exact h1
/-! put in, set -/
theorem putK_le (o : Int) : ∀ l : List Ac, putK o l ≤ l.length
  | [] => Nat.le_refl _
  | x :: l => by
    have := putK_le o l
    unfold putK
    split
    · simp; omega
    · simp
theorem putK_of (o : Int) : ∀ (l : List Ac) (i : Nat), i ≤ l.length → (∀ j x, j < i → l[j]? = some x → x.own < o) → (∀ x, l[i]? = some x → ¬ x.own < o) → putK o l = i
  | [], i, h, _, _ => by simp at h; simp [putK, h]
  | x :: l, 0, _, _, h2 => by
    have h3 := h2 x rfl
    unfold putK
    rw [if_neg h3]
  | x :: l, i + 1, h, h1, h2 => by
    have h3 := h1 0 x (by omega) rfl
    unfold putK
    rw [if_pos h3, putK_of o l i (by simpa using h) (fun j y hj hy => h1 (j + 1) y (by omega) (by simpa using hy)) (fun y hy => h2 y (by simpa using hy))]
theorem put_nil (a : Ac) : put [] a = [a] := rfl
theorem put_cons (x : Ac) (l : List Ac) (a : Ac) : put (x :: l) a = if x.own < a.own then x :: put l a else a :: x :: l := by
  unfold put
  rw [show putK a.own (x :: l) = if x.own < a.own then putK a.own l + 1 else 0 from rfl]
  split
  · simp
  · simp
theorem put_length (l : List Ac) (a : Ac) : (put l a).length = l.length + 1 := by
  have := putK_le a.own l
  unfold put
  simp only [List.length_append, List.length_take, List.length_cons, List.length_drop]
  omega
theorem tot_append (a b : List Ac) : tot (a ++ b) = tot a + tot b := by
  induction a with
  | nil => simp [tot]
  | cons x a ih => rw [List.cons_append, tot, tot, ih]; omega
theorem tot_put (l : List Ac) (a : Ac) : tot (put l a) = tot l + a.mon := by
  have h := tot_append (l.take (putK a.own l)) (l.drop (putK a.own l))
  rw [List.take_append_drop] at h
  unfold put
  rw [tot_append, tot]
  omega
theorem mem_put {l : List Ac} {a x : Ac} : x ∈ put l a ↔ x = a ∨ x ∈ l := by
  unfold put
  rw [List.mem_append, List.mem_cons]
  have h : x ∈ l ↔ x ∈ l.take (putK a.own l) ∨ x ∈ l.drop (putK a.own l) := by
    rw [← List.mem_append, List.take_append_drop]
  rw [h]
  constructor
  · rintro (h1 | h1 | h1)
    · exact .inr (.inl h1)
    · exact .inl h1
    · exact .inr (.inr h1)
  · rintro (h1 | h1 | h1)
    · exact .inr (.inl h1)
    · exact .inl h1
    · exact .inr (.inr h1)
def Rise (l : List Ac) : Prop := l.Pairwise fun a b => a.own < b.own
theorem rise_put {a : Ac} : ∀ {l : List Ac}, Rise l → (∀ x ∈ l, x.own ≠ a.own) → Rise (put l a)
  | [], _, _ => List.pairwise_singleton _ _
  | x :: l, h, hn => by
    obtain ⟨h1, h2⟩ := List.pairwise_cons.1 h
    have hx := hn x (by simp)
    rw [put_cons]
    split
    · rename_i hlt
      refine List.pairwise_cons.2 ⟨fun y hy => ?_, rise_put h2 fun z hz => hn z (by simp [hz])⟩
      rcases mem_put.1 hy with rfl | hy
      · exact hlt
      · exact h1 y hy
    · refine List.pairwise_cons.2 ⟨fun y hy => ?_, h⟩
      rcases List.mem_cons.1 hy with rfl | hy
      · omega
      · have := h1 y hy
        omega
theorem parts_at {l : List Ac} {k : Nat} {a : Ac} (h : l[k]? = some a) : l = l.take k ++ a :: l.drop (k + 1) := by
  obtain ⟨hk, e⟩ := List.getElem?_eq_some_iff.1 h
  have h1 := List.drop_eq_getElem_cons hk
  rw [e] at h1
  rw [← h1, List.take_append_drop]
theorem setM_own {l : List Ac} {k : Nat} (n : Int) (hk : k < l.length) : (setM l k n).map Ac.own = l.map Ac.own := by
  have h1 := some_at hk
  have h2 := congrArg (List.map Ac.own) (parts_at h1)
  rw [h2]
  unfold setM
  simp
theorem setM_length {l : List Ac} {k : Nat} (n : Int) (hk : k < l.length) : (setM l k n).length = l.length := by
  have := congrArg List.length (setM_own n hk)
  simpa using this
theorem tot_setM {l : List Ac} {k : Nat} (n : Int) (hk : k < l.length) : tot (setM l k n) = tot l - monAt l k + n := by
  have h1 := some_at hk
  have h2 := congrArg tot (parts_at h1)
  rw [tot_append, tot] at h2
  unfold setM
  rw [tot_append, tot]
  have e : (⟨ownAt l k, monAt l k⟩ : Ac).mon = monAt l k := rfl
  have e2 : (⟨ownAt l k, n⟩ : Ac).mon = n := rfl
  omega
theorem rise_own {l k : List Ac} (h : l.map Ac.own = k.map Ac.own) (hr : Rise l) : Rise k := by
  have h1 : (l.map Ac.own).Pairwise fun a b => a < b := by rw [List.pairwise_map]; exact hr
  rw [h, List.pairwise_map] at h1
  exact h1
theorem mem_setM {l : List Ac} {k : Nat} {n : Int} {x : Ac} (h : x ∈ setM l k n) : x = ⟨ownAt l k, n⟩ ∨ x ∈ l := by
  unfold setM at h
  rcases List.mem_append.1 h with h1 | h1
  · exact .inr (List.mem_of_mem_take h1)
  · rcases List.mem_cons.1 h1 with h2 | h2
    · exact .inl h2
    · exact .inr (List.mem_of_mem_drop h2)
/-- Accounts as a purse has them. -/
structure Good (l : List Ac) : Prop where
  rise : Rise l
  own : ∀ a ∈ l, 0 ≤ a.own ∧ a.own ≤ mt
  mon : ∀ a ∈ l, 0 ≤ a.mon
  tot : tot l ≤ mm
theorem tot_nonneg {l : List Ac} (h : ∀ a ∈ l, 0 ≤ a.mon) : 0 ≤ tot l := by
  induction l with
  | nil => exact Int.le_refl _
  | cons x l ih =>
    have h1 := h x (by simp)
    have h2 := ih fun y hy => h y (by simp [hy])
    unfold Purse.tot
    omega
theorem mon_le {l : List Ac} (h : ∀ a ∈ l, 0 ≤ a.mon) {a : Ac} (ha : a ∈ l) : a.mon ≤ tot l := by
  induction l with
  | nil => cases ha
  | cons x l ih =>
    have h1 := h x (by simp)
    have h2 := tot_nonneg (l := l) fun y hy => h y (by simp [hy])
    unfold Purse.tot
    rcases List.mem_cons.1 ha with rfl | ha
    · omega
    · have := ih (fun y hy => h y (by simp [hy])) ha
      omega
theorem tot_take_succ {l : List Ac} {i : Nat} {a : Ac} (h : l[i]? = some a) : tot (l.take (i + 1)) = tot (l.take i) + a.mon := by
  rw [List.take_add_one, h, tot_append]
  simp [tot]
theorem tot_take_le {l : List Ac} (h : ∀ a ∈ l, 0 ≤ a.mon) (i : Nat) : 0 ≤ tot (l.take i) ∧ tot (l.take i) ≤ tot l := by
  have h1 := tot_append (l.take i) (l.drop i)
  rw [List.take_append_drop] at h1
  have h2 := tot_nonneg (l := l.drop i) fun a ha => h a (List.mem_of_mem_drop ha)
  have h3 := tot_nonneg (l := l.take i) fun a ha => h a (List.mem_of_mem_take ha)
  omega
theorem monAt_in {l : List Ac} (h : ∀ a ∈ l, 0 ≤ a.mon) {k : Nat} (hk : k < l.length) : 0 ≤ monAt l k ∧ monAt l k ≤ tot l := by
  have h1 := some_at hk
  have h2 := List.mem_of_getElem? h1
  exact ⟨h _ h2, mon_le h h2⟩
theorem ownAt_in {l : List Ac} (h : Good l) {k : Nat} (hk : k < l.length) : 0 ≤ ownAt l k ∧ ownAt l k ≤ mt := h.own _ (List.mem_of_getElem? (some_at hk))
theorem good_nil : Good [] := ⟨.nil, fun _ h => (by cases h), fun _ h => (by cases h), by decide⟩
theorem good_setM {l : List Ac} (h : Good l) {k : Nat} {n : Int} (hk : k < l.length) (h0 : 0 ≤ n) (h1 : tot l - monAt l k + n ≤ mm) : Good (setM l k n) := by
  refine ⟨rise_own (setM_own n hk).symm h.rise, fun a ha => ?_, fun a ha => ?_, by rw [tot_setM n hk]; exact h1⟩
  · rcases mem_setM ha with rfl | ha
    · exact ownAt_in h hk
    · exact h.own a ha
  · rcases mem_setM ha with rfl | ha
    · exact h0
    · exact h.mon a ha
theorem good_open {l : List Ac} (h : Good l) (o : Int) : Good (openL l o) := by
  unfold openL
  split
  · rename_i he
    unfold openE at he
    split at he
    · omega
    · split at he
      · omega
      · rename_i h1 h2
        have hn := pos_not h2
        refine ⟨rise_put h.rise hn, fun a ha => ?_, fun a ha => ?_, by rw [tot_put]; have := h.tot; show tot l + 0 ≤ mm; omega⟩
        · rcases mem_put.1 ha with rfl | ha
          · exact ⟨by show 0 ≤ o; omega, by show o ≤ mt; omega⟩
          · exact h.own a ha
        · rcases mem_put.1 ha with rfl | ha
          · exact Int.le_refl _
          · exact h.mon a ha
  · exact h
theorem giveE_zero {l : List Ac} {o n : Int} (h : giveE l o n = 0) : pos l o < l.length ∧ 0 ≤ n ∧ n ≤ mm - tot l := by
  unfold giveE at h
  split at h
  · rename_i h1
    split at h
    · omega
    · split at h
      · omega
      · exact ⟨h1, by omega, by omega⟩
  · omega
theorem takeE_zero {l : List Ac} {o n : Int} (h : takeE l o n = 0) : pos l o < l.length ∧ 0 ≤ n ∧ n ≤ monAt l (pos l o) := by
  unfold takeE at h
  split at h
  · rename_i h1
    split at h
    · omega
    · split at h
      · omega
      · exact ⟨h1, by omega, by omega⟩
  · omega
theorem moveE_zero {l : List Ac} {f t n : Int} (h : moveE l f t n = 0) : (pos l f < l.length ∧ pos l t < l.length) ∧ takeE l f n = 0 := by
  unfold moveE at h
  split at h
  · rename_i h1
    exact ⟨h1, h⟩
  · omega
theorem good_give {l : List Ac} (h : Good l) (o n : Int) : Good (giveL l o n) := by
  unfold giveL
  split
  · rename_i he
    obtain ⟨h1, h2, h3⟩ := giveE_zero he
    have h4 := monAt_in h.mon h1
    exact good_setM h h1 (by omega) (by omega)
  · exact h
theorem good_take {l : List Ac} (h : Good l) (o n : Int) : Good (takeL l o n) := by
  unfold takeL
  split
  · rename_i he
    obtain ⟨h1, h2, h3⟩ := takeE_zero he
    have := h.tot
    exact good_setM h h1 (by omega) (by omega)
  · exact h
theorem takeL_own (l : List Ac) (o n : Int) : (takeL l o n).map Ac.own = l.map Ac.own := by
  unfold takeL
  split
  · rename_i he
    exact setM_own _ (takeE_zero he).1
  · rfl
theorem takeL_length (l : List Ac) (o n : Int) : (takeL l o n).length = l.length := by
  have := congrArg List.length (takeL_own l o n)
  simpa using this
theorem tot_take {l : List Ac} {o n : Int} (h : takeE l o n = 0) : tot (takeL l o n) = tot l - n := by
  unfold takeL
  rw [if_pos h, tot_setM _ (takeE_zero h).1]
  omega
theorem move_in {l : List Ac} {f t n : Int} (h : moveE l f t n = 0) : pos (takeL l f n) t < (takeL l f n).length := by
  rw [takeL_length, pos_congr (takeL_own l f n)]
  exact (moveE_zero h).1.2
theorem good_move {l : List Ac} (h : Good l) (f t n : Int) : Good (moveL l f t n) := by
  unfold moveL
  split
  · rename_i he
    have h1 := good_take h f n
    have h2 := move_in he
    have h3 := monAt_in h1.mon h2
    have h4 := tot_take (moveE_zero he).2
    have h5 := (takeE_zero (moveE_zero he).2).2.1
    have := h.tot
    exact good_setM h1 h2 (by omega) (by omega)
  · exact h
/-- What is moved changes no total. -/
theorem tot_move (l : List Ac) (f t n : Int) : tot (moveL l f t n) = tot l := by
  unfold moveL
  split
  · rename_i he
    have h4 := tot_take (moveE_zero he).2
    rw [tot_setM _ (move_in he)]
    omega
  · rfl
/-- What is refused changes nothing. -/
theorem move_refused {l : List Ac} {f t n : Int} (h : moveE l f t n ≠ 0) : moveL l f t n = l := by unfold moveL; rw [if_neg h]
theorem move_length (l : List Ac) (f t n : Int) : (moveL l f t n).length = l.length := by
  unfold moveL
  split
  · rename_i he
    rw [setM_length _ (move_in he), takeL_length]
  · rfl
theorem give_length (l : List Ac) (o n : Int) : (giveL l o n).length = l.length := by
  unfold giveL
  split
  · rename_i he
    exact setM_length _ (giveE_zero he).1
  · rfl
theorem open_length (l : List Ac) (o : Int) : (openL l o).length ≤ l.length + 1 := by
  unfold openL
  split
  · rw [put_length]; exact Nat.le_refl _
  · omega
theorem good_go : ∀ (ps : List Pay) {l : List Ac} (_ : Good l) (i : Nat), Good (goM l ps i).1 ∧ (goM l ps i).1.length = l.length
  | [], l, h, i => ⟨h, rfl⟩
  | p :: ps, l, h, i => by
    unfold goM
    split
    · obtain ⟨h1, h2⟩ := good_go ps (good_move h p.src p.dst p.num) (i + 1)
      exact ⟨h1, by rw [h2, move_length]⟩
    · exact ⟨h, rfl⟩
theorem good_moves {l : List Ac} (h : Good l) (ps : List Pay) : Good (movesL l ps) ∧ (movesL l ps).length = l.length := by
  unfold movesL
  split
  · exact good_go ps h 0
  · exact ⟨h, rfl⟩
theorem goM_n : ∀ (ps : List Pay) (l : List Ac) (i : Nat), (goM l ps i).2.1 ≤ i + ps.length
  | [], _, i => Nat.le_refl _
  | p :: ps, l, i => by
    unfold goM
    split
    · have := goM_n ps (moveL l p.src p.dst p.num) (i + 1)
      simp only [List.length_cons]
      omega
    · simp
theorem good_ld : ∀ {l out r : List Ac}, Rise out → (∀ a ∈ out, 0 ≤ a.own ∧ a.own ≤ mt) → (∀ a ∈ out, 0 ≤ a.mon ∧ a.mon ≤ mm) → ld out l = some r → Rise r ∧ (∀ a ∈ r, 0 ≤ a.own ∧ a.own ≤ mt) ∧ (∀ a ∈ r, 0 ≤ a.mon ∧ a.mon ≤ mm) ∧ r.length = out.length + l.length
  | [], out, r, h1, h2, h3, h => by
    have : out = r := Option.some.inj h
    subst this
    exact ⟨h1, h2, h3, rfl⟩
  | a :: l, out, r, h1, h2, h3, h => by
    unfold ld at h
    split at h
    · rename_i hok
      obtain ⟨k1, k2, k3⟩ := hok
      obtain ⟨g1, g2, g3, g4⟩ := good_ld (rise_put h1 (pos_not k3)) (fun x hx => by rcases mem_put.1 hx with rfl | hx; · exact k1
                                                                                    · exact h2 x hx) (fun x hx => by rcases mem_put.1 hx with rfl | hx; · exact k2
                                                                                                                     · exact h3 x hx) h
      exact ⟨g1, g2, g3, by rw [g4, put_length, List.length_cons]; omega⟩
    · cases h
theorem good_load {l : List Ac} (h : loadE l = 0) : Good (loadL l) ∧ (loadL l).length = l.length := by
  unfold loadE at h
  unfold loadL
  cases hl : ld [] l with
  | none => rw [hl] at h; simp at h
  | some r =>
    rw [hl] at h
    simp only at h ⊢
    obtain ⟨g1, g2, g3, g4⟩ := good_ld .nil (fun _ h => (by cases h)) (fun _ h => (by cases h)) hl
    split at h
    · omega
    · rename_i h5
      rw [if_neg h5]
      exact ⟨⟨g1, g2, fun a ha => (g3 a ha).1, by omega⟩, by rw [g4]; simp⟩
end Go.Proofs.Yteglahogimdnfaa.Purse
