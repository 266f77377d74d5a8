/- The document's Ways. What each node lacks, in a row of the call's own: the mathematics of the program's Order. -/
import Derived.Test.YtohlkaoophbinaaZGraphReach
import Derived.Test.YtohlkaoophbinaaZRecImCk
namespace Go.Proofs.Ytohlkaoophbinaa.Graph
open Go.RowKit Go.Lib IRows

theorem info_yes : (Try.prog.info? 4).map (fun i => (i.zero, i.size, i.bytes)) = some (some (.bool false), 1, 1) := by kernel_rfl
/-- Two rows that make has made, of numbers and of bools: what stands in them. -/
structure WO (W : World) (A B : Nat) (N : Nat) (f : Nat → Int) (b : Nat → Bool) : Prop where
  ints : ∀ i, i ≤ N → W.cell? ⟨A, i, none⟩ = some (.int .i64 (f i)) ∧ W.frozen? ⟨A, i, none⟩ = false
  bools : ∀ i, i ≤ N → W.cell? ⟨B, i, none⟩ = some (.bool (b i)) ∧ W.frozen? ⟨B, i, none⟩ = false
  ne : A ≠ B
def up {α : Type} (f : Nat → α) (k : Nat) (v : α) (i : Nat) : α := if i = k then v else f i
theorem addr_ne {A B i j : Nat} (h : A ≠ B ∨ i ≠ j) : (⟨A, i, none⟩ : Addr) ≠ ⟨B, j, none⟩ := fun e => by
  injection e with e1 e2
  rcases h with h | h
  · exact h e1
  · exact h e2
theorem WO.setI {W : World} {A B N : Nat} {f : Nat → Int} {b : Nat → Bool} (h : WO W A B N f b) (k : Nat) (v : Int) : WO (W.setCell ⟨A, k, none⟩ (.int .i64 v)) A B N (up f k v) b := by
  refine ⟨fun i hi => ?_, fun i hi => ?_, h.ne⟩
  · rw [World.frozen?_setCell]
    refine ⟨?_, (h.ints i hi).2⟩
    unfold up
    by_cases e : i = k
    · subst e
      rw [if_pos rfl, World.cell?_setCell_same (h := (h.ints i hi).1)]
    · rw [if_neg e, World.cell?_setCell_other (h := addr_ne (.inr fun x => e x.symm))]
      exact (h.ints i hi).1
  · rw [World.frozen?_setCell, World.cell?_setCell_other (h := addr_ne (.inl h.ne))]
    exact h.bools i hi
theorem WO.setB {W : World} {A B N : Nat} {f : Nat → Int} {b : Nat → Bool} (h : WO W A B N f b) (k : Nat) (v : Bool) : WO (W.setCell ⟨B, k, none⟩ (.bool v)) A B N f (up b k v) := by
  refine ⟨fun i hi => ?_, fun i hi => ?_, h.ne⟩
  · rw [World.frozen?_setCell, World.cell?_setCell_other (h := addr_ne (.inl h.ne.symm))]
    exact h.ints i hi
  · rw [World.frozen?_setCell]
    refine ⟨?_, (h.bools i hi).2⟩
    unfold up
    by_cases e : i = k
    · subst e
      rw [if_pos rfl, World.cell?_setCell_same (h := (h.bools i hi).1)]
    · rw [if_neg e, World.cell?_setCell_other (h := addr_ne (.inr fun x => e x.symm))]
      exact (h.bools i hi).1
theorem WO.drew {W : World} {A B N : Nat} {f : Nat → Int} {b : Nat → Bool} (h : WO W A B N f b) : WO W.drew A B N f b := ⟨h.ints, h.bools, h.ne⟩
theorem made_at (z : Value) (n i : Nat) (h : i < n) : (madeCells #[z] n)[i]? = some z := by simp [madeCells, h, Nat.mod_one]
/-- How far a node is. -/
structure Cell (S : Nat) (x : Int) (o : Bool) : Prop where
  over : o = decide (mi < S)
  low : 0 ≤ x
  high : x ≤ 9223372036854775807
  is : S ≤ mi → x = (S : Int)
/-- What stands of the first k of the order; nothing of the others, but of the one that is looked at. -/
structure Walked (n : Int) (l : List Nd) (to : Int) (o : List Int) (k : Nat) (f : Nat → Int) (b : Nat → Bool) : Prop where
  done : ∀ q : Nat, (q : Int) ∈ o.take k → Cell (nw n l to q) (f q) (b q)
  fresh : ∀ q : Nat, (q : Int) ∈ o → (q : Int) ∉ o.take k → f q = 0 ∧ b q = false
/-- .. and of the node p at the k-th place, so far. -/
structure Walking (n : Int) (l : List Nd) (to : Int) (o : List Int) (k p i : Nat) (f : Nat → Int) (b : Nat → Bool) : Prop where
  done : ∀ q : Nat, (q : Int) ∈ o.take k → Cell (nw n l to q) (f q) (b q)
  fresh : ∀ q : Nat, (q : Int) ∈ o → (q : Int) ∉ o.take k → q ≠ p → f q = 0 ∧ b q = false
  now : Cell (one to p + sumA p (nw n l to) (l.take i)) (f p) (b p)
theorem Walked.begin {n : Int} {l : List Nd} {to : Int} {o : List Int} {k p : Nat} {f : Nat → Int} {b : Nat → Bool} (h : Walked n l to o k f b) (hp : (p : Int) ∈ o) (hk : (p : Int) ∉ o.take k) : Walking n l to o k p 0 (if (p : Int) = to then up f p 1 else f) b := by
  obtain ⟨h1, h2⟩ := h.fresh p hp hk
  refine ⟨fun q hq => ?_, fun q hq hq2 hne => ?_, ?_⟩
  · have hne : q ≠ p := fun e => hk (by rw [← e]; exact hq)
    have h3 := h.done q hq
    split
    · unfold up
      rw [if_neg hne]
      exact h3
    · exact h3
  · split
    · unfold up
      rw [if_neg hne]
      exact h.fresh q hq hq2
    · exact h.fresh q hq hq2
  · unfold one
    simp only [List.take_zero, sumA, Nat.add_zero]
    by_cases e : (p : Int) = to
    · rw [if_pos e, if_pos e]
      have e1 : up f p 1 p = 1 := by unfold up; rw [if_pos rfl]
      rw [e1, h2]
      exact ⟨rfl, by omega, by omega, fun _ => rfl⟩
    · rw [if_neg e, if_neg e, h1, h2]
      exact ⟨rfl, by omega, by omega, fun _ => rfl⟩
theorem Walking.skip {n : Int} {l : List Nd} {to : Int} {o : List Int} {k p i : Nat} {f : Nat → Int} {b : Nat → Bool} {t : Nd} (h : Walking n l to o k p i f b) (ht : l[i]? = some t) (ha : t.a ≠ (p : Int)) : Walking n l to o k p (i + 1) f b :=
  ⟨h.done, h.fresh, by rw [sumA_take ht, if_neg ha, Nat.add_zero]; exact h.now⟩
theorem Walking.over {n : Int} {l : List Nd} {to : Int} {o : List Int} {k p i : Nat} {f : Nat → Int} {b : Nat → Bool} {t : Nd} (h : Walking n l to o k p i f b) (hk : (p : Int) ∉ o.take k) (ht : l[i]? = some t) (ha : t.a = (p : Int)) (hs : mi < one to p + sumA p (nw n l to) (l.take i) + nw n l to t.b) : Walking n l to o k p (i + 1) f (up b p true) := by
  refine ⟨fun q hq => ?_, fun q hq hq2 hne => ?_, ?_⟩
  · have hne : q ≠ p := fun e => hk (by rw [← e]; exact hq)
    unfold up
    rw [if_neg hne]
    exact h.done q hq
  · unfold up
    rw [if_neg hne]
    exact h.fresh q hq hq2 hne
  · have e1 : up b p true p = true := by unfold up; rw [if_pos rfl]
    rw [sumA_take ht, if_pos ha, e1]
    exact ⟨(decide_eq_true (by omega)).symm, h.now.low, h.now.high, fun hle => by omega⟩
theorem Walking.fine {n : Int} {l : List Nd} {to : Int} {o : List Int} {k p i : Nat} {f : Nat → Int} {b : Nat → Bool} {t : Nd} (h : Walking n l to o k p i f b) (hk : (p : Int) ∉ o.take k) (ht : l[i]? = some t) (ha : t.a = (p : Int)) (hs : one to p + sumA p (nw n l to) (l.take i) + nw n l to t.b ≤ mi) : Walking n l to o k p (i + 1) (up f p (f p + ((nw n l to t.b : Nat) : Int))) (up b p false) := by
  refine ⟨fun q hq => ?_, fun q hq hq2 hne => ?_, ?_⟩
  · have hne : q ≠ p := fun e => hk (by rw [← e]; exact hq)
    unfold up
    rw [if_neg hne, if_neg hne]
    exact h.done q hq
  · unfold up
    rw [if_neg hne, if_neg hne]
    exact h.fresh q hq hq2 hne
  · have e1 : up b p false p = false := by unfold up; rw [if_pos rfl]
    have e2 : up f p (f p + ((nw n l to t.b : Nat) : Int)) p = f p + ((nw n l to t.b : Nat) : Int) := by unfold up; rw [if_pos rfl]
    have e3 := h.now.is (by omega)
    have hmi : ((mi : Nat) : Int) = 9223372036854775807 := rfl
    rw [sumA_take ht, if_pos ha, e1, e2, e3]
    exact ⟨(decide_eq_false (by omega)).symm, by omega, by omega, fun _ => by omega⟩
theorem Walking.end {n : Int} {l : List Nd} {to : Int} {o : List Int} {k p : Nat} {f : Nat → Int} {b : Nat → Bool} (h : Walking n l to o k p l.length f b) (hp : o[k]? = some (p : Int)) (he : ordE n l = 0) (h1 : 1 ≤ (p : Int)) (h2 : (p : Int) ≤ n) : Walked n l to o (k + 1) f b := by
  have hn := h.now
  rw [List.take_length, ← nw_rec he h1 h2] at hn
  refine ⟨fun q hq => ?_, fun q hq hq2 => ?_⟩
  · rw [List.take_add_one, hp] at hq
    rcases List.mem_append.1 hq with hq | hq
    · exact h.done q hq
    · have : (q : Int) = (p : Int) := by simpa using hq
      have : q = p := by omega
      subst this
      exact hn
  · rw [List.take_add_one, hp] at hq2
    have h3 : (q : Int) ∉ o.take k := fun h => hq2 (by simp [h])
    have h4 : q ≠ p := fun e => hq2 (by simp [e])
    exact h.fresh q hq h3 h4
end Go.Proofs.Ytohlkaoophbinaa.Graph
namespace Go.Proofs.Ytohlkaoophbinaa.Graph.Im
open Go.RowKit Go.Lib IRows

/-- A row of 65 numbers of the call's own. -/
def RI (W : World) (A : Nat) (f : Nat → Int) : Prop := ∀ i, i < 65 → W.cell? ⟨A, i, none⟩ = some (.int .i64 (f i)) ∧ W.frozen? ⟨A, i, none⟩ = false
theorem RI.under {W W' : World} {A : Nat} {f : Nat → Int} (h : RI W A f) (hA : A < W.heap.size) (hb : Below W.heap.size W W') : RI W' A f := fun i hi => ⟨((bcell hb).1 A i hA).trans (h i hi).1, ((bcell hb).2 A i hA).trans (h i hi).2⟩
theorem RI.set {W : World} {A : Nat} {f : Nat → Int} (h : RI W A f) (k : Nat) (v : Int) : RI (W.setCell ⟨A, k, none⟩ (.int .i64 v)) A (up f k v) := fun i hi => by
  rw [World.frozen?_setCell]
  refine ⟨?_, (h i hi).2⟩
  unfold up
  by_cases e : i = k
  · subst e
    rw [if_pos rfl, World.cell?_setCell_same (h := (h i hi).1)]
  · rw [if_neg e, World.cell?_setCell_other (h := addr_ne (.inr fun x => e x.symm))]
    exact (h i hi).1
theorem RI.congr {W : World} {A : Nat} {f g : Nat → Int} (h : RI W A f) (e : ∀ i, i < 65 → f i = g i) : RI W A g := fun i hi => by rw [← e i hi]; exact h i hi
/-- The row, and what else stands. -/
structure Od (w wr : World) (A : Nat) (f : Nat → Int) : Prop where
  below : Below w.heap.size w wr
  new : w.heap.size ≤ A
  old : A < wr.heap.size
  row : RI wr A f
theorem Od.under {w wr W' : World} {A : Nat} {f : Nat → Int} (h : Od w wr A f) (hb : Below wr.heap.size wr W') : Od w W' A f := ⟨below_then h.below hb, h.new, Nat.lt_of_lt_of_le h.old hb.size, h.row.under h.old hb⟩
theorem Od.app {w wr W' : World} {A : Nat} {f : Nat → Int} (h : Od w wr A f) (hb : Below (A + 1) wr W') : Od w W' A f := by
  refine ⟨h.below.trans (hb.mono (by have := h.new; omega)), h.new, Nat.lt_of_lt_of_le h.old hb.size, fun i hi => ?_⟩
  have e := hb.block A (Nat.lt_succ_self A)
  obtain ⟨h1, h2⟩ := h.row i hi
  unfold World.cell? World.frozen? at *
  simp only [e] at *
  exact ⟨h1, h2⟩
theorem Od.set {w wr : World} {A : Nat} {f : Nat → Int} (h : Od w wr A f) (k : Nat) (v : Int) : Od w (wr.setCell ⟨A, k, none⟩ (.int .i64 v)) A (up f k v) :=
  ⟨h.below.trans ((Below.refl _ wr).setCell (p := ⟨A, k, none⟩) h.new _), h.new, by simpa [World.setCell] using h.old, h.row.set k v⟩
theorem Od.congr {w wr : World} {A : Nat} {f g : Nat → Int} (h : Od w wr A f) (e : ∀ i, i < 65 → f i = g i) : Od w wr A g := ⟨h.below, h.new, h.old, h.row.congr e⟩
/-- A row of one's own that lies behind it. -/
theorem ks_set {wr : World} {A k : Nat} {v : Value} {u : Value} {l : List Int} (h : KS wr (A + 1) u l) : KS (wr.setCell ⟨A, k, none⟩ v) (A + 1) u l :=
  h.moved fun q hq => Below.heap_setCell wr ⟨A, k, none⟩ v q (by have := (h.lt q hq).1; show q ≠ A; omega)
theorem ks_low {w : World} {B B' : Nat} {v : Value} {l : List Int} (h : KS w B v l) (hB : B' ≤ B) : KS w B' v l := by
  refine ⟨h.1, ?_⟩
  rcases h.2 with h1 | ⟨g, cap, cur, hv, h1, h2⟩
  · exact .inl h1
  · exact .inr ⟨g, cap, cur, hv, Nat.le_trans hB h1, h2⟩
/-- How many of the needs of a node do not stand there. -/
def cn (out : List Int) (k : Nat) (l : List Nd) : Nat := l.countP fun t => decide (t.a = (k : Int)) && !decide (t.b ∈ out)
theorem cn_le (out : List Int) (k : Nat) (l : List Nd) : cn out k l ≤ l.length := List.countP_le_length
theorem cn_append (out : List Int) (k : Nat) (l r : List Nd) : cn out k (l ++ r) = cn out k l + cn out k r := List.countP_append ..
theorem cn_yes {out : List Int} {k : Nat} {t : Nd} (h1 : t.a = (k : Int)) (h2 : t.b ∉ out) : cn out k [t] = 1 := by simp [cn, h1, h2]
theorem cn_no {out : List Int} {k : Nat} {t : Nd} (h : ¬ (t.a = (k : Int) ∧ t.b ∉ out)) : cn out k [t] = 0 := by
  unfold cn
  rw [List.countP_eq_zero]
  intro u hu
  simp at hu
  subst hu
  simpa using h
theorem cn_take {out : List Int} {k i : Nat} {l : List Nd} {t : Nd} (h : l[i]? = some t) : cn out k (l.take (i + 1)) = cn out k (l.take i) + cn out k [t] := by
  rw [List.take_add_one, h, ← cn_append]
  rfl
theorem cn_drop {out : List Int} {k i : Nat} {l : List Nd} {t : Nd} (h : l[i]? = some t) : cn out k (l.drop i) = cn out k [t] + cn out k (l.drop (i + 1)) := by
  obtain ⟨hi, e⟩ := List.getElem?_eq_some_iff.1 h
  rw [List.drop_eq_getElem_cons hi, e, ← cn_append]
  rfl
theorem cn_zero {out : List Int} {k : Nat} {l : List Nd} : cn out k l = 0 ↔ ∀ t ∈ l, t.a = (k : Int) → t.b ∈ out := by
  unfold cn
  rw [List.countP_eq_zero]
  refine forall₂_congr fun t _ => ?_
  simp
/-- What a node lacks, as long as it is looked for. -/
def lk (l : List Nd) (out : List Int) (k : Nat) : Int := if k = 0 ∨ (k : Int) ∈ out then -1 else (cn out k l : Nat)
def fst (l : List Nd) (i k : Nat) : Int := if k = 0 then -1 else (cn [] k (l.take i) : Nat)
def mid (l : List Nd) (out out' : List Int) (i k : Nat) : Int := if k = 0 ∨ (k : Int) ∈ out' then -1 else ((cn out' k (l.take i) + cn out k (l.drop i) : Nat) : Int)
theorem fst_zero (l : List Nd) (k : Nat) : fst l 0 k = if k = 0 then -1 else 0 := by simp [fst, cn]
theorem fst_b (l : List Nd) (i k : Nat) : -1 ≤ fst l i k ∧ fst l i k ≤ l.length := by
  have h1 := cn_le [] k (l.take i)
  have h2 := List.length_take_le' i l
  unfold fst
  split <;> omega
theorem lk_b (l : List Nd) (out : List Int) (k : Nat) : -1 ≤ lk l out k ∧ lk l out k ≤ l.length := by
  have h1 := cn_le out k l
  unfold lk
  split <;> omega
theorem mid_b (l : List Nd) (out out' : List Int) (i k : Nat) : -1 ≤ mid l out out' i k ∧ mid l out out' i k ≤ l.length := by
  have h1 := cn_le out' k (l.take i)
  have h2 := cn_le out k (l.drop i)
  have h3 : (l.take i).length + (l.drop i).length = l.length := by rw [← List.length_append, List.take_append_drop]
  unfold mid
  split <;> omega
theorem fst_step {l : List Nd} {i p : Nat} {t : Nd} (h : l[i]? = some t) (hp : t.a = (p : Int)) (h1 : 1 ≤ p) (k : Nat) : up (fst l i) p (fst l i p + 1) k = fst l (i + 1) k := by
  unfold up fst
  rw [cn_take h]
  by_cases e : k = p
  · subst e
    rw [if_pos rfl, if_neg (by omega), if_neg (by omega), cn_yes hp (by simp)]
    omega
  · rw [if_neg e, cn_no (fun hh => e (by omega))]
    rfl
theorem fst_end {l : List Nd} {k : Nat} : fst l l.length k = lk l [] k := by simp [fst, lk]
theorem mid_start {l : List Nd} {out : List Int} {p : Nat} (k : Nat) : up (lk l out) p (-1) k = mid l out (out ++ [(p : Int)]) 0 k := by
  unfold up lk mid
  by_cases e : k = p
  · subst e
    rw [if_pos rfl, if_pos (by simp)]
  · rw [if_neg e]
    have h : (k = 0 ∨ (k : Int) ∈ out ++ [(p : Int)]) ↔ (k = 0 ∨ (k : Int) ∈ out) := by
      have e2 : ¬ (k : Int) = (p : Int) := by omega
      simp [e2]
    by_cases h2 : k = 0 ∨ (k : Int) ∈ out
    · rw [if_pos h2, if_pos (h.2 h2)]
    · rw [if_neg h2, if_neg (fun x => h2 (h.1 x))]
      simp [cn]
theorem mid_end {l : List Nd} {out out' : List Int} {k : Nat} : mid l out out' l.length k = lk l out' k := by simp [mid, lk, cn]
theorem mid_yes {l : List Nd} {out : List Int} {x : Int} {i q : Nat} {t : Nd} (h : l[i]? = some t) (hq : t.a = (q : Int)) (hq1 : 1 ≤ q) (hb : t.b = x) (hx : x ∉ out) (hn : (q : Int) ∉ out ++ [x]) (k : Nat) : up (mid l out (out ++ [x]) i) q (mid l out (out ++ [x]) i q - 1) k = mid l out (out ++ [x]) (i + 1) k := by
  unfold up mid
  rw [cn_take h]
  by_cases e : k = q
  · subst e
    rw [if_pos rfl, if_neg (by simp only [not_or]; exact ⟨by omega, hn⟩), if_neg (by simp only [not_or]; exact ⟨by omega, hn⟩), cn_drop h, cn_no (out := out ++ [x]) (t := t) (by rw [hb]; simp), cn_yes hq (by rw [hb]; exact hx)]
    omega
  · rw [if_neg e, cn_drop (out := out) (k := k) h, cn_no (t := t) (fun hh => e (by omega)), cn_no (t := t) (fun hh => e (by omega))]
    split <;> omega
theorem mid_no {l : List Nd} {out : List Int} {x : Int} {i : Nat} {t : Nd} (h : l[i]? = some t) (hb : t.b ≠ x) (k : Nat) : mid l out (out ++ [x]) i k = mid l out (out ++ [x]) (i + 1) k := by
  unfold mid
  rw [cn_take h, cn_drop (out := out) (k := k) h]
  have e : cn (out ++ [x]) k [t] = cn out k [t] := by
    by_cases h2 : t.a = (k : Int) ∧ t.b ∉ out
    · rw [cn_yes h2.1 h2.2, cn_yes h2.1 (by simp [h2.2, hb])]
    · rw [cn_no h2, cn_no (fun h3 => h2 ⟨h3.1, fun h4 => h3.2 (by simp [h4])⟩)]
  rw [e]
  split <;> omega
theorem lk_zero {l : List Nd} {out : List Int} {k : Nat} (h : 1 ≤ k) : lk l out k = 0 ↔ Ready l out k := by
  unfold lk Ready
  by_cases h2 : (k : Int) ∈ out
  · rw [if_pos (.inr h2)]
    exact ⟨fun h => by omega, fun h => absurd h2 h.1⟩
  · rw [if_neg (by simp only [not_or]; exact ⟨by omega, h2⟩)]
    have := cn_zero (out := out) (k := k) (l := l)
    constructor
    · intro h3
      exact ⟨h2, this.1 (by omega)⟩
    · intro h3
      have := this.2 h3.2
      omega
/-- The first that lacks nothing is the least that is ready. -/
theorem first_nx {l : List Nd} {out : List Int} {N : Nat} {r : Int} (h : First (lk l out) (N + 1) 0 r) : (r = -1 ∧ nx N l out N = 0) ∨ ∃ p : Nat, r = (p : Int) ∧ 1 ≤ p ∧ p ≤ N ∧ nx N l out N = (p : Int) ∧ Ready l out p := by
  have hz : lk l out 0 = -1 := by unfold lk; rw [if_pos (.inl rfl)]
  rcases h.is with ⟨hr, hno⟩ | ⟨p, hr, hp, hp0, hlt⟩
  · refine .inl ⟨hr, ?_⟩
    rcases nx_is (n := N) (l := l) (out := out) N (Int.le_refl _) with ⟨h1, _⟩ | ⟨h1, h2, h3, _⟩
    · exact h1
    · obtain ⟨q, hq⟩ := Int.eq_ofNat_of_zero_le (show 0 ≤ nx N l out N by omega)
      rw [hq] at h1 h2 h3
      exact absurd ((lk_zero (by omega)).2 h3) (hno q (by omega))
  · have hp1 : 1 ≤ p := by
      rcases Nat.eq_zero_or_pos p with h0 | h0
      · rw [h0, hz] at hp0
        omega
      · exact h0
    have hrd := (lk_zero hp1).1 hp0
    refine .inr ⟨p, hr, hp1, by omega, ?_, hrd⟩
    rcases nx_is (n := N) (l := l) (out := out) N (Int.le_refl _) with ⟨_, h2⟩ | ⟨h1, h2, h3, h4⟩
    · exact absurd hrd (h2 p (by omega) (by omega))
    · obtain ⟨q, hq⟩ := Int.eq_ofNat_of_zero_le (show 0 ≤ nx N l out N by omega)
      rw [hq] at h1 h2 h3 h4 ⊢
      have a1 : ¬ p < q := fun hh => h4 p (by omega) (by omega) hrd
      have a2 : ¬ q < p := fun hh => hlt q hh ((lk_zero (by omega)).2 h3)
      omega
theorem stands_shut {n : Int} {l : List Nd} {out : List Int} {x : Int} (h : Stands n l (out ++ [x])) {t : Nd} (ht : t ∈ l) (ha : t.a ∈ out ++ [x]) : t.b ∈ out := by
  obtain ⟨i, hi, e⟩ := List.getElem_of_mem ha
  have := h.behind i t.a (by rw [← e]; exact List.getElem?_eq_getElem hi) t ht rfl
  rw [List.length_append, List.length_singleton] at hi
  rw [List.take_append_of_le_length (by omega)] at this
  exact List.mem_of_mem_take this
end Go.Proofs.Ytohlkaoophbinaa.Graph.Im
