/- The document's Ways. -/
import Derived.Test.YtghjcefigdkhnaaGraphWaysMath
namespace Go.Proofs.Ytghjcefigdkhnaa.Graph
open Go.RowKit Go.Lib IRows

theorem info_yes : (Try.prog.info? 4).map (fun i => (i.zero, i.size, i.bytes)) = some (some (.bool false), 1, 1) := by kernel_rfl
/-- Two rows that make has made, of numbers and of bools: what stands in them. -/
structure WO (W : World) (A B : Nat) (N : Nat) (f : Nat → Int) (b : Nat → Bool) : Prop where
  ints : ∀ i, i ≤ N → W.cell? ⟨A, i, none⟩ = some (.int .i64 (f i)) ∧ W.frozen? ⟨A, i, none⟩ = false
  bools : ∀ i, i ≤ N → W.cell? ⟨B, i, none⟩ = some (.bool (b i)) ∧ W.frozen? ⟨B, i, none⟩ = false
  ne : A ≠ B
def up {α : Type} (f : Nat → α) (k : Nat) (v : α) (i : Nat) : α := if i = k then v else f i
theorem addr_ne {A B i j : Nat} (h : A ≠ B ∨ i ≠ j) : (⟨A, i, none⟩ : Addr) ≠ ⟨B, j, none⟩ := fun e => by
  injection e with e1 e2
  rcases h with h | h
  · exact h e1
  · exact h e2
theorem WO.setI {W : World} {A B N : Nat} {f : Nat → Int} {b : Nat → Bool} (h : WO W A B N f b) (k : Nat) (v : Int) : WO (W.setCell ⟨A, k, none⟩ (.int .i64 v)) A B N (up f k v) b := by
  refine ⟨fun i hi => ?_, fun i hi => ?_, h.ne⟩
  · rw [World.frozen?_setCell]
    refine ⟨?_, (h.ints i hi).2⟩
    unfold up
    by_cases e : i = k
    · subst e
      rw [if_pos rfl, World.cell?_setCell_same (h := (h.ints i hi).1)]
    · rw [if_neg e, World.cell?_setCell_other (h := addr_ne (.inr fun x => e x.symm))]
      exact (h.ints i hi).1
  · rw [World.frozen?_setCell, World.cell?_setCell_other (h := addr_ne (.inl h.ne))]
    exact h.bools i hi
theorem WO.setB {W : World} {A B N : Nat} {f : Nat → Int} {b : Nat → Bool} (h : WO W A B N f b) (k : Nat) (v : Bool) : WO (W.setCell ⟨B, k, none⟩ (.bool v)) A B N f (up b k v) := by
  refine ⟨fun i hi => ?_, fun i hi => ?_, h.ne⟩
  · rw [World.frozen?_setCell, World.cell?_setCell_other (h := addr_ne (.inl h.ne.symm))]
    exact h.ints i hi
  · rw [World.frozen?_setCell]
    refine ⟨?_, (h.bools i hi).2⟩
    unfold up
    by_cases e : i = k
    · subst e
      rw [if_pos rfl, World.cell?_setCell_same (h := (h.bools i hi).1)]
    · rw [if_neg e, World.cell?_setCell_other (h := addr_ne (.inr fun x => e x.symm))]
      exact (h.bools i hi).1
theorem WO.drew {W : World} {A B N : Nat} {f : Nat → Int} {b : Nat → Bool} (h : WO W A B N f b) : WO W.drew A B N f b := ⟨h.ints, h.bools, h.ne⟩
theorem made_at (z : Value) (n i : Nat) (h : i < n) : (madeCells #[z] n)[i]? = some z := by simp [madeCells, h, Nat.mod_one]
/-- How far a node is. -/
structure Cell (S : Nat) (x : Int) (o : Bool) : Prop where
  over : o = decide (mi < S)
  low : 0 ≤ x
  high : x ≤ 9223372036854775807
  is : S ≤ mi → x = (S : Int)
/-- What stands of the first k of the order; nothing of the others, but of the one that is looked at. -/
structure Walked (n : Int) (l : List Nd) (to : Int) (o : List Int) (k : Nat) (f : Nat → Int) (b : Nat → Bool) : Prop where
  done : ∀ q : Nat, (q : Int) ∈ o.take k → Cell (nw n l to q) (f q) (b q)
  fresh : ∀ q : Nat, (q : Int) ∈ o → (q : Int) ∉ o.take k → f q = 0 ∧ b q = false
/-- .. and of the node p at the k-th place, so far. -/
structure Walking (n : Int) (l : List Nd) (to : Int) (o : List Int) (k p i : Nat) (f : Nat → Int) (b : Nat → Bool) : Prop where
  done : ∀ q : Nat, (q : Int) ∈ o.take k → Cell (nw n l to q) (f q) (b q)
  fresh : ∀ q : Nat, (q : Int) ∈ o → (q : Int) ∉ o.take k → q ≠ p → f q = 0 ∧ b q = false
  now : Cell (one to p + sumA p (nw n l to) (l.take i)) (f p) (b p)
theorem Walked.begin {n : Int} {l : List Nd} {to : Int} {o : List Int} {k p : Nat} {f : Nat → Int} {b : Nat → Bool} (h : Walked n l to o k f b) (hp : (p : Int) ∈ o) (hk : (p : Int) ∉ o.take k) : Walking n l to o k p 0 (if (p : Int) = to then up f p 1 else f) b := by
  obtain ⟨h1, h2⟩ := h.fresh p hp hk
  refine ⟨fun q hq => ?_, fun q hq hq2 hne => ?_, ?_⟩
  · have hne : q ≠ p := fun e => hk (by rw [← e]; exact hq)
    have h3 := h.done q hq
    split
    · unfold up
      rw [if_neg hne]
      exact h3
    · exact h3
  · split
    · unfold up
      rw [if_neg hne]
      exact h.fresh q hq hq2
    · exact h.fresh q hq hq2
  · unfold one
    simp only [List.take_zero, sumA, Nat.add_zero]
    by_cases e : (p : Int) = to
    · rw [if_pos e, if_pos e]
      have e1 : up f p 1 p = 1 := by unfold up; rw [if_pos rfl]
      rw [e1, h2]
      exact ⟨rfl, by omega, by omega, fun _ => rfl⟩
    · rw [if_neg e, if_neg e, h1, h2]
      exact ⟨rfl, by omega, by omega, fun _ => rfl⟩
theorem Walking.skip {n : Int} {l : List Nd} {to : Int} {o : List Int} {k p i : Nat} {f : Nat → Int} {b : Nat → Bool} {t : Nd} (h : Walking n l to o k p i f b) (ht : l[i]? = some t) (ha : t.a ≠ (p : Int)) : Walking n l to o k p (i + 1) f b :=
  ⟨h.done, h.fresh, by rw [sumA_take ht, if_neg ha, Nat.add_zero]; exact h.now⟩
theorem Walking.over {n : Int} {l : List Nd} {to : Int} {o : List Int} {k p i : Nat} {f : Nat → Int} {b : Nat → Bool} {t : Nd} (h : Walking n l to o k p i f b) (hk : (p : Int) ∉ o.take k) (ht : l[i]? = some t) (ha : t.a = (p : Int)) (hs : mi < one to p + sumA p (nw n l to) (l.take i) + nw n l to t.b) : Walking n l to o k p (i + 1) f (up b p true) := by
  refine ⟨fun q hq => ?_, fun q hq hq2 hne => ?_, ?_⟩
  · have hne : q ≠ p := fun e => hk (by rw [← e]; exact hq)
    unfold up
    rw [if_neg hne]
    exact h.done q hq
  · unfold up
    rw [if_neg hne]
    exact h.fresh q hq hq2 hne
  · have e1 : up b p true p = true := by unfold up; rw [if_pos rfl]
    rw [sumA_take ht, if_pos ha, e1]
    exact ⟨(decide_eq_true (by omega)).symm, h.now.low, h.now.high, fun hle => by omega⟩
theorem Walking.fine {n : Int} {l : List Nd} {to : Int} {o : List Int} {k p i : Nat} {f : Nat → Int} {b : Nat → Bool} {t : Nd} (h : Walking n l to o k p i f b) (hk : (p : Int) ∉ o.take k) (ht : l[i]? = some t) (ha : t.a = (p : Int)) (hs : one to p + sumA p (nw n l to) (l.take i) + nw n l to t.b ≤ mi) : Walking n l to o k p (i + 1) (up f p (f p + ((nw n l to t.b : Nat) : Int))) (up b p false) := by
  refine ⟨fun q hq => ?_, fun q hq hq2 hne => ?_, ?_⟩
  · have hne : q ≠ p := fun e => hk (by rw [← e]; exact hq)
    unfold up
    rw [if_neg hne, if_neg hne]
    exact h.done q hq
  · unfold up
    rw [if_neg hne, if_neg hne]
    exact h.fresh q hq hq2 hne
  · have e1 : up b p false p = false := by unfold up; rw [if_pos rfl]
    have e2 : up f p (f p + ((nw n l to t.b : Nat) : Int)) p = f p + ((nw n l to t.b : Nat) : Int) := by unfold up; rw [if_pos rfl]
    have e3 := h.now.is (by omega)
    have hmi : ((mi : Nat) : Int) = 9223372036854775807 := rfl
    rw [sumA_take ht, if_pos ha, e1, e2, e3]
    exact ⟨(decide_eq_false (by omega)).symm, by omega, by omega, fun _ => by omega⟩
theorem Walking.end {n : Int} {l : List Nd} {to : Int} {o : List Int} {k p : Nat} {f : Nat → Int} {b : Nat → Bool} (h : Walking n l to o k p l.length f b) (hp : o[k]? = some (p : Int)) (he : ordE n l = 0) (h1 : 1 ≤ (p : Int)) (h2 : (p : Int) ≤ n) : Walked n l to o (k + 1) f b := by
  have hn := h.now
  rw [List.take_length, ← nw_rec he h1 h2] at hn
  refine ⟨fun q hq => ?_, fun q hq hq2 => ?_⟩
  · rw [List.take_add_one, hp] at hq
    rcases List.mem_append.1 hq with hq | hq
    · exact h.done q hq
    · have : (q : Int) = (p : Int) := by simpa using hq
      have : q = p := by omega
      subst this
      exact hn
  · rw [List.take_add_one, hp] at hq2
    have h3 : (q : Int) ∉ o.take k := fun h => hq2 (by simp [h])
    have h4 : q ≠ p := fun e => hq2 (by simp [e])
    exact h.fresh q hq h3 h4
end Go.Proofs.Ytghjcefigdkhnaa.Graph
