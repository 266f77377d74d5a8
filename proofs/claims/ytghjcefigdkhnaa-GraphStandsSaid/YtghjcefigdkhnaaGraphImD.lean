/- What lies in memory while a closure that calls itself goes through the nodes; what Below's closure finds. -/
import Derived.Test.YtghjcefigdkhnaaGraphImC
import Derived.Test.YtghjcefigdkhnaaGraphRound
namespace Go.Proofs.Ytghjcefigdkhnaa.Graph.Im
open Go.RowKit Go.Lib IRows

/-- All but two blocks that were there are as they were. -/
structure Gr (W W' : World) (P Q : Nat) : Prop where
  os : W'.os = W.os
  tape : W'.tape = W.tape
  output : W'.output = W.output
  size : W.heap.size ≤ W'.heap.size
  block : ∀ k, k < W.heap.size → k ≠ P → k ≠ Q → W'.heap[k]? = W.heap[k]?
theorem Gr.refl (W : World) (P Q : Nat) : Gr W W P Q := ⟨rfl, rfl, rfl, Nat.le_refl _, fun _ _ _ _ => rfl⟩
theorem Gr.trans {a b c : World} {P Q : Nat} (h : Gr a b P Q) (k : Gr b c P Q) : Gr a c P Q :=
  ⟨k.os.trans h.os, k.tape.trans h.tape, k.output.trans h.output, Nat.le_trans h.size k.size, fun i hi h1 h2 => (k.block i (Nat.lt_of_lt_of_le hi h.size) h1 h2).trans (h.block i hi h1 h2)⟩
theorem gr_below {W W' : World} {P Q : Nat} (h : Below W.heap.size W W') : Gr W W' P Q := ⟨h.os, h.tape, h.output, h.size, fun k hk _ _ => h.block k hk⟩
theorem gr_setP (W : World) (P Q k : Nat) (v : Value) : Gr W (W.setCell ⟨P, k, none⟩ v) P Q := ⟨rfl, rfl, rfl, by simp [World.setCell], fun i _ h1 _ => Below.heap_setCell W ⟨P, k, none⟩ v i h1⟩
theorem gr_setQ (W : World) (P Q k : Nat) (v : Value) : Gr W (W.setCell ⟨Q, k, none⟩ v) P Q := ⟨rfl, rfl, rfl, by simp [World.setCell], fun i _ _ h2 => Below.heap_setCell W ⟨Q, k, none⟩ v i h2⟩
theorem gr_drew (W : World) (P Q : Nat) : Gr W W.drew P Q := gr_below (Below.refl _ W).drew
theorem Gr.cell {W W' : World} {P Q : Nat} (h : Gr W W' P Q) {b : Nat} (o : Nat) (hb : b < W.heap.size) (h1 : b ≠ P) (h2 : b ≠ Q) : W'.cell? ⟨b, o, none⟩ = W.cell? ⟨b, o, none⟩ := by
  have e := h.block b hb h1 h2
  unfold World.cell?
  simp only [e]
/-- A row of 65 bools of the call's own. -/
def RB (W : World) (A : Nat) (b : Nat → Bool) : Prop := ∀ i, i < 65 → W.cell? ⟨A, i, none⟩ = some (.bool (b i)) ∧ W.frozen? ⟨A, i, none⟩ = false
theorem RB.under {W W' : World} {A : Nat} {f : Nat → Bool} (h : RB W A f) (hA : A < W.heap.size) (hb : Below W.heap.size W W') : RB W' A f := fun i hi => ⟨((bcell hb).1 A i hA).trans (h i hi).1, ((bcell hb).2 A i hA).trans (h i hi).2⟩
theorem RB.set {W : World} {A : Nat} {f : Nat → Bool} (h : RB W A f) (k : Nat) (v : Bool) : RB (W.setCell ⟨A, k, none⟩ (.bool v)) A (up f k v) := fun i hi => by
  rw [World.frozen?_setCell]
  refine ⟨?_, (h i hi).2⟩
  unfold up
  by_cases e : i = k
  · subst e
    rw [if_pos rfl, World.cell?_setCell_same (h := (h i hi).1)]
  · rw [if_neg e, World.cell?_setCell_other (h := addr_ne (.inr fun x => e x.symm))]
    exact (h i hi).1
theorem RB.other {W : World} {A B : Nat} {f : Nat → Bool} (h : RB W A f) (hn : A ≠ B) (k : Nat) (v : Value) : RB (W.setCell ⟨B, k, none⟩ v) A f := fun i hi => by
  rw [World.frozen?_setCell, World.cell?_setCell_other (h := addr_ne (.inl hn.symm))]
  exact h i hi
theorem RI.other {W : World} {A B : Nat} {f : Nat → Int} (h : RI W A f) (hn : A ≠ B) (k : Nat) (v : Value) : RI (W.setCell ⟨B, k, none⟩ v) A f := fun i hi => by
  rw [World.frozen?_setCell, World.cell?_setCell_other (h := addr_ne (.inl hn.symm))]
  exact h i hi
/-- The captured boxes: the needs' at C, the closure's own at D; what it turns lies at P and Q. -/
structure Ev (w0 W : World) (C D P Q : Nat) (s f : Value) : Prop where
  below : Below w0.heap.size w0 W
  loP : w0.heap.size ≤ P
  loQ : w0.heap.size ≤ Q
  hiP : P < W.heap.size
  hiQ : Q < W.heap.size
  hiC : C < W.heap.size
  hiD : D < W.heap.size
  neC : C ≠ P ∧ C ≠ Q
  neD : D ≠ P ∧ D ≠ Q
  atC : W.cell? ⟨C, 0, none⟩ = some s
  atD : W.cell? ⟨D, 0, none⟩ = some f
theorem Ev.gr {w0 W W' : World} {C D P Q : Nat} {s f : Value} (h : Ev w0 W C D P Q s f) (g : Gr W W' P Q) : Ev w0 W' C D P Q s f := by
  have hz := g.size
  have hw := h.below.size
  refine ⟨⟨g.os.trans h.below.os, g.tape.trans h.below.tape, g.output.trans h.below.output, Nat.le_trans hw hz, fun k hk => (g.block k (by omega) (by have := h.loP; omega) (by have := h.loQ; omega)).trans (h.below.block k hk)⟩, h.loP, h.loQ, by have := h.hiP; omega, by have := h.hiQ; omega, by have := h.hiC; omega, by have := h.hiD; omega, h.neC, h.neD, (g.cell 0 h.hiC h.neC.1 h.neC.2).trans h.atC, (g.cell 0 h.hiD h.neD.1 h.neD.2).trans h.atD⟩
theorem Ev.under {w0 W W' : World} {C D P Q : Nat} {s f : Value} (h : Ev w0 W C D P Q s f) (hb : Below W.heap.size W W') : Ev w0 W' C D P Q s f := h.gr (gr_below hb)
/-- A closure's own box, as it is laid: nothing first, then what is stored. -/
theorem box_fn (W : World) (T : TypeId) : ∃ D Y, W.heap.size = D ∧ W.alloc (.cells #[.nilFunc] T) = Y ∧ Y.cell? ⟨D, 0, none⟩ = some .nilFunc ∧ Y.frozen? ⟨D, 0, none⟩ = false ∧ Hid (Below W.heap.size W Y ∧ Y.heap.size = D + 1) := by
  have hb := heap_alloc_new W (.cells #[.nilFunc] T)
  exact ⟨_, _, rfl, rfl, cell_block hb rfl, free_block 0 hb, Lib.hid ⟨(Below.refl _ _).alloc (Nat.le_refl _) _, by simp⟩⟩
theorem box_row (W : World) (Z : Array Value) (T : TypeId) : ∃ B Y, W.heap.size = B ∧ W.alloc (.cells Z T) = Y ∧ Hid (Below W.heap.size W Y ∧ Y.heap.size = B + 1 ∧ (∀ i v, Z[i]? = some v → Y.cell? ⟨B, i, none⟩ = some v ∧ Y.frozen? ⟨B, i, none⟩ = false)) := by
  have hb := heap_alloc_new W (.cells Z T)
  exact ⟨_, _, rfl, rfl, Lib.hid ⟨(Below.refl _ _).alloc (Nat.le_refl _) _, by simp, fun i v h => ⟨cell_block hb h, free_block i hb⟩⟩⟩
theorem run_fn (P : Program) (W : World) (D : Nat) (v : Value) (hv : v.oneCell' = true) (n0 : W.cell? ⟨D, 0, none⟩ = some .nilFunc) (n1 : W.frozen? ⟨D, 0, none⟩ = false) : (store ⟨D, 0, none⟩ v).run P W = .ok () (W.setCell ⟨D, 0, none⟩ v) := by
  rw [run_store _ _ _ _ _ hv, n0, n1]
  rfl
theorem set_below (W : World) (D k : Nat) (v : Value) : Below D W (W.setCell ⟨D, k, none⟩ v) := (Below.refl _ W).setCell (p := ⟨D, k, none⟩) (Nat.le_refl _) v
/-! what Below's closure finds -/
/-- How many were not seen. -/
def cnt (b : Nat → Bool) : Nat := (List.range 65).countP fun k => !b k
theorem cnt_up {b : Nat → Bool} {k : Nat} (hk : k < 65) (h : b k = false) : cnt (up b k true) < cnt b := by
  have key : ∀ n, k < n → (List.range n).countP (fun i => !up b k true i) < (List.range n).countP fun i => !b i := by
    have le : ∀ n, (List.range n).countP (fun i => !up b k true i) ≤ (List.range n).countP fun i => !b i := fun n => List.countP_mono_left fun i _ hi => by
      unfold up at hi
      by_cases e : i = k
      · simp [e] at hi
      · simpa [e] using hi
    intro n
    induction n with
    | zero => intro h; omega
    | succ n ih =>
      intro hn
      rw [List.range_succ, List.countP_append, List.countP_append]
      by_cases e : n = k
      · have h1 : (List.countP (fun i => !up b k true i) [n]) = 0 := by simp [up, e]
        have h2 : (List.countP (fun i => !b i) [n]) = 1 := by simp [e, h]
        have := le n
        omega
      · have h1 : (List.countP (fun i => !up b k true i) [n]) = List.countP (fun i => !b i) [n] := by simp [up, e]
        have := ih (by omega)
        omega
  exact key 65 hk
theorem cnt_mono {b b' : Nat → Bool} (h : ∀ k, b k = true → b' k = true) : cnt b' ≤ cnt b := List.countP_mono_left fun i _ hi => by
  cases e : b i with
  | false => rfl
  | true =>
    rw [h i e] at hi
    cases hi
/-- All that one needs is seen. -/
def Shut (l : List Nd) (x : Int) (b : Nat → Bool) : Prop := ∀ t ∈ l, t.a = x → b t.b.toNat = true
theorem Shut.more {l : List Nd} {x : Int} {b b' : Nat → Bool} (h : Shut l x b) (k : ∀ k, b k = true → b' k = true) : Shut l x b' := fun t ht e => k _ (h t ht e)
/-- What was seen more from a node on. -/
structure Saw (l : List Nd) (x : Int) (b b' : Nat → Bool) : Prop where
  more : ∀ k, b k = true → b' k = true
  led : ∀ k, b' k = true → b k = true ∨ Lead l x (k : Int)
  shut : ∀ k : Nat, b' k = true → b k = true ∨ Shut l (k : Int) b'
theorem saw_refl (l : List Nd) (x : Int) (b : Nat → Bool) : Saw l x b b := ⟨fun _ h => h, fun _ h => .inl h, fun _ h => .inl h⟩
/-- One that was not seen is seen, and all from there. -/
theorem Saw.step {l : List Nd} {x : Int} {b b1 b2 : Nat → Bool} {t : Nd} {y : Nat} (h : Saw l x b b1) (ht : t ∈ l) (ha : t.a = x) (hb : t.b = (y : Int)) (k : Saw l (y : Int) (up b1 y true) b2) (ks : Shut l (y : Int) b2) : Saw l x b b2 ∧ b2 y = true := by
  have up1 : ∀ k, b1 k = true → up b1 y true k = true := fun k hk => by
    unfold up
    split
    · rfl
    · exact hk
  have hy : b2 y = true := k.more y (by unfold up; rw [if_pos rfl])
  have hxy : Lead l x (y : Int) := by rw [← hb]; exact .one ht ha
  refine ⟨⟨fun i hi => k.more i (up1 i (h.more i hi)), fun i hi => ?_, fun i hi => ?_⟩, hy⟩
  · rcases k.led i hi with h1 | h1
    · unfold up at h1
      by_cases e : i = y
      · right
        rw [e]
        exact hxy
      · rw [if_neg e] at h1
        exact h.led i h1
    · exact .inr (hxy.trans h1)
  · rcases k.shut i hi with h1 | h1
    · unfold up at h1
      by_cases e : i = y
      · right
        rw [e]
        exact ks
      · rw [if_neg e] at h1
        rcases h.shut i h1 with h2 | h2
        · exact .inl h2
        · exact .inr (h2.more fun j hj => k.more j (up1 j hj))
    · exact .inr h1
/-- What is seen from nothing on is what needs lead to. -/
theorem saw_all {l : List Nd} {x : Int} {b : Nat → Bool} (h : Saw l x (fun _ => false) b) (hs : Shut l x b) (hp : ∀ t ∈ l, 0 ≤ t.b) (k : Nat) : b k = true ↔ Lead l x (k : Int) := by
  constructor
  · intro hk
    rcases h.led k hk with h1 | h1
    · cases h1
    · exact h1
  · intro hk
    have key : ∀ z, Lead l x z → b z.toNat = true := by
      intro z hz
      induction hz with
      | one ht e => exact hs _ ht e
      | more hl ht e ih =>
        rename_i t y
        have hy0 : 0 ≤ y := by
          cases hl with
          | one h1 _ => exact hp _ h1
          | more _ h1 _ => exact hp _ h1
        rcases h.shut y.toNat ih with h1 | h1
        · cases h1
        · exact h1 t ht (by rw [e]; omega)
    have := key _ hk
    simpa using this
end Go.Proofs.Ytghjcefigdkhnaa.Graph.Im
