/- What lies in memory while a closure that calls itself goes through the nodes; what Below's closure finds. Whoever needs stands deeper; said without a program. How deep a node stands, by what it needs; what Deep's closure remembers: the mathematics. -/
import Derived.Test.YtdbhdlgoecpeaaaZGraphImB
import Derived.Test.YtdbhdlgoecpeaaaZFeeImCk
namespace Go.Proofs.Ytdbhdlgoecpeaaa.Graph.Im
open Go.RowKit Go.Lib IRows

/-- All but two blocks that were there are as they were. -/
structure Gr (W W' : World) (P Q : Nat) : Prop where
  os : W'.os = W.os
  tape : W'.tape = W.tape
  output : W'.output = W.output
  size : W.heap.size ≤ W'.heap.size
  block : ∀ k, k < W.heap.size → k ≠ P → k ≠ Q → W'.heap[k]? = W.heap[k]?
theorem Gr.refl (W : World) (P Q : Nat) : Gr W W P Q := ⟨rfl, rfl, rfl, Nat.le_refl _, fun _ _ _ _ => rfl⟩
theorem Gr.trans {a b c : World} {P Q : Nat} (h : Gr a b P Q) (k : Gr b c P Q) : Gr a c P Q :=
  ⟨k.os.trans h.os, k.tape.trans h.tape, k.output.trans h.output, Nat.le_trans h.size k.size, fun i hi h1 h2 => (k.block i (Nat.lt_of_lt_of_le hi h.size) h1 h2).trans (h.block i hi h1 h2)⟩
theorem gr_below {W W' : World} {P Q : Nat} (h : Below W.heap.size W W') : Gr W W' P Q := ⟨h.os, h.tape, h.output, h.size, fun k hk _ _ => h.block k hk⟩
theorem gr_setP (W : World) (P Q k : Nat) (v : Value) : Gr W (W.setCell ⟨P, k, none⟩ v) P Q := ⟨rfl, rfl, rfl, by simp [World.setCell], fun i _ h1 _ => Below.heap_setCell W ⟨P, k, none⟩ v i h1⟩
theorem gr_setQ (W : World) (P Q k : Nat) (v : Value) : Gr W (W.setCell ⟨Q, k, none⟩ v) P Q := ⟨rfl, rfl, rfl, by simp [World.setCell], fun i _ _ h2 => Below.heap_setCell W ⟨Q, k, none⟩ v i h2⟩
theorem gr_drew (W : World) (P Q : Nat) : Gr W W.drew P Q := gr_below (Below.refl _ W).drew
theorem Gr.cell {W W' : World} {P Q : Nat} (h : Gr W W' P Q) {b : Nat} (o : Nat) (hb : b < W.heap.size) (h1 : b ≠ P) (h2 : b ≠ Q) : W'.cell? ⟨b, o, none⟩ = W.cell? ⟨b, o, none⟩ := by
  have e := h.block b hb h1 h2
  unfold World.cell?
  simp only [e]
/-- A row of 65 bools of the call's own. -/
def RB (W : World) (A : Nat) (b : Nat → Bool) : Prop := ∀ i, i < 65 → W.cell? ⟨A, i, none⟩ = some (.bool (b i)) ∧ W.frozen? ⟨A, i, none⟩ = false
theorem RB.under {W W' : World} {A : Nat} {f : Nat → Bool} (h : RB W A f) (hA : A < W.heap.size) (hb : Below W.heap.size W W') : RB W' A f := fun i hi => ⟨((bcell hb).1 A i hA).trans (h i hi).1, ((bcell hb).2 A i hA).trans (h i hi).2⟩
theorem RB.set {W : World} {A : Nat} {f : Nat → Bool} (h : RB W A f) (k : Nat) (v : Bool) : RB (W.setCell ⟨A, k, none⟩ (.bool v)) A (up f k v) := fun i hi => by
  rw [World.frozen?_setCell]
  refine ⟨?_, (h i hi).2⟩
  unfold up
  by_cases e : i = k
  · subst e
    rw [if_pos rfl, World.cell?_setCell_same (h := (h i hi).1)]
  · rw [if_neg e, World.cell?_setCell_other (h := addr_ne (.inr fun x => e x.symm))]
    exact (h i hi).1
theorem RB.other {W : World} {A B : Nat} {f : Nat → Bool} (h : RB W A f) (hn : A ≠ B) (k : Nat) (v : Value) : RB (W.setCell ⟨B, k, none⟩ v) A f := fun i hi => by
  rw [World.frozen?_setCell, World.cell?_setCell_other (h := addr_ne (.inl hn.symm))]
  exact h i hi
theorem RI.other {W : World} {A B : Nat} {f : Nat → Int} (h : RI W A f) (hn : A ≠ B) (k : Nat) (v : Value) : RI (W.setCell ⟨B, k, none⟩ v) A f := fun i hi => by
  rw [World.frozen?_setCell, World.cell?_setCell_other (h := addr_ne (.inl hn.symm))]
  exact h i hi
/-- The captured boxes: the needs' at C, the closure's own at D; what it turns lies at P and Q. -/
structure Ev (w0 W : World) (C D P Q : Nat) (s f : Value) : Prop where
  below : Below w0.heap.size w0 W
  loP : w0.heap.size ≤ P
  loQ : w0.heap.size ≤ Q
  hiP : P < W.heap.size
  hiQ : Q < W.heap.size
  hiC : C < W.heap.size
  hiD : D < W.heap.size
  neC : C ≠ P ∧ C ≠ Q
  neD : D ≠ P ∧ D ≠ Q
  atC : W.cell? ⟨C, 0, none⟩ = some s
  atD : W.cell? ⟨D, 0, none⟩ = some f
theorem Ev.gr {w0 W W' : World} {C D P Q : Nat} {s f : Value} (h : Ev w0 W C D P Q s f) (g : Gr W W' P Q) : Ev w0 W' C D P Q s f := by
  have hz := g.size
  have hw := h.below.size
  refine ⟨⟨g.os.trans h.below.os, g.tape.trans h.below.tape, g.output.trans h.below.output, Nat.le_trans hw hz, fun k hk => (g.block k (by omega) (by have := h.loP; omega) (by have := h.loQ; omega)).trans (h.below.block k hk)⟩, h.loP, h.loQ, by have := h.hiP; omega, by have := h.hiQ; omega, by have := h.hiC; omega, by have := h.hiD; omega, h.neC, h.neD, (g.cell 0 h.hiC h.neC.1 h.neC.2).trans h.atC, (g.cell 0 h.hiD h.neD.1 h.neD.2).trans h.atD⟩
theorem Ev.under {w0 W W' : World} {C D P Q : Nat} {s f : Value} (h : Ev w0 W C D P Q s f) (hb : Below W.heap.size W W') : Ev w0 W' C D P Q s f := h.gr (gr_below hb)
/-- A closure's own box, as it is laid: nothing first, then what is stored. -/
theorem box_fn (W : World) (T : TypeId) : ∃ D Y, W.heap.size = D ∧ W.alloc (.cells #[.nilFunc] T) = Y ∧ Y.cell? ⟨D, 0, none⟩ = some .nilFunc ∧ Y.frozen? ⟨D, 0, none⟩ = false ∧ Hid (Below W.heap.size W Y ∧ Y.heap.size = D + 1) := by
  have hb := heap_alloc_new W (.cells #[.nilFunc] T)
  exact ⟨_, _, rfl, rfl, cell_block hb rfl, free_block 0 hb, Lib.hid ⟨(Below.refl _ _).alloc (Nat.le_refl _) _, by simp⟩⟩
theorem box_row (W : World) (Z : Array Value) (T : TypeId) : ∃ B Y, W.heap.size = B ∧ W.alloc (.cells Z T) = Y ∧ Hid (Below W.heap.size W Y ∧ Y.heap.size = B + 1 ∧ (∀ i v, Z[i]? = some v → Y.cell? ⟨B, i, none⟩ = some v ∧ Y.frozen? ⟨B, i, none⟩ = false)) := by
  have hb := heap_alloc_new W (.cells Z T)
  exact ⟨_, _, rfl, rfl, Lib.hid ⟨(Below.refl _ _).alloc (Nat.le_refl _) _, by simp, fun i v h => ⟨cell_block hb h, free_block i hb⟩⟩⟩
theorem run_fn (P : Program) (W : World) (D : Nat) (v : Value) (hv : v.oneCell' = true) (n0 : W.cell? ⟨D, 0, none⟩ = some .nilFunc) (n1 : W.frozen? ⟨D, 0, none⟩ = false) : (store ⟨D, 0, none⟩ v).run P W = .ok () (W.setCell ⟨D, 0, none⟩ v) := by
  rw [run_store _ _ _ _ _ hv, n0, n1]
  rfl
theorem set_below (W : World) (D k : Nat) (v : Value) : Below D W (W.setCell ⟨D, k, none⟩ v) := (Below.refl _ W).setCell (p := ⟨D, k, none⟩) (Nat.le_refl _) v
/-! what Below's closure finds -/
/-- How many were not seen. -/
def cnt (b : Nat → Bool) : Nat := (List.range 65).countP fun k => !b k
theorem cnt_up {b : Nat → Bool} {k : Nat} (hk : k < 65) (h : b k = false) : cnt (up b k true) < cnt b := by
  have key : ∀ n, k < n → (List.range n).countP (fun i => !up b k true i) < (List.range n).countP fun i => !b i := by
    have le : ∀ n, (List.range n).countP (fun i => !up b k true i) ≤ (List.range n).countP fun i => !b i := fun n => List.countP_mono_left fun i _ hi => by
      unfold up at hi
      by_cases e : i = k
      · simp [e] at hi
      · simpa [e] using hi
    intro n
    induction n with
    | zero => intro h; omega
    | succ n ih =>
      intro hn
      rw [List.range_succ, List.countP_append, List.countP_append]
      by_cases e : n = k
      · have h1 : (List.countP (fun i => !up b k true i) [n]) = 0 := by simp [up, e]
        have h2 : (List.countP (fun i => !b i) [n]) = 1 := by simp [e, h]
        have := le n
        omega
      · have h1 : (List.countP (fun i => !up b k true i) [n]) = List.countP (fun i => !b i) [n] := by simp [up, e]
        have := ih (by omega)
        omega
  exact key 65 hk
theorem cnt_mono {b b' : Nat → Bool} (h : ∀ k, b k = true → b' k = true) : cnt b' ≤ cnt b := List.countP_mono_left fun i _ hi => by
  cases e : b i with
  | false => rfl
  | true =>
    rw [h i e] at hi
    cases hi
/-- All that one needs is seen. -/
def Shut (l : List Nd) (x : Int) (b : Nat → Bool) : Prop := ∀ t ∈ l, t.a = x → b t.b.toNat = true
theorem Shut.more {l : List Nd} {x : Int} {b b' : Nat → Bool} (h : Shut l x b) (k : ∀ k, b k = true → b' k = true) : Shut l x b' := fun t ht e => k _ (h t ht e)
/-- What was seen more from a node on. -/
structure Saw (l : List Nd) (x : Int) (b b' : Nat → Bool) : Prop where
  more : ∀ k, b k = true → b' k = true
  led : ∀ k, b' k = true → b k = true ∨ Lead l x (k : Int)
  shut : ∀ k : Nat, b' k = true → b k = true ∨ Shut l (k : Int) b'
theorem saw_refl (l : List Nd) (x : Int) (b : Nat → Bool) : Saw l x b b := ⟨fun _ h => h, fun _ h => .inl h, fun _ h => .inl h⟩
/-- One that was not seen is seen, and all from there. -/
theorem Saw.step {l : List Nd} {x : Int} {b b1 b2 : Nat → Bool} {t : Nd} {y : Nat} (h : Saw l x b b1) (ht : t ∈ l) (ha : t.a = x) (hb : t.b = (y : Int)) (k : Saw l (y : Int) (up b1 y true) b2) (ks : Shut l (y : Int) b2) : Saw l x b b2 ∧ b2 y = true := by
  have up1 : ∀ k, b1 k = true → up b1 y true k = true := fun k hk => by
    unfold up
    split
    · rfl
    · exact hk
  have hy : b2 y = true := k.more y (by unfold up; rw [if_pos rfl])
  have hxy : Lead l x (y : Int) := by rw [← hb]; exact .one ht ha
  refine ⟨⟨fun i hi => k.more i (up1 i (h.more i hi)), fun i hi => ?_, fun i hi => ?_⟩, hy⟩
  · rcases k.led i hi with h1 | h1
    · unfold up at h1
      by_cases e : i = y
      · right
        rw [e]
        exact hxy
      · rw [if_neg e] at h1
        exact h.led i h1
    · exact .inr (hxy.trans h1)
  · rcases k.shut i hi with h1 | h1
    · unfold up at h1
      by_cases e : i = y
      · right
        rw [e]
        exact ks
      · rw [if_neg e] at h1
        rcases h.shut i h1 with h2 | h2
        · exact .inl h2
        · exact .inr (h2.more fun j hj => k.more j (up1 j hj))
    · exact .inr h1
/-- What is seen from nothing on is what needs lead to. -/
theorem saw_all {l : List Nd} {x : Int} {b : Nat → Bool} (h : Saw l x (fun _ => false) b) (hs : Shut l x b) (hp : ∀ t ∈ l, 0 ≤ t.b) (k : Nat) : b k = true ↔ Lead l x (k : Int) := by
  constructor
  · intro hk
    rcases h.led k hk with h1 | h1
    · cases h1
    · exact h1
  · intro hk
    have key : ∀ z, Lead l x z → b z.toNat = true := by
      intro z hz
      induction hz with
      | one ht e => exact hs _ ht e
      | more hl ht e ih =>
        rename_i t y
        have hy0 : 0 ≤ y := by
          cases hl with
          | one h1 _ => exact hp _ h1
          | more _ h1 _ => exact hp _ h1
        rcases h.shut y.toNat ih with h1 | h1
        · cases h1
        · exact h1 t ht (by rw [e]; omega)
    have := key _ hk
    simpa using this
end Go.Proofs.Ytdbhdlgoecpeaaa.Graph.Im
namespace Go.Proofs.Ytdbhdlgoecpeaaa.Graph

/-- How deep a node stands. -/
def dp (D : List Int) (x : Int) : Int := D.getD (x - 1).toNat 0
theorem dp_set {D : List Int} {x y M : Int} (hx : 1 ≤ x) (hy : 1 ≤ y) (h : y ≠ x) : dp (D.set (x - 1).toNat M) y = dp D y := by
  unfold dp
  simp only [List.getD_eq_getElem?_getD]
  rw [List.getElem?_set_ne (by omega)]
theorem dp_here {D : List Int} {x M : Int} (hl : (x - 1).toNat < D.length) : dp (D.set (x - 1).toNat M) x = M := by
  unfold dp
  simp only [List.getD_eq_getElem?_getD]
  rw [List.getElem?_set_self hl]
  rfl
theorem stepD_len (x : Int) (D : List Int) (t : Nd) : (stepD x D t).length = D.length := by
  unfold stepD
  split <;> simp
theorem stepD_other {x y : Int} {D : List Int} {t : Nd} (hx : 1 ≤ x) (hy : 1 ≤ y) (h : y ≠ x) : dp (stepD x D t) y = dp D y := by
  unfold stepD
  split
  · exact dp_set hx hy h
  · rfl
theorem stepD_up {x : Int} {D : List Int} {t : Nd} (hl : (x - 1).toNat < D.length) : dp D x ≤ dp (stepD x D t) x ∧ (t.a = x → dp D t.b + 1 ≤ dp (stepD x D t) x) := by
  unfold stepD
  split
  · rw [dp_here hl]
    exact ⟨Int.le_max_left _ _, fun _ => Int.le_max_right _ _⟩
  · rename_i h
    exact ⟨Int.le_refl _, fun e => absurd e h⟩
theorem rowD_len (x : Int) : ∀ (l : List Nd) (D : List Int), (rowD x l D).length = D.length
  | [], _ => rfl
  | t :: l, D => by
    show (rowD x l (stepD x D t)).length = _
    rw [rowD_len x l, stepD_len]
theorem rowD_other {x y : Int} (hx : 1 ≤ x) (hy : 1 ≤ y) (h : y ≠ x) : ∀ (l : List Nd) (D : List Int), dp (rowD x l D) y = dp D y
  | [], _ => rfl
  | t :: l, D => by
    show dp (rowD x l (stepD x D t)) y = _
    rw [rowD_other hx hy h l, stepD_other hx hy h]
theorem rowD_up {x : Int} (hx : 1 ≤ x) : ∀ (l : List Nd) (D : List Int), (x - 1).toNat < D.length → dp D x ≤ dp (rowD x l D) x ∧ ∀ t ∈ l, t.a = x → t.b ≠ x → 1 ≤ t.b → dp D t.b + 1 ≤ dp (rowD x l D) x
  | [], _, _ => ⟨Int.le_refl _, fun t h => by simp at h⟩
  | u :: l, D, hl => by
    obtain ⟨h1, h2⟩ := stepD_up (t := u) hl
    obtain ⟨r1, r2⟩ := rowD_up hx l (stepD x D u) (by rw [stepD_len]; exact hl)
    refine ⟨Int.le_trans h1 r1, fun t ht e hb hb1 => ?_⟩
    rcases List.mem_cons.1 ht with rfl | ht
    · exact Int.le_trans (h2 e) r1
    · have := r2 t ht e hb hb1
      rw [stepD_other hx hb1 hb] at this
      exact this
theorem deepD_len (l : List Nd) : ∀ (o D : List Int), (deepD l o D).length = D.length
  | [], _ => rfl
  | x :: o, D => by
    show (deepD l o (rowD x l D)).length = _
    rw [deepD_len l o, rowD_len]
theorem deepD_append (l : List Nd) : ∀ (o q D : List Int), deepD l (o ++ q) D = deepD l q (deepD l o D)
  | [], _, _ => rfl
  | x :: o, q, D => deepD_append l o q (rowD x l D)
theorem deepD_other {l : List Nd} {y : Int} (hy : 1 ≤ y) : ∀ (o D : List Int), (∀ x ∈ o, 1 ≤ x) → y ∉ o → dp (deepD l o D) y = dp D y
  | [], _, _, _ => rfl
  | x :: o, D, hp, hn => by
    show dp (deepD l o (rowD x l D)) y = _
    rw [deepD_other hy o _ (fun z hz => hp z (List.mem_cons_of_mem _ hz)) (fun h => hn (List.mem_cons_of_mem _ h)), rowD_other (hp x (by simp)) hy (fun e => hn (by rw [e]; simp))]
/-- Whoever needs stands deeper. -/
theorem deeper {n : Int} {l : List Nd} (hm : May n l) (he : ordE n l = 0) {t : Nd} (ht : t ∈ l) : dp (degV n l) t.b < dp (degV n l) t.a := by
  obtain ⟨_, hs, hl⟩ := ord_zero he
  have ha := (hm.2.2 t ht).1
  have hb := (hm.2.2 t ht).2
  obtain ⟨i, hi, e⟩ := List.mem_iff_getElem.1 (stands_all hs hl ha.1 ha.2)
  have h1 := hs.behind i t.a (by rw [List.getElem?_eq_getElem hi, e]) t ht rfl
  have hsplit : ordV n l = (ordV n l).take i ++ t.a :: (ordV n l).drop (i + 1) := by
    conv => lhs; rw [← List.take_append_drop i (ordV n l), List.drop_eq_getElem_cons hi, e]
  have hnd := hs.nodup
  rw [hsplit, List.nodup_append, List.nodup_cons] at hnd
  obtain ⟨_, ⟨n1, _⟩, n3⟩ := hnd
  have hne : t.b ≠ t.a := fun e2 => n3 t.b h1 t.a (by simp) e2
  have hnb : t.b ∉ (ordV n l).drop (i + 1) := fun h => n3 t.b h1 t.b (List.mem_cons_of_mem _ h) rfl
  have hpos : ∀ x ∈ (ordV n l).drop (i + 1), 1 ≤ x := fun x hx => (hs.node x (List.mem_of_mem_drop hx)).1
  have hd : degV n l = deepD l (ordV n l) (List.replicate n.toNat 0) := by unfold degV; rw [if_pos he]
  rw [hd, hsplit, deepD_append]
  generalize hD : deepD l ((ordV n l).take i) (List.replicate n.toNat 0) = D
  have hDl : D.length = n.toNat := by rw [← hD, deepD_len]; simp
  show dp (deepD l ((ordV n l).drop (i + 1)) (rowD t.a l D)) t.b < dp (deepD l ((ordV n l).drop (i + 1)) (rowD t.a l D)) t.a
  rw [deepD_other hb.1 _ _ hpos hnb, deepD_other ha.1 _ _ hpos n1, rowD_other ha.1 hb.1 hne]
  have := (rowD_up ha.1 l D (by omega)).2 t ht rfl hne hb.1
  omega
theorem degV_len {n : Int} {l : List Nd} (he : ordE n l = 0) : (degV n l).length = n.toNat := by
  unfold degV
  rw [if_pos he, deepD_len]
  simp
end Go.Proofs.Ytdbhdlgoecpeaaa.Graph
namespace Go.Proofs.Ytdbhdlgoecpeaaa.Graph.Im
open Go.RowKit Go.Lib IRows

/-- One more than the greatest of those that a node needs; 0, if it needs nothing. -/
def mxA (x : Int) (g : Int → Int) : List Nd → Int
  | [] => 0
  | t :: l => if t.a = x then max (g t.b + 1) (mxA x g l) else mxA x g l
theorem mxA_low (x : Int) (g : Int → Int) : ∀ l, 0 ≤ mxA x g l
  | [] => Int.le_refl _
  | t :: l => by
    have := mxA_low x g l
    unfold mxA
    split <;> omega
theorem mxA_append (x : Int) (g : Int → Int) : ∀ l k, mxA x g (l ++ k) = max (mxA x g l) (mxA x g k)
  | [], k => by
    have := mxA_low x g k
    show mxA x g k = max 0 (mxA x g k)
    omega
  | t :: l, k => by
    have := mxA_append x g l k
    show (if t.a = x then max (g t.b + 1) (mxA x g (l ++ k)) else mxA x g (l ++ k)) = max (if t.a = x then max (g t.b + 1) (mxA x g l) else mxA x g l) (mxA x g k)
    split <;> omega
theorem mxA_yes {x : Int} {g : Int → Int} {l : List Nd} {i : Nat} {t : Nd} (h : l[i]? = some t) (ha : t.a = x) (h0 : 0 ≤ g t.b) : mxA x g (l.take (i + 1)) = max (mxA x g (l.take i)) (g t.b + 1) := by
  rw [List.take_add_one, h, mxA_append]
  simp [mxA, ha]
  omega
theorem mxA_no {x : Int} {g : Int → Int} {l : List Nd} {i : Nat} {t : Nd} (h : l[i]? = some t) (ha : t.a ≠ x) : mxA x g (l.take (i + 1)) = mxA x g (l.take i) := by
  have := mxA_low x g (l.take i)
  rw [List.take_add_one, h, mxA_append]
  simp [mxA, ha]
  omega
theorem mxA_congr {x : Int} {g h : Int → Int} : ∀ {l : List Nd}, (∀ t ∈ l, t.a = x → g t.b = h t.b) → mxA x g l = mxA x h l
  | [], _ => rfl
  | t :: l, hh => by
    unfold mxA
    rw [mxA_congr (l := l) fun u hu => hh u (by simp [hu])]
    by_cases e : t.a = x
    · rw [if_pos e, if_pos e, hh t (by simp) e]
    · rw [if_neg e, if_neg e]
theorem mxA_high {x : Int} {g : Int → Int} {M : Int} (hM : 0 ≤ M) : ∀ {l : List Nd}, (∀ t ∈ l, t.a = x → g t.b + 1 ≤ M) → mxA x g l ≤ M
  | [], _ => hM
  | t :: l, hh => by
    have := mxA_high hM (l := l) fun u hu => hh u (by simp [hu])
    unfold mxA
    split
    · have := hh t (by simp) ‹_›
      omega
    · exact this
theorem rowD_at {x : Int} (hx : 1 ≤ x) : ∀ (l : List Nd) (D : List Int), (x - 1).toNat < D.length → 0 ≤ dp D x → (∀ t ∈ l, t.a = x → t.b ≠ x ∧ 1 ≤ t.b) → dp (rowD x l D) x = max (dp D x) (mxA x (dp D) l)
  | [], D, _, h0, _ => by
    show dp D x = max (dp D x) 0
    omega
  | t :: l, D, hl, h0, hn => by
    show dp (rowD x l (stepD x D t)) x = _
    have hup := (stepD_up (t := t) hl).1
    have hc : mxA x (dp (stepD x D t)) l = mxA x (dp D) l := mxA_congr fun u hu e => stepD_other hx (hn u (by simp [hu]) e).2 (hn u (by simp [hu]) e).1
    rw [rowD_at hx l _ (by rw [stepD_len]; exact hl) (by omega) (fun u hu => hn u (by simp [hu])), hc]
    by_cases e : t.a = x
    · have h1 : dp (stepD x D t) x = max (dp D x) (dp D t.b + 1) := by
        unfold stepD
        rw [if_pos e, dp_here hl]
        rfl
      have h2 : mxA x (dp D) (t :: l) = max (dp D t.b + 1) (mxA x (dp D) l) := by
        conv => lhs; unfold mxA
        rw [if_pos e]
      rw [h1, h2]
      omega
    · have h1 : stepD x D t = D := by
        unfold stepD
        rw [if_neg e]
      rw [h1]
      conv => rhs; unfold mxA
      rw [if_neg e]
theorem dp_zeros (n : Nat) (x : Int) : dp (List.replicate n 0) x = 0 := by
  unfold dp
  rw [List.getD_eq_getElem?_getD]
  by_cases h : (x - 1).toNat < n
  · rw [List.getElem?_replicate, if_pos h]
    rfl
  · rw [List.getElem?_replicate, if_neg h]
    rfl
/-- A node stands one deeper than the deepest that it needs. -/
theorem deg_rec {n : Int} {l : List Nd} {x : Int} (he : ordE n l = 0) (h1 : 1 ≤ x) (h2 : x ≤ n) : dp (degV n l) x = mxA x (dp (degV n l)) l := by
  obtain ⟨hm, hs, hl⟩ := ord_zero he
  obtain ⟨i, hi, e⟩ := List.mem_iff_getElem.1 (stands_all hs hl h1 h2)
  have hsplit : ordV n l = (ordV n l).take i ++ x :: (ordV n l).drop (i + 1) := by
    conv => lhs; rw [← List.take_append_drop i (ordV n l), List.drop_eq_getElem_cons hi, e]
  have hnd := hs.nodup
  rw [hsplit, List.nodup_append, List.nodup_cons] at hnd
  obtain ⟨_, ⟨n1, _⟩, n3⟩ := hnd
  have hnx : x ∉ (ordV n l).take i := fun h => n3 x h x (by simp) rfl
  have hpos : ∀ y ∈ (ordV n l).drop (i + 1), 1 ≤ y := fun y hy => (hs.node y (List.mem_of_mem_drop hy)).1
  have hpre : ∀ y ∈ (ordV n l).take i, 1 ≤ y := fun y hy => (hs.node y (List.mem_of_mem_take hy)).1
  have hd : degV n l = deepD l (ordV n l) (List.replicate n.toNat 0) := by unfold degV; rw [if_pos he]
  have hneed : ∀ t ∈ l, t.a = x → t.b ≠ x ∧ 1 ≤ t.b ∧ t.b ∉ (ordV n l).drop (i + 1) := fun t ht ea => by
    have hb := hs.behind i x (by rw [List.getElem?_eq_getElem hi, e]) t ht ea
    exact ⟨fun e2 => n3 t.b hb x (by simp) e2, (hm.2.2 t ht).2.1, fun h => n3 t.b hb t.b (List.mem_cons_of_mem _ h) rfl⟩
  generalize hD : deepD l ((ordV n l).take i) (List.replicate n.toNat 0) = D
  have hDl : D.length = n.toNat := by rw [← hD, deepD_len]; simp
  have h0 : dp D x = 0 := by rw [← hD, deepD_other h1 _ _ hpre hnx, dp_zeros]
  have hfin : degV n l = deepD l ((ordV n l).drop (i + 1)) (rowD x l D) := by
    rw [hd]
    conv => lhs; rw [hsplit]
    rw [deepD_append, hD]
    rfl
  have e1 : dp (degV n l) x = mxA x (dp D) l := by
    rw [hfin, deepD_other h1 _ _ hpos n1, rowD_at h1 l D (by omega) (by omega) (fun t ht ea => ⟨(hneed t ht ea).1, (hneed t ht ea).2.1⟩), h0]
    have := mxA_low x (dp D) l
    omega
  rw [e1]
  refine mxA_congr fun t ht ea => ?_
  obtain ⟨b1, b2, b3⟩ := hneed t ht ea
  rw [hfin, deepD_other b2 _ _ hpos b3, rowD_other h1 b2 b1]
theorem deg_b {n : Int} {l : List Nd} (he : ordE n l = 0) : ∀ (i : Nat) (x : Int), (ordV n l)[i]? = some x → 0 ≤ dp (degV n l) x ∧ dp (degV n l) x ≤ i := by
  obtain ⟨hm, hs, hl⟩ := ord_zero he
  intro i
  induction i using Nat.strongRecOn with
  | _ i ih =>
    intro x hx
    have hb := hs.node x (List.mem_of_getElem? hx)
    rw [deg_rec he hb.1 hb.2]
    refine ⟨mxA_low _ _ _, mxA_high (by omega) fun t ht ea => ?_⟩
    have h1 := hs.behind i x hx t ht ea
    obtain ⟨j, hj, hjx⟩ := List.getElem_of_mem h1
    rw [List.length_take] at hj
    rw [List.getElem_take] at hjx
    have := ih j (by omega) t.b (by rw [← hjx]; exact List.getElem?_eq_getElem (by omega))
    omega
theorem deg_64 {n : Int} {l : List Nd} (he : ordE n l = 0) {x : Int} (h1 : 1 ≤ x) (h2 : x ≤ n) : 0 ≤ dp (degV n l) x ∧ dp (degV n l) x ≤ 64 := by
  obtain ⟨hm, hs, hl⟩ := ord_zero he
  obtain ⟨i, hi, e⟩ := List.mem_iff_getElem.1 (stands_all hs hl h1 h2)
  have := deg_b he i x (by rw [List.getElem?_eq_getElem hi, e])
  have := hm.1
  omega
/-- A node itself, and what needs lead to from it. -/
def Rch (l : List Nd) (x y : Int) : Prop := y = x ∨ Lead l x y
theorem rch_lead {l : List Nd} {x y z : Int} (h : Lead l x y) (k : Rch l y z) : Lead l x z := by
  rcases k with rfl | k
  · exact h
  · exact h.trans k
/-- What is remembered of a node: what is known is right, what is not is nothing. -/
structure Gd (g : Int → Int) (b : Nat → Bool) (f : Nat → Int) (k : Nat) : Prop where
  yes : b k = true → f k = g k
  no : b k = false → f k = 0
/-- Behind a node's closure. -/
structure Dug (l : List Nd) (g : Int → Int) (p : Nat) (b : Nat → Bool) (f : Nat → Int) (b' : Nat → Bool) (f' : Nat → Int) : Prop where
  good : ∀ k : Nat, Rch l p k → Gd g b' f' k
  same : ∀ k : Nat, ¬ Rch l p k → b' k = b k ∧ f' k = f k
  here : b' p = true
/-- Within it, so many needs looked at. -/
structure Digs (l : List Nd) (g : Int → Int) (p : Nat) (b : Nat → Bool) (f : Nat → Int) (i : Nat) (b' : Nat → Bool) (f' : Nat → Int) : Prop where
  good : ∀ k : Nat, Lead l p k → Gd g b' f' k
  same : ∀ k : Nat, ¬ Rch l p k → b' k = b k ∧ f' k = f k
  now : b' p = false ∧ f' p = mxA p g (l.take i)
theorem Digs.begin {l : List Nd} {g : Int → Int} {p : Nat} {b : Nat → Bool} {f : Nat → Int} (h : ∀ k : Nat, Rch l p k → Gd g b f k) (hb : b p = false) : Digs l g p b f 0 b f :=
  ⟨fun k hk => h k (.inr hk), fun _ _ => ⟨rfl, rfl⟩, hb, by rw [(h p (.inl rfl)).no hb]; rfl⟩
theorem Digs.skip {l : List Nd} {g : Int → Int} {p i : Nat} {b b' : Nat → Bool} {f f' : Nat → Int} {t : Nd} (h : Digs l g p b f i b' f') (ht : l[i]? = some t) (ha : t.a ≠ (p : Int)) : Digs l g p b f (i + 1) b' f' :=
  ⟨h.good, h.same, h.now.1, by rw [mxA_no ht ha]; exact h.now.2⟩
theorem Digs.pre {l : List Nd} {g : Int → Int} {p i y : Nat} {b b' : Nat → Bool} {f f' : Nat → Int} {t : Nd} (h : Digs l g p b f i b' f') (ht : t ∈ l) (ha : t.a = (p : Int)) (hb : t.b = (y : Int)) : ∀ k : Nat, Rch l y k → Gd g b' f' k := fun k hk =>
  h.good k (rch_lead (by rw [← hb]; exact .one ht ha) hk)
/-- Behind the closure of what it needs. -/
theorem Digs.dug {l : List Nd} {g : Int → Int} {p i y : Nat} {b b1 b2 : Nat → Bool} {f f1 f2 : Nat → Int} {t : Nd} (hno : ∀ x, ¬ Lead l x x) (h : Digs l g p b f i b1 f1) (ht : t ∈ l) (ha : t.a = (p : Int)) (hb : t.b = (y : Int)) (k : Dug l g y b1 f1 b2 f2) : Digs l g p b f i b2 f2 ∧ f2 y = g y := by
  have hpy : Lead l p y := by rw [← hb]; exact .one ht ha
  have hnp : ¬ Rch l y p := fun hr => hno p (rch_lead hpy hr)
  refine ⟨⟨fun z hz => ?_, fun z hz => ?_, ?_⟩, (k.good y (.inl rfl)).yes k.here⟩
  · by_cases e : Rch l y z
    · exact k.good z e
    · obtain ⟨e1, e2⟩ := k.same z e
      have := h.good z hz
      exact ⟨fun hh => by rw [e2]; exact this.yes (by rw [← e1]; exact hh), fun hh => by rw [e2]; exact this.no (by rw [← e1]; exact hh)⟩
  · have hny : ¬ Rch l y z := fun hr => hz (.inr (rch_lead hpy hr))
    obtain ⟨e1, e2⟩ := k.same z hny
    obtain ⟨e3, e4⟩ := h.same z hz
    exact ⟨e1.trans e3, e2.trans e4⟩
  · obtain ⟨e1, e2⟩ := k.same p hnp
    exact ⟨e1.trans h.now.1, e2.trans h.now.2⟩
theorem Digs.step {l : List Nd} {g : Int → Int} {p i y : Nat} {b b2 : Nat → Bool} {f f2 : Nat → Int} {t : Nd} (hno : ∀ x, ¬ Lead l x x) (h : Digs l g p b f i b2 f2) (ht : l[i]? = some t) (ha : t.a = (p : Int)) (hb : t.b = (y : Int)) (h0 : 0 ≤ g y) : Digs l g p b f (i + 1) b2 (up f2 p (max (mxA p g (l.take i)) (g y + 1))) := by
  refine ⟨fun z hz => ?_, fun z hz => ?_, h.now.1, ?_⟩
  · have hne : z ≠ p := fun e => hno p (by rw [← e] at hz ⊢; exact hz)
    have := h.good z hz
    exact ⟨fun hh => by unfold up; rw [if_neg hne]; exact this.yes hh, fun hh => by unfold up; rw [if_neg hne]; exact this.no hh⟩
  · have hne : z ≠ p := fun e => hz (.inl (by rw [e]))
    unfold up
    rw [if_neg hne]
    exact h.same z hz
  · unfold up
    rw [if_pos rfl, mxA_yes ht ha (by rw [hb]; exact h0), hb]
theorem Digs.end {l : List Nd} {g : Int → Int} {p : Nat} {b b' : Nat → Bool} {f f' : Nat → Int} (_ : ∀ x, ¬ Lead l x x) (h : Digs l g p b f l.length b' f') (hg : g p = mxA p g l) : Dug l g p b f (up b' p true) f' ∧ f' p = g p := by
  have hv : f' p = g p := by rw [h.now.2, List.take_length, hg]
  refine ⟨⟨fun z hz => ?_, fun z hz => ?_, by unfold up; rw [if_pos rfl]⟩, hv⟩
  · by_cases e : z = p
    · subst e
      exact ⟨fun _ => hv, fun hh => by unfold up at hh; rw [if_pos rfl] at hh; cases hh⟩
    · have hl : Lead l p z := by
        rcases hz with hz | hz
        · omega
        · exact hz
      have := h.good z hl
      exact ⟨fun hh => this.yes (by unfold up at hh; rw [if_neg e] at hh; exact hh), fun hh => this.no (by unfold up at hh; rw [if_neg e] at hh; exact hh)⟩
  · have hne : z ≠ p := fun e => hz (.inl (by rw [e]))
    unfold up
    rw [if_neg hne]
    exact h.same z hz
end Go.Proofs.Ytdbhdlgoecpeaaa.Graph.Im
