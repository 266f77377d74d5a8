/- In how many ways needs lead from a node to another one: their number, of whatever size; what it is by a node's needs; how great it may be. The document's Ways. -/
import Derived.Test.YtdbhdlgoecpeaaaZFeeImCk
import Derived.Test.YtdbhdlgoecpeaaaZGraphD
namespace Go.Proofs.Ytdbhdlgoecpeaaa.Graph

/-- What the needs of a node come to, each with so much as what it needs has. -/
def sumA (x : Int) (g : Int → Nat) : List Nd → Nat
  | [] => 0
  | t :: l => (if t.a = x then g t.b else 0) + sumA x g l
def one (to x : Int) : Nat := if x = to then 1 else 0
def nwF (l : List Nd) (to : Int) : Nat → Int → Nat
  | 0, x => one to x
  | f + 1, x => one to x + sumA x (nwF l to f) l
/-- The ways from a node to another one. -/
def nw (n : Int) (l : List Nd) (to x : Int) : Nat := nwF l to n.toNat x
theorem sumA_congr {x : Int} {g h : Int → Nat} : ∀ {l : List Nd}, (∀ t ∈ l, t.a = x → g t.b = h t.b) → sumA x g l = sumA x h l
  | [], _ => rfl
  | t :: l, hh => by
    unfold sumA
    rw [sumA_congr (l := l) fun u hu => hh u (by simp [hu])]
    by_cases e : t.a = x
    · rw [if_pos e, if_pos e, hh t (by simp) e]
    · rw [if_neg e, if_neg e]
theorem sumA_zero {x : Int} {g : Int → Nat} : ∀ {l : List Nd}, (∀ t ∈ l, t.a ≠ x) → sumA x g l = 0
  | [], _ => rfl
  | t :: l, h => by
    unfold sumA
    rw [if_neg (h t (by simp)), sumA_zero (l := l) fun u hu => h u (by simp [hu])]
theorem sumA_append (x : Int) (g : Int → Nat) : ∀ (l k : List Nd), sumA x g (l ++ k) = sumA x g l + sumA x g k
  | [], k => by simp [sumA]
  | t :: l, k => by
    show (if t.a = x then g t.b else 0) + sumA x g (l ++ k) = (if t.a = x then g t.b else 0) + sumA x g l + sumA x g k
    rw [sumA_append x g l k]
    omega
theorem sumA_take {x : Int} {g : Int → Nat} {l : List Nd} {i : Nat} {t : Nd} (h : l[i]? = some t) : sumA x g (l.take (i + 1)) = sumA x g (l.take i) + (if t.a = x then g t.b else 0) := by
  rw [List.take_add_one, h, sumA_append]
  simp [sumA]
theorem sumA_le {x : Int} {g : Int → Nat} (l : List Nd) (i : Nat) : sumA x g (l.take i) ≤ sumA x g l := by
  have := sumA_append x g (l.take i) (l.drop i)
  rw [List.take_append_drop] at this
  omega
theorem sumA_mem {x : Int} {g : Int → Nat} : ∀ {l : List Nd} {t : Nd}, t ∈ l → t.a = x → g t.b ≤ sumA x g l
  | u :: l, t, h, e => by
    unfold sumA
    rcases List.mem_cons.1 h with rfl | h
    · rw [if_pos e]
      omega
    · have := sumA_mem (g := g) h e
      omega
theorem sumA_pos {x : Int} {g : Int → Nat} : ∀ {l : List Nd}, 0 < sumA x g l → ∃ t ∈ l, t.a = x ∧ 0 < g t.b
  | t :: l, h => by
    unfold sumA at h
    by_cases e : t.a = x ∧ 0 < g t.b
    · exact ⟨t, by simp, e⟩
    · have h2 : 0 < sumA x g l := by
        by_cases e1 : t.a = x
        · rw [if_pos e1] at h
          have : ¬ 0 < g t.b := fun h3 => e ⟨e1, h3⟩
          omega
        · rw [if_neg e1] at h
          omega
      obtain ⟨u, hu, h3⟩ := sumA_pos h2
      exact ⟨u, by simp [hu], h3⟩
/-- In an order a node's ways are told by as many rounds as nodes stand ahead of it. -/
theorem nwF_same {n : Int} {l : List Nd} {to : Int} {o : List Int} (h : Stands n l o) : ∀ (i : Nat) (x : Int), o[i]? = some x → ∀ f, i ≤ f → nwF l to f x = nwF l to i x := by
  intro i
  induction i using Nat.strongRecOn with
  | _ i ih =>
    intro x hx f hf
    have hb := h.behind i x hx
    match i, f with
    | 0, 0 => rfl
    | 0, f + 1 =>
      show one to x + sumA x (nwF l to f) l = one to x
      rw [sumA_zero fun t ht e => by
        have := hb t ht e
        simp at this]
      rfl
    | i + 1, f + 1 =>
      show one to x + sumA x (nwF l to f) l = one to x + sumA x (nwF l to i) l
      congr 1
      refine sumA_congr fun t ht e => ?_
      have h1 := hb t ht e
      obtain ⟨j, hj, he⟩ := List.getElem_of_mem h1
      rw [List.length_take] at hj
      rw [List.getElem_take] at he
      have h2 : o[j]? = some t.b := by rw [← he]; exact List.getElem?_eq_getElem (by omega)
      rw [ih j (by omega) t.b h2 f (by omega), ih j (by omega) t.b h2 i (by omega)]
/-- A node's ways: one, if it is the end, and those of each of its needs. -/
theorem nw_rec {n : Int} {l : List Nd} {to x : Int} (he : ordE n l = 0) (h1 : 1 ≤ x) (h2 : x ≤ n) : nw n l to x = one to x + sumA x (nw n l to) l := by
  obtain ⟨hm, hst, hlen⟩ := ord_zero he
  have hx := stands_all hst hlen h1 h2
  obtain ⟨i, hi, hxi⟩ := List.getElem_of_mem hx
  have hx2 : (ordV n l)[i]? = some x := by rw [← hxi]; exact List.getElem?_eq_getElem hi
  have e1 : nw n l to x = nwF l to (n.toNat + 1) x := by
    unfold nw
    rw [nwF_same hst i x hx2 _ (by omega), nwF_same hst i x hx2 (n.toNat + 1) (by omega)]
  rw [e1]
  rfl
/-- What needs lead to is what the first one needs, or what needs lead to from there. -/
theorem lead_head {l : List Nd} {x z : Int} (h : Lead l x z) : ∃ t ∈ l, t.a = x ∧ (t.b = z ∨ Lead l t.b z) := by
  induction h with
  | one ht e => exact ⟨_, ht, e, .inl rfl⟩
  | more _ ht e ih =>
    obtain ⟨u, hu, ea, h⟩ := ih
    refine ⟨u, hu, ea, .inr ?_⟩
    rcases h with h | h
    · exact .one ht (by rw [e, h])
    · exact .more h ht e
theorem nw_here {n : Int} {l : List Nd} {x : Int} (he : ordE n l = 0) (h1 : 1 ≤ x) (h2 : x ≤ n) : 1 ≤ nw n l x x := by
  rw [nw_rec he h1 h2]
  unfold one
  rw [if_pos rfl]
  omega
/-- Where needs lead there is a way. -/
theorem nw_lead {n : Int} {l : List Nd} {to x : Int} (he : ordE n l = 0) (h : Lead l x to) (h1 : 1 ≤ x) (h2 : x ≤ n) : 1 ≤ nw n l to x := by
  obtain ⟨hm, hst, hlen⟩ := ord_zero he
  have key : ∀ (i : Nat) (x : Int), (ordV n l)[i]? = some x → Lead l x to → 1 ≤ nw n l to x := by
    intro i
    induction i using Nat.strongRecOn with
    | _ i ih =>
      intro x hx hl
      have hb := hst.node x (List.mem_of_getElem? hx)
      obtain ⟨t, ht, ea, hc⟩ := lead_head hl
      have htb := (hm.2.2 t ht).2
      rw [nw_rec he hb.1 hb.2]
      have h3 : nw n l to t.b ≤ sumA x (nw n l to) l := sumA_mem ht ea
      have h4 : 1 ≤ nw n l to t.b := by
        rcases hc with rfl | hc
        · exact nw_here he htb.1 htb.2
        · have h5 := hst.behind i x hx t ht ea
          obtain ⟨j, hj, hjx⟩ := List.getElem_of_mem h5
          rw [List.length_take] at hj
          rw [List.getElem_take] at hjx
          exact ih j (by omega) t.b (by rw [← hjx]; exact List.getElem?_eq_getElem (by omega)) hc
      omega
  have hx := stands_all hst hlen h1 h2
  obtain ⟨i, hi, hxi⟩ := List.getElem_of_mem hx
  exact key i x (by rw [← hxi]; exact List.getElem?_eq_getElem hi) h
/-! how great they may be -/
/-- How many needs nodes have. -/
def cntA (S : List Int) (l : List Nd) : Nat := (l.filter fun t => decide (t.a ∈ S)).length
theorem cntA_le (S : List Int) (l : List Nd) : cntA S l ≤ l.length := List.length_filter_le _ _
theorem cntA_mono {S T : List Int} (h : ∀ x ∈ S, x ∈ T) : ∀ l : List Nd, cntA S l ≤ cntA T l
  | [] => Nat.le_refl _
  | t :: l => by
    have ih := cntA_mono h l
    unfold cntA at ih ⊢
    rw [List.filter_cons, List.filter_cons]
    by_cases e : t.a ∈ S
    · rw [if_pos (by simpa using e), if_pos (by simpa using h _ e), List.length_cons, List.length_cons]
      omega
    · rw [if_neg (by simpa using e)]
      split
      · rw [List.length_cons]
        omega
      · exact ih
theorem cntA_more {S : List Int} {x : Int} (hx : x ∉ S) : ∀ l : List Nd, cntA (S ++ [x]) l = cntA S l + cntA [x] l
  | [] => rfl
  | t :: l => by
    have ih := cntA_more hx l
    unfold cntA at ih ⊢
    rw [List.filter_cons, List.filter_cons, List.filter_cons]
    by_cases e : t.a = x
    · have h1 : t.a ∉ S := by rw [e]; exact hx
      rw [if_pos (by simp [e]), if_neg (by simpa using h1), if_pos (by simp [e]), List.length_cons, List.length_cons, ih]
      omega
    · by_cases h1 : t.a ∈ S
      · rw [if_pos (by simp [h1]), if_pos (by simpa using h1), if_neg (by simp [e]), List.length_cons, List.length_cons, ih]
        omega
      · rw [if_neg (by simp [h1, e]), if_neg (by simpa using h1), if_neg (by simp [e]), ih]
theorem sumA_bound {x : Int} {g : Int → Nat} {M : Nat} : ∀ {l : List Nd}, (∀ t ∈ l, t.a = x → g t.b ≤ M) → sumA x g l ≤ cntA [x] l * M
  | [], _ => by simp [sumA]
  | t :: l, h => by
    have ih := sumA_bound (l := l) fun u hu => h u (by simp [hu])
    unfold cntA at ih ⊢
    unfold sumA
    rw [List.filter_cons]
    by_cases e : t.a = x
    · rw [if_pos e, if_pos (by simp [e]), List.length_cons, Nat.succ_mul]
      have := h t (by simp) e
      omega
    · rw [if_neg e, if_neg (by simp [e])]
      omega
theorem grow_two (d M : Nat) (hM : 1 ≤ M) : 1 + d * M ≤ 2 ^ d * M := by
  have h : d + 1 ≤ 2 ^ d := Nat.lt_two_pow_self
  have h2 : (d + 1) * M ≤ 2 ^ d * M := Nat.mul_le_mul_right M h
  rw [Nat.succ_mul] at h2
  omega
/-- There are no more ways than parts of the needs. -/
theorem nw_bound {n : Int} {l : List Nd} {to x : Int} (he : ordE n l = 0) (h1 : 1 ≤ x) (h2 : x ≤ n) : nw n l to x ≤ 2 ^ l.length := by
  obtain ⟨hm, hst, hlen⟩ := ord_zero he
  have key : ∀ (i : Nat) (x : Int), (ordV n l)[i]? = some x → nw n l to x ≤ 2 ^ cntA ((ordV n l).take (i + 1)) l := by
    intro i
    induction i using Nat.strongRecOn with
    | _ i ih =>
      intro x hx
      have hb := hst.node x (List.mem_of_getElem? hx)
      have hxn : x ∉ (ordV n l).take i := fun h => by
        obtain ⟨j, hj, hjx⟩ := List.getElem_of_mem h
        rw [List.length_take] at hj
        rw [List.getElem_take] at hjx
        obtain ⟨hi, hxi⟩ := List.getElem?_eq_some_iff.1 hx
        have := List.pairwise_iff_getElem.1 hst.nodup j i (by omega) hi (by omega)
        exact this (by rw [hjx, hxi])
      have hM : ∀ t ∈ l, t.a = x → nw n l to t.b ≤ 2 ^ cntA ((ordV n l).take i) l := fun t ht ea => by
        have h5 := hst.behind i x hx t ht ea
        obtain ⟨j, hj, hjx⟩ := List.getElem_of_mem h5
        rw [List.length_take] at hj
        rw [List.getElem_take] at hjx
        refine Nat.le_trans (ih j (by omega) t.b (by rw [← hjx]; exact List.getElem?_eq_getElem (by omega))) (Nat.pow_le_pow_right (by omega) ?_)
        exact cntA_mono (fun y hy => (List.take_sublist_take_left (by omega)).subset hy) l
      rw [nw_rec he hb.1 hb.2, List.take_add_one, hx]
      show one to x + _ ≤ 2 ^ cntA (_ ++ [x]) l
      rw [cntA_more hxn, Nat.pow_add, Nat.mul_comm]
      have h8 := sumA_bound (g := nw n l to) hM
      have h9 := grow_two (cntA [x] l) (2 ^ cntA ((ordV n l).take i) l) (Nat.one_le_two_pow)
      have h10 : one to x ≤ 1 := by unfold one; split <;> omega
      omega
  have hx := stands_all hst hlen h1 h2
  obtain ⟨i, hi, hxi⟩ := List.getElem_of_mem hx
  exact Nat.le_trans (key i x (by rw [← hxi]; exact List.getElem?_eq_getElem hi)) (Nat.pow_le_pow_right (by omega) (cntA_le _ _))
/-! what is told of them -/
def mi : Nat := 9223372036854775807
def WayOk (n : Int) (l : List Nd) (x y : Int) : Prop := May n l ∧ (1 ≤ x ∧ x ≤ n) ∧ 1 ≤ y ∧ y ≤ n
open Classical in
noncomputable def wayE (n : Int) (l : List Nd) (x y : Int) : Int := if WayOk n l x y then (if ordE n l = 0 then (if mi < nw n l y x then 5 else 0) else ordE n l) else 1
noncomputable def wayV (n : Int) (l : List Nd) (x y : Int) : Int := if wayE n l x y = 0 then ((nw n l y x : Nat) : Int) else 0
theorem way_arg {n : Int} {l : List Nd} {x y : Int} (h : ¬ WayOk n l x y) : wayE n l x y = 1 ∧ wayV n l x y = 0 := by
  have e : wayE n l x y = 1 := by unfold wayE; rw [if_neg h]
  exact ⟨e, by unfold wayV; rw [e]; rfl⟩
theorem way_round {n : Int} {l : List Nd} {x y : Int} (h : WayOk n l x y) (h2 : ordE n l ≠ 0) : wayE n l x y = ordE n l ∧ wayV n l x y = 0 := by
  have e : wayE n l x y = ordE n l := by unfold wayE; rw [if_pos h, if_neg h2]
  exact ⟨e, by unfold wayV; rw [e, if_neg h2]⟩
theorem way_over {n : Int} {l : List Nd} {x y : Int} (h : WayOk n l x y) (h2 : ordE n l = 0) (h3 : mi < nw n l y x) : wayE n l x y = 5 ∧ wayV n l x y = 0 := by
  have e : wayE n l x y = 5 := by unfold wayE; rw [if_pos h, if_pos h2, if_pos h3]
  exact ⟨e, by unfold wayV; rw [e]; rfl⟩
theorem way_fine {n : Int} {l : List Nd} {x y : Int} (h : WayOk n l x y) (h2 : ordE n l = 0) (h3 : nw n l y x ≤ mi) : wayE n l x y = 0 ∧ wayV n l x y = ((nw n l y x : Nat) : Int) := by
  have e : wayE n l x y = 0 := by unfold wayE; rw [if_pos h, if_pos h2, if_neg (by omega)]
  exact ⟨e, by unfold wayV; rw [e, if_pos rfl]⟩
end Go.Proofs.Ytdbhdlgoecpeaaa.Graph
namespace Go.Proofs.Ytdbhdlgoecpeaaa.Graph
open Go.RowKit Go.Lib IRows

theorem info_yes : (Try.prog.info? 4).map (fun i => (i.zero, i.size, i.bytes)) = some (some (.bool false), 1, 1) := by kernel_rfl
/-- Two rows that make has made, of numbers and of bools: what stands in them. -/
structure WO (W : World) (A B : Nat) (N : Nat) (f : Nat → Int) (b : Nat → Bool) : Prop where
  ints : ∀ i, i ≤ N → W.cell? ⟨A, i, none⟩ = some (.int .i64 (f i)) ∧ W.frozen? ⟨A, i, none⟩ = false
  bools : ∀ i, i ≤ N → W.cell? ⟨B, i, none⟩ = some (.bool (b i)) ∧ W.frozen? ⟨B, i, none⟩ = false
  ne : A ≠ B
def up {α : Type} (f : Nat → α) (k : Nat) (v : α) (i : Nat) : α := if i = k then v else f i
theorem addr_ne {A B i j : Nat} (h : A ≠ B ∨ i ≠ j) : (⟨A, i, none⟩ : Addr) ≠ ⟨B, j, none⟩ := fun e => by
  injection e with e1 e2
  rcases h with h | h
  · exact h e1
  · exact h e2
theorem WO.setI {W : World} {A B N : Nat} {f : Nat → Int} {b : Nat → Bool} (h : WO W A B N f b) (k : Nat) (v : Int) : WO (W.setCell ⟨A, k, none⟩ (.int .i64 v)) A B N (up f k v) b := by
  refine ⟨fun i hi => ?_, fun i hi => ?_, h.ne⟩
  · rw [World.frozen?_setCell]
    refine ⟨?_, (h.ints i hi).2⟩
    unfold up
    by_cases e : i = k
    · subst e
      rw [if_pos rfl, World.cell?_setCell_same (h := (h.ints i hi).1)]
    · rw [if_neg e, World.cell?_setCell_other (h := addr_ne (.inr fun x => e x.symm))]
      exact (h.ints i hi).1
  · rw [World.frozen?_setCell, World.cell?_setCell_other (h := addr_ne (.inl h.ne))]
    exact h.bools i hi
theorem WO.setB {W : World} {A B N : Nat} {f : Nat → Int} {b : Nat → Bool} (h : WO W A B N f b) (k : Nat) (v : Bool) : WO (W.setCell ⟨B, k, none⟩ (.bool v)) A B N f (up b k v) := by
  refine ⟨fun i hi => ?_, fun i hi => ?_, h.ne⟩
  · rw [World.frozen?_setCell, World.cell?_setCell_other (h := addr_ne (.inl h.ne.symm))]
    exact h.ints i hi
  · rw [World.frozen?_setCell]
    refine ⟨?_, (h.bools i hi).2⟩
    unfold up
    by_cases e : i = k
    · subst e
      rw [if_pos rfl, World.cell?_setCell_same (h := (h.bools i hi).1)]
    · rw [if_neg e, World.cell?_setCell_other (h := addr_ne (.inr fun x => e x.symm))]
      exact (h.bools i hi).1
theorem WO.drew {W : World} {A B N : Nat} {f : Nat → Int} {b : Nat → Bool} (h : WO W A B N f b) : WO W.drew A B N f b := ⟨h.ints, h.bools, h.ne⟩
theorem made_at (z : Value) (n i : Nat) (h : i < n) : (madeCells #[z] n)[i]? = some z := by simp [madeCells, h, Nat.mod_one]
/-- How far a node is. -/
structure Cell (S : Nat) (x : Int) (o : Bool) : Prop where
  over : o = decide (mi < S)
  low : 0 ≤ x
  high : x ≤ 9223372036854775807
  is : S ≤ mi → x = (S : Int)
/-- What stands of the first k of the order; nothing of the others, but of the one that is looked at. -/
structure Walked (n : Int) (l : List Nd) (to : Int) (o : List Int) (k : Nat) (f : Nat → Int) (b : Nat → Bool) : Prop where
  done : ∀ q : Nat, (q : Int) ∈ o.take k → Cell (nw n l to q) (f q) (b q)
  fresh : ∀ q : Nat, (q : Int) ∈ o → (q : Int) ∉ o.take k → f q = 0 ∧ b q = false
/-- .. and of the node p at the k-th place, so far. -/
structure Walking (n : Int) (l : List Nd) (to : Int) (o : List Int) (k p i : Nat) (f : Nat → Int) (b : Nat → Bool) : Prop where
  done : ∀ q : Nat, (q : Int) ∈ o.take k → Cell (nw n l to q) (f q) (b q)
  fresh : ∀ q : Nat, (q : Int) ∈ o → (q : Int) ∉ o.take k → q ≠ p → f q = 0 ∧ b q = false
  now : Cell (one to p + sumA p (nw n l to) (l.take i)) (f p) (b p)
theorem Walked.begin {n : Int} {l : List Nd} {to : Int} {o : List Int} {k p : Nat} {f : Nat → Int} {b : Nat → Bool} (h : Walked n l to o k f b) (hp : (p : Int) ∈ o) (hk : (p : Int) ∉ o.take k) : Walking n l to o k p 0 (if (p : Int) = to then up f p 1 else f) b := by
  obtain ⟨h1, h2⟩ := h.fresh p hp hk
  refine ⟨fun q hq => ?_, fun q hq hq2 hne => ?_, ?_⟩
  · have hne : q ≠ p := fun e => hk (by rw [← e]; exact hq)
    have h3 := h.done q hq
    split
    · unfold up
      rw [if_neg hne]
      exact h3
    · exact h3
  · split
    · unfold up
      rw [if_neg hne]
      exact h.fresh q hq hq2
    · exact h.fresh q hq hq2
  · unfold one
    simp only [List.take_zero, sumA, Nat.add_zero]
    by_cases e : (p : Int) = to
    · rw [if_pos e, if_pos e]
      have e1 : up f p 1 p = 1 := by unfold up; rw [if_pos rfl]
      rw [e1, h2]
      exact ⟨rfl, by omega, by omega, fun _ => rfl⟩
    · rw [if_neg e, if_neg e, h1, h2]
      exact ⟨rfl, by omega, by omega, fun _ => rfl⟩
theorem Walking.skip {n : Int} {l : List Nd} {to : Int} {o : List Int} {k p i : Nat} {f : Nat → Int} {b : Nat → Bool} {t : Nd} (h : Walking n l to o k p i f b) (ht : l[i]? = some t) (ha : t.a ≠ (p : Int)) : Walking n l to o k p (i + 1) f b :=
  ⟨h.done, h.fresh, by rw [sumA_take ht, if_neg ha, Nat.add_zero]; exact h.now⟩
theorem Walking.over {n : Int} {l : List Nd} {to : Int} {o : List Int} {k p i : Nat} {f : Nat → Int} {b : Nat → Bool} {t : Nd} (h : Walking n l to o k p i f b) (hk : (p : Int) ∉ o.take k) (ht : l[i]? = some t) (ha : t.a = (p : Int)) (hs : mi < one to p + sumA p (nw n l to) (l.take i) + nw n l to t.b) : Walking n l to o k p (i + 1) f (up b p true) := by
  refine ⟨fun q hq => ?_, fun q hq hq2 hne => ?_, ?_⟩
  · have hne : q ≠ p := fun e => hk (by rw [← e]; exact hq)
    unfold up
    rw [if_neg hne]
    exact h.done q hq
  · unfold up
    rw [if_neg hne]
    exact h.fresh q hq hq2 hne
  · have e1 : up b p true p = true := by unfold up; rw [if_pos rfl]
    rw [sumA_take ht, if_pos ha, e1]
    exact ⟨(decide_eq_true (by omega)).symm, h.now.low, h.now.high, fun hle => by omega⟩
theorem Walking.fine {n : Int} {l : List Nd} {to : Int} {o : List Int} {k p i : Nat} {f : Nat → Int} {b : Nat → Bool} {t : Nd} (h : Walking n l to o k p i f b) (hk : (p : Int) ∉ o.take k) (ht : l[i]? = some t) (ha : t.a = (p : Int)) (hs : one to p + sumA p (nw n l to) (l.take i) + nw n l to t.b ≤ mi) : Walking n l to o k p (i + 1) (up f p (f p + ((nw n l to t.b : Nat) : Int))) (up b p false) := by
  refine ⟨fun q hq => ?_, fun q hq hq2 hne => ?_, ?_⟩
  · have hne : q ≠ p := fun e => hk (by rw [← e]; exact hq)
    unfold up
    rw [if_neg hne, if_neg hne]
    exact h.done q hq
  · unfold up
    rw [if_neg hne, if_neg hne]
    exact h.fresh q hq hq2 hne
  · have e1 : up b p false p = false := by unfold up; rw [if_pos rfl]
    have e2 : up f p (f p + ((nw n l to t.b : Nat) : Int)) p = f p + ((nw n l to t.b : Nat) : Int) := by unfold up; rw [if_pos rfl]
    have e3 := h.now.is (by omega)
    have hmi : ((mi : Nat) : Int) = 9223372036854775807 := rfl
    rw [sumA_take ht, if_pos ha, e1, e2, e3]
    exact ⟨(decide_eq_false (by omega)).symm, by omega, by omega, fun _ => by omega⟩
theorem Walking.end {n : Int} {l : List Nd} {to : Int} {o : List Int} {k p : Nat} {f : Nat → Int} {b : Nat → Bool} (h : Walking n l to o k p l.length f b) (hp : o[k]? = some (p : Int)) (he : ordE n l = 0) (h1 : 1 ≤ (p : Int)) (h2 : (p : Int) ≤ n) : Walked n l to o (k + 1) f b := by
  have hn := h.now
  rw [List.take_length, ← nw_rec he h1 h2] at hn
  refine ⟨fun q hq => ?_, fun q hq hq2 => ?_⟩
  · rw [List.take_add_one, hp] at hq
    rcases List.mem_append.1 hq with hq | hq
    · exact h.done q hq
    · have : (q : Int) = (p : Int) := by simpa using hq
      have : q = p := by omega
      subst this
      exact hn
  · rw [List.take_add_one, hp] at hq2
    have h3 : (q : Int) ∉ o.take k := fun h => hq2 (by simp [h])
    have h4 : q ≠ p := fun e => hq2 (by simp [e])
    exact h.fresh q hq h3 h4
end Go.Proofs.Ytdbhdlgoecpeaaa.Graph
