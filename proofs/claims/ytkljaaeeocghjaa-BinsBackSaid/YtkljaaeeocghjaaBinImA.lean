/- Lots as pairs of a table: what lies in a bin, what is put, what a division has. The program's bins in memory; numbers, bins and lots that may be; a bin's key; what lies in a bin. The program's Total, List: as it goes over its table. The program's List: all lots, by their bins. -/
import Derived.Test.YtkljaaeeocghjaaBinMath
import Derived.Test.YtkljaaeeocghjaaTinMath
import Derived.Test.YtkljaaeeocghjaaTinA
import Derived.Test.YtkljaaeeocghjaaBinE
import Derived.Test.YtkljaaeeocghjaaStep
import Derived.Test.YtkljaaeeocghjaaTinImK
import Derived.Test.YtkljaaeeocghjaaTinImL
import Derived.Test.YtkljaaeeocghjaaTinImM
import Derived.StillTailTactics
import Derived.Test.YtkljaaeeocghjaaTinImN
import Derived.Stop.RegionWithIn
import Derived.Test.YtkljaaeeocghjaaRound
namespace Go.Proofs.Ytkljaaeeocghjaa.Tab
/-- What is put in stands between what is below and what is above. -/
def above (k : Key) (p : Pair) : Bool := decide (cmp k p.k < 0)
theorem below_above {k x : Key} (h : cmp k x < 0) : ¬ cmp x k < 0 := by have := cmp_swap k x; omega
theorem split_parts (k : Key) {l : List Pair} (h : Rising l) : l.take (place l k) = l.filter (below k) ∧ (if has l k then l.drop (place l k + 1) else l.drop (place l k)) = l.filter (above k) := by
  obtain ⟨A, B, hA, hB, hp, hc⟩ := rising_split k h
  have a1 : A.filter (below k) = A := List.filter_eq_self.2 fun p hp => decide_eq_true (hA p hp)
  have a2 : A.filter (above k) = [] := List.filter_eq_nil_iff.2 fun p hp => by
    have := below_above (hA p hp)
    unfold above
    simpa using this
  have b1 : B.filter (below k) = [] := List.filter_eq_nil_iff.2 fun p hp => by
    have := below_above (hB p hp)
    unfold below
    simpa using this
  have b2 : B.filter (above k) = B := List.filter_eq_self.2 fun p hp => decide_eq_true (hB p hp)
  have kk : cmp k k = 0 := cmp_zero.2 rfl
  rcases hc with ⟨c1, rfl⟩ | ⟨c1, v, rfl⟩
  · rw [hp, c1, if_neg (by simp), List.take_left, List.drop_left, List.filter_append, List.filter_append, a1, a2, b1, b2, List.append_nil, List.nil_append]
    exact ⟨rfl, rfl⟩
  · have m1 : below k ⟨k, v⟩ = false := by unfold below; simp [kk]
    have m2 : above k ⟨k, v⟩ = false := by unfold above; simp [kk]
    rw [hp, c1, if_pos rfl, List.take_left, List.filter_append, List.filter_append, a1, a2, List.filter_cons, List.filter_cons, m1, m2, if_neg (by simp), if_neg (by simp), b1, b2, List.append_nil, List.nil_append]
    refine ⟨rfl, ?_⟩
    rw [show A.length + 1 = (A ++ [(⟨k, v⟩ : Pair)]).length by simp, show A ++ ⟨k, v⟩ :: B = (A ++ [⟨k, v⟩]) ++ B by simp, List.drop_left]
theorem put_parts (k : Key) (v : Int) {l : List Pair} (h : Rising l) : put l k v = l.filter (below k) ++ ⟨k, v⟩ :: l.filter (above k) := by
  obtain ⟨h1, h2⟩ := split_parts k h
  unfold put
  rw [h1, h2]
theorem del_parts (k : Key) {l : List Pair} (h : Rising l) : del l k = l.filter (below k) ++ l.filter (above k) := by
  obtain ⟨h1, h2⟩ := split_parts k h
  unfold del
  cases hh : has l k with
  | true =>
    rw [hh, if_pos rfl] at h2
    rw [if_pos rfl, h1, h2]
  | false =>
    rw [hh, if_neg (by simp)] at h2
    rw [if_neg (by simp), ← h1, ← h2, List.take_append_drop]
end Go.Proofs.Ytkljaaeeocghjaa.Tab
namespace Go.Proofs.Ytkljaaeeocghjaa.Bins
open Goods (St)

def kB (x : Bn) : Tab.Key := ⟨x.o, x.d, x.p, x.t⟩
def pb (a : Lt) : Tab.Pair := ⟨kB a.b, a.q⟩
def prs (l : List Lt) : List Tab.Pair := l.map pb
theorem kB_same {a b : Bn} : Tab.cmp (kB a) (kB b) = 0 ↔ a = b := by
  rw [Tab.cmp_zero]
  constructor
  · intro h
    injection h with h1 h2 h3 h4
    exact Bn.ext' h1 h2 h3 h4
  · rintro rfl
    rfl
theorem kB_less {a b : Bn} : Tab.cmp (kB a) (kB b) < 0 ↔ bl a b := by
  rw [Tab.cmp_less]
  unfold bl
  constructor
  · rintro ⟨i, hi, he, hl⟩
    match i, hi with
    | 0, _ => exact .inl hl
    | 1, _ => exact .inr ⟨he 0 (by omega), .inl hl⟩
    | 2, _ => exact .inr ⟨he 0 (by omega), .inr ⟨he 1 (by omega), .inl hl⟩⟩
    | 3, _ => exact .inr ⟨he 0 (by omega), .inr ⟨he 1 (by omega), .inr ⟨he 2 (by omega), hl⟩⟩⟩
  · rintro (h | ⟨h0, h | ⟨h1, h | ⟨h2, h⟩⟩⟩)
    · exact ⟨0, by omega, fun m hm => by omega, h⟩
    · refine ⟨1, by omega, fun m hm => ?_, h⟩
      match m, hm with
      | 0, _ => exact h0
    · refine ⟨2, by omega, fun m hm => ?_, h⟩
      match m, hm with
      | 0, _ => exact h0
      | 1, _ => exact h1
    · refine ⟨3, by omega, fun m hm => ?_, h⟩
      match m, hm with
      | 0, _ => exact h0
      | 1, _ => exact h1
      | 2, _ => exact h2
theorem prs_rising {l : List Lt} (h : Rise l) : Tab.Rising (prs l) := by
  unfold prs Tab.Rising
  rw [List.pairwise_map]
  exact h.imp fun h1 => kB_less.2 h1
theorem prs_length (l : List Lt) : (prs l).length = l.length := by unfold prs; rw [List.length_map]
theorem has_prs {x : Bn} : ∀ {l : List Lt}, (∀ a ∈ l, 1 ≤ a.q) → Tab.has (prs l) (kB x) = decide (0 < qty l x)
  | [], _ => rfl
  | a :: l, h => by
    have ih := has_prs (x := x) (l := l) fun b hb => h b (by simp [hb])
    have h1 : Tab.has (prs (a :: l)) (kB x) = (Tab.hits (kB x) (pb a) || Tab.has (prs l) (kB x)) := rfl
    have h2 : Tab.hits (kB x) (pb a) = decide (a.b = x) := by
      unfold Tab.hits
      exact decide_eq_decide.2 kB_same
    have h3 := h a (by simp)
    rw [h1, h2, ih, qty_cons]
    by_cases e : a.b = x
    · simp [e]
      omega
    · simp [e]
theorem value_prs {l : List Lt} {x : Bn} (hr : Rise l) (hq : ∀ a ∈ l, 1 ≤ a.q) : Tab.valueAt (prs l) (kB x) = qty l x := by
  have hh := has_prs (x := x) hq
  unfold Tab.valueAt
  obtain ⟨A, B, hA, hB, hp, hc⟩ := Tab.rising_split (kB x) (prs_rising hr)
  rcases hc with ⟨c1, c2⟩ | ⟨c1, v, c2⟩
  · rw [c1] at hh ⊢
    have h0 : ¬ 0 < qty l x := by simpa using hh.symm
    have h1 := (qty_le_tot hq x).1
    rw [if_neg (by simp)]
    omega
  · rw [c1, if_pos rfl, hp]
    have hm : (⟨kB x, v⟩ : Tab.Pair) ∈ prs l := by rw [c2]; simp
    obtain ⟨a, ha, he⟩ := List.mem_map.1 hm
    have e1 : kB a.b = kB x := congrArg Tab.Pair.k he
    have e2 : a.q = v := congrArg Tab.Pair.v he
    have e3 : a.b = x := kB_same.1 (Tab.cmp_zero.2 e1)
    unfold Tab.nthP
    rw [List.getD_eq_getElem?_getD, c2, List.getElem?_append_right (Nat.le_refl _), Nat.sub_self]
    show v = qty l x
    rw [← e2, ← e3, qty_of hr ha]
theorem lo_prs (l : List Lt) (x : Bn) : (prs l).filter (Tab.below (kB x)) = prs (lo l x) := by
  unfold prs lo
  rw [List.filter_map]
  congr 1
  refine List.filter_congr fun a _ => ?_
  show Tab.below (kB x) (pb a) = _
  unfold Tab.below
  exact decide_eq_decide.2 kB_less
theorem hi_prs (l : List Lt) (x : Bn) : (prs l).filter (Tab.above (kB x)) = prs (hi l x) := by
  unfold prs hi
  rw [List.filter_map]
  congr 1
  refine List.filter_congr fun a _ => ?_
  show Tab.above (kB x) (pb a) = _
  unfold Tab.above
  exact decide_eq_decide.2 kB_less
theorem prs_append (a b : List Lt) : prs (a ++ b) = prs a ++ prs b := by unfold prs; rw [List.map_append]
theorem put_prs {l : List Lt} {x : Bn} {n : Int} (hr : Rise l) (hn : n ≠ 0) : Tab.put (prs l) (kB x) n = prs (setL l x n) := by
  rw [Tab.put_parts _ _ (prs_rising hr), lo_prs, hi_prs]
  unfold setL mid
  rw [if_neg hn, prs_append]
  rfl
theorem del_prs {l : List Lt} {x : Bn} (hr : Rise l) : Tab.del (prs l) (kB x) = prs (setL l x 0) := by
  rw [Tab.del_parts _ (prs_rising hr), lo_prs, hi_prs]
  unfold setL mid
  rw [if_pos rfl, prs_append]
  rfl
/-! what a division has -/
/-- Those that hold of one thing stand ahead of those that hold of more. -/
theorem filter_split {α : Type} {r : α → α → Prop} {p q : α → Bool} (hpq : ∀ a, p a = true → q a = true) : ∀ {l : List α}, l.Pairwise r → (∀ a b, r a b → q a = true → p b = true → p a = true) → l.filter q = l.filter p ++ l.filter (fun a => q a && !p a)
  | [], _, _ => rfl
  | a :: l, h, hr => by
    obtain ⟨h1, h2⟩ := List.pairwise_cons.1 h
    have ih := filter_split hpq h2 hr
    by_cases hq : q a = true
    · by_cases hp : p a = true
      · rw [List.filter_cons, if_pos hq, List.filter_cons, if_pos hp, List.filter_cons, if_neg (by simp [hp]), ih, List.cons_append]
      · have hnone : l.filter p = [] := List.filter_eq_nil_iff.2 fun b hb hpb => hp (hr a b (h1 b hb) hq hpb)
        rw [List.filter_cons, if_pos hq, List.filter_cons, if_neg hp, List.filter_cons, if_pos (by simp [hq, hp]), ih, hnone, List.nil_append, List.nil_append]
    · have hp : ¬ p a = true := fun e => hq (hpq a e)
      rw [List.filter_cons, if_neg hq, List.filter_cons, if_neg hp, List.filter_cons, if_neg (by simp [hq]), ih]
theorem filter_bin {y : Bn} : ∀ {l : List Lt}, Rise l → (∀ a ∈ l, 1 ≤ a.q) → l.filter (fun a => decide (a.b = y)) = mid y (qty l y)
  | [], _, _ => rfl
  | a :: l, h, hq => by
    obtain ⟨h1, h2⟩ := List.pairwise_cons.1 h
    have ih := filter_bin (y := y) h2 fun b hb => hq b (by simp [hb])
    have ha := hq a (by simp)
    rw [List.filter_cons, qty_cons]
    by_cases e : a.b = y
    · have hnone : l.filter (fun a => decide (a.b = y)) = [] := List.filter_eq_nil_iff.2 fun b hb he => by
        have h3 := h1 b hb
        have h4 : b.b = y := by simpa using he
        rw [h4, e] at h3
        exact bl_irrefl y h3
      rw [if_pos (by simpa using e), if_pos e, hnone]
      unfold mid
      rw [if_neg (by omega)]
      congr 1
      exact Lt.ext' e rfl
    · rw [if_neg (by simpa using e), if_neg e, ih]
def inDiv (x : Bn) (a : Lt) : Prop := a.b.o = x.o ∧ a.b.d = x.d ∧ a.b.p = x.p
instance (x : Bn) (a : Lt) : Decidable (inDiv x a) := by unfold inDiv; infer_instance
def stk (a : Lt) : St := ⟨a.b.t, a.q⟩
theorem ofTo_filter {l : List Lt} (hr : Rise l) (hm : ∀ a ∈ l, 1 ≤ a.b.t) (hq : ∀ a ∈ l, 1 ≤ a.q) (x : Bn) : ∀ j : Nat, ofTo l x j = (l.filter fun a => decide (inDiv x a ∧ a.b.t ≤ j)).map stk
  | 0 => by
    have : (l.filter fun a => decide (inDiv x a ∧ a.b.t ≤ (0 : Nat))) = [] := List.filter_eq_nil_iff.2 fun a ha h => by
      have h1 := hm a ha
      have h2 : inDiv x a ∧ a.b.t ≤ ((0 : Nat) : Int) := by simpa using h
      omega
    rw [this]
    rfl
  | j + 1 => by
    have ih := ofTo_filter hr hm hq x j
    have hs := filter_split (p := fun a : Lt => decide (inDiv x a ∧ a.b.t ≤ (j : Nat))) (q := fun a : Lt => decide (inDiv x a ∧ a.b.t ≤ ((j + 1 : Nat) : Int))) (fun a h => by
      have h1 : inDiv x a ∧ a.b.t ≤ ((j : Nat) : Int) := by simpa using h
      exact decide_eq_true ⟨h1.1, by omega⟩) hr (fun a b hab h1 h2 => by
      have g1 : inDiv x a ∧ a.b.t ≤ ((j + 1 : Nat) : Int) := of_decide_eq_true h1
      have g2 : inDiv x b ∧ b.b.t ≤ ((j : Nat) : Int) := of_decide_eq_true h2
      refine decide_eq_true ⟨g1.1, ?_⟩
      obtain ⟨⟨o1, d1, p1⟩, t1⟩ := g1
      obtain ⟨⟨o2, d2, p2⟩, t2⟩ := g2
      unfold bl at hab
      omega)
    have hrest : (l.filter fun a : Lt => decide (inDiv x a ∧ a.b.t ≤ ((j + 1 : Nat) : Int)) && !decide (inDiv x a ∧ a.b.t ≤ (j : Nat))) = l.filter (fun a => decide (a.b = withB x ((j + 1 : Nat) : Int))) := List.filter_congr fun a _ => by
      rw [Bool.eq_iff_iff]
      simp only [Bool.and_eq_true, decide_eq_true_eq, Bool.not_eq_true', decide_eq_false_iff_not]
      constructor
      · rintro ⟨⟨⟨h1, h2, h3⟩, h4⟩, h5⟩
        refine Bn.ext' h1 h2 h3 ?_
        show a.b.t = ((j + 1 : Nat) : Int)
        have : ¬ a.b.t ≤ (j : Int) := fun h => h5 ⟨⟨h1, h2, h3⟩, h⟩
        omega
      · intro e
        have g1 : a.b.o = x.o := by rw [e]; rfl
        have g2 : a.b.d = x.d := by rw [e]; rfl
        have g3 : a.b.p = x.p := by rw [e]; rfl
        have g4 : a.b.t = ((j + 1 : Nat) : Int) := by rw [e]; rfl
        refine ⟨⟨⟨g1, g2, g3⟩, by omega⟩, fun h => ?_⟩
        have h6 := h.2
        omega
    rw [hs, hrest, filter_bin hr hq, List.map_append, ← ih]
    have h0 := (qty_le_tot hq (withB x ((j + 1 : Nat) : Int))).1
    show ofTo l x j ++ (if _ then _ else _) = _
    congr 1
    unfold mid
    by_cases h : 0 < qty l (withB x ((j + 1 : Nat) : Int))
    · rw [if_pos h, if_neg (by omega)]
      rfl
    · rw [if_neg h, if_pos (by omega)]
      rfl
/-- The stacks of a division: its lots, one by one. -/
theorem ofL_filter {l : List Lt} (h : Good l) (x : Bn) : ofL l x = (l.filter fun a => decide (inDiv x a)).map stk := by
  unfold ofL
  rw [ofTo_filter h.rise (fun a ha => (h.may a ha).2.2.2.1) h.pos x 32]
  congr 1
  refine List.filter_congr fun a ha => ?_
  have := (h.may a ha).2.2.2.2
  exact decide_eq_decide.2 ⟨fun e => e.1, fun e => ⟨e, by omega⟩⟩
end Go.Proofs.Ytkljaaeeocghjaa.Bins
namespace Go.Proofs.Ytkljaaeeocghjaa.Bins
open Go.RowKit Go.Lib
open Tab (ptr)

/-- The program's bins at block Q: the table of their lots; R: what they are made of. -/
def PT (w : World) (Q : Nat) (R : Nat → Prop) (l : List Lt) : Prop := Tab.Im.PT w Q R (prs l)
theorem PT.keep {w w' : World} {Q : Nat} {R : Nat → Prop} {l : List Lt} (h : PT w Q R l) (hsz : w.heap.size ≤ w'.heap.size) (hk : ∀ k, R k → w'.heap[k]? = w.heap[k]?) : PT w' Q R l := Tab.Im.PT.keep h hsz hk
theorem PT.lt {w : World} {Q : Nat} {R : Nat → Prop} {l : List Lt} (h : PT w Q R l) (k : Nat) (hk : R k) : k < w.heap.size := Tab.Im.PT.lt h k hk
theorem PT.under {w w' : World} {Q : Nat} {R : Nat → Prop} {l : List Lt} (h : PT w Q R l) (hb : Below w.heap.size w w') : PT w' Q R l := h.keep hb.size fun k hk => hb.block k (h.lt k hk)
theorem PT.self {w : World} {Q : Nat} {R : Nat → Prop} {l : List Lt} (h : PT w Q R l) : R Q := by
  obtain ⟨ks, vs, h⟩ := h
  exact h.self
/-- A call on the bins at Q has turned their block alone; what they are made of then is what it was, or new. -/
structure Up (w w' : World) (Q : Nat) (R R' : Nat → Prop) : Prop where
  grown : w.grownBy w' (some Q)
  more : ∀ j, R' j → R j ∨ w.heap.size ≤ j
theorem Up.refl (w : World) (Q : Nat) (R : Nat → Prop) : Up w w Q R R := ⟨only_refl w _, fun _ h => .inl h⟩
theorem Up.trans {a b c : World} {Q : Nat} {R R1 R2 : Nat → Prop} (h : Up a b Q R R1) (k : Up b c Q R1 R2) : Up a c Q R R2 :=
  ⟨only_trans h.grown k.grown, fun j hj => by
    rcases k.more j hj with h1 | h1
    · exact h.more j h1
    · exact .inr (Nat.le_trans h.grown.size h1)⟩
theorem Up.of_below {w w' : World} {Q : Nat} {R : Nat → Prop} (h : Below w.heap.size w w') : Up w w' Q R R := ⟨⟨h.os, h.tape, h.output, h.size, fun k hk _ => h.block k hk⟩, fun _ h => .inl h⟩
theorem Up.step {w w' : World} {Q : Nat} {R R' : Nat → Prop} (h : Up w w' Q R R') : StepF w w' (fun k => k = Q) (fun k => k = Q) :=
  ⟨h.grown.os, h.grown.tape, h.grown.output, h.grown.size, fun k hk hn => h.grown.block k hk (fun e => hn (by cases e; rfl)), fun _ h => .inl h⟩
/-- What is new to a world, and lies behind the bins' own block. -/
theorem Up.below {w W W' : World} {Q : Nat} {R R' : Nat → Prop} (h : Up W W' Q R R') (hb : Below w.heap.size w W) (hQ : w.heap.size ≤ Q) : Below w.heap.size w W' := below_of_only hb hQ h.grown
/-! numbers, bins, lots that may be -/
theorem within_yes (n a b : Int) (w : World) (h0 : a ≤ n) (h1 : n ≤ b) : Calls Try.prog 48 #[.int .i64 n, .int .i64 a, .int .i64 b] w fun e w' => e = .returned (.bool true) ∧ w = w' := by
  go_enter Try.func48, Try.ntmps48
  go_wp2_with fail
  go_ret
  exact ⟨rfl, rfl⟩
theorem within_no (n a b : Int) (w : World) (h : n < a ∨ b < n) : Calls Try.prog 48 #[.int .i64 n, .int .i64 a, .int .i64 b] w fun e w' => e = .returned (.bool false) ∧ w = w' := by
  have h2 : n < a ∨ (¬ n < a ∧ b < n) := by omega
  clear h
  rcases h2 with h | ⟨h, k⟩
  · have d1 : decide (a ≤ n) = false := decide_eq_false (by omega)
    go_enter Try.func48, Try.ntmps48
    go_wp2_with fail
    go_ret
    exact ⟨rfl, rfl⟩
  · have d1 : decide (a ≤ n) = true := decide_eq_true (by omega)
    have d2 : decide (n ≤ b) = false := decide_eq_false (by omega)
    go_enter Try.func48, Try.ntmps48
    go_wp2_with fail
    go_ret
    exact ⟨rfl, rfl⟩
set_option maxRecDepth 100000 in
theorem room_any (a n : Int) (w : World) (h0 : 0 ≤ a) (h1 : a ≤ mq) : Calls Try.prog 29 #[.int .i64 a, .int .i64 n] w fun e w' => e = .returned (.bool (decide (n ≤ mq - a))) ∧ w = w' := by
  have h2 : IntKind.i64.wrap (1125899906842624 - a) = mq - a := by
    unfold mq at *
    exact IntWalk.i64_in _ (by omega)
  obtain ⟨s, hs⟩ : ∃ s, mq - a = s := ⟨_, rfl⟩
  rw [hs] at h2 ⊢
  have h3 : 1125899906842624 - a = s := hs
  have h4 : wrap64 s = s := IntWalk.wrap64_in _ (by unfold mq at *; omega)
  clear hs h0 h1
  go_enter Try.func29, Try.ntmps29
  go_wp2_with fail
  all_goals
    go_ret
    refine ⟨ret_bool ?_, rfl⟩
    first
    | rfl
    | exact (decide_eq_true (by omega)).symm
    | exact (decide_eq_false (by omega)).symm
set_option maxRecDepth 100000 in
set_option maxHeartbeats 1000000 in
theorem isbin_any (x : Bn) (w : World) : Calls Try.prog 47 #[bV x] w fun e w' => e = .returned (.bool (decide (MayB x))) ∧ Below w.heap.size w w' := by
  obtain ⟨V, X, hV, hX, HP⟩ := box_bin w x
  have HXB : Hid (Below w.heap.size w X) := Lib.hid (by rw [← hX]; exact (Below.refl _ w).alloc (Nat.le_refl _) _)
  obtain ⟨⟨b0, b1, b2, b3⟩, _⟩ := HP.out X (Below.refl _ _)
  obtain ⟨xo, xd, xp, xt⟩ := x
  dsimp only at b0 b1 b2 b3
  clear HP
  by_cases c0 : 0 ≤ xo ∧ xo ≤ 1099511627776
  case neg =>
    have H0 := Lib.hid (within_no xo 0 1099511627776 X (by omega))
    rw [decide_eq_false (fun h : MayB ⟨xo, xd, xp, xt⟩ => c0 h.1)]
    clear c0
    go_enter Try.func47, Try.ntmps47
    go_wp2_with fail
    clear hX hV
    refine H0.out.mono ?_
    rintro e w' ⟨rfl, rfl⟩
    go_wp2_with fail
    go_ret
    exact ⟨rfl, HXB.out⟩
  have H0 := Lib.hid (within_yes xo 0 1099511627776 X c0.1 c0.2)
  by_cases c1 : 0 ≤ xd ∧ xd ≤ 4
  case neg =>
    have H1 := Lib.hid (within_no xd 0 4 X (by omega))
    rw [decide_eq_false (fun h : MayB ⟨xo, xd, xp, xt⟩ => c1 h.2.1)]
    clear c0 c1
    go_enter Try.func47, Try.ntmps47
    go_wp2_with fail
    clear hX hV
    refine H0.out.mono ?_
    rintro e w' ⟨rfl, rfl⟩
    go_wp2_with fail
    refine H1.out.mono ?_
    rintro e w' ⟨rfl, rfl⟩
    go_wp2_with fail
    go_ret
    exact ⟨rfl, HXB.out⟩
  have H1 := Lib.hid (within_yes xd 0 4 X c1.1 c1.2)
  by_cases c2 : 1 ≤ xp ∧ xp ≤ 8
  case neg =>
    have H2 := Lib.hid (within_no xp 1 8 X (by omega))
    rw [decide_eq_false (fun h : MayB ⟨xo, xd, xp, xt⟩ => c2 h.2.2.1)]
    clear c0 c1 c2
    go_enter Try.func47, Try.ntmps47
    go_wp2_with fail
    clear hX hV
    refine H0.out.mono ?_
    rintro e w' ⟨rfl, rfl⟩
    go_wp2_with fail
    refine H1.out.mono ?_
    rintro e w' ⟨rfl, rfl⟩
    go_wp2_with fail
    refine H2.out.mono ?_
    rintro e w' ⟨rfl, rfl⟩
    go_wp2_with fail
    go_ret
    exact ⟨rfl, HXB.out⟩
  have H2 := Lib.hid (within_yes xp 1 8 X c2.1 c2.2)
  obtain ⟨r, hr⟩ : ∃ r : Bool, decide (MayB ⟨xo, xd, xp, xt⟩) = r := ⟨_, rfl⟩
  have H3 : Hid (Calls Try.prog 48 #[.int .i64 xt, .int .i64 1, .int .i64 32] X fun e w' => e = .returned (.bool r) ∧ X = w') := Lib.hid (by
    by_cases c3 : 1 ≤ xt ∧ xt ≤ 32
    · rw [decide_eq_true (show MayB ⟨xo, xd, xp, xt⟩ from ⟨c0, c1, c2, c3⟩)] at hr
      subst hr
      exact within_yes xt 1 32 X c3.1 c3.2
    · rw [decide_eq_false (fun h : MayB ⟨xo, xd, xp, xt⟩ => c3 h.2.2.2)] at hr
      subst hr
      exact within_no xt 1 32 X (by omega))
  rw [hr]
  clear c0 c1 c2 hr
  go_enter Try.func47, Try.ntmps47
  go_wp2_with fail
  clear hX hV
  refine H0.out.mono ?_
  rintro e w' ⟨rfl, rfl⟩
  go_wp2_with fail
  refine H1.out.mono ?_
  rintro e w' ⟨rfl, rfl⟩
  go_wp2_with fail
  refine H2.out.mono ?_
  rintro e w' ⟨rfl, rfl⟩
  go_wp2_with fail
  refine H3.out.mono ?_
  rintro e w' ⟨rfl, rfl⟩
  go_wp2_with fail
  go_ret
  exact ⟨rfl, HXB.out⟩
theorem isbin_at (x : Bn) (w : World) : Hid (∀ W, Below w.heap.size w W → ∀ r : Bool, decide (MayB x) = r → Calls Try.prog 47 #[bV x] W fun e w' => e = .returned (.bool r) ∧ Hid (Below w.heap.size w w')) := Lib.hid (fun W hW r hr => by
  rw [← hr]
  exact (isbin_any x W).mono fun _ _ ⟨e, h⟩ => ⟨e, Lib.hid (below_then hW h)⟩)
/-- A lot in a frame's box. -/
theorem box_lot (w : World) (t : Lt) : ∃ V X, w.heap.size = V ∧ w.alloc (.cells #[.int .i64 t.b.o, .int .i64 t.b.d, .int .i64 t.b.p, .int .i64 t.b.t, .int .i64 t.q] 66) = X ∧ Hid (∀ W, Below X.heap.size X W → CellsL W V 0 t ∧ Hid (Below w.heap.size w W)) := by
  refine ⟨_, _, rfl, rfl, Lib.hid (fun W hW => ?_)⟩
  have h0 := heap_alloc_new w (.cells #[.int .i64 t.b.o, .int .i64 t.b.d, .int .i64 t.b.p, .int .i64 t.b.t, .int .i64 t.q] 66)
  have h1 := (hW.block _ (Array.getElem?_eq_some_iff.1 h0).1).trans h0
  exact ⟨⟨cell_block (j := 0) h1 rfl, cell_block (j := 1) h1 rfl, cell_block (j := 2) h1 rfl, cell_block (j := 3) h1 rfl, cell_block (j := 4) h1 rfl⟩, Lib.hid (below_then ((Below.refl _ w).alloc (Nat.le_refl _) _) hW)⟩
set_option maxRecDepth 100000 in
set_option maxHeartbeats 1000000 in
theorem islot_any (t : Lt) (w : World) : Calls Try.prog 26 #[sV t] w fun e w' => e = .returned (.bool (decide (MayB t.b ∧ 1 ≤ t.q ∧ t.q ≤ mq))) ∧ Below w.heap.size w w' := by
  obtain ⟨V, X, hV, hX, HP⟩ := box_lot w t
  have HXB : Hid (Below w.heap.size w X) := Lib.hid (by rw [← hX]; exact (Below.refl _ w).alloc (Nat.le_refl _) _)
  obtain ⟨⟨b0, b1, b2, b3, b4⟩, _⟩ := HP.out X (Below.refl _ _)
  simp only [Nat.zero_add] at b1 b2 b3 b4
  have HI := isbin_at t.b X
  by_cases c0 : MayB t.b
  case neg =>
    have H0 := Lib.hid (HI.out X (Below.refl _ _) false (decide_eq_false c0))
    rw [decide_eq_false (fun h => c0 h.1)]
    clear c0
    go_enter Try.func26, Try.ntmps26
    go_wp2_with fail
    clear hX hV
    refine H0.out.mono ?_
    rintro e w1 ⟨rfl, HB⟩
    go_wp2_with fail
    go_ret
    exact ⟨rfl, below_then HXB.out HB.out⟩
  have H0 := Lib.hid (HI.out X (Below.refl _ _) true (decide_eq_true c0))
  obtain ⟨r, hr⟩ : ∃ r : Bool, decide (MayB t.b ∧ 1 ≤ t.q ∧ t.q ≤ mq) = r := ⟨_, rfl⟩
  have H1 : Hid (∀ W, Calls Try.prog 48 #[.int .i64 t.q, .int .i64 1, .int .i64 1125899906842624] W fun e w' => e = .returned (.bool r) ∧ W = w') := Lib.hid (fun W => by
    by_cases c1 : 1 ≤ t.q ∧ t.q ≤ mq
    · rw [decide_eq_true ⟨c0, c1⟩] at hr
      subst hr
      exact within_yes t.q 1 1125899906842624 W c1.1 c1.2
    · rw [decide_eq_false (fun h => c1 h.2)] at hr
      subst hr
      exact within_no t.q 1 1125899906842624 W (by unfold mq at c1; omega))
  rw [hr]
  clear c0 hr
  go_enter Try.func26, Try.ntmps26
  go_wp2_with fail
  clear hX hV
  refine H0.out.mono ?_
  rintro e w1 ⟨rfl, HB⟩
  obtain ⟨⟨_, _, _, _, y4⟩, _⟩ := HP.out w1 HB.out
  simp only [Nat.zero_add] at y4
  clear b0 b1 b2 b3 b4
  go_wp2_with fail
  refine (H1.out _).mono ?_
  rintro e w' ⟨rfl, rfl⟩
  go_wp2_with fail
  go_ret
  exact ⟨rfl, below_then HXB.out HB.out⟩
/-! keys -/
theorem ret_key {fn : Func} {R : Ending → World → Prop} {a : Act} {w : World} {p : Tmp} {g : Nat} {k : Tab.Key} {T : TypeId} (h : fn.results = #[.cell p 81]) (hd : a.defers = [])
    (ht : a.tmps.getD p undef = .pointer (some ⟨g, 0, none⟩)) (hb : w.heap[g]? = some (.cells #[.int .i64 k.a, .int .i64 k.b, .int .i64 k.c, .int .i64 k.d] T (0, 0))) (hR : R (.returned (Tab.kV k)) w) : bodyPost Try.prog fn R .ret a w :=
  bodyPost_ret (v := Tab.kV k) (results_cell_row h _ w g T #[.int .i64 k.a, .int .i64 k.b, .int .i64 k.c, .int .i64 k.d] (0, 0) _ ht hb Try.underlying81 rfl (by kernel_rfl)) hd hR
set_option maxRecDepth 100000 in
set_option maxHeartbeats 1000000 in
theorem key_any (x : Bn) (w : World) : Calls Try.prog 42 #[bV x] w fun e w' => e = .returned (Tab.kV (kB x)) ∧ Below w.heap.size w w' := by
  obtain ⟨V, X, hV, hX, HP⟩ := box_bin w x
  have HXB : Hid (Below w.heap.size w X) := Lib.hid (by rw [← hX]; exact (Below.refl _ w).alloc (Nat.le_refl _) _)
  obtain ⟨⟨b0, b1, b2, b3⟩, _⟩ := HP.out (X.alloc (.cells #[.int .i64 0, .int .i64 0, .int .i64 0, .int .i64 0] 81)) ((Below.refl _ _).alloc (Nat.le_refl _) _)
  clear HP
  go_enter Try.func42, Try.ntmps42
  go_wp2_with fail
  clear hX hV
  refine ret_key (k := kB x) rfl rfl rfl (heap_alloc_new X _) ⟨rfl, ?_⟩
  exact HXB.out.alloc HXB.out.size _
/-- The bin that is under a key. -/
def bK (k : Tab.Key) : Bn := ⟨k.a, k.b, k.c, k.d⟩
theorem bK_kB (x : Bn) : bK (kB x) = x := rfl
theorem box_key (w : World) (k : Tab.Key) : ∃ V X, w.heap.size = V ∧ w.alloc (.cells #[.int .i64 k.a, .int .i64 k.b, .int .i64 k.c, .int .i64 k.d] 81) = X ∧ Hid (∀ W, Below X.heap.size X W → CellsB W V (bK k) ∧ Hid (Below w.heap.size w W)) := by
  refine ⟨_, _, rfl, rfl, Lib.hid (fun W hW => ?_)⟩
  have h0 := heap_alloc_new w (.cells #[.int .i64 k.a, .int .i64 k.b, .int .i64 k.c, .int .i64 k.d] 81)
  have h1 := (hW.block _ (Array.getElem?_eq_some_iff.1 h0).1).trans h0
  exact ⟨⟨cell_block (j := 0) h1 rfl, cell_block (j := 1) h1 rfl, cell_block (j := 2) h1 rfl, cell_block (j := 3) h1 rfl⟩, Lib.hid (below_then ((Below.refl _ w).alloc (Nat.le_refl _) _) hW)⟩
set_option maxRecDepth 100000 in
set_option maxHeartbeats 1000000 in
theorem bin_any (k : Tab.Key) (w : World) : Calls Try.prog 40 #[Tab.kV k] w fun e w' => e = .returned (Tab.kV k) ∧ Below w.heap.size w w' := by
  obtain ⟨V, X, hV, hX, HP⟩ := box_key w k
  have HXB : Hid (Below w.heap.size w X) := Lib.hid (by rw [← hX]; exact (Below.refl _ w).alloc (Nat.le_refl _) _)
  obtain ⟨⟨b0, b1, b2, b3⟩, _⟩ := HP.out (X.alloc (.cells #[.int .i64 0, .int .i64 0, .int .i64 0, .int .i64 0] 25)) ((Below.refl _ _).alloc (Nat.le_refl _) _)
  unfold bK at b0 b1 b2 b3
  dsimp only at b0 b1 b2 b3
  clear HP
  go_enter Try.func40, Try.ntmps40
  go_wp2_with fail
  clear hX hV
  refine ret_bn (x := bK k) rfl rfl rfl (heap_alloc_new X _) ⟨rfl, ?_⟩
  exact HXB.out.alloc HXB.out.size _
set_option maxRecDepth 100000 in
set_option maxHeartbeats 1000000 in
theorem typed_any (x : Bn) (n : Int) (w : World) : Calls Try.prog 43 #[bV x, .int .i64 n] w fun e w' => e = .returned (bV (withB x n)) ∧ Below w.heap.size w w' := by
  have HB : Hid (Below w.heap.size w (w.alloc (.cells #[.int .i64 x.o, .int .i64 x.d, .int .i64 x.p, .int .i64 n] 25))) := Lib.hid ((Below.refl _ w).alloc (Nat.le_refl _) _)
  go_enter Try.func43, Try.ntmps43
  go_wp2_with fail
  have hb := heap_alloc_new (w.alloc (.cells #[.int .i64 x.o, .int .i64 x.d, .int .i64 x.p, .int .i64 n] 25)) (.cells #[.int .i64 x.o, .int .i64 x.d, .int .i64 x.p, .int .i64 n] 25)
  rw [World.size_alloc] at hb
  exact ret_bn (x := withB x n) rfl rfl rfl hb ⟨rfl, HB.out.alloc HB.out.size _⟩
/-! what lies in a bin -/
set_option maxRecDepth 100000 in
set_option maxHeartbeats 2000000 in
theorem at_im {Q : Nat} {R : Nat → Prop} {l : List Lt} (x : Bn) (w : World) (h : PT w Q R l) (hr : Rise l) (hq : ∀ a ∈ l, 1 ≤ a.q) (hl : l.length ≤ 1000) :
    Calls Try.prog 27 #[ptr Q, bV x] w fun e w' => e = .returned (.int .i64 (qty l x)) ∧ Below w.heap.size w w' := by
  obtain ⟨V, X, hV, hX, HP⟩ := box_bin w x
  have HXB : Hid (Below w.heap.size w X) := Lib.hid (by rw [← hX]; exact (Below.refl _ w).alloc (Nat.le_refl _) _)
  have HXD : Hid (Below X.heap.size X X.drew) := Lib.hid (Below.refl _ X).drew
  obtain ⟨b, hb⟩ : ∃ b, Tab.has (prs l) (kB x) = b := ⟨_, rfl⟩
  obtain ⟨n, hn⟩ : ∃ n, qty l x = n := ⟨_, rfl⟩
  have HG : Hid (∀ W, Below X.heap.size X W → Calls Try.prog 49 #[ptr Q, Tab.kV (kB x)] W fun e w' => e = .returned (.tuple #[.int .i64 n, .bool b]) ∧ Hid (Below X.heap.size X w')) := Lib.hid (fun W hW => by
    have := Tab.Im.get_im (kB x) W (h.under (below_then HXB.out hW)) (prs_rising hr) (by rw [prs_length]; exact hl)
    rw [value_prs hr hq, hb, hn] at this
    exact this.mono fun _ _ ⟨e, h⟩ => ⟨e, Lib.hid (below_then hW h)⟩)
  have HK : Hid (∀ W, Below X.heap.size X W → Calls Try.prog 42 #[bV x] W fun e w' => e = .returned (Tab.kV (kB x)) ∧ Hid (Below X.heap.size X w')) := Lib.hid (fun W hW => (key_any x W).mono fun _ _ ⟨e, h⟩ => ⟨e, Lib.hid (below_then hW h)⟩)
  rw [hn]
  obtain ⟨k, hk⟩ : ∃ k, kB x = k := ⟨_, rfl⟩
  rw [hk] at HG HK
  clear h hr hq hl hb hn hk
  obtain ⟨⟨b0, b1, b2, b3⟩, _⟩ := HP.out X (Below.refl _ _)
  go_enter Try.func27, Try.ntmps27
  go_wp2_with fail
  clear hX hV
  go_region_held3 (fun W => W.cell? ⟨V, 0, none⟩ = some (.int .i64 x.o) ∧ W.cell? ⟨V, 1, none⟩ = some (.int .i64 x.d) ∧ W.cell? ⟨V, 2, none⟩ = some (.int .i64 x.p) ∧ W.cell? ⟨V, 3, none⟩ = some (.int .i64 x.t))
    (first | exact (HP.out _ HXD.out).1 | exact (HP.out _ H1.out).1 | exact (HP.out _ H2.out).1)
    (first
      | (go_at_call 42; refine (HK.out _ HXD.out).mono ?_; rintro e w1 ⟨rfl, H1⟩)
      | (go_at_call 49; refine (HG.out _ H1.out).mono ?_; rintro e w2 ⟨rfl, H2⟩))
  all_goals
    go_wp2_with fail
    go_ret
    exact ⟨rfl, below_then HXB.out H2.out⟩
/-- What the table's own calls make of its lots. -/
theorem del_any {Q : Nat} {R : Nat → Prop} {l : List Lt} (x : Bn) (w : World) (h : PT w Q R l) (hr : Rise l) (hl : l.length ≤ 1000) :
    Calls Try.prog 50 #[ptr Q, Tab.kV (kB x)] w fun e w' => ∃ b, e = .returned (.bool b) ∧ Hid (∃ R', PT w' Q R' (setL l x 0) ∧ Up w w' Q R R') := by
  have hd := del_prs (x := x) hr
  cases hh : Tab.has (prs l) (kB x) with
  | true =>
    refine (Tab.Im.del_yes (kB x) w h (prs_rising hr) (by rw [prs_length]; exact hl) hh).mono ?_
    rintro e w' ⟨rfl, R', h1, h2, h3⟩
    rw [hd] at h1
    exact ⟨true, rfl, Lib.hid ⟨R', h1, h2, h3⟩⟩
  | false =>
    have h0 := h
    obtain ⟨ks, vs, hv⟩ := h
    refine (Tab.Im.del_no (kB x) w hv.tl (prs_rising hr) (by rw [prs_length]; exact hl) hh).mono ?_
    rintro e w' ⟨rfl, hb⟩
    refine ⟨false, rfl, Lib.hid ⟨R, ?_, Up.of_below hb⟩⟩
    have h1 := h0.under hb
    unfold PT at h1 ⊢
    rw [← hd]
    unfold Tab.del
    rw [hh, if_neg (by simp)]
    exact h1
theorem put_any {Q : Nat} {R : Nat → Prop} {l : List Lt} (x : Bn) (n : Int) (w : World) (h : PT w Q R l) (hr : Rise l) (hl : l.length ≤ 1000) (hn : n ≠ 0) :
    Calls Try.prog 51 #[ptr Q, Tab.kV (kB x), .int .i64 n] w fun e w' => ∃ b, e = .returned (.bool b) ∧ Hid (∃ R', PT w' Q R' (setL l x n) ∧ Up w w' Q R R') := by
  have hd := put_prs (x := x) hr hn
  cases hh : Tab.has (prs l) (kB x) with
  | true =>
    refine (Tab.Im.put_yes (kB x) n w h (prs_rising hr) (by rw [prs_length]; exact hl) hh).mono ?_
    rintro e w' ⟨rfl, R', h1, h2, h3⟩
    rw [hd] at h1
    exact ⟨false, rfl, Lib.hid ⟨R', h1, h2, h3⟩⟩
  | false =>
    refine (Tab.Im.put_no (kB x) n w h (prs_rising hr) (by rw [prs_length]; exact hl) hh).mono ?_
    rintro e w' ⟨rfl, R', h1, h2, h3⟩
    rw [hd] at h1
    exact ⟨true, rfl, Lib.hid ⟨R', h1, h2, h3⟩⟩
/-- A box that a call on the bins leaves alone. -/
theorem CellsB.up {W w' : World} {Q V : Nat} {R R' : Nat → Prop} {x : Bn} (h : CellsB W V x) (u : Up W w' Q R R') (hV : V < W.heap.size) (hne : V ≠ Q) : CellsB w' V x := by
  have hc : ∀ j, w'.cell? ⟨V, j, none⟩ = W.cell? ⟨V, j, none⟩ := fun j => World.cell?_of_block (w := W) (w' := w') (a := ⟨V, j, none⟩) (u.grown.block V hV (fun e => hne (by cases e; rfl)))
  exact ⟨(hc 0).trans h.1, (hc 1).trans h.2.1, (hc 2).trans h.2.2.1, (hc 3).trans h.2.2.2⟩
set_option maxRecDepth 100000 in
set_option maxHeartbeats 2000000 in
/-- So many lie in a bin from then on. -/
theorem set_im {Q : Nat} {R : Nat → Prop} {l : List Lt} (x : Bn) (n : Int) (w : World) (h : PT w Q R l) (hr : Rise l) (hl : l.length ≤ 1000) :
    Calls Try.prog 28 #[ptr Q, bV x, .int .i64 n] w fun e w' => e = .returned (.tuple #[]) ∧ Hid (∃ R', PT w' Q R' (setL l x n) ∧ Up w w' Q R R') := by
  obtain ⟨V, X, hV, hX, HP⟩ := box_bin w x
  have HXB : Hid (Below w.heap.size w X) := Lib.hid (by rw [← hX]; exact (Below.refl _ w).alloc (Nat.le_refl _) _)
  have HXD : Hid (Below X.heap.size X X.drew) := Lib.hid (Below.refl _ X).drew
  have hsX : X.heap.size = w.heap.size + 1 := by rw [← hX]; simp
  have HK : Hid (∀ W, Below X.heap.size X W → Calls Try.prog 42 #[bV x] W fun e w' => e = .returned (Tab.kV (kB x)) ∧ Hid (Below X.heap.size X w')) := Lib.hid (fun W hW => (key_any x W).mono fun _ _ ⟨e, h⟩ => ⟨e, Lib.hid (below_then hW h)⟩)
  have HU : Hid (∀ W w', Below X.heap.size X W → (∃ R', PT w' Q R' (setL l x n) ∧ Up W w' Q R R') → (∃ R', PT w' Q R' (setL l x n) ∧ Up w w' Q R R') ∧ CellsB w' V x) := Lib.hid (fun W w' hW ⟨R', h1, h2⟩ => ⟨⟨R', h1, (Up.of_below (below_then HXB.out hW)).trans h2⟩, CellsB.up (HP.out W hW).1 h2 (by have := hW.size; omega) (by have := h.lt Q h.self; omega)⟩)
  obtain ⟨⟨b0, b1, b2, b3⟩, _⟩ := HP.out X (Below.refl _ _)
  by_cases h0 : n = 0
  · subst h0
    have HG : Hid (∀ W, Below X.heap.size X W → Calls Try.prog 50 #[ptr Q, Tab.kV (kB x)] W fun e w' => ∃ b, e = .returned (.bool b) ∧ Hid ((∃ R', PT w' Q R' (setL l x 0) ∧ Up w w' Q R R') ∧ CellsB w' V x)) := Lib.hid (fun W hW => (del_any x W (h.under (below_then HXB.out hW)) hr hl).mono fun _ _ ⟨b, e, h⟩ => ⟨b, e, Lib.hid (HU.out W _ hW h.out)⟩)
    obtain ⟨k, hk⟩ : ∃ k, kB x = k := ⟨_, rfl⟩
    rw [hk] at HG HK
    clear h hr hl hk hsX HU
    go_enter Try.func28, Try.ntmps28
    go_wp2_with fail
    clear hX hV
    go_region_held3 (fun W => W.cell? ⟨V, 0, none⟩ = some (.int .i64 x.o) ∧ W.cell? ⟨V, 1, none⟩ = some (.int .i64 x.d) ∧ W.cell? ⟨V, 2, none⟩ = some (.int .i64 x.p) ∧ W.cell? ⟨V, 3, none⟩ = some (.int .i64 x.t))
      (first | exact (HP.out _ HXD.out).1 | exact (HP.out _ H1.out).1 | exact H2.out.2)
      (first
        | (go_at_call 42; refine (HK.out _ HXD.out).mono ?_; rintro e w1 ⟨rfl, H1⟩)
        | (go_at_call 50; refine (HG.out _ H1.out).mono ?_; rintro e w2 ⟨bb, rfl, H2⟩))
    all_goals
      go_wp2_with fail
      (try simp only [Exit.inBlock, Exit.then])
      refine bodyPost_ret (results_none rfl _ _ _) rfl ?_
      exact ⟨rfl, Lib.hid H2.out.1⟩
  · have hb1 : (n == 0) = false := by simpa using h0
    have HG : Hid (∀ W, Below X.heap.size X W → Calls Try.prog 51 #[ptr Q, Tab.kV (kB x), .int .i64 n] W fun e w' => ∃ b, e = .returned (.bool b) ∧ Hid ((∃ R', PT w' Q R' (setL l x n) ∧ Up w w' Q R R') ∧ CellsB w' V x)) := Lib.hid (fun W hW => (put_any x n W (h.under (below_then HXB.out hW)) hr hl h0).mono fun _ _ ⟨b, e, h⟩ => ⟨b, e, Lib.hid (HU.out W _ hW h.out)⟩)
    obtain ⟨k, hk⟩ : ∃ k, kB x = k := ⟨_, rfl⟩
    rw [hk] at HG HK
    clear h hr hl hk hsX HU
    go_enter Try.func28, Try.ntmps28
    go_wp2_with fail
    clear hX hV
    go_region_held3 (fun W => W.cell? ⟨V, 0, none⟩ = some (.int .i64 x.o) ∧ W.cell? ⟨V, 1, none⟩ = some (.int .i64 x.d) ∧ W.cell? ⟨V, 2, none⟩ = some (.int .i64 x.p) ∧ W.cell? ⟨V, 3, none⟩ = some (.int .i64 x.t))
      (first | exact (HP.out _ HXD.out).1 | exact (HP.out _ H1.out).1 | exact H2.out.2)
      (first
        | (go_at_call 42; refine (HK.out _ HXD.out).mono ?_; rintro e w1 ⟨rfl, H1⟩)
        | (go_at_call 51; refine (HG.out _ H1.out).mono ?_; rintro e w2 ⟨bb, rfl, H2⟩))
    all_goals
      go_wp2_with fail
      go_end0
      exact ⟨rfl, Lib.hid H2.out.1⟩
/-- The same behind a box. -/
theorem set_box {w : World} {Q : Nat} {R : Nat → Prop} {l : List Lt} (y : Bn) (n : Int) {V : Nat} {X : World} {x : Bn} (h : PT w Q R l) (hr : Rise l) (hl : l.length ≤ 1000) (hV : w.heap.size = V) (hb : Below w.heap.size w X) (hVX : V < X.heap.size) (HP : ∀ W, Below X.heap.size X W → CellsB W V x ∧ Hid (Below w.heap.size w W)) :
    ∀ W, Below X.heap.size X W → Calls Try.prog 28 #[ptr Q, bV y, .int .i64 n] W fun e w' => e = .returned (.tuple #[]) ∧ Hid ((∃ R', PT w' Q R' (setL l y n) ∧ Up w w' Q R R') ∧ CellsB w' V x) := fun W hW => by
  refine (set_im y n W (h.under (below_then hb hW)) hr hl).mono ?_
  rintro e w' ⟨rfl, H⟩
  obtain ⟨R', h1, h2⟩ := H.out
  exact ⟨rfl, Lib.hid ⟨⟨R', h1, (Up.of_below (below_then hb hW)).trans h2⟩, CellsB.up (HP W hW).1 h2 (by have := hW.size; omega) (by have := h.lt Q h.self; omega)⟩⟩
/-! Qty -/
set_option maxRecDepth 100000 in
set_option maxHeartbeats 1000000 in
theorem qty_im {Q : Nat} {R : Nat → Prop} {l : List Lt} (x : Bn) (w : World) (h : PT w Q R l) (hg : Good l) (hl : l.length ≤ 1000) :
    Calls Try.prog 15 #[ptr Q, bV x] w fun e w' => e = .returned (.int .i64 (qty l x)) ∧ Below w.heap.size w w' := by
  obtain ⟨V, X, hV, hX, HP⟩ := box_bin w x
  have HXB : Hid (Below w.heap.size w X) := Lib.hid (by rw [← hX]; exact (Below.refl _ w).alloc (Nat.le_refl _) _)
  have HA : Hid (Calls Try.prog 27 #[ptr Q, bV x] X.drew fun e w' => e = .returned (.int .i64 (qty l x)) ∧ Hid (Below w.heap.size w w')) := Lib.hid ((at_im x X.drew (h.under (below_then HXB.out (Below.refl _ X).drew)) hg.rise hg.pos hl).mono fun _ _ ⟨e, h⟩ => ⟨e, Lib.hid (below_then (below_then HXB.out (Below.refl _ X).drew) h)⟩)
  obtain ⟨⟨b0, b1, b2, b3⟩, _⟩ := HP.out X (Below.refl _ _)
  obtain ⟨n, hn⟩ : ∃ n, qty l x = n := ⟨_, rfl⟩
  rw [hn] at HA ⊢
  clear h hg hl hn
  go_enter Try.func15, Try.ntmps15
  go_wp2_with fail
  clear hX hV
  go_still_tail 4, (by kernel_rfl)
  change wpList _ _ _ _ _ X.drew
  go_wp2_with (go_at_call 27; refine HA.out.mono ?_; rintro e w1 ⟨rfl, H1⟩)
  go_ret
  exact ⟨rfl, H1.out⟩
end Go.Proofs.Ytkljaaeeocghjaa.Bins
namespace Go.Proofs.Ytkljaaeeocghjaa.Bins
open Go.RowKit Go.Lib Go.Shelf
open Tab (ptr)
attribute [local go_sem] Oper.semAt_some

theorem wrap_more (a b : Int) : wrap64 (wrap64 a + b) = wrap64 (a + b) := by unfold wrap64; omega
/-- The numbers of pairs of a type, together. -/
def tk (k : Int) : List Tab.Pair → Int
  | [] => 0
  | p :: l => (if p.k.d = k then p.v else 0) + tk k l
theorem tk_snoc (k : Int) (l : List Tab.Pair) (p : Tab.Pair) : tk k (l ++ [p]) = tk k l + (if p.k.d = k then p.v else 0) := by
  induction l with
  | nil => simp [tk]
  | cons a l ih =>
    show _ + tk k (l ++ [p]) = _ + tk k l + _
    rw [ih]
    omega
theorem tk_prs (k : Int) : ∀ l : List Lt, tk k (prs l) = tot l k
  | [] => rfl
  | a :: l => by
    show (if a.b.t = k then a.q else 0) + tk k (prs l) = (if a.b.t = k then a.q else 0) + tot l k
    rw [tk_prs k l]
theorem PT.lists {w : World} {Q : Nat} {R : Nat → Prop} {l : List Lt} (h : PT w Q R l) (hl : l.length ≤ 1000) : ∀ W, Below w.heap.size w W → Calls Try.prog 39 #[ptr Q] W fun e w' => ∃ gf lb, e = .returned (.func (.func gf) #[] lb) ∧ Hid (Below W.heap.size W w' ∧ Tab.Im.Goes w' (fun k => k < w.heap.size ∧ R k) gf lb (prs l)) := fun W hW => by
  obtain ⟨ks, vs, h⟩ := h
  have h2 := h.under hW
  refine (Tab.Im.all_goes W (R := fun k => k < w.heap.size ∧ R k) (fun k hk => Nat.lt_of_lt_of_le hk.1 hW.size) ?_ (by rw [prs_length]; exact hl) h2.tl.lists)
  obtain ⟨a, c, b, d, e1, e2, g1, g2, hat⟩ := h2.reads
  refine ⟨a, c, b, d, e1, e2, g1, g2, fun i p hp => ?_⟩
  obtain ⟨g, o, f, u, e3, e4, r1, r2, q⟩ := hat i p hp
  exact ⟨g, o, f, u, e3, e4, ⟨h.lt g r1.1, r1.1⟩, ⟨h.lt f r2.1, r2.1⟩, q⟩
/-- The bin of a key that lies in a box, inside a round. -/
theorem bin_round (lo m : Nat) (a b c d : Int) (W : World) : CallsIn (Fence.wide.inRound lo) m Try.prog 40 #[.agg #[.int .i64 a, .int .i64 b, .int .i64 c, .int .i64 d]] W fun e w' => e = .returned (.agg #[.int .i64 a, .int .i64 b, .int .i64 c, .int .i64 d]) ∧ Hid (Below W.heap.size W w') :=
  CallsIn.inRound lo (callsIn_wide.2 ((bin_any ⟨a, b, c, d⟩ W).mono fun _ _ ⟨e, h⟩ => ⟨e, Lib.hid h⟩))
set_option maxRecDepth 100000 in
theorem field_type (a b c d : Int) (W : World) : (Instr.field 25 (.agg #[.int .i64 a, .int .i64 b, .int .i64 c, .int .i64 d]) 3).run Try.prog W = .ok (.int .i64 d) W := by kernel_rfl
set_option maxRecDepth 100000 in
set_option maxHeartbeats 4000000 in
theorem total_im {Q : Nat} {R : Nat → Prop} {l : List Lt} (k : Int) (w : World) (h : PT w Q R l) (hg : Good l) (hl : l.length ≤ 1000) :
    Calls Try.prog 17 #[ptr Q, .int .i64 k] w fun e w' => e = .returned (.int .i64 (tot l k)) ∧ Below w.heap.size w w' := by
  have HRR : Hid (∀ k, (k < w.heap.size ∧ R k) → k < w.heap.size) := Lib.hid fun k hk => hk.1
  have hBK : Below w.heap.size w (w.alloc (.cells #[.int .i64 k] 3)) := (Below.refl _ w).alloc (Nat.le_refl _) _
  have hB0 : Below w.heap.size w ((w.alloc (.cells #[.int .i64 k] 3)).alloc (.cells #[.int .i64 0] 3)) := hBK.alloc hBK.size _
  have HC := Lib.hid (h.lists hl ((w.alloc (.cells #[.int .i64 k] 3)).alloc (.cells #[.int .i64 0] 3)) hB0)
  have bO := Boxed.new (w.alloc (.cells #[.int .i64 k] 3)) 3 (.int .i64 0)
  have bK := (Boxed.new w 3 (.int .i64 k)).alloc (.cells #[.int .i64 0] 3)
  rw [World.size_alloc] at bO
  have HB0 := Lib.hid hB0; have HBO := Lib.hid bO; have HBK := Lib.hid bK; have HT := Lib.hid (hg.tot k); have HM := Lib.hid (tot_nonneg (fun a ha => by have := hg.pos a ha; omega : ∀ a ∈ l, 0 ≤ a.q) k)
  clear hB0 bO bK h hg hBK
  refine (callsIn_wide (n := 6)).1 ?_
  refine callsIn_of_wp_marks Try.func17 rfl trivial ?_ rfl
  simp only [Try.ntmps17, List.size_toArray, List.length_cons, List.length_nil, Nat.reduceAdd, Nat.reduceSub, Array.replicate_succ, Array.replicate_zero, List.push_toArray, List.append_toArray, List.nil_append, List.cons_append]
  gi_wp2_with (refine ⟨trivial, ?_⟩; gi_at_call 39; refine (callsIn_wide.2 HC.out).mono ?_; rintro e w1 ⟨gf, lb, rfl, H1⟩)
  obtain ⟨hb1, eg, hgo⟩ := H1.out
  have hB1 : Below w.heap.size w w1 := HB0.out.trans (hb1.mono HB0.out.size)
  have bO : Boxed w1 (w.heap.size + 1) 3 (.int .i64 0) := (hb1.block _ HBO.out.lt).trans HBO.out
  have bK : Boxed w1 w.heap.size 3 (.int .i64 k) := (hb1.block _ HBK.out.lt).trans HBK.out
  have hlt1 : w.heap.size + 1 < w1.heap.size := bO.lt
  refine wpIn_rangeFunc_ownH rfl (by omega) (gf := gf) (lb := lb) rfl trivial eg
    (hgo (6 - 1) (by omega)) Keep.trans (keep_b (fun k hk => by have := HRR.out k hk; omega)) (Below.refl _ _) (fun _ => rfl)
    (fun pre W => (Boxed W (w.heap.size + 1) 3 (.int .i64 (wrap64 (tk k pre))) ∧ Boxed W w.heap.size 3 (.int .i64 k)) ∧ Below w.heap.size w W)
    (fun _ _ _ => False)
    (OwnFrom.and (OwnFrom.and (Own.from (boxed_own (w.heap.size + 1) 3 (fun pre => .int .i64 (wrap64 (tk k pre)))) _) (Own.from (boxed_own w.heap.size 3 (fun _ => .int .i64 k)) _)) (ownFrom_below (Nat.le_refl _) (by omega)))
    (fun _ _ _ _ _ hs _ _ => hs)
    ⟨⟨by have h0 : wrap64 (tk k []) = 0 := IntWalk.wrap64_in 0 (by omega)
         rw [h0]; exact bO, bK⟩, hB1⟩
    (fun x a' W => ∃ Bx, w.heap.size + 1 < Bx ∧ W.heap[Bx]? = some (.cells x.k.cells 81 (0, 0)) ∧ a' = { tmps := #[ptr Q, .int .i64 k, undef, .pointer (some ⟨w.heap.size, 0, none⟩), .int .i64 0, .pointer (some ⟨w.heap.size + 1, 0, none⟩), .pointer (some ⟨Bx, 0, none⟩), .int .i64 x.v, ptr Q, .bool false, ptr Q, .pointer (some ⟨Q, 0, none⟩), .pointer (some ⟨Q, 0, none⟩), .pointer (some ⟨Q, 0, none⟩), .func (.func gf) #[] lb, Tab.kV x.k, .int .i64 x.v, undef, undef, undef, undef, undef, undef, undef, undef, undef], defers := [] })
    (fun x a' _ X Y row hs hg hr => by
      obtain ⟨Bx, h1, h2, h3⟩ := hs
      exact ⟨Bx, h1, (hg.block Bx (Array.getElem?_eq_some_iff.1 h2).1 (fun e => by
        obtain ⟨_, o, ho, hc⟩ := hr Bx e.symm
        rw [h2] at ho
        cases ho
        cases hc)).trans h2, h3⟩)
    ?assign ?body ?done ?stop
  case assign =>
    rintro lo pre x W K ⟨⟨hv, hk⟩, hB⟩ hK
    have hlv := hv.lt
    gi_wp2
    exact hK _ _ ((KeepsOthers.alloc _ _).from _) (keep_below HRR.out ((Below.refl _ W).alloc hB.size _)) ⟨⟨hv.alloc _, hk.alloc _⟩, hB.alloc hB.size _⟩ ⟨W.heap.size, hlv, heap_alloc_new W _, rfl⟩
  case body =>
    rintro lo pre ⟨⟨ka, kb, kc, kd⟩, xv⟩ a' W hlo ⟨r, hr⟩ ⟨⟨hv, hk⟩, hB⟩ ⟨Bx, hBx, hbx, rfl⟩ hlt
    dsimp only
    have hkc := hk.cell
    have k0 : W.cell? ⟨Bx, 0, none⟩ = some (.int .i64 ka) := Tab.key_at hbx 0 (by omega)
    have k1 : W.cell? ⟨Bx, 1, none⟩ = some (.int .i64 kb) := Tab.key_at hbx 1 (by omega)
    have k2 : W.cell? ⟨Bx, 2, none⟩ = some (.int .i64 kc) := Tab.key_at hbx 2 (by omega)
    have k3 : W.cell? ⟨Bx, 3, none⟩ = some (.int .i64 kd) := Tab.key_at hbx 3 (by omega)
    have HBI := Lib.hid (fun m => (bin_round lo m ka kb kc kd W.drew).mono fun _ _ ⟨e, h⟩ => (⟨e, Lib.hid (below_then (Below.refl _ W).drew h.out)⟩ : _ = _ ∧ Hid (Below W.heap.size W _)))
    have hfd := field_type ka kb kc kd
    have HST : Hid (∀ V, Below W.heap.size W V → (Boxed V (w.heap.size + 1) 3 (.int .i64 (wrap64 (tk k pre))) ∧ Boxed V w.heap.size 3 (.int .i64 k)) ∧ Below w.heap.size w V ∧ KeepsOthers W V) := Lib.hid (fun V hV => ⟨⟨(hV.block _ hv.lt).trans hv, (hV.block _ hk.lt).trans hk⟩, hB.trans (hV.mono hB.size), ⟨hV.size, fun k o h1 _ => (hV.block k (Array.getElem?_eq_some_iff.1 h1).1).trans h1⟩⟩)
    clear hbx
    by_cases hd : kd = k
    · subst hd
      have he : tk kd (pre ++ [⟨⟨ka, kb, kc, kd⟩, xv⟩]) = tk kd pre + xv := by rw [tk_snoc, if_pos rfl]
      have HE := Lib.hid he
      clear he
      gi_wp2
      gi_region_with (refine ⟨trivial, ?_⟩; gi_at_call 40; refine (HBI.out _).mono ?_; rintro e w2 ⟨rfl, H2⟩; have hkc2 := (HST.out w2 H2.out).1.2.cell)
      all_goals
        obtain ⟨⟨hv2, hk2⟩, hB2, hko⟩ := HST.out w2 H2.out
        have hc := hv2.cell
        have hf := hv2.frozen
        gi_wp2
        have hv3 := hv2.set (.int .i64 (wrap64 (wrap64 (tk kd pre) + xv)))
        rw [wrap_more, ← HE.out] at hv3
        rw [wrap_more, ← HE.out]
        have hb3 : Below w.heap.size w2 (w2.setCell ⟨w.heap.size + 1, 0, none⟩ (.int .i64 (wrap64 (tk kd (pre ++ [⟨⟨ka, kb, kc, kd⟩, xv⟩]))))) := (Below.refl _ w2).setCell (p := ⟨w.heap.size + 1, 0, none⟩) (by simp) _
        exact ⟨(hko.trans (KeepsOthers.setCell _ _ _)).from _, keep_below HRR.out ((H2.out.mono hB.size).trans hb3), ⟨hv3, hk2.other (by omega) _⟩, hB2.trans hb3⟩
    · have hdb : (kd == k) = false := by simpa using hd
      have HE : Hid (tk k (pre ++ [⟨⟨ka, kb, kc, kd⟩, xv⟩]) = tk k pre) := Lib.hid (by rw [tk_snoc, if_neg hd, Int.add_zero])
      clear hd
      gi_wp2
      gi_region_with (refine ⟨trivial, ?_⟩; gi_at_call 40; refine (HBI.out _).mono ?_; rintro e w2 ⟨rfl, H2⟩; have hkc2 := (HST.out w2 H2.out).1.2.cell)
      all_goals
        obtain ⟨⟨hv2, hk2⟩, hB2, hko⟩ := HST.out w2 H2.out
        gi_wp2
        have hv3 : Boxed w2 (w.heap.size + 1) 3 (.int .i64 (wrap64 (tk k (pre ++ [⟨⟨ka, kb, kc, kd⟩, xv⟩])))) := by rw [HE.out]; exact hv2
        exact ⟨hko.from _, keep_below HRR.out (H2.out.mono hB.size), ⟨hv3, hk2⟩, hB2⟩
  case done =>
    rintro D ys W hD rfl ⟨⟨hv, hk⟩, hB⟩ hK
    have hc := hv.cell
    gi_wp2
    refine ⟨by simp, .inl ⟨_, _, rfl, run_takeDeferred hK, ?_⟩⟩
    have ht : wrap64 (tk k (prs l)) = tot l k := by
      rw [tk_prs]
      have h1 := HM.out
      have h2 := HT.out
      unfold mq at h2
      exact IntWalk.wrap64_in _ (by omega)
    rw [ht]
    exact ⟨_, results_tmp rfl _ _ _, rfl, hB.trans (belowK_b (w := w) (Nat.le_refl _) W D _ _ (by omega) hK rfl rfl)⟩
  case stop =>
    rintro D c pre W _ _ h _
    exact h.elim
end Go.Proofs.Ytkljaaeeocghjaa.Bins
namespace Go.Proofs.Ytkljaaeeocghjaa.Bins
open Go.RowKit Go.Lib Go.Shelf
open Tab (ptr)
attribute [local go_sem] Oper.semAt_some

def lts (l : List Tab.Pair) : List Lt := l.map fun p => ⟨bK p.k, p.v⟩
theorem lts_prs (l : List Lt) : lts (prs l) = l := by
  unfold lts prs
  rw [List.map_map]
  exact List.map_id'' (fun _ => rfl) l
def pcells (l : List Tab.Pair) : List Value := lcells (lts l)
theorem pcells_snoc (pre : List Tab.Pair) (x : Tab.Pair) : pcells (pre ++ [x]) = pcells pre ++ [.int .i64 x.k.a, .int .i64 x.k.b, .int .i64 x.k.c, .int .i64 x.k.d, .int .i64 x.v] := by
  unfold pcells lts
  rw [List.map_append, lcells_append]
  rfl
theorem src_five (W : World) (a b c d n : Int) (t : TypeId) (j : Nat) (u : Value) (h : [Value.int .i64 a, .int .i64 b, .int .i64 c, .int .i64 d, .int .i64 n][j]? = some u) : (W.alloc (.cells #[.int .i64 a, .int .i64 b, .int .i64 c, .int .i64 d, .int .i64 n] t)).cell? ((⟨W.heap.size, 0, none⟩ : Addr).add j) = some u := by
  have hblk := heap_alloc_new W (.cells #[.int .i64 a, .int .i64 b, .int .i64 c, .int .i64 d, .int .i64 n] t)
  rw [addr_add, Nat.zero_add]
  refine cell_block (j := j) hblk ?_
  rw [← Array.getElem?_toList]
  exact h
theorem one_five (a b c d n : Int) : ∀ u ∈ [Value.int .i64 a, .int .i64 b, .int .i64 c, .int .i64 d, .int .i64 n], u.oneCell' = true := by
  intro u h
  simp at h
  rcases h with rfl | rfl | rfl | rfl | rfl <;> rfl
set_option maxRecDepth 100000 in
set_option maxHeartbeats 4000000 in
theorem list_im {Q : Nat} {R : Nat → Prop} {l : List Lt} (w : World) (h : PT w Q R l) (hl : l.length ≤ 1000) :
    Calls Try.prog 14 #[ptr Q] w fun e w' => ∃ v, e = .returned v ∧ OwnL w' w.heap.size v l ∧ Below w.heap.size w w' := by
  obtain ⟨i0, hi, hz0, hz1, hz2⟩ := info_parts info_lt
  have HRR : Hid (∀ k, (k < w.heap.size ∧ R k) → k < w.heap.size) := Lib.hid fun k hk => hk.1
  have hB0 : Below w.heap.size w (w.alloc (.cells #[.slice none 0 0] 22)) := (Below.refl _ w).alloc (Nat.le_refl _) _
  have HC := Lib.hid (h.lists hl (w.alloc (.cells #[.slice none 0 0] 22)) hB0)
  have bO := Boxed.new w 22 (.slice none 0 0)
  have HB0 := Lib.hid hB0; have HBO := Lib.hid bO
  have hpl : (prs l).length ≤ 1000 := by rw [prs_length]; exact hl
  clear hB0 bO h
  refine (callsIn_wide (n := 6)).1 ?_
  refine callsIn_of_wp_marks Try.func14 rfl trivial ?_ rfl
  simp only [Try.ntmps14, List.size_toArray, List.length_cons, List.length_nil, Nat.reduceAdd, Nat.reduceSub, Array.replicate_succ, Array.replicate_zero, List.push_toArray, List.append_toArray, List.nil_append, List.cons_append]
  gi_wp2_with (refine ⟨trivial, ?_⟩; gi_at_call 39; refine (callsIn_wide.2 HC.out).mono ?_; rintro e w1 ⟨gf, lb, rfl, H1⟩)
  obtain ⟨hb1, eg, hgo⟩ := H1.out
  have hB1 : Below w.heap.size w w1 := HB0.out.trans (hb1.mono HB0.out.size)
  have bO : Boxed w1 w.heap.size 22 (.slice none 0 0) := (hb1.block w.heap.size HBO.out.lt).trans HBO.out
  have hlt1 : w.heap.size < w1.heap.size := bO.lt
  refine wpIn_rangeFunc_ownH rfl (by omega) (gf := gf) (lb := lb) rfl trivial eg
    (hgo (6 - 1) (by omega)) Keep.trans (keep_b (fun k hk => by have := HRR.out k hk; omega)) (Below.refl _ _) (fun _ => rfl)
    (fun pre W => (∃ v, Boxed W w.heap.size 22 v ∧ W.ownsRow w.heap.size 66 5 v pre.length (pcells pre) ∧ True) ∧ Below w.heap.size w W)
    (fun _ _ _ => False)
    (OwnFrom.and (Own.from (holdsRow_own w.heap.size w.heap.size 22 66 5 (fun pre => pre.length) (fun pre => pcells pre) (fun _ _ => True)) _) (ownFrom_below (Nat.le_refl _) (by omega)))
    (fun _ _ _ _ _ hs _ _ => hs)
    ⟨⟨_, bO, World.ownsRow_nil _ _ _ _, trivial⟩, hB1⟩
    (fun x a' W => ∃ Bx, w.heap.size < Bx ∧ W.heap[Bx]? = some (.cells x.k.cells 81 (0, 0)) ∧ a' = { tmps := #[ptr Q, undef, .slice none 0 0, .pointer (some ⟨w.heap.size, 0, none⟩), .pointer (some ⟨Bx, 0, none⟩), .int .i64 x.v, ptr Q, .bool false, ptr Q, .pointer (some ⟨Q, 0, none⟩), .pointer (some ⟨Q, 0, none⟩), .pointer (some ⟨Q, 0, none⟩), .func (.func gf) #[] lb, Tab.kV x.k, .int .i64 x.v, undef, undef, undef, undef, undef, undef, undef, undef], defers := [] })
    (fun x a' _ X Y row hs hg hr => by
      obtain ⟨Bx, h1, h2, h3⟩ := hs
      exact ⟨Bx, h1, (hg.block Bx (Array.getElem?_eq_some_iff.1 h2).1 (fun e => by
        obtain ⟨_, o, ho, hc⟩ := hr Bx e.symm
        rw [h2] at ho
        cases ho
        cases hc)).trans h2, h3⟩)
    ?assign ?body ?done ?stop
  case assign =>
    rintro lo pre x W K ⟨⟨v, hv, hrow, _⟩, hB⟩ hK
    gi_wp2
    exact hK _ _ ((KeepsOthers.alloc _ _).from _) (keep_below HRR.out ((Below.refl _ W).alloc hB.size _)) ⟨⟨v, hv.alloc _, hrow.alloc _, trivial⟩, hB.alloc hB.size _⟩ ⟨W.heap.size, hv.lt, heap_alloc_new W _, rfl⟩
  case body =>
    rintro lo pre ⟨⟨ka, kb, kc, kd⟩, xv⟩ a' W hlo ⟨r, hr⟩ ⟨⟨v, hv, hrow, _⟩, hB⟩ ⟨Bx, hBx, hbx, rfl⟩ hlt
    dsimp only
    have hc := hv.cell
    have k0 : W.cell? ⟨Bx, 0, none⟩ = some (.int .i64 ka) := Tab.key_at hbx 0 (by omega)
    have k1 : W.cell? ⟨Bx, 1, none⟩ = some (.int .i64 kb) := Tab.key_at hbx 1 (by omega)
    have k2 : W.cell? ⟨Bx, 2, none⟩ = some (.int .i64 kc) := Tab.key_at hbx 2 (by omega)
    have k3 : W.cell? ⟨Bx, 3, none⟩ = some (.int .i64 kd) := Tab.key_at hbx 3 (by omega)
    obtain ⟨va, vn, vc, rfl⟩ : ∃ a n c, v = .slice a n c := by
      rcases hrow.2 with ⟨h1, _⟩ | ⟨g, cap, cur, h1, _⟩
      · exact ⟨_, _, _, h1⟩
      · exact ⟨_, _, _, h1⟩
    have HBI : Hid (Calls Try.prog 40 #[.agg #[.int .i64 ka, .int .i64 kb, .int .i64 kc, .int .i64 kd]] W.drew fun e w' => e = .returned (.agg #[.int .i64 ka, .int .i64 kb, .int .i64 kc, .int .i64 kd]) ∧ Hid (Below W.heap.size W w')) := Lib.hid ((bin_any ⟨ka, kb, kc, kd⟩ W.drew).mono fun _ _ ⟨e, h⟩ => ⟨e, Lib.hid (below_then (Below.refl _ W).drew h)⟩)
    have HST : Hid (∀ V, Below W.heap.size W V → (Boxed V w.heap.size 22 (.slice va vn vc) ∧ V.ownsRow w.heap.size 66 5 (.slice va vn vc) pre.length (pcells pre)) ∧ Below w.heap.size w V ∧ KeepsOthers W V ∧ (V.cell? ⟨Bx, 0, none⟩ = some (.int .i64 ka) ∧ V.cell? ⟨Bx, 1, none⟩ = some (.int .i64 kb) ∧ V.cell? ⟨Bx, 2, none⟩ = some (.int .i64 kc) ∧ V.cell? ⟨Bx, 3, none⟩ = some (.int .i64 kd))) := Lib.hid (fun V hV => ⟨⟨(hV.block _ hv.lt).trans hv, own_under hrow hV⟩, hB.trans (hV.mono hB.size), ⟨hV.size, fun k o h1 _ => (hV.block k (Array.getElem?_eq_some_iff.1 h1).1).trans h1⟩, cell_block (j := 0) ((hV.block _ (Array.getElem?_eq_some_iff.1 hbx).1).trans hbx) rfl, cell_block (j := 1) ((hV.block _ (Array.getElem?_eq_some_iff.1 hbx).1).trans hbx) rfl, cell_block (j := 2) ((hV.block _ (Array.getElem?_eq_some_iff.1 hbx).1).trans hbx) rfl, cell_block (j := 3) ((hV.block _ (Array.getElem?_eq_some_iff.1 hbx).1).trans hbx) rfl⟩)
    have HSA : Hid (∀ V, Below W.heap.size W V → ∀ o, ((V.alloc o).cell? ⟨Bx, 0, none⟩ = some (.int .i64 ka) ∧ (V.alloc o).cell? ⟨Bx, 1, none⟩ = some (.int .i64 kb) ∧ (V.alloc o).cell? ⟨Bx, 2, none⟩ = some (.int .i64 kc) ∧ (V.alloc o).cell? ⟨Bx, 3, none⟩ = some (.int .i64 kd))) := Lib.hid (fun V hV o => (HST.out _ (hV.alloc hV.size o)).2.2.2)
    have HS3 : Hid (∀ (V : World) (o : Obj) (w3 : World), Below W.heap.size W V → (V.alloc o).grownBy w3 (Value.slice va vn vc).ownBlock → (w3.cell? ⟨Bx, 0, none⟩ = some (.int .i64 ka) ∧ w3.cell? ⟨Bx, 1, none⟩ = some (.int .i64 kb) ∧ w3.cell? ⟨Bx, 2, none⟩ = some (.int .i64 kc) ∧ w3.cell? ⟨Bx, 3, none⟩ = some (.int .i64 kd)) ∧ ∀ u, ((w3.setCell ⟨w.heap.size, 0, none⟩ u).cell? ⟨Bx, 0, none⟩ = some (.int .i64 ka) ∧ (w3.setCell ⟨w.heap.size, 0, none⟩ u).cell? ⟨Bx, 1, none⟩ = some (.int .i64 kb) ∧ (w3.setCell ⟨w.heap.size, 0, none⟩ u).cell? ⟨Bx, 2, none⟩ = some (.int .i64 kc) ∧ (w3.setCell ⟨w.heap.size, 0, none⟩ u).cell? ⟨Bx, 3, none⟩ = some (.int .i64 kd))) := Lib.hid (fun V o w3 hV hg => by
      have hlx := (Array.getElem?_eq_some_iff.1 hbx).1
      have hne : some Bx ≠ (Value.slice va vn vc).ownBlock := fun e => by
        rcases hrow.2 with ⟨h1, _⟩ | ⟨g, cap, cur, h1, _, h2, _⟩
        · rw [h1] at e
          cases e
        · rw [h1] at e
          cases e
          rw [hbx] at h2
          cases h2
      have h3 : w3.heap[Bx]? = some (.cells #[.int .i64 ka, .int .i64 kb, .int .i64 kc, .int .i64 kd] 81 (0, 0)) := ((hg.block Bx (by have := hV.size; simp; omega) hne).trans (Below.heap_alloc V o Bx (Nat.lt_of_lt_of_le hlx hV.size))).trans ((hV.block Bx hlx).trans hbx)
      have four : ∀ V : World, V.heap[Bx]? = some (.cells #[.int .i64 ka, .int .i64 kb, .int .i64 kc, .int .i64 kd] 81 (0, 0)) → (V.cell? ⟨Bx, 0, none⟩ = some (.int .i64 ka) ∧ V.cell? ⟨Bx, 1, none⟩ = some (.int .i64 kb) ∧ V.cell? ⟨Bx, 2, none⟩ = some (.int .i64 kc) ∧ V.cell? ⟨Bx, 3, none⟩ = some (.int .i64 kd)) := fun V h => ⟨cell_block (j := 0) h rfl, cell_block (j := 1) h rfl, cell_block (j := 2) h rfl, cell_block (j := 3) h rfl⟩
      exact ⟨four w3 h3, fun u => four _ ((Below.heap_setCell w3 ⟨w.heap.size, 0, none⟩ u Bx (by show Bx ≠ w.heap.size; omega)).trans h3)⟩)
    have hSD := (HST.out W.drew (Below.refl _ W).drew).2.2.2
    clear hbx
    gi_wp2
    refine wpIn_round_held (fun V => (V.cell? ⟨Bx, 0, none⟩ = some (.int .i64 ka) ∧ V.cell? ⟨Bx, 1, none⟩ = some (.int .i64 kb) ∧ V.cell? ⟨Bx, 2, none⟩ = some (.int .i64 kc) ∧ V.cell? ⟨Bx, 3, none⟩ = some (.int .i64 kd))) (by kernel_rfl) (by kernel_rfl) hSD (fun hHeld => ?_)
    refine wpAnyH_take (i := 3) (v := .int .i64 xv) rfl (by kernel_rfl) (by kernel_rfl) (by kernel_rfl) (fun _ _ _ h => h) (Or.inl ⟨by rfl, fun V hSV => ?_⟩) (by assumption) ?_
    · obtain ⟨y0, y1, y2, y3⟩ := hSV
      go_simp
    (try simp only [Act.put, List.setIfInBounds_toArray])
    refine wpAnyH_take (i := 1) (v := .agg #[.int .i64 ka, .int .i64 kb, .int .i64 kc, .int .i64 kd]) rfl (by kernel_rfl) (by kernel_rfl) (by kernel_rfl) (fun _ _ _ h => h) (Or.inl ⟨by rfl, fun V hSV => ?_⟩) (by assumption) ?_
    · obtain ⟨y0, y1, y2, y3⟩ := hSV
      go_simp
    (try simp only [Act.put])
    refine wpAnyH_ready (rs := [0,2]) (by kernel_rfl) (by simp) ?_
    refine AllReadyH.cons (o := _) rfl (fun K hK => ?_) (AllReadyH.cons (o := _) rfl (fun K hK => ?_) AllReadyH.nil)
    · have hcD : W.drew.cell? ⟨w.heap.size, 0, none⟩ = some (.slice va vn vc) := hc
      go_simp
      refine hK.out _ _ hHeld (fun hHeld => ?_)
      clear hK K
      (try simp only [Act.put, List.setIfInBounds_toArray, List.set_cons_zero, List.set_cons_succ])
      refine wpAnyH_ready (rs := [2]) (by kernel_rfl) (by simp) ?_
      refine AllReadyH.cons (o := _) rfl (fun K hK => ?_) AllReadyH.nil
      go_simp
      refine HBI.out.mono ?_
      rintro e w2 ⟨rfl, H2⟩
      obtain ⟨⟨hv2, hrow2⟩, hB2, hko, hS2⟩ := HST.out w2 H2.out
      have hc2 := hv2.cell
      (try dsimp only)
      refine hK.out _ _ hS2 (fun hHeld => ?_)
      clear hK K
      (try simp only [Act.put, List.setIfInBounds_toArray, List.set_cons_zero, List.set_cons_succ])
      refine wpAnyH_take (i := 4) (v := .agg #[.int .i64 ka, .int .i64 kb, .int .i64 kc, .int .i64 kd, .int .i64 xv]) rfl (by kernel_rfl) (by kernel_rfl) (by kernel_rfl) (fun _ _ _ h => h) (Or.inl ⟨by rfl, fun V hSV => ?_⟩) (by assumption) ?_
      · obtain ⟨y0, y1, y2, y3⟩ := hSV
        go_simp
      (try simp only [Act.put, List.setIfInBounds_toArray])
      refine wpAnyH_ready (rs := [5]) (by kernel_rfl) (by simp) ?_
      refine AllReadyH.cons (o := _) rfl (fun K hK => ?_) AllReadyH.nil
      go_simp
      refine hK.out _ _ (HSA.out w2 H2.out _) (fun hHeld => ?_)
      clear hK K
      (try simp only [Act.put, List.setIfInBounds_toArray, List.set_cons_zero, List.set_cons_succ])
      refine wpAnyH_ready (rs := [6]) (by kernel_rfl) (by simp) ?_
      refine AllReadyH.cons (o := _) rfl (fun K hK => ?_) AllReadyH.nil
      refine step_append_lies _ (by rfl) _ _ 22 (by rfl) w.heap.size 66 i0 zeroLtV 5 40 Try.underlying22 hi hz0 hz1 hz2 rfl (by decide) _ _ _ rfl (hrow2.alloc _) ⟨w2.heap.size, 0, none⟩ 1 1 [.int .i64 ka, .int .i64 kb, .int .i64 kc, .int .i64 kd, .int .i64 xv] rfl rfl (src_five w2 _ _ _ _ _ _) (one_five _ _ _ _ _) (by decide) (by unfold maxLen; omega) (by omega) (by have := hB2.size; simp; omega) _ rfl ?_
      intro g cap w3 hown hgrow _ _
      obtain ⟨hv3, hv4, hr4, hk4, hb4⟩ := hv2.appended (by decide) hrow2 hB2.size (Nat.le_refl _) hown hgrow
      obtain ⟨hS3, hS4⟩ := HS3.out w2 _ w3 H2.out hgrow
      have hc3 := hv3.cell
      have hf3 := hv3.frozen
      refine hK.out _ _ hS3 (fun hHeld => ?_)
      clear hK K
      (try simp only [Act.put, List.setIfInBounds_toArray])
      refine wpAnyH_ready (rs := [7]) (by kernel_rfl) (by simp) ?_
      refine AllReadyH.cons (o := _) rfl (fun K hK => ?_) AllReadyH.nil
      go_simp
      refine hK.out _ _ (hS4 _) (fun hHeld => ?_)
      clear hK K
      refine wpAnyH_done (by kernel_rfl) ⟨rfl, ?_⟩ _
      refine And.intro ((hko.trans hk4).from _) (And.intro (keep_below HRR.out ((H2.out.mono hB.size).trans hb4)) (And.intro ⟨_, hv4, ?_, trivial⟩ (hB2.trans hb4)))
      rw [pcells_snoc, List.length_append]
      exact hr4
    · go_simp
      refine HBI.out.mono ?_
      rintro e w2 ⟨rfl, H2⟩
      obtain ⟨⟨hv2, hrow2⟩, hB2, hko, hS2⟩ := HST.out w2 H2.out
      have hc2 := hv2.cell
      (try dsimp only)
      refine hK.out _ _ hS2 (fun hHeld => ?_)
      clear hK K
      (try simp only [Act.put, List.setIfInBounds_toArray, List.set_cons_zero, List.set_cons_succ])
      refine wpAnyH_take (i := 4) (v := .agg #[.int .i64 ka, .int .i64 kb, .int .i64 kc, .int .i64 kd, .int .i64 xv]) rfl (by kernel_rfl) (by kernel_rfl) (by kernel_rfl) (fun _ _ _ h => h) (Or.inl ⟨by rfl, fun V hSV => ?_⟩) (by assumption) ?_
      · obtain ⟨y0, y1, y2, y3⟩ := hSV
        go_simp
      (try simp only [Act.put, List.setIfInBounds_toArray])
      refine wpAnyH_ready (rs := [0,5]) (by kernel_rfl) (by simp) ?_
      refine AllReadyH.cons (o := _) rfl (fun K hK => ?_) (AllReadyH.cons (o := _) rfl (fun K hK => ?_) AllReadyH.nil)
      · go_simp
        refine hK.out _ _ hHeld (fun hHeld => ?_)
        clear hK K
        (try simp only [Act.put, List.setIfInBounds_toArray, List.set_cons_zero, List.set_cons_succ])
        refine wpAnyH_ready (rs := [5]) (by kernel_rfl) (by simp) ?_
        refine AllReadyH.cons (o := _) rfl (fun K hK => ?_) AllReadyH.nil
        go_simp
        refine hK.out _ _ (HSA.out w2 H2.out _) (fun hHeld => ?_)
        clear hK K
        (try simp only [Act.put, List.setIfInBounds_toArray, List.set_cons_zero, List.set_cons_succ])
        refine wpAnyH_ready (rs := [6]) (by kernel_rfl) (by simp) ?_
        refine AllReadyH.cons (o := _) rfl (fun K hK => ?_) AllReadyH.nil
        refine step_append_lies _ (by rfl) _ _ 22 (by rfl) w.heap.size 66 i0 zeroLtV 5 40 Try.underlying22 hi hz0 hz1 hz2 rfl (by decide) _ _ _ rfl (hrow2.alloc _) ⟨w2.heap.size, 0, none⟩ 1 1 [.int .i64 ka, .int .i64 kb, .int .i64 kc, .int .i64 kd, .int .i64 xv] rfl rfl (src_five w2 _ _ _ _ _ _) (one_five _ _ _ _ _) (by decide) (by unfold maxLen; omega) (by omega) (by have := hB2.size; simp; omega) _ rfl ?_
        intro g cap w3 hown hgrow _ _
        obtain ⟨hv3, hv4, hr4, hk4, hb4⟩ := hv2.appended (by decide) hrow2 hB2.size (Nat.le_refl _) hown hgrow
        obtain ⟨hS3, hS4⟩ := HS3.out w2 _ w3 H2.out hgrow
        have hc3 := hv3.cell
        have hf3 := hv3.frozen
        refine hK.out _ _ hS3 (fun hHeld => ?_)
        clear hK K
        (try simp only [Act.put, List.setIfInBounds_toArray])
        refine wpAnyH_ready (rs := [7]) (by kernel_rfl) (by simp) ?_
        refine AllReadyH.cons (o := _) rfl (fun K hK => ?_) AllReadyH.nil
        go_simp
        refine hK.out _ _ (hS4 _) (fun hHeld => ?_)
        clear hK K
        refine wpAnyH_done (by kernel_rfl) ⟨rfl, ?_⟩ _
        refine And.intro ((hko.trans hk4).from _) (And.intro (keep_below HRR.out ((H2.out.mono hB.size).trans hb4)) (And.intro ⟨_, hv4, ?_, trivial⟩ (hB2.trans hb4)))
        rw [pcells_snoc, List.length_append]
        exact hr4
      · go_simp
        refine hK.out _ _ (HSA.out w2 H2.out _) (fun hHeld => ?_)
        clear hK K
        (try simp only [Act.put, List.setIfInBounds_toArray, List.set_cons_zero, List.set_cons_succ])
        have hcA : (w2.alloc (.cells #[.int .i64 ka, .int .i64 kb, .int .i64 kc, .int .i64 kd, .int .i64 xv] 66)).cell? ⟨w.heap.size, 0, none⟩ = some (.slice va vn vc) := (hv2.alloc _).cell
        refine wpAnyH_ready (rs := [0]) (by kernel_rfl) (by simp) ?_
        refine AllReadyH.cons (o := _) rfl (fun K hK => ?_) AllReadyH.nil
        go_simp
        refine hK.out _ _ hHeld (fun hHeld => ?_)
        clear hK K
        (try simp only [Act.put, List.setIfInBounds_toArray, List.set_cons_zero, List.set_cons_succ])
        refine wpAnyH_ready (rs := [6]) (by kernel_rfl) (by simp) ?_
        refine AllReadyH.cons (o := _) rfl (fun K hK => ?_) AllReadyH.nil
        refine step_append_lies _ (by rfl) _ _ 22 (by rfl) w.heap.size 66 i0 zeroLtV 5 40 Try.underlying22 hi hz0 hz1 hz2 rfl (by decide) _ _ _ rfl (hrow2.alloc _) ⟨w2.heap.size, 0, none⟩ 1 1 [.int .i64 ka, .int .i64 kb, .int .i64 kc, .int .i64 kd, .int .i64 xv] rfl rfl (src_five w2 _ _ _ _ _ _) (one_five _ _ _ _ _) (by decide) (by unfold maxLen; omega) (by omega) (by have := hB2.size; simp; omega) _ rfl ?_
        intro g cap w3 hown hgrow _ _
        obtain ⟨hv3, hv4, hr4, hk4, hb4⟩ := hv2.appended (by decide) hrow2 hB2.size (Nat.le_refl _) hown hgrow
        obtain ⟨hS3, hS4⟩ := HS3.out w2 _ w3 H2.out hgrow
        have hc3 := hv3.cell
        have hf3 := hv3.frozen
        refine hK.out _ _ hS3 (fun hHeld => ?_)
        clear hK K
        (try simp only [Act.put, List.setIfInBounds_toArray])
        refine wpAnyH_ready (rs := [7]) (by kernel_rfl) (by simp) ?_
        refine AllReadyH.cons (o := _) rfl (fun K hK => ?_) AllReadyH.nil
        go_simp
        refine hK.out _ _ (hS4 _) (fun hHeld => ?_)
        clear hK K
        refine wpAnyH_done (by kernel_rfl) ⟨rfl, ?_⟩ _
        refine And.intro ((hko.trans hk4).from _) (And.intro (keep_below HRR.out ((H2.out.mono hB.size).trans hb4)) (And.intro ⟨_, hv4, ?_, trivial⟩ (hB2.trans hb4)))
        rw [pcells_snoc, List.length_append]
        exact hr4
  case done =>
    rintro D ys W hD rfl ⟨⟨v, hv, hrow, _⟩, hB⟩ hK
    have hc := hv.cell
    gi_wp2
    refine ⟨by simp, .inl ⟨_, _, rfl, run_takeDeferred hK, ?_⟩⟩
    have hrow2 : OwnL W w.heap.size v l := by
      have h2 := hrow
      unfold pcells at h2
      rw [lts_prs, prs_length] at h2
      exact h2
    exact ⟨_, results_tmp rfl _ _ _, v, rfl, ownsRow_putObj hrow2 _ hK rfl, hB.trans (belowK_b (w := w) (Nat.le_refl _) W D _ _ (by omega) hK rfl rfl)⟩
  case stop =>
    rintro D c pre W _ _ h _
    exact h.elim
end Go.Proofs.Ytkljaaeeocghjaa.Bins
