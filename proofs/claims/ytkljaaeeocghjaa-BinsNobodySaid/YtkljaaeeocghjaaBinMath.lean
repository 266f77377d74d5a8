/- Lots by their bins: put in, taken, moved; said without a program. -/
import Derived.WalkKit
import Derived.Test.YtkljaaeeocghjaaCommon
import Derived.Test.YtkljaaeeocghjaaGoodsH
namespace Go.Proofs.Ytkljaaeeocghjaa.Bins
open Goods (St)

structure Bn where
  o : Int
  d : Int
  p : Int
  t : Int
theorem Bn.ext' {a b : Bn} (h1 : a.o = b.o) (h2 : a.d = b.d) (h3 : a.p = b.p) (h4 : a.t = b.t) : a = b := by cases a; cases b; simp at h1 h2 h3 h4; rw [h1, h2, h3, h4]
instance : DecidableEq Bn := fun a b => decidable_of_iff (a.o = b.o ∧ a.d = b.d ∧ a.p = b.p ∧ a.t = b.t) ⟨fun h => Bn.ext' h.1 h.2.1 h.2.2.1 h.2.2.2, fun h => by rw [h]; exact ⟨rfl, rfl, rfl, rfl⟩⟩
structure Lt where
  b : Bn
  q : Int
theorem Lt.ext' {a b : Lt} (h1 : a.b = b.b) (h2 : a.q = b.q) : a = b := by cases a; cases b; simp at h1 h2; rw [h1, h2]
def mt : Int := 1099511627776
def mq : Int := 1125899906842624
/-- A bin is below another one. -/
def bl (a b : Bn) : Prop := a.o < b.o ∨ (a.o = b.o ∧ (a.d < b.d ∨ (a.d = b.d ∧ (a.p < b.p ∨ (a.p = b.p ∧ a.t < b.t)))))
instance (a b : Bn) : Decidable (bl a b) := by unfold bl; infer_instance
theorem bl_irrefl (a : Bn) : ¬ bl a a := by unfold bl; omega
theorem bl_trans {a b c : Bn} (h : bl a b) (k : bl b c) : bl a c := by unfold bl at *; omega
theorem bl_asymm {a b : Bn} (h : bl a b) : ¬ bl b a := fun k => bl_irrefl a (bl_trans h k)
theorem bl_tri {a b : Bn} (h : ¬ bl a b) (k : a ≠ b) : bl b a := by
  by_cases h1 : a.o = b.o
  · by_cases h2 : a.d = b.d
    · by_cases h3 : a.p = b.p
      · by_cases h4 : a.t = b.t
        · exact absurd (Bn.ext' h1 h2 h3 h4) k
        · unfold bl at *; omega
      · unfold bl at *; omega
    · unfold bl at *; omega
  · unfold bl at *; omega
theorem bl_ne {a b : Bn} (h : bl a b) : a ≠ b := fun e => bl_irrefl a (by rw [← e] at h; exact h)
def MayB (x : Bn) : Prop := (0 ≤ x.o ∧ x.o ≤ mt) ∧ (0 ≤ x.d ∧ x.d ≤ 4) ∧ (1 ≤ x.p ∧ x.p ≤ 8) ∧ (1 ≤ x.t ∧ x.t ≤ 32)
instance (x : Bn) : Decidable (MayB x) := by unfold MayB; infer_instance
def qty : List Lt → Bn → Int
  | [], _ => 0
  | a :: l, x => if a.b = x then a.q else qty l x
def tot : List Lt → Int → Int
  | [], _ => 0
  | a :: l, k => (if a.b.t = k then a.q else 0) + tot l k
def Rise (l : List Lt) : Prop := l.Pairwise fun a b => bl a.b b.b
def lo (l : List Lt) (x : Bn) : List Lt := l.filter fun a => decide (bl a.b x)
def hi (l : List Lt) (x : Bn) : List Lt := l.filter fun a => decide (bl x a.b)
def mid (x : Bn) (n : Int) : List Lt := if n = 0 then [] else [⟨x, n⟩]
/-- Lots of which a bin has so many. -/
def setL (l : List Lt) (x : Bn) (n : Int) : List Lt := lo l x ++ (mid x n ++ hi l x)
theorem qty_cons (a : Lt) (l : List Lt) (x : Bn) : qty (a :: l) x = if a.b = x then a.q else qty l x := rfl
theorem qty_none : ∀ {l : List Lt} {x : Bn}, (∀ a ∈ l, a.b ≠ x) → qty l x = 0
  | [], _, _ => rfl
  | a :: l, x, h => by
    unfold qty
    rw [if_neg (h a (by simp)), qty_none fun b hb => h b (by simp [hb])]
theorem qty_append {l m : List Lt} {x : Bn} (h : ∀ a ∈ l, a.b ≠ x) : qty (l ++ m) x = qty m x := by
  induction l with
  | nil => rfl
  | cons a l ih =>
    rw [List.cons_append]
    show (if a.b = x then a.q else qty (l ++ m) x) = _
    rw [if_neg (h a (by simp)), ih fun b hb => h b (by simp [hb])]
theorem qty_of : ∀ {l : List Lt} {a : Lt}, Rise l → a ∈ l → qty l a.b = a.q
  | [], _, _, h => by cases h
  | c :: l, a, hr, h => by
    obtain ⟨h1, h2⟩ := List.pairwise_cons.1 hr
    unfold qty
    rcases List.mem_cons.1 h with rfl | h
    · rw [if_pos rfl]
    · rw [if_neg (bl_ne (h1 a h)), qty_of h2 h]
theorem qty_mem : ∀ {l : List Lt} {x : Bn}, qty l x ≠ 0 → ∃ a ∈ l, a.b = x ∧ a.q = qty l x
  | [], _, h => by simp [qty] at h
  | a :: l, x, h => by
    unfold qty at h ⊢
    by_cases e : a.b = x
    · rw [if_pos e]
      exact ⟨a, by simp, e, rfl⟩
    · rw [if_neg e] at h ⊢
      obtain ⟨c, hc, h1, h2⟩ := qty_mem h
      exact ⟨c, by simp [hc], h1, h2⟩
theorem mem_lo {l : List Lt} {x : Bn} {a : Lt} : a ∈ lo l x ↔ a ∈ l ∧ bl a.b x := by unfold lo; rw [List.mem_filter]; simp
theorem mem_hi {l : List Lt} {x : Bn} {a : Lt} : a ∈ hi l x ↔ a ∈ l ∧ bl x a.b := by unfold hi; rw [List.mem_filter]; simp
theorem mem_mid {x : Bn} {n : Int} {a : Lt} : a ∈ mid x n ↔ n ≠ 0 ∧ a = ⟨x, n⟩ := by
  unfold mid
  split
  · rename_i h
    simp [h]
  · rename_i h
    simp [h]
theorem mem_set {l : List Lt} {x : Bn} {n : Int} {a : Lt} : a ∈ setL l x n ↔ (a ∈ l ∧ a.b ≠ x) ∨ (n ≠ 0 ∧ a = ⟨x, n⟩) := by
  unfold setL
  rw [List.mem_append, List.mem_append, mem_lo, mem_hi, mem_mid]
  constructor
  · rintro (⟨h1, h2⟩ | h | ⟨h1, h2⟩)
    · exact .inl ⟨h1, bl_ne h2⟩
    · exact .inr h
    · exact .inl ⟨h1, (bl_ne h2).symm⟩
  · rintro (⟨h1, h2⟩ | h)
    · by_cases h3 : bl a.b x
      · exact .inl ⟨h1, h3⟩
      · exact .inr (.inr ⟨h1, bl_tri h3 h2⟩)
    · exact .inr (.inl h)
theorem rise_set {l : List Lt} (h : Rise l) (x : Bn) (n : Int) : Rise (setL l x n) := by
  unfold setL Rise
  refine List.pairwise_append.2 ⟨h.filter _, List.pairwise_append.2 ⟨?_, h.filter _, fun a ha b hb => ?_⟩, fun a ha b hb => ?_⟩
  · unfold mid
    split
    · exact List.Pairwise.nil
    · exact List.pairwise_singleton _ _
  · rw [(mem_mid.1 ha).2]
    exact (mem_hi.1 hb).2
  · have h1 := (mem_lo.1 ha).2
    rcases List.mem_append.1 hb with hb | hb
    · rw [(mem_mid.1 hb).2]
      exact h1
    · exact bl_trans h1 (mem_hi.1 hb).2
theorem qty_set {l : List Lt} (h : Rise l) (x : Bn) (n : Int) (y : Bn) : qty (setL l x n) y = if y = x then n else qty l y := by
  have hr := rise_set h x n
  by_cases e : y = x
  · subst e
    rw [if_pos rfl]
    by_cases hn : n = 0
    · rw [qty_none fun a ha => ?_, hn]
      rcases mem_set.1 ha with h1 | h1
      · exact h1.2
      · exact absurd hn h1.1
    · exact qty_of hr (mem_set.2 (.inr ⟨hn, rfl⟩))
  · rw [if_neg e]
    by_cases hq : qty l y = 0
    · rw [hq]
      by_cases h2 : qty (setL l x n) y = 0
      · exact h2
      · obtain ⟨a, ha, h3, h4⟩ := qty_mem h2
        rcases mem_set.1 ha with h5 | h5
        · have := qty_of h h5.1
          rw [h3, hq] at this
          rw [← h4, this]
        · rw [h5.2] at h3
          exact absurd h3.symm e
    · obtain ⟨a, ha, h3, h4⟩ := qty_mem hq
      have := qty_of hr (mem_set.2 (.inl ⟨ha, fun e2 => e (by rw [← h3, e2])⟩))
      rw [h3] at this
      rw [this, h4]
theorem tot_append (a b : List Lt) (k : Int) : tot (a ++ b) k = tot a k + tot b k := by
  induction a with
  | nil => simp [tot]
  | cons x a ih => rw [List.cons_append, tot, tot, ih]; omega
theorem tot_split {l : List Lt} (h : Rise l) (x : Bn) (k : Int) : tot l k = tot (lo l x) k + (if x.t = k then qty l x else 0) + tot (hi l x) k := by
  induction l with
  | nil => simp [lo, hi, tot, qty]
  | cons a l ih =>
    obtain ⟨h1, h2⟩ := List.pairwise_cons.1 h
    have ih := ih h2
    rw [tot]
    by_cases c1 : bl a.b x
    · have e1 : lo (a :: l) x = a :: lo l x := by simp [lo, c1]
      have e2 : hi (a :: l) x = hi l x := by simp [hi, bl_asymm c1]
      have e3 : qty (a :: l) x = qty l x := by rw [qty_cons, if_neg (bl_ne c1)]
      rw [e1, e2, e3, tot]
      omega
    · by_cases c2 : a.b = x
      · subst c2
        have hb : ∀ c ∈ l, c.b ≠ a.b := fun c hc => (bl_ne (h1 c hc)).symm
        have e1 : lo (a :: l) a.b = lo l a.b := by simp [lo, bl_irrefl]
        have e2 : hi (a :: l) a.b = hi l a.b := by simp [hi, bl_irrefl]
        have e3 : qty (a :: l) a.b = a.q := by rw [qty_cons, if_pos rfl]
        have e4 := qty_none hb
        rw [e4] at ih
        rw [e1, e2, e3]
        split at ih <;> split <;> omega
      · have c3 := bl_tri c1 c2
        have e1 : lo (a :: l) x = lo l x := by simp [lo, c1]
        have e2 : hi (a :: l) x = a :: hi l x := by simp [hi, c3]
        have e3 : qty (a :: l) x = qty l x := by rw [qty_cons, if_neg c2]
        rw [e1, e2, e3, tot]
        omega
theorem tot_set {l : List Lt} (h : Rise l) (x : Bn) (n k : Int) : tot (setL l x n) k = tot l k + (if x.t = k then n - qty l x else 0) := by
  have h1 := tot_split h x k
  have h2 : tot (mid x n) k = if x.t = k then n else 0 := by
    unfold mid
    by_cases hn : n = 0
    · rw [if_pos hn, hn]
      simp [tot]
    · rw [if_neg hn]
      simp [tot]
  unfold setL
  rw [tot_append, tot_append, h2]
  split <;> simp_all <;> omega
theorem tot_nonneg {l : List Lt} (h : ∀ a ∈ l, 0 ≤ a.q) (k : Int) : 0 ≤ tot l k := by
  induction l with
  | nil => exact Int.le_refl _
  | cons x l ih =>
    have h1 := h x (by simp)
    have h2 := ih fun y hy => h y (by simp [hy])
    rw [tot]
    split <;> omega
theorem tot_take_succ {l : List Lt} {i : Nat} {a : Lt} (h : l[i]? = some a) (k : Int) : tot (l.take (i + 1)) k = tot (l.take i) k + (if a.b.t = k then a.q else 0) := by
  rw [List.take_add_one, h, tot_append]
  simp [tot]
theorem tot_take_le {l : List Lt} (h : ∀ a ∈ l, 0 ≤ a.q) (i : Nat) (k : Int) : 0 ≤ tot (l.take i) k ∧ tot (l.take i) k ≤ tot l k := by
  have h1 := tot_append (l.take i) (l.drop i) k
  rw [List.take_append_drop] at h1
  have h2 := tot_nonneg (l := l.drop i) (fun a ha => h a (List.mem_of_mem_drop ha)) k
  have h3 := tot_nonneg (l := l.take i) (fun a ha => h a (List.mem_of_mem_take ha)) k
  omega
/-- Lots as bins have them. -/
structure Good (l : List Lt) : Prop where
  rise : Rise l
  may : ∀ a ∈ l, MayB a.b
  pos : ∀ a ∈ l, 1 ≤ a.q
  tot : ∀ k, tot l k ≤ mq
theorem good_nil : Good [] := ⟨.nil, fun _ h => (by cases h), fun _ h => (by cases h), fun _ => (by simp [Bins.tot, mq])⟩
theorem qty_le_tot {l : List Lt} (h : ∀ a ∈ l, 1 ≤ a.q) (x : Bn) : 0 ≤ qty l x ∧ qty l x ≤ tot l x.t := by
  induction l with
  | nil => simp [qty, tot]
  | cons a l ih =>
    have h1 := h a (by simp)
    obtain ⟨h2, h3⟩ := ih fun y hy => h y (by simp [hy])
    have h4 := tot_nonneg (l := l) (fun y hy => by have := h y (by simp [hy]); omega) x.t
    unfold qty
    rw [tot]
    by_cases e : a.b = x
    · rw [if_pos e, if_pos (by rw [e])]
      omega
    · rw [if_neg e]
      split <;> omega
theorem Good.qty {l : List Lt} (h : Good l) (x : Bn) : 0 ≤ Bins.qty l x ∧ Bins.qty l x ≤ Bins.tot l x.t ∧ Bins.tot l x.t ≤ mq := ⟨(qty_le_tot h.pos x).1, (qty_le_tot h.pos x).2, h.tot x.t⟩
theorem Good.zero {l : List Lt} (h : Good l) {x : Bn} (hx : ¬ MayB x) : Bins.qty l x = 0 := by
  by_cases h2 : Bins.qty l x = 0
  · exact h2
  · obtain ⟨a, ha, h3, _⟩ := qty_mem h2
    exact absurd (by rw [← h3]; exact h.may a ha) hx
theorem good_set {l : List Lt} (h : Good l) {x : Bn} {n : Int} (hx : MayB x) (h0 : 0 ≤ n) (h1 : tot l x.t - qty l x + n ≤ mq) : Good (setL l x n) := by
  refine ⟨rise_set h.rise x n, fun a ha => ?_, fun a ha => ?_, fun k => ?_⟩
  · rcases mem_set.1 ha with h2 | h2
    · exact h.may a h2.1
    · rw [h2.2]; exact hx
  · rcases mem_set.1 ha with h2 | h2
    · exact h.pos a h2.1
    · rw [h2.2]
      have := h2.1
      show 1 ≤ n
      omega
  · rw [tot_set h.rise]
    have := h.tot k
    split
    · rename_i e
      rw [← e]
      omega
    · omega
/-- Lots are what they are by how many lie in each bin. -/
theorem good_ext : ∀ {l m : List Lt}, Rise l → Rise m → (∀ a ∈ l, 1 ≤ a.q) → (∀ a ∈ m, 1 ≤ a.q) → (∀ x, qty l x = qty m x) → l = m
  | [], [], _, _, _, _, _ => rfl
  | [], b :: m, _, _, _, h2, h => by
    have h3 := h b.b
    have h4 : qty (b :: m) b.b = b.q := by rw [qty_cons, if_pos rfl]
    have := h2 b (by simp)
    rw [h4, show qty [] b.b = 0 from rfl] at h3
    omega
  | a :: l, [], _, _, h1, _, h => by
    have h3 := h a.b
    have h4 : qty (a :: l) a.b = a.q := by rw [qty_cons, if_pos rfl]
    have := h1 a (by simp)
    rw [h4, show qty [] a.b = 0 from rfl] at h3
    omega
  | a :: l, b :: m, r1, r2, h1, h2, h => by
    obtain ⟨x1, x2⟩ := List.pairwise_cons.1 r1
    obtain ⟨y1, y2⟩ := List.pairwise_cons.1 r2
    have ea : qty (a :: l) a.b = a.q := by rw [qty_cons, if_pos rfl]
    have eb : qty (b :: m) b.b = b.q := by rw [qty_cons, if_pos rfl]
    have pa := h1 a (by simp)
    have pb := h2 b (by simp)
    have hab : a.b = b.b := by
      by_cases e : a.b = b.b
      · exact e
      · exfalso
        by_cases c : bl a.b b.b
        · have h3 : qty (b :: m) a.b = 0 := qty_none fun z hz => by
            rcases List.mem_cons.1 hz with rfl | hz
            · exact fun e2 => e e2.symm
            · exact (bl_ne (bl_trans c (y1 z hz))).symm
          have := h a.b
          omega
        · have c2 := bl_tri c e
          have h3 : qty (a :: l) b.b = 0 := qty_none fun z hz => by
            rcases List.mem_cons.1 hz with rfl | hz
            · exact e
            · exact (bl_ne (bl_trans c2 (x1 z hz))).symm
          have := h b.b
          omega
    have hq : a.q = b.q := by
      have := h a.b
      rw [ea, hab, eb] at this
      exact this
    obtain rfl := Lt.ext' hab hq
    rw [good_ext x2 y2 (fun z hz => h1 z (by simp [hz])) (fun z hz => h2 z (by simp [hz])) fun x => ?_]
    have h3 := h x
    unfold qty at h3
    by_cases e : a.b = x
    · rw [qty_none (fun z hz => by rw [← e]; exact (bl_ne (x1 z hz)).symm), qty_none (fun z hz => by rw [← e]; exact (bl_ne (y1 z hz)).symm)]
    · rw [if_neg e, if_neg e] at h3
      exact h3
theorem filter_all {l : List Lt} {p : Lt → Bool} (h : ∀ a ∈ l, p a = true) : l.filter p = l := List.filter_eq_self.2 h
theorem set_length (l : List Lt) (x : Bn) (n : Int) : (setL l x n).length ≤ l.length + 1 := by
  have key : ∀ l : List Lt, (lo l x).length + (hi l x).length ≤ l.length := fun l => by
    induction l with
    | nil => simp [lo, hi]
    | cons a l ih =>
      by_cases c1 : bl a.b x
      · have e1 : lo (a :: l) x = a :: lo l x := by simp [lo, c1]
        have e2 : hi (a :: l) x = hi l x := by simp [hi, bl_asymm c1]
        rw [e1, e2]
        simp
        omega
      · have e1 : lo (a :: l) x = lo l x := by simp [lo, c1]
        by_cases c2 : bl x a.b
        · have e2 : hi (a :: l) x = a :: hi l x := by simp [hi, c2]
          rw [e1, e2]
          simp
          omega
        · have e2 : hi (a :: l) x = hi l x := by simp [hi, c2]
          rw [e1, e2]
          simp
          omega
  have h1 := key l
  have h2 : (mid x n).length ≤ 1 := by unfold mid; split <;> simp
  unfold setL
  simp only [List.length_append]
  omega
/-! put, taken, moved -/
def putE (l : List Lt) (x : Bn) (n : Int) : Int := if MayB x ∧ 0 ≤ n then (if mq - tot l x.t < n then 5 else 0) else 1
def putL (l : List Lt) (x : Bn) (n : Int) : List Lt := if putE l x n = 0 then setL l x (qty l x + n) else l
def takeE (l : List Lt) (x : Bn) (n : Int) : Int := if MayB x ∧ 0 ≤ n then (if qty l x < n then 7 else 0) else 1
def takeL (l : List Lt) (x : Bn) (n : Int) : List Lt := if takeE l x n = 0 then setL l x (qty l x - n) else l
def moveE (l : List Lt) (f t : Bn) (n : Int) : Int := if MayB f ∧ MayB t ∧ f.t = t.t ∧ 0 ≤ n then (if qty l f < n then 7 else 0) else 1
def moveL (l : List Lt) (f t : Bn) (n : Int) : List Lt := if moveE l f t n = 0 then setL (takeL l f n) t (qty (takeL l f n) t + n) else l
def withB (x : Bn) (k : Int) : Bn := ⟨x.o, x.d, x.p, k⟩
def goP (x : Bn) : List Lt → List St → List Lt × Int
  | l, [] => (l, 0)
  | l, s :: ss => if putE l (withB x s.kind) s.qty = 0 then goP x (putL l (withB x s.kind) s.qty) ss else (l, putE l (withB x s.kind) s.qty)
def goT (x : Bn) : List Lt → List St → List Lt × Int
  | l, [] => (l, 0)
  | l, s :: ss => if takeE l (withB x s.kind) s.qty = 0 then goT x (takeL l (withB x s.kind) s.qty) ss else (l, takeE l (withB x s.kind) s.qty)
open Classical in
noncomputable def putsE (l : List Lt) (x : Bn) (s : List St) : Int := if MayB (withB x 1) ∧ Goods.Listed s 32 then (goP x l s).2 else 1
noncomputable def putsL (l : List Lt) (x : Bn) (s : List St) : List Lt := if putsE l x s = 0 then (goP x l s).1 else l
open Classical in
noncomputable def takesE (l : List Lt) (x : Bn) (s : List St) : Int := if MayB (withB x 1) ∧ Goods.Listed s 32 then (goT x l s).2 else 1
noncomputable def takesL (l : List Lt) (x : Bn) (s : List St) : List Lt := if takesE l x s = 0 then (goT x l s).1 else l
/-- The stacks in a division's bins, of the types up to j. -/
def ofTo (l : List Lt) (x : Bn) : Nat → List St
  | 0 => []
  | j + 1 => ofTo l x j ++ if 0 < qty l (withB x (j + 1 : Nat)) then [⟨(j + 1 : Nat), qty l (withB x (j + 1 : Nat))⟩] else []
def ofL (l : List Lt) (x : Bn) : List St := ofTo l x 32
/-- A lot that may be, in a bin of which these have none. -/
def LotOk (out : List Lt) (a : Lt) : Prop := MayB a.b ∧ (1 ≤ a.q ∧ a.q ≤ mq) ∧ ¬ 0 < qty out a.b
instance (out : List Lt) (a : Lt) : Decidable (LotOk out a) := by unfold LotOk; infer_instance
def ld : List Lt → List Lt → Option (List Lt)
  | out, [] => some out
  | out, a :: l => if LotOk out a then ld (setL out a.b a.q) l else none
def Over (l : List Lt) : Prop := ∃ k, mq < tot l k
open Classical in
noncomputable def loadE (l : List Lt) : Int := match ld [] l with
  | none => 1
  | some out => if Over out then 5 else 0
noncomputable def loadL (l : List Lt) : List Lt := if loadE l = 0 then (ld [] l).getD [] else []
theorem putE_zero {l : List Lt} {x : Bn} {n : Int} (h : putE l x n = 0) : MayB x ∧ 0 ≤ n ∧ n ≤ mq - tot l x.t := by
  unfold putE at h
  split at h
  · rename_i h1
    split at h
    · omega
    · exact ⟨h1.1, h1.2, by omega⟩
  · omega
theorem takeE_zero {l : List Lt} {x : Bn} {n : Int} (h : takeE l x n = 0) : MayB x ∧ 0 ≤ n ∧ n ≤ qty l x := by
  unfold takeE at h
  split at h
  · rename_i h1
    split at h
    · omega
    · exact ⟨h1.1, h1.2, by omega⟩
  · omega
theorem moveE_zero {l : List Lt} {f t : Bn} {n : Int} (h : moveE l f t n = 0) : MayB t ∧ f.t = t.t ∧ takeE l f n = 0 := by
  unfold moveE at h
  split at h
  · rename_i h1
    refine ⟨h1.2.1, h1.2.2.1, ?_⟩
    unfold takeE
    rw [if_pos ⟨h1.1, h1.2.2.2⟩]
    exact h
  · omega
theorem good_put {l : List Lt} (h : Good l) (x : Bn) (n : Int) : Good (putL l x n) := by
  unfold putL
  split
  · rename_i he
    obtain ⟨h1, h2, h3⟩ := putE_zero he
    have h4 := h.qty x
    exact good_set h h1 (by omega) (by omega)
  · exact h
theorem good_take {l : List Lt} (h : Good l) (x : Bn) (n : Int) : Good (takeL l x n) := by
  unfold takeL
  split
  · rename_i he
    obtain ⟨h1, h2, h3⟩ := takeE_zero he
    have h4 := h.qty x
    exact good_set h h1 (by omega) (by omega)
  · exact h
theorem tot_take {l : List Lt} (h : Good l) {x : Bn} {n : Int} (he : takeE l x n = 0) (k : Int) : tot (takeL l x n) k = tot l k - (if x.t = k then n else 0) := by
  unfold takeL
  rw [if_pos he, tot_set h.rise]
  split <;> omega
/-- What is taken has room again. -/
theorem move_room {l : List Lt} (h : Good l) {f t : Bn} {n : Int} (he : moveE l f t n = 0) : putE (takeL l f n) t n = 0 ∧ moveL l f t n = putL (takeL l f n) t n := by
  obtain ⟨h1, h2, h3⟩ := moveE_zero he
  have h4 := tot_take h h3 t.t
  rw [if_pos h2] at h4
  have h5 := h.tot t.t
  have h6 := (takeE_zero h3).2.1
  have h7 : putE (takeL l f n) t n = 0 := by
    unfold putE
    rw [if_pos ⟨h1, h6⟩, if_neg (by omega)]
  refine ⟨h7, ?_⟩
  unfold moveL putL
  rw [if_pos he, if_pos h7]
theorem good_move {l : List Lt} (h : Good l) (f t : Bn) (n : Int) : Good (moveL l f t n) := by
  by_cases he : moveE l f t n = 0
  · rw [(move_room h he).2]
    exact good_put (good_take h f n) t n
  · unfold moveL
    rw [if_neg he]
    exact h
/-- What is moved changes no total. -/
theorem tot_move {l : List Lt} (h : Good l) (f t : Bn) (n k : Int) : tot (moveL l f t n) k = tot l k := by
  by_cases he : moveE l f t n = 0
  · obtain ⟨h1, h2, h3⟩ := moveE_zero he
    have h4 := tot_take h h3 k
    unfold moveL
    rw [if_pos he, tot_set (good_take h f n).rise, h4, h2]
    split <;> omega
  · unfold moveL
    rw [if_neg he]
theorem put_length (l : List Lt) (x : Bn) (n : Int) : (putL l x n).length ≤ l.length + 1 := by
  unfold putL
  split
  · exact set_length _ _ _
  · omega
theorem take_length (l : List Lt) (x : Bn) (n : Int) : (takeL l x n).length ≤ l.length + 1 := by
  unfold takeL
  split
  · exact set_length _ _ _
  · omega
theorem move_length (l : List Lt) (f t : Bn) (n : Int) : (moveL l f t n).length ≤ l.length + 2 := by
  unfold moveL
  split
  · have h1 := set_length (takeL l f n) t (qty (takeL l f n) t + n)
    have h2 := take_length l f n
    omega
  · omega
theorem good_goP (x : Bn) : ∀ (s : List St) {l : List Lt}, Good l → Good (goP x l s).1 ∧ (goP x l s).1.length ≤ l.length + s.length
  | [], _, h => ⟨h, Nat.le_refl _⟩
  | a :: s, l, h => by
    unfold goP
    split
    · obtain ⟨h1, h2⟩ := good_goP x s (good_put h (withB x a.kind) a.qty)
      have h3 := put_length l (withB x a.kind) a.qty
      exact ⟨h1, by simp only [List.length_cons]; omega⟩
    · exact ⟨h, by simp⟩
theorem good_goT (x : Bn) : ∀ (s : List St) {l : List Lt}, Good l → Good (goT x l s).1 ∧ (goT x l s).1.length ≤ l.length + s.length
  | [], _, h => ⟨h, Nat.le_refl _⟩
  | a :: s, l, h => by
    unfold goT
    split
    · obtain ⟨h1, h2⟩ := good_goT x s (good_take h (withB x a.kind) a.qty)
      have h3 := take_length l (withB x a.kind) a.qty
      exact ⟨h1, by simp only [List.length_cons]; omega⟩
    · exact ⟨h, by simp⟩
theorem good_puts {l : List Lt} (h : Good l) (x : Bn) (s : List St) : Good (putsL l x s) ∧ (putsL l x s).length ≤ l.length + s.length := by
  unfold putsL
  split
  · exact good_goP x s h
  · exact ⟨h, by omega⟩
theorem good_takes {l : List Lt} (h : Good l) (x : Bn) (s : List St) : Good (takesL l x s) ∧ (takesL l x s).length ≤ l.length + s.length := by
  unfold takesL
  split
  · exact good_goT x s h
  · exact ⟨h, by omega⟩
theorem good_ld : ∀ {l out r : List Lt}, Rise out → (∀ a ∈ out, MayB a.b) → (∀ a ∈ out, 1 ≤ a.q ∧ a.q ≤ mq) → ld out l = some r → (Rise r ∧ (∀ a ∈ r, MayB a.b) ∧ ∀ a ∈ r, 1 ≤ a.q ∧ a.q ≤ mq) ∧ r.length ≤ out.length + l.length
  | [], out, r, h1, h2, h3, h => by
    unfold ld at h
    cases h
    exact ⟨⟨h1, h2, h3⟩, by simp⟩
  | a :: l, out, r, h1, h2, h3, h => by
    unfold ld at h
    split at h
    · rename_i hok
      obtain ⟨k1, k2, k3⟩ := hok
      have := good_ld (rise_set h1 a.b a.q) (fun c hc => ?_) (fun c hc => ?_) h
      · refine ⟨this.1, ?_⟩
        have h5 := this.2
        have h6 := set_length out a.b a.q
        simp only [List.length_cons]
        omega
      · rcases mem_set.1 hc with h4 | h4
        · exact h2 c h4.1
        · rw [h4.2]; exact k1
      · rcases mem_set.1 hc with h4 | h4
        · exact h3 c h4.1
        · rw [h4.2]; exact k2
    · cases h
theorem load_ok {l : List Lt} (h : loadE l = 0) : ld [] l = some (loadL l) ∧ ¬ Over (loadL l) := by
  have h0 := h
  unfold loadE at h
  split at h
  · omega
  · rename_i out he
    split at h
    · omega
    · rename_i ho
      unfold loadL
      rw [if_pos h0, he]
      exact ⟨rfl, ho⟩
theorem good_load {l : List Lt} (h : loadE l = 0) : Good (loadL l) ∧ (loadL l).length ≤ l.length := by
  obtain ⟨h1, h2⟩ := load_ok h
  obtain ⟨⟨h3, h4, h5⟩, h6⟩ := good_ld .nil (fun _ h => (by cases h)) (fun _ h => (by cases h)) h1
  exact ⟨⟨h3, h4, fun a ha => (h5 a ha).1, fun k => by
    by_cases h7 : mq < tot (loadL l) k
    · exact absurd ⟨k, h7⟩ h2
    · omega⟩, by simpa using h6⟩
theorem loadL_no {l : List Lt} (h : loadE l ≠ 0) : loadL l = [] := by unfold loadL; rw [if_neg h]
/-! what is put in together is taken out again -/
theorem qty_put {l : List Lt} (h : Good l) {x : Bn} {n : Int} (he : putE l x n = 0) (y : Bn) : qty (putL l x n) y = qty l y + (if y = x then n else 0) := by
  unfold putL
  rw [if_pos he, qty_set h.rise]
  by_cases e : y = x
  · rw [if_pos e, if_pos e, e]
  · rw [if_neg e, if_neg e]; omega
theorem qty_take {l : List Lt} (h : Good l) {x : Bn} {n : Int} (he : takeE l x n = 0) (y : Bn) : qty (takeL l x n) y = qty l y - (if y = x then n else 0) := by
  unfold takeL
  rw [if_pos he, qty_set h.rise]
  by_cases e : y = x
  · rw [if_pos e, if_pos e, e]
  · rw [if_neg e, if_neg e]; omega
/-- How many of a bin's type stacks have, where the bin is one of the division's. -/
def amt (x : Bn) (y : Bn) : List St → Int
  | [] => 0
  | s :: ss => (if y = withB x s.kind then s.qty else 0) + amt x y ss
theorem qty_goP (x : Bn) : ∀ (s : List St) {l : List Lt}, Good l → (goP x l s).2 = 0 → ∀ y, qty (goP x l s).1 y = qty l y + amt x y s
  | [], _, _, _, _ => by simp [goP, amt]
  | a :: s, l, h, he, y => by
    unfold goP at he ⊢
    split
    · rename_i h1
      rw [if_pos h1] at he
      rw [qty_goP x s (good_put h _ _) he y, qty_put h h1, amt]
      omega
    · rename_i h1
      rw [if_neg h1] at he
      exact absurd he h1
theorem puts_ok {l : List Lt} {x : Bn} {s : List St} (h : putsE l x s = 0) : MayB (withB x 1) ∧ Goods.Listed s 32 ∧ (goP x l s).2 = 0 ∧ putsL l x s = (goP x l s).1 := by
  have h0 := h
  unfold putsE at h
  split at h
  · rename_i h1
    refine ⟨h1.1, h1.2, h, ?_⟩
    unfold putsL
    rw [if_pos h0]
  · omega
theorem amt_nonneg {x y : Bn} : ∀ {s : List St}, (∀ a ∈ s, 0 ≤ a.qty) → 0 ≤ amt x y s
  | [], _ => Int.le_refl _
  | a :: s, h => by
    have h1 := h a (by simp)
    have h2 := amt_nonneg (x := x) (y := y) (s := s) fun b hb => h b (by simp [hb])
    rw [amt]
    split <;> omega
end Go.Proofs.Ytkljaaeeocghjaa.Bins
