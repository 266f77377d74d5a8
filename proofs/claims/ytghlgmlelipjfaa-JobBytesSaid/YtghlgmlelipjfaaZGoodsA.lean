/- Stacks in memory: a row of one's own; stacks that lie somewhere. The document's way to the normal stacks: type by type, the least one first. -/
import Derived.Test.YtghlgmlelipjfaaRows
import Derived.Test.YtghlgmlelipjfaaZGoodsMath
import Derived.Laws.OwnMore
import Derived.Laws.StructEq
import Derived.BigQuiet
import Derived.RegionTactic
import Derived.Deep.QuietTactic
namespace Go.Proofs.Ytghlgmlelipjfaa.Goods
open Go.RowKit Go.Lib

abbrev sV (t : St) : Value := .agg #[.int .i64 t.kind, .int .i64 t.qty]
def stCells (t : St) : List Value := [.int .i64 t.kind, .int .i64 t.qty]
def St.cells (t : St) : Array Value := #[.int .i64 t.kind, .int .i64 t.qty]
def scells (l : List St) : List Value := l.flatMap stCells
theorem scells_cons (t : St) (l : List St) : scells (t :: l) = stCells t ++ scells l := by simp [scells]
theorem scells_append (l m : List St) : scells (l ++ m) = scells l ++ scells m := by simp [scells]
theorem scells_length : ∀ l : List St, (scells l).length = l.length * 2
  | [] => rfl
  | p :: l => by rw [scells_cons, List.length_append, scells_length l]; simp [stCells]; omega
theorem scells_at : ∀ (l : List St) (i : Nat) (p : St), l[i]? = some p → ∀ (j : Nat) (v : Value), (stCells p)[j]? = some v → (scells l)[i * 2 + j]? = some v
  | [], i, p, h => by simp at h
  | q :: l, 0, p, h => by
    intro j v hj
    have : q = p := by simpa using h
    subst this
    have hlt : j < (stCells q).length := (List.getElem?_eq_some_iff.1 hj).1
    rw [scells_cons, List.getElem?_append_left (by simpa using hlt)]
    simpa using hj
  | q :: l, i + 1, p, h => by
    intro j v hj
    have ih := scells_at l i p (by simpa using h) j v hj
    rw [scells_cons, show (i + 1) * 2 + j = 2 + (i * 2 + j) by omega, List.getElem?_append_right (by simp [stCells])]
    simpa [stCells] using ih
theorem scells_one : ∀ (l : List St), ∀ u ∈ scells l, u.oneCell' = true
  | [], u, h => by cases h
  | p :: l, u, h => by
    rw [scells_cons] at h
    rcases List.mem_append.1 h with h | h
    · simp [stCells] at h
      rcases h with rfl | rfl <;> rfl
    · exact scells_one l u h
theorem take_st (l : List St) (n : Nat) : scells (l.take n) = (scells l).take (n * 2) := by
  induction n generalizing l with
  | zero => simp [scells]
  | succ n ih =>
    cases l with
    | nil => simp [scells]
    | cons k l => rw [List.take_succ_cons, scells_cons, scells_cons, ih, show (n + 1) * 2 = (stCells k).length + n * 2 by show _ = 2 + n * 2; omega, List.take_length_add_append]
theorem drop_st (l : List St) (n : Nat) : scells (l.drop n) = (scells l).drop (n * 2) := by
  induction n generalizing l with
  | zero => simp
  | succ n ih =>
    cases l with
    | nil => simp [scells]
    | cons k l => rw [List.drop_succ_cons, scells_cons, ih, show (n + 1) * 2 = (stCells k).length + n * 2 by show _ = 2 + n * 2; omega, List.drop_length_add_append]
/-- Timers in a row of one's own. -/
abbrev OwnS (w : World) (B : Nat) (v : Value) (l : List St) : Prop := w.ownsRow B 74 2 v l.length (scells l)
abbrev zeroStV : Value := .agg #[.int .i64 0, .int .i64 0]
theorem info_st : (Try.prog.info? 74).map (fun i => (i.zero, i.size, i.bytes)) = some (some zeroStV, 2, 16) := by kernel_rfl
theorem elem_st : Program.elem Try.prog 22 = 74 := by kernel_rfl
theorem under_st : Try.prog.underlying 22 = some (.slice (Program.elem Try.prog 22)) := by
  rw [elem_st]
  exact Try.underlying22
theorem addr_add (g o j : Nat) : (⟨g, o, none⟩ : Addr).add j = ⟨g, o + j, none⟩ := by
  unfold Addr.add
  split
  · rename_i h
    subst h
    simp
  · rfl
theorem own_same {w w' : World} {B : Nat} {e : TypeId} {size n : Nat} {v : Value} {xs : List Value} (h : w.ownsRow B e size v n xs) (hs : ∀ q, v.ownBlock = some q → w'.heap[q]? = w.heap[q]?) : w'.ownsRow B e size v n xs := by
  refine ⟨h.1, ?_⟩
  rcases h.2 with h1 | ⟨g, cap, cur, hv, h1, h2, h3⟩
  · exact .inl h1
  · exact .inr ⟨g, cap, cur, hv, h1, (hs g (by rw [hv]; rfl)).trans h2, h3⟩
theorem own_under {w w' : World} {B : Nat} {e : TypeId} {size n : Nat} {v : Value} {xs : List Value} (h : w.ownsRow B e size v n xs) (hb : Below w.heap.size w w') : w'.ownsRow B e size v n xs := own_same h (fun q hq => hb.block q (h.lt q hq).2)
theorem rowS {w : World} {B : Nat} {v : Value} {l : List St} (h : OwnS w B v l) : ∃ a c, v = .slice a l.length c ∧ l.length ≤ c ∧ c ≤ maxLen ∧ (a = none ∨ ∃ g, a = some ⟨g, 0, none⟩) ∧ ∀ j u, (scells l)[j]? = some u → ∃ g, a = some ⟨g, 0, none⟩ ∧ g < w.heap.size ∧ w.cell? ⟨g, j, none⟩ = some u := by
  rcases h.2 with ⟨hv, h0⟩ | ⟨g, cap, cur, hv, _, hg, hn, hm, _⟩
  · refine ⟨none, 0, by rw [hv, h0], by omega, by unfold maxLen; omega, .inl rfl, fun j u hj => ?_⟩
    have := (List.getElem?_eq_some_iff.1 hj).1
    rw [scells_length, h0] at this
    omega
  · refine ⟨some ⟨g, 0, none⟩, cap, hv, hn, hm, .inr ⟨g, rfl⟩, fun j u hj => ⟨g, rfl, (Array.getElem?_eq_some_iff.1 hg).1, ?_⟩⟩
    have := h.cells (g := g) (by rw [hv]; rfl) j u hj
    rw [addr_add, Nat.zero_add] at this
    exact this
theorem row_st {w : World} {B : Nat} {v : Value} {l : List St} (h : OwnS w B v l) : ∃ a c, v = .slice a l.length c ∧ l.length ≤ c ∧ ∀ (i : Nat) (p : St), l[i]? = some p → ∃ g, a = some ⟨g, 0, none⟩ ∧ g < w.heap.size ∧
    w.cell? ⟨g, i * 2, none⟩ = some (.int .i64 p.kind) ∧ w.cell? ⟨g, i * 2 + 1, none⟩ = some (.int .i64 p.qty) := by
  obtain ⟨a, c, hv, hc, _, _, hat⟩ := rowS h
  refine ⟨a, c, hv, hc, fun i p hi => ?_⟩
  obtain ⟨g, rfl, hg, c0⟩ := hat _ _ (scells_at l i p hi 0 _ rfl)
  have hh : ∀ j u, (stCells p)[j]? = some u → w.cell? ⟨g, i * 2 + j, none⟩ = some u := fun j u hj => by
    obtain ⟨g2, e, _, c1⟩ := hat _ _ (scells_at l i p hi j u hj)
    cases e
    exact c1
  exact ⟨g, rfl, hg, c0, hh 1 _ rfl⟩
theorem app_st (w : World) (B : Nat) (v : Value) (xs ys : List St) (h : OwnS w B v xs) (xa : Option Addr) (m xc : Nat) (hm : m = ys.length) (hsrc : ∀ j u, (scells ys)[j]? = some u → ∃ ad, xa = some ad ∧ w.cell? (ad.add j) = some u) (hl : xs.length + ys.length ≤ 1099511627776) (hB : B ≤ w.heap.size) :
    ∃ v' w', (Builtin.append_ #[22, 22] 22 #[v, .slice xa m xc]).run Try.prog w = .ok v' w' ∧ OwnS w' B v' (xs ++ ys) ∧ Below B w w' := by
  obtain ⟨i0, hi, hz0, hz1, hz2⟩ := info_parts info_st
  subst hm
  obtain ⟨v', w', hr, h2, h3⟩ := app_any (P := Try.prog) (t := 22) (e := 74) (i := i0) w B 22 zeroStV 2 16 Try.underlying22 hi hz0 hz1 hz2 rfl (by omega) v xs.length (scells xs) h xa ys.length xc (scells ys) (scells_length ys) hsrc (scells_one ys) (by unfold maxLen; omega) (by omega) hB
  rw [← scells_append, ← List.length_append] at h2
  exact ⟨v', w', hr, h2, (Below.refl B w).grown h3 hB (fun k hk => (h.lt k hk).1)⟩
theorem src_take_st {w : World} {B : Nat} {a : Option Addr} {c : Nat} {l : List St} (h : OwnS w B (.slice a l.length c) l) (n : Nat) :
    ∀ j u, (scells (l.take n))[j]? = some u → ∃ ad, a = some ad ∧ w.cell? (ad.add j) = some u := fun j u hj => by
  obtain ⟨a', c', e, _, _, _, hs⟩ := rowS h
  injection e with e1 _ _
  subst e1
  rw [take_st] at hj
  have hlt := (List.getElem?_eq_some_iff.1 hj).1
  rw [List.length_take] at hlt
  rw [List.getElem?_take_of_lt (by omega)] at hj
  obtain ⟨g, rfl, _, hc⟩ := hs j u hj
  exact ⟨_, rfl, by rw [addr_add, Nat.zero_add]; exact hc⟩
theorem src_drop_st {w : World} {B : Nat} {a : Option Addr} {c : Nat} {l : List St} (h : OwnS w B (.slice a l.length c) l) (n : Nat) :
    ∀ j u, (scells (l.drop n))[j]? = some u → ∃ ad, atAddr a 2 n c = some ad ∧ w.cell? (ad.add j) = some u := fun j u hj => by
  obtain ⟨a', c', e, hlc, _, _, hs⟩ := rowS h
  injection e with e1 _ e3
  subst e1; subst e3
  have hn : n < l.length := by
    have hlt := (List.getElem?_eq_some_iff.1 hj).1
    rw [scells_length, List.length_drop] at hlt
    omega
  rw [drop_st, List.getElem?_drop] at hj
  obtain ⟨g, rfl, _, hc⟩ := hs _ u hj
  refine ⟨⟨g, n * 2, none⟩, ?_, ?_⟩
  · unfold atAddr
    rw [if_neg (by omega)]
    simp [addr_add]
  · rw [addr_add]
    exact hc
/-- Stacks that lie somewhere. -/
def Sts (w : World) (a : Option Addr) (l : List St) : Prop := ∀ (i : Nat) (t : St), l[i]? = some t → ∃ g off, a = some ⟨g, off, none⟩ ∧ g < w.heap.size ∧ w.cell? ⟨g, off + i * 2, none⟩ = some (.int .i64 t.kind) ∧ w.cell? ⟨g, off + i * 2 + 1, none⟩ = some (.int .i64 t.qty)
theorem Sts.under {w w' : World} {a : Option Addr} {l : List St} (h : Sts w a l) (hb : Below w.heap.size w w') : Sts w' a l := fun i t hi => by
  obtain ⟨g, off, e, hg, k0, k1⟩ := h i t hi
  exact ⟨g, off, e, Nat.lt_of_lt_of_le hg hb.size, ((bcell hb).1 g _ hg).trans k0, ((bcell hb).1 g _ hg).trans k1⟩
theorem sts_own {w : World} {B : Nat} {v : Value} {l : List St} (h : OwnS w B v l) : ∃ a c, v = .slice a l.length c ∧ Sts w a l := by
  obtain ⟨a, c, hv, _, hat⟩ := row_st h
  refine ⟨a, c, hv, fun i t hi => ?_⟩
  obtain ⟨g, e, hg, k0, k1⟩ := hat i t hi
  exact ⟨g, 0, e, hg, by simpa using k0, by simpa using k1⟩
end Go.Proofs.Ytghlgmlelipjfaa.Goods
namespace Go.Proofs.Ytghlgmlelipjfaa.Goods

/-- The normal stacks whose types are p at most. -/
def upto (l : List St) (p : Int) : List St := (nl l).filter fun s => decide (s.kind ≤ p)
theorem norm_upto {l : List St} (h : Fine l) (p : Int) : Norm (upto l p) :=
  have hn := norm_nl h
  ⟨hn.rise.sublist List.filter_sublist, fun s hs => hn.kind s (List.mem_filter.1 hs).1, fun s hs => hn.qty s (List.mem_filter.1 hs).1⟩
theorem cnt_keep (l : List St) (p k : Int) : cnt (l.filter fun s => decide (s.kind ≤ p)) k = if k ≤ p then cnt l k else 0 := by
  induction l with
  | nil => simp [cnt]
  | cons s l ih =>
    rw [List.filter_cons]
    by_cases h : s.kind ≤ p
    · rw [decide_eq_true h, if_pos rfl, cnt, cnt, ih]
      by_cases hk : k ≤ p
      · rw [if_pos hk, if_pos hk]
      · rw [if_neg hk, if_neg hk, if_neg (by omega)]
        omega
    · rw [decide_eq_false h, if_neg (by decide), ih, cnt]
      by_cases hk : k ≤ p
      · rw [if_pos hk, if_pos hk, if_neg (by omega)]
        omega
      · rw [if_neg hk, if_neg hk]
theorem cnt_upto (l : List St) (p k : Int) : cnt (upto l p) k = if k ≤ p then cnt l k else 0 := by
  unfold upto
  rw [cnt_keep, cnt_nl]
theorem upto_low {l : List St} (h : Fine l) : upto l 0 = [] := by
  refine norm_one (norm_upto h 0) ⟨.nil, fun _ h => by simp at h, fun _ h => by simp at h⟩ fun k => ?_
  rw [cnt_upto, cnt_nil]
  split
  · exact cnt_none fun s hs => by have := (h s hs).1; omega
  · rfl
theorem mem_upto {l : List St} {p : Int} {s : St} (h : s ∈ upto l p) : s.kind ≤ p := of_decide_eq_true (List.mem_filter.1 h).2
/-- The least type above p comes next. -/
theorem upto_next {l : List St} (h : Fine l) {p k : Int} (hp : p < k) (hk : ∀ s ∈ l, p < s.kind → k ≤ s.kind) (h1 : 1 ≤ k) (h0 : 0 < cnt l k) : upto l k = upto l p ++ [⟨k, cnt l k⟩] := by
  have hu := norm_upto h p
  refine norm_one (norm_upto h k) ⟨List.pairwise_append.2 ⟨hu.rise, List.pairwise_singleton _ _, fun a ha b hb => ?_⟩, fun s hs => ?_, fun s hs => ?_⟩ fun j => ?_
  · rw [List.mem_singleton.1 hb]
    have := mem_upto ha
    show a.kind < k
    omega
  · rcases List.mem_append.1 hs with hs | hs
    · exact hu.kind s hs
    · rw [List.mem_singleton.1 hs]; exact h1
  · rcases List.mem_append.1 hs with hs | hs
    · exact hu.qty s hs
    · rw [List.mem_singleton.1 hs]; show 1 ≤ cnt l k; omega
  · rw [cnt_append, cnt_upto, cnt_upto, cnt, cnt_nil]
    simp only
    by_cases e : k = j
    · subst e
      rw [if_pos (Int.le_refl _), if_neg (by omega), if_pos rfl]
      omega
    · rw [if_neg e]
      by_cases hj : j ≤ p
      · rw [if_pos (by omega), if_pos hj]
        omega
      · rw [if_neg hj]
        by_cases hjk : j ≤ k
        · rw [if_pos hjk, cnt_none fun s hs e2 => by have := hk s hs (by omega); omega]
          omega
        · rw [if_neg hjk]
          rfl
theorem upto_none {l : List St} (h : Fine l) {p k : Int} (hp : p < k) (hk : ∀ s ∈ l, p < s.kind → k ≤ s.kind) (h0 : cnt l k = 0) : upto l k = upto l p := by
  refine norm_one (norm_upto h k) (norm_upto h p) fun j => ?_
  rw [cnt_upto, cnt_upto]
  by_cases hj : j ≤ p
  · rw [if_pos (by omega), if_pos hj]
  · rw [if_neg hj]
    split
    · by_cases e : j = k
      · rw [e, h0]
      · exact cnt_none fun s hs e2 => by have := hk s hs (by omega); omega
    · rfl
theorem upto_all {l : List St} (h : Fine l) {p : Int} (hp : ∀ s ∈ l, s.kind ≤ p) : upto l p = nl l := by
  refine norm_one (norm_upto h p) (norm_nl h) fun j => ?_
  rw [cnt_upto, cnt_nl]
  split
  · rfl
  · exact (cnt_none fun s hs => by have := hp s hs; omega).symm
/-- The least type above p among the first i; 0: none. -/
structure LeastK (l : List St) (p : Int) (i : Nat) (k : Int) : Prop where
  is : k = 0 ∨ (p < k ∧ ∃ s ∈ l.take i, s.kind = k)
  all : ∀ s ∈ l.take i, p < s.kind → k ≠ 0 ∧ k ≤ s.kind
theorem least_zero (l : List St) (p : Int) : LeastK l p 0 0 := ⟨.inl rfl, fun s hs => by simp at hs⟩
theorem mem_take_succ {l : List St} {i : Nat} {t : St} (h : l[i]? = some t) {s : St} : s ∈ l.take (i + 1) ↔ s ∈ l.take i ∨ s = t := by
  rw [List.take_add_one, h]
  simp
theorem least_new {l : List St} {p : Int} {i : Nat} {k : Int} {t : St} (h : LeastK l p i k) (hp : 0 ≤ p) (ht : l[i]? = some t) (h1 : p < t.kind) (h2 : k = 0 ∨ t.kind < k) : LeastK l p (i + 1) t.kind := by
  refine ⟨.inr ⟨h1, t, (mem_take_succ ht).2 (.inr rfl), rfl⟩, fun s hs hps => ?_⟩
  rcases (mem_take_succ ht).1 hs with hs | rfl
  · have := h.all s hs hps
    exact ⟨by omega, by omega⟩
  · exact ⟨by omega, Int.le_refl _⟩
theorem least_old {l : List St} {p : Int} {i : Nat} {k : Int} {t : St} (h : LeastK l p i k) (ht : l[i]? = some t) (h2 : ¬ p < t.kind ∨ (k ≠ 0 ∧ k ≤ t.kind)) : LeastK l p (i + 1) k := by
  refine ⟨?_, fun s hs hps => ?_⟩
  · rcases h.is with h3 | ⟨h3, s, hs, e⟩
    · exact .inl h3
    · exact .inr ⟨h3, s, (mem_take_succ ht).2 (.inl hs), e⟩
  · rcases (mem_take_succ ht).1 hs with hs | rfl
    · exact h.all s hs hps
    · rcases h2 with h2 | h2
      · exact absurd hps h2
      · exact h2
theorem cnt_take_succ {l : List St} {i : Nat} {t : St} (h : l[i]? = some t) (k : Int) : cnt (l.take (i + 1)) k = cnt (l.take i) k + (if t.kind = k then t.qty else 0) := by
  rw [List.take_add_one, h, cnt_append]
  simp [cnt]
theorem cnt_take_le {l : List St} (h : Fine l) (i : Nat) (k : Int) : cnt (l.take i) k ≤ cnt l k := by
  have h1 := cnt_append (l.take i) (l.drop i) k
  rw [List.take_append_drop] at h1
  have h2 := cnt_nonneg (fun s hs => (h s (List.mem_of_mem_drop hs)).2) k (l := l.drop i)
  omega
/-- Fewer are left above the next type. -/
theorem left_less {l : List St} {p k : Int} (hp : p < k) {s : St} (hs : s ∈ l) (hk : s.kind = k) : (l.filter fun s => decide (k < s.kind)).length < (l.filter fun s => decide (p < s.kind)).length := by
  induction l with
  | nil => simp at hs
  | cons x l ih =>
    have hle : ∀ m : List St, (m.filter fun s => decide (k < s.kind)).length ≤ (m.filter fun s => decide (p < s.kind)).length := fun m => by
      induction m with
      | nil => simp
      | cons y m ihm =>
        rw [List.filter_cons, List.filter_cons]
        by_cases h1 : k < y.kind
        · rw [decide_eq_true h1, decide_eq_true (by omega : p < y.kind)]
          simpa using ihm
        · rw [decide_eq_false h1, if_neg (by decide)]
          split
          · simp; omega
          · exact ihm
    rw [List.filter_cons, List.filter_cons]
    rcases List.mem_cons.1 hs with rfl | hs
    · rw [decide_eq_false (by omega : ¬ k < s.kind), decide_eq_true (by omega : p < s.kind), if_neg (by decide), if_pos rfl]
      have := hle l
      simp
      omega
    · have h1 := ih hs
      by_cases h2 : k < x.kind
      · rw [decide_eq_true h2, decide_eq_true (by omega : p < x.kind)]
        simpa using h1
      · rw [decide_eq_false h2, if_neg (by decide)]
        split
        · simp; omega
        · exact h1
end Go.Proofs.Ytghlgmlelipjfaa.Goods
