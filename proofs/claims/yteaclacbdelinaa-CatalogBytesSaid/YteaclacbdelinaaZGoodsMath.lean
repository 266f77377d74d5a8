/- Stacks: how many there are of a type; the normal ones; together, without, so often; said without a program. Stacks in memory: a row of one's own; stacks that lie somewhere. The document's way to the normal stacks: type by type, the least one first. The document's Norm. What Norm answers, in one word; the document's Size, Count, both, Add. The document's Same, of any two rows. The document's Check. The document's Count. -/
import Derived.WalkKit
import Derived.Test.YteaclacbdelinaaZCommon
import Derived.Test.YteaclacbdelinaaRows
import Derived.Test.YteaclacbdelinaaZAppend
import Derived.Laws.OwnMore
import Derived.Laws.StructEq
import Derived.BigQuiet
import Derived.RegionTactic
import Derived.Deep.QuietTactic
namespace Go.Proofs.Yteaclacbdelinaa.Goods

structure St where
  kind : Int
  qty : Int
def zeroSt : St := ⟨0, 0⟩
def mq : Int := 1125899906842624
/-- How many there are of a type. -/
def cnt : List St → Int → Int
  | [], _ => 0
  | s :: l, k => (if s.kind = k then s.qty else 0) + cnt l k
/-- How many things there are in all. -/
def tot : List St → Int
  | [] => 0
  | s :: l => s.qty + tot l
def Rise (l : List St) : Prop := l.Pairwise fun a b => a.kind < b.kind
structure Norm (l : List St) : Prop where
  rise : Rise l
  kind : ∀ s ∈ l, 1 ≤ s.kind
  qty : ∀ s ∈ l, 1 ≤ s.qty
theorem cnt_nil (k : Int) : cnt [] k = 0 := rfl
theorem cnt_append (a b : List St) (k : Int) : cnt (a ++ b) k = cnt a k + cnt b k := by
  induction a with
  | nil => simp [cnt]
  | cons s a ih => rw [List.cons_append, cnt, cnt, ih]; omega
theorem tot_append (a b : List St) : tot (a ++ b) = tot a + tot b := by
  induction a with
  | nil => simp [tot]
  | cons s a ih => rw [List.cons_append, tot, tot, ih]; omega
theorem cnt_none {l : List St} {k : Int} (h : ∀ s ∈ l, s.kind ≠ k) : cnt l k = 0 := by
  induction l with
  | nil => rfl
  | cons s l ih =>
    rw [cnt, if_neg (h s (by simp)), ih fun x hx => h x (by simp [hx])]
    rfl
theorem cnt_nonneg {l : List St} (h : ∀ s ∈ l, 0 ≤ s.qty) (k : Int) : 0 ≤ cnt l k := by
  induction l with
  | nil => exact Int.le_refl _
  | cons s l ih =>
    have h1 := h s (by simp)
    have h2 := ih fun x hx => h x (by simp [hx])
    rw [cnt]
    split <;> omega
theorem cnt_mem {l : List St} (h : ∀ s ∈ l, 0 ≤ s.qty) {s : St} (hs : s ∈ l) : s.qty ≤ cnt l s.kind := by
  induction l with
  | nil => simp at hs
  | cons x l ih =>
    have h1 := h x (by simp)
    have h2 := cnt_nonneg (fun y hy => h y (by simp [hy])) s.kind (l := l)
    rw [cnt]
    rcases List.mem_cons.1 hs with rfl | hs
    · rw [if_pos rfl]
      omega
    · have := ih (fun y hy => h y (by simp [hy])) hs
      split <;> omega
theorem tot_nonneg {l : List St} (h : ∀ s ∈ l, 0 ≤ s.qty) : 0 ≤ tot l := by
  induction l with
  | nil => exact Int.le_refl _
  | cons s l ih =>
    have h1 := h s (by simp)
    have h2 := ih fun x hx => h x (by simp [hx])
    rw [tot]
    omega
/-- In a row that rises there is of each type what its stack has. -/
theorem cnt_at {l : List St} (h : Rise l) {s : St} (hs : s ∈ l) : cnt l s.kind = s.qty := by
  induction l with
  | nil => simp at hs
  | cons x l ih =>
    obtain ⟨h1, h2⟩ := List.pairwise_cons.1 h
    rw [cnt]
    rcases List.mem_cons.1 hs with rfl | hs
    · rw [if_pos rfl, cnt_none fun y hy => by have := h1 y hy; omega]
      omega
    · have := h1 s hs
      rw [if_neg (by omega), ih h2 hs]
      omega
/-- There is one normal row with as many of each type. -/
theorem norm_one : ∀ {a b : List St}, Norm a → Norm b → (∀ k, cnt a k = cnt b k) → a = b
  | [], [], _, _, _ => rfl
  | [], y :: b, _, hb, h => by
    have h1 := h y.kind
    have h2 := cnt_at hb.rise (s := y) (by simp)
    have h3 := hb.qty y (by simp)
    rw [h2, cnt_nil] at h1
    omega
  | x :: a, [], ha, _, h => by
    have h1 := h x.kind
    have h2 := cnt_at ha.rise (s := x) (by simp)
    have h3 := ha.qty x (by simp)
    rw [h2, cnt_nil] at h1
    omega
  | x :: a, y :: b, ha, hb, h => by
    obtain ⟨a1, a2⟩ := List.pairwise_cons.1 ha.rise
    obtain ⟨b1, b2⟩ := List.pairwise_cons.1 hb.rise
    have hx := h x.kind
    have hy := h y.kind
    rw [cnt_at ha.rise (s := x) (by simp)] at hx
    rw [cnt_at hb.rise (s := y) (by simp)] at hy
    have qx := ha.qty x (by simp)
    have qy := hb.qty y (by simp)
    have hk : x.kind = y.kind := by
      rcases Int.lt_trichotomy x.kind y.kind with h1 | h1 | h1
      · rw [cnt_none fun s hs => by
          rcases List.mem_cons.1 hs with rfl | hs
          · omega
          · have := b1 s hs; omega] at hx
        omega
      · exact h1
      · rw [cnt_none fun s hs => by
          rcases List.mem_cons.1 hs with rfl | hs
          · omega
          · have := a1 s hs; omega] at hy
        omega
    have hq : x.qty = y.qty := by
      have h2 := cnt_at hb.rise (s := y) (by simp)
      rw [hk, h2] at hx
      exact hx
    have e : x = y := by
      cases x; cases y
      simp only at hk hq
      rw [hk, hq]
    subst e
    rw [norm_one ⟨a2, fun s hs => ha.kind s (by simp [hs]), fun s hs => ha.qty s (by simp [hs])⟩ ⟨b2, fun s hs => hb.kind s (by simp [hs]), fun s hs => hb.qty s (by simp [hs])⟩ fun k => by
      have := h k
      rw [cnt, cnt] at this
      omega]
/-- A stack put into a row that rises. -/
def addS (s : St) : List St → List St
  | [] => if s.qty = 0 then [] else [s]
  | x :: l => if s.kind < x.kind then (if s.qty = 0 then x :: l else s :: x :: l) else if s.kind = x.kind then ⟨x.kind, x.qty + s.qty⟩ :: l else x :: addS s l
/-- The normal stacks of a list that has them. -/
def nl : List St → List St
  | [] => []
  | s :: l => addS s (nl l)
theorem cnt_addS (s : St) (k : Int) : ∀ l : List St, cnt (addS s l) k = (if s.kind = k then s.qty else 0) + cnt l k
  | [] => by
    unfold addS
    split
    · rename_i h
      rw [h, cnt]
      split <;> rfl
    · rfl
  | x :: l => by
    have ih := cnt_addS s k l
    unfold addS
    split
    · split
      · rename_i h
        rw [h]
        split <;> omega
      · rw [cnt]
    · split
      · rename_i h
        rw [cnt, cnt, h]
        simp only
        split <;> omega
      · rw [cnt, cnt, ih]
        omega
theorem mem_addS {s y : St} : ∀ {l : List St}, y ∈ addS s l → y.kind = s.kind ∨ ∃ x ∈ l, x.kind = y.kind
  | [], h => by
    unfold addS at h
    split at h
    · simp at h
    · simp at h
      left; rw [h]
  | x :: l, h => by
    unfold addS at h
    split at h
    · split at h
      · exact .inr ⟨y, h, rfl⟩
      · rcases List.mem_cons.1 h with rfl | h
        · exact .inl rfl
        · exact .inr ⟨y, h, rfl⟩
    · split at h
      · rcases List.mem_cons.1 h with rfl | h
        · exact .inr ⟨x, by simp, rfl⟩
        · exact .inr ⟨y, by simp [h], rfl⟩
      · rcases List.mem_cons.1 h with rfl | h
        · exact .inr ⟨y, by simp, rfl⟩
        · rcases mem_addS h with h1 | ⟨z, hz, h1⟩
          · exact .inl h1
          · exact .inr ⟨z, by simp [hz], h1⟩
theorem norm_addS {s : St} (hk : 1 ≤ s.kind) (hq : 0 ≤ s.qty) : ∀ {l : List St}, Norm l → Norm (addS s l)
  | [], _ => by
    unfold addS
    split
    · exact ⟨.nil, fun _ h => by simp at h, fun _ h => by simp at h⟩
    · refine ⟨List.pairwise_singleton _ _, fun x hx => ?_, fun x hx => ?_⟩
      · rw [List.mem_singleton.1 hx]; exact hk
      · rw [List.mem_singleton.1 hx]; omega
  | x :: l, h => by
    obtain ⟨h1, h2⟩ := List.pairwise_cons.1 h.rise
    have ht : Norm l := ⟨h2, fun y hy => h.kind y (by simp [hy]), fun y hy => h.qty y (by simp [hy])⟩
    have ih := norm_addS hk hq ht
    unfold addS
    split
    · rename_i hlt
      split
      · exact h
      · refine ⟨List.pairwise_cons.2 ⟨fun y hy => ?_, h.rise⟩, fun y hy => ?_, fun y hy => ?_⟩
        · rcases List.mem_cons.1 hy with rfl | hy
          · exact hlt
          · have := h1 y hy; omega
        · rcases List.mem_cons.1 hy with rfl | hy
          · exact hk
          · exact h.kind y hy
        · rcases List.mem_cons.1 hy with rfl | hy
          · omega
          · exact h.qty y hy
    · split
      · have := h.qty x (by simp)
        refine ⟨List.pairwise_cons.2 ⟨h1, h2⟩, fun y hy => ?_, fun y hy => ?_⟩
        · rcases List.mem_cons.1 hy with rfl | hy
          · exact h.kind x (by simp)
          · exact h.kind y (by simp [hy])
        · rcases List.mem_cons.1 hy with rfl | hy
          · show 1 ≤ x.qty + s.qty; omega
          · exact h.qty y (by simp [hy])
      · refine ⟨List.pairwise_cons.2 ⟨fun y hy => ?_, ih.rise⟩, fun y hy => ?_, fun y hy => ?_⟩
        · rcases mem_addS hy with h3 | ⟨z, hz, h3⟩
          · omega
          · have := h1 z hz; omega
        · rcases List.mem_cons.1 hy with rfl | hy
          · exact h.kind _ (by simp)
          · exact ih.kind y hy
        · rcases List.mem_cons.1 hy with rfl | hy
          · exact h.qty _ (by simp)
          · exact ih.qty y hy
theorem cnt_nl (k : Int) : ∀ l : List St, cnt (nl l) k = cnt l k
  | [] => rfl
  | s :: l => by
    rw [nl, cnt_addS, cnt_nl k l]
    rfl
/-- A list whose stacks may be. -/
def Fine (l : List St) : Prop := ∀ s ∈ l, 1 ≤ s.kind ∧ 0 ≤ s.qty
def Over (l : List St) : Prop := ∃ k, mq < cnt l k
theorem norm_nl : ∀ {l : List St}, Fine l → Norm (nl l)
  | [], _ => ⟨.nil, fun _ h => by simp [nl] at h, fun _ h => by simp [nl] at h⟩
  | s :: l, h => norm_addS (h s (by simp)).1 (h s (by simp)).2 (norm_nl fun x hx => h x (by simp [hx]))
theorem fine_norm {l : List St} (h : Norm l) : Fine l := fun s hs => ⟨h.kind s hs, by have := h.qty s hs; omega⟩
theorem nl_norm {l : List St} (h : Norm l) : nl l = l := norm_one (norm_nl (fine_norm h)) h fun k => cnt_nl k l
theorem fine_append {a b : List St} (ha : Fine a) (hb : Fine b) : Fine (a ++ b) := fun s hs => (List.mem_append.1 hs).elim (ha s) (hb s)
/-- Two lists with as many of each type have the same normal stacks. -/
theorem nl_same {a b : List St} (ha : Fine a) (hb : Fine b) (h : ∀ k, cnt a k = cnt b k) : nl a = nl b :=
  norm_one (norm_nl ha) (norm_nl hb) fun k => by rw [cnt_nl, cnt_nl, h]
theorem over_same {a b : List St} (h : ∀ k, cnt a k = cnt b k) : Over a ↔ Over b := by
  unfold Over
  constructor
  · rintro ⟨k, hk⟩
    exact ⟨k, by rw [← h]; exact hk⟩
  · rintro ⟨k, hk⟩
    exact ⟨k, by rw [h]; exact hk⟩
/-- What is taken away. -/
def subL (a b : List St) : List St := (a.map fun s => (⟨s.kind, s.qty - cnt b s.kind⟩ : St)).filter fun s => decide (0 < s.qty)
/-- n times as many. -/
def timesL (a : List St) (n : Int) : List St := if n = 0 then [] else a.map fun s => (⟨s.kind, n * s.qty⟩ : St)
theorem rise_map {a : List St} (h : Rise a) (f : St → Int) : Rise (a.map fun s => (⟨s.kind, f s⟩ : St)) := by
  unfold Rise
  rw [List.pairwise_map]
  exact h
theorem norm_sub {a b : List St} (ha : Norm a) : Norm (subL a b) := by
  refine ⟨(rise_map ha.rise _).sublist List.filter_sublist, fun s hs => ?_, fun s hs => ?_⟩
  · obtain ⟨h1, _⟩ := List.mem_filter.1 hs
    obtain ⟨x, hx, rfl⟩ := List.mem_map.1 h1
    exact ha.kind x hx
  · obtain ⟨_, h2⟩ := List.mem_filter.1 hs
    have := of_decide_eq_true h2
    omega
theorem cnt_filter {l : List St} (h : ∀ s ∈ l, 0 ≤ s.qty) (k : Int) : cnt (l.filter fun s => decide (0 < s.qty)) k = cnt l k := by
  induction l with
  | nil => rfl
  | cons s l ih =>
    have h1 := h s (by simp)
    have h2 := ih fun x hx => h x (by simp [hx])
    rw [List.filter_cons]
    split
    · rw [cnt, cnt, h2]
    · rename_i h3
      have h4 : ¬ 0 < s.qty := fun e => h3 (decide_eq_true e)
      rw [cnt, h2]
      split <;> omega
theorem cnt_map {l : List St} (h : Rise l) (f : St → Int) (k : Int) : cnt (l.map fun s => (⟨s.kind, f s⟩ : St)) k = (match l.find? fun s => decide (s.kind = k) with | some s => f s | none => 0) := by
  induction l with
  | nil => rfl
  | cons s l ih =>
    obtain ⟨h1, h2⟩ := List.pairwise_cons.1 h
    rw [List.map_cons, cnt, ih h2, List.find?_cons]
    by_cases hk : s.kind = k
    · rw [if_pos hk, decide_eq_true hk]
      simp only
      have : l.find? (fun s => decide (s.kind = k)) = none := by
        rw [List.find?_eq_none]
        intro x hx
        have := h1 x hx
        simp
        omega
      rw [this]
      simp
    · rw [if_neg hk, decide_eq_false hk]
      simp
theorem cnt_find {l : List St} (h : Rise l) (k : Int) : cnt l k = (match l.find? fun s => decide (s.kind = k) with | some s => s.qty | none => 0) := by
  have := cnt_map h (fun s => s.qty) k
  rw [← this]
  congr 1
  exact (List.map_id'' (fun s => rfl) l).symm
theorem cnt_sub {a b : List St} (ha : Norm a) (hle : ∀ k, cnt b k ≤ cnt a k) (hb : ∀ k, 0 ≤ cnt b k) (k : Int) : cnt (subL a b) k = cnt a k - cnt b k := by
  have h0 : ∀ s ∈ a.map fun s => (⟨s.kind, s.qty - cnt b s.kind⟩ : St), 0 ≤ s.qty := fun s hs => by
    obtain ⟨x, hx, rfl⟩ := List.mem_map.1 hs
    have := hle x.kind
    rw [cnt_at ha.rise hx] at this
    show 0 ≤ x.qty - cnt b x.kind
    omega
  unfold subL
  rw [cnt_filter h0, cnt_map ha.rise, cnt_find ha.rise k]
  cases hf : a.find? fun s => decide (s.kind = k) with
  | none =>
    simp only
    have h1 := hle k
    rw [cnt_find ha.rise k, hf] at h1
    simp only at h1
    have := hb k
    omega
  | some s =>
    simp only
    have hk : s.kind = k := by
      have := List.find?_some hf
      exact of_decide_eq_true this
    rw [hk]
theorem norm_times {a : List St} (ha : Norm a) {n : Int} (hn : 0 ≤ n) : Norm (timesL a n) := by
  unfold timesL
  split
  · exact ⟨.nil, fun _ h => by simp at h, fun _ h => by simp at h⟩
  · refine ⟨rise_map ha.rise _, fun s hs => ?_, fun s hs => ?_⟩
    · obtain ⟨x, hx, rfl⟩ := List.mem_map.1 hs
      exact ha.kind x hx
    · obtain ⟨x, hx, rfl⟩ := List.mem_map.1 hs
      have h1 := ha.qty x hx
      show 1 ≤ n * x.qty
      have : 0 < n * x.qty := Int.mul_pos (by omega) (by omega)
      omega
theorem cnt_times (a : List St) (n : Int) (k : Int) : cnt (timesL a n) k = n * cnt a k := by
  unfold timesL
  split
  · rename_i h
    rw [h]
    simp [cnt]
  · induction a with
    | nil => simp [cnt]
    | cons s a ih =>
      rw [List.map_cons, cnt, cnt, ih]
      simp only
      split
      · rw [Int.mul_add]
      · rw [Int.mul_add]; simp
theorem tot_times (a : List St) (n : Int) : tot (timesL a n) = n * tot a := by
  unfold timesL
  split
  · rename_i h
    rw [h]
    simp [tot]
  · induction a with
    | nil => simp [tot]
    | cons s a ih => rw [List.map_cons, tot, tot, ih, Int.mul_add]
/-- What is added is taken away again. -/
theorem add_back {a b : List St} (ha : Fine a) (hb : Fine b) : subL (nl (nl a ++ nl b)) (nl b) = nl a := by
  have na := norm_nl ha
  have nb := norm_nl hb
  have hf := fine_append (fine_norm na) (fine_norm nb)
  have hx := norm_nl hf
  have qb : ∀ k, 0 ≤ cnt (nl b) k := cnt_nonneg fun s hs => by have := nb.qty s hs; omega
  have qa : ∀ k, 0 ≤ cnt (nl a) k := cnt_nonneg fun s hs => by have := na.qty s hs; omega
  have hc : ∀ k, cnt (nl (nl a ++ nl b)) k = cnt (nl a) k + cnt (nl b) k := fun k => by rw [cnt_nl, cnt_append]
  refine norm_one (norm_sub hx) na fun k => ?_
  rw [cnt_sub hx (fun k => by rw [hc]; have := qa k; omega) qb, hc]
  omega
theorem sub_self {a : List St} (ha : Norm a) : subL a a = [] := by
  have q : ∀ k, 0 ≤ cnt a k := cnt_nonneg fun s hs => by have := ha.qty s hs; omega
  refine norm_one (norm_sub ha) ⟨.nil, fun _ h => by simp at h, fun _ h => by simp at h⟩ fun k => ?_
  rw [cnt_sub ha (fun _ => Int.le_refl _) q, cnt_nil]
  omega
/-- A list n and m times is one as often as both together. -/
theorem times_both {a : List St} (ha : Norm a) {n m : Int} (hn : 0 ≤ n) (hm : 0 ≤ m) : nl (timesL a n ++ timesL a m) = timesL a (n + m) := by
  have h1 := norm_times ha hn
  have h2 := norm_times ha hm
  refine norm_one (norm_nl (fine_append (fine_norm h1) (fine_norm h2))) (norm_times ha (by omega)) fun k => ?_
  rw [cnt_nl, cnt_append, cnt_times, cnt_times, cnt_times, Int.add_mul]
end Go.Proofs.Yteaclacbdelinaa.Goods
namespace Go.Proofs.Yteaclacbdelinaa.Goods
open Go.RowKit Go.Lib

abbrev sV (t : St) : Value := .agg #[.int .i64 t.kind, .int .i64 t.qty]
def stCells (t : St) : List Value := [.int .i64 t.kind, .int .i64 t.qty]
def St.cells (t : St) : Array Value := #[.int .i64 t.kind, .int .i64 t.qty]
def scells (l : List St) : List Value := l.flatMap stCells
theorem scells_cons (t : St) (l : List St) : scells (t :: l) = stCells t ++ scells l := by simp [scells]
theorem scells_append (l m : List St) : scells (l ++ m) = scells l ++ scells m := by simp [scells]
theorem scells_length : ∀ l : List St, (scells l).length = l.length * 2
  | [] => rfl
  | p :: l => by rw [scells_cons, List.length_append, scells_length l]; simp [stCells]; omega
theorem scells_at : ∀ (l : List St) (i : Nat) (p : St), l[i]? = some p → ∀ (j : Nat) (v : Value), (stCells p)[j]? = some v → (scells l)[i * 2 + j]? = some v
  | [], i, p, h => by simp at h
  | q :: l, 0, p, h => by
    intro j v hj
    have : q = p := by simpa using h
    subst this
    have hlt : j < (stCells q).length := (List.getElem?_eq_some_iff.1 hj).1
    rw [scells_cons, List.getElem?_append_left (by simpa using hlt)]
    simpa using hj
  | q :: l, i + 1, p, h => by
    intro j v hj
    have ih := scells_at l i p (by simpa using h) j v hj
    rw [scells_cons, show (i + 1) * 2 + j = 2 + (i * 2 + j) by omega, List.getElem?_append_right (by simp [stCells])]
    simpa [stCells] using ih
theorem scells_one : ∀ (l : List St), ∀ u ∈ scells l, u.oneCell' = true
  | [], u, h => by cases h
  | p :: l, u, h => by
    rw [scells_cons] at h
    rcases List.mem_append.1 h with h | h
    · simp [stCells] at h
      rcases h with rfl | rfl <;> rfl
    · exact scells_one l u h
theorem take_st (l : List St) (n : Nat) : scells (l.take n) = (scells l).take (n * 2) := by
  induction n generalizing l with
  | zero => simp [scells]
  | succ n ih =>
    cases l with
    | nil => simp [scells]
    | cons k l => rw [List.take_succ_cons, scells_cons, scells_cons, ih, show (n + 1) * 2 = (stCells k).length + n * 2 by show _ = 2 + n * 2; omega, List.take_length_add_append]
theorem drop_st (l : List St) (n : Nat) : scells (l.drop n) = (scells l).drop (n * 2) := by
  induction n generalizing l with
  | zero => simp
  | succ n ih =>
    cases l with
    | nil => simp [scells]
    | cons k l => rw [List.drop_succ_cons, scells_cons, ih, show (n + 1) * 2 = (stCells k).length + n * 2 by show _ = 2 + n * 2; omega, List.drop_length_add_append]
/-- Timers in a row of one's own. -/
abbrev OwnS (w : World) (B : Nat) (v : Value) (l : List St) : Prop := w.ownsRow B 54 2 v l.length (scells l)
abbrev zeroStV : Value := .agg #[.int .i64 0, .int .i64 0]
theorem info_st : (Try.prog.info? 54).map (fun i => (i.zero, i.size, i.bytes)) = some (some zeroStV, 2, 16) := by kernel_rfl
theorem elem_st : Program.elem Try.prog 33 = 54 := by kernel_rfl
theorem under_st : Try.prog.underlying 33 = some (.slice (Program.elem Try.prog 33)) := by
  rw [elem_st]
  exact Try.underlying33
theorem addr_add (g o j : Nat) : (⟨g, o, none⟩ : Addr).add j = ⟨g, o + j, none⟩ := by
  unfold Addr.add
  split
  · rename_i h
    subst h
    simp
  · rfl
theorem own_same {w w' : World} {B : Nat} {e : TypeId} {size n : Nat} {v : Value} {xs : List Value} (h : w.ownsRow B e size v n xs) (hs : ∀ q, v.ownBlock = some q → w'.heap[q]? = w.heap[q]?) : w'.ownsRow B e size v n xs := by
  refine ⟨h.1, ?_⟩
  rcases h.2 with h1 | ⟨g, cap, cur, hv, h1, h2, h3⟩
  · exact .inl h1
  · exact .inr ⟨g, cap, cur, hv, h1, (hs g (by rw [hv]; rfl)).trans h2, h3⟩
theorem own_under {w w' : World} {B : Nat} {e : TypeId} {size n : Nat} {v : Value} {xs : List Value} (h : w.ownsRow B e size v n xs) (hb : Below w.heap.size w w') : w'.ownsRow B e size v n xs := own_same h (fun q hq => hb.block q (h.lt q hq).2)
theorem rowS {w : World} {B : Nat} {v : Value} {l : List St} (h : OwnS w B v l) : ∃ a c, v = .slice a l.length c ∧ l.length ≤ c ∧ c ≤ maxLen ∧ (a = none ∨ ∃ g, a = some ⟨g, 0, none⟩) ∧ ∀ j u, (scells l)[j]? = some u → ∃ g, a = some ⟨g, 0, none⟩ ∧ g < w.heap.size ∧ w.cell? ⟨g, j, none⟩ = some u := by
  rcases h.2 with ⟨hv, h0⟩ | ⟨g, cap, cur, hv, _, hg, hn, hm, _⟩
  · refine ⟨none, 0, by rw [hv, h0], by omega, by unfold maxLen; omega, .inl rfl, fun j u hj => ?_⟩
    have := (List.getElem?_eq_some_iff.1 hj).1
    rw [scells_length, h0] at this
    omega
  · refine ⟨some ⟨g, 0, none⟩, cap, hv, hn, hm, .inr ⟨g, rfl⟩, fun j u hj => ⟨g, rfl, (Array.getElem?_eq_some_iff.1 hg).1, ?_⟩⟩
    have := h.cells (g := g) (by rw [hv]; rfl) j u hj
    rw [addr_add, Nat.zero_add] at this
    exact this
theorem row_st {w : World} {B : Nat} {v : Value} {l : List St} (h : OwnS w B v l) : ∃ a c, v = .slice a l.length c ∧ l.length ≤ c ∧ ∀ (i : Nat) (p : St), l[i]? = some p → ∃ g, a = some ⟨g, 0, none⟩ ∧ g < w.heap.size ∧
    w.cell? ⟨g, i * 2, none⟩ = some (.int .i64 p.kind) ∧ w.cell? ⟨g, i * 2 + 1, none⟩ = some (.int .i64 p.qty) := by
  obtain ⟨a, c, hv, hc, _, _, hat⟩ := rowS h
  refine ⟨a, c, hv, hc, fun i p hi => ?_⟩
  obtain ⟨g, rfl, hg, c0⟩ := hat _ _ (scells_at l i p hi 0 _ rfl)
  have hh : ∀ j u, (stCells p)[j]? = some u → w.cell? ⟨g, i * 2 + j, none⟩ = some u := fun j u hj => by
    obtain ⟨g2, e, _, c1⟩ := hat _ _ (scells_at l i p hi j u hj)
    cases e
    exact c1
  exact ⟨g, rfl, hg, c0, hh 1 _ rfl⟩
theorem app_st (w : World) (B : Nat) (v : Value) (xs ys : List St) (h : OwnS w B v xs) (xa : Option Addr) (m xc : Nat) (hm : m = ys.length) (hsrc : ∀ j u, (scells ys)[j]? = some u → ∃ ad, xa = some ad ∧ w.cell? (ad.add j) = some u) (hl : xs.length + ys.length ≤ 1099511627776) (hB : B ≤ w.heap.size) :
    ∃ v' w', (Builtin.append_ #[33, 33] 33 #[v, .slice xa m xc]).run Try.prog w = .ok v' w' ∧ OwnS w' B v' (xs ++ ys) ∧ Below B w w' := by
  obtain ⟨i0, hi, hz0, hz1, hz2⟩ := info_parts info_st
  subst hm
  obtain ⟨v', w', hr, h2, h3⟩ := app_any (P := Try.prog) (t := 33) (e := 54) (i := i0) w B 33 zeroStV 2 16 Try.underlying33 hi hz0 hz1 hz2 rfl (by omega) v xs.length (scells xs) h xa ys.length xc (scells ys) (scells_length ys) hsrc (scells_one ys) (by unfold maxLen; omega) (by omega) hB
  rw [← scells_append, ← List.length_append] at h2
  exact ⟨v', w', hr, h2, (Below.refl B w).grown h3 hB (fun k hk => (h.lt k hk).1)⟩
theorem src_take_st {w : World} {B : Nat} {a : Option Addr} {c : Nat} {l : List St} (h : OwnS w B (.slice a l.length c) l) (n : Nat) :
    ∀ j u, (scells (l.take n))[j]? = some u → ∃ ad, a = some ad ∧ w.cell? (ad.add j) = some u := fun j u hj => by
  obtain ⟨a', c', e, _, _, _, hs⟩ := rowS h
  injection e with e1 _ _
  subst e1
  rw [take_st] at hj
  have hlt := (List.getElem?_eq_some_iff.1 hj).1
  rw [List.length_take] at hlt
  rw [List.getElem?_take_of_lt (by omega)] at hj
  obtain ⟨g, rfl, _, hc⟩ := hs j u hj
  exact ⟨_, rfl, by rw [addr_add, Nat.zero_add]; exact hc⟩
theorem src_drop_st {w : World} {B : Nat} {a : Option Addr} {c : Nat} {l : List St} (h : OwnS w B (.slice a l.length c) l) (n : Nat) :
    ∀ j u, (scells (l.drop n))[j]? = some u → ∃ ad, atAddr a 2 n c = some ad ∧ w.cell? (ad.add j) = some u := fun j u hj => by
  obtain ⟨a', c', e, hlc, _, _, hs⟩ := rowS h
  injection e with e1 _ e3
  subst e1; subst e3
  have hn : n < l.length := by
    have hlt := (List.getElem?_eq_some_iff.1 hj).1
    rw [scells_length, List.length_drop] at hlt
    omega
  rw [drop_st, List.getElem?_drop] at hj
  obtain ⟨g, rfl, _, hc⟩ := hs _ u hj
  refine ⟨⟨g, n * 2, none⟩, ?_, ?_⟩
  · unfold atAddr
    rw [if_neg (by omega)]
    simp [addr_add]
  · rw [addr_add]
    exact hc
/-- Stacks that lie somewhere. -/
def Sts (w : World) (a : Option Addr) (l : List St) : Prop := ∀ (i : Nat) (t : St), l[i]? = some t → ∃ g off, a = some ⟨g, off, none⟩ ∧ g < w.heap.size ∧ w.cell? ⟨g, off + i * 2, none⟩ = some (.int .i64 t.kind) ∧ w.cell? ⟨g, off + i * 2 + 1, none⟩ = some (.int .i64 t.qty)
theorem Sts.under {w w' : World} {a : Option Addr} {l : List St} (h : Sts w a l) (hb : Below w.heap.size w w') : Sts w' a l := fun i t hi => by
  obtain ⟨g, off, e, hg, k0, k1⟩ := h i t hi
  exact ⟨g, off, e, Nat.lt_of_lt_of_le hg hb.size, ((bcell hb).1 g _ hg).trans k0, ((bcell hb).1 g _ hg).trans k1⟩
theorem sts_own {w : World} {B : Nat} {v : Value} {l : List St} (h : OwnS w B v l) : ∃ a c, v = .slice a l.length c ∧ Sts w a l := by
  obtain ⟨a, c, hv, _, hat⟩ := row_st h
  refine ⟨a, c, hv, fun i t hi => ?_⟩
  obtain ⟨g, e, hg, k0, k1⟩ := hat i t hi
  exact ⟨g, 0, e, hg, by simpa using k0, by simpa using k1⟩
end Go.Proofs.Yteaclacbdelinaa.Goods
namespace Go.Proofs.Yteaclacbdelinaa.Goods

/-- The normal stacks whose types are p at most. -/
def upto (l : List St) (p : Int) : List St := (nl l).filter fun s => decide (s.kind ≤ p)
theorem norm_upto {l : List St} (h : Fine l) (p : Int) : Norm (upto l p) :=
  have hn := norm_nl h
  ⟨hn.rise.sublist List.filter_sublist, fun s hs => hn.kind s (List.mem_filter.1 hs).1, fun s hs => hn.qty s (List.mem_filter.1 hs).1⟩
theorem cnt_keep (l : List St) (p k : Int) : cnt (l.filter fun s => decide (s.kind ≤ p)) k = if k ≤ p then cnt l k else 0 := by
  induction l with
  | nil => simp [cnt]
  | cons s l ih =>
    rw [List.filter_cons]
    by_cases h : s.kind ≤ p
    · rw [decide_eq_true h, if_pos rfl, cnt, cnt, ih]
      by_cases hk : k ≤ p
      · rw [if_pos hk, if_pos hk]
      · rw [if_neg hk, if_neg hk, if_neg (by omega)]
        omega
    · rw [decide_eq_false h, if_neg (by decide), ih, cnt]
      by_cases hk : k ≤ p
      · rw [if_pos hk, if_pos hk, if_neg (by omega)]
        omega
      · rw [if_neg hk, if_neg hk]
theorem cnt_upto (l : List St) (p k : Int) : cnt (upto l p) k = if k ≤ p then cnt l k else 0 := by
  unfold upto
  rw [cnt_keep, cnt_nl]
theorem upto_low {l : List St} (h : Fine l) : upto l 0 = [] := by
  refine norm_one (norm_upto h 0) ⟨.nil, fun _ h => by simp at h, fun _ h => by simp at h⟩ fun k => ?_
  rw [cnt_upto, cnt_nil]
  split
  · exact cnt_none fun s hs => by have := (h s hs).1; omega
  · rfl
theorem mem_upto {l : List St} {p : Int} {s : St} (h : s ∈ upto l p) : s.kind ≤ p := of_decide_eq_true (List.mem_filter.1 h).2
/-- The least type above p comes next. -/
theorem upto_next {l : List St} (h : Fine l) {p k : Int} (hp : p < k) (hk : ∀ s ∈ l, p < s.kind → k ≤ s.kind) (h1 : 1 ≤ k) (h0 : 0 < cnt l k) : upto l k = upto l p ++ [⟨k, cnt l k⟩] := by
  have hu := norm_upto h p
  refine norm_one (norm_upto h k) ⟨List.pairwise_append.2 ⟨hu.rise, List.pairwise_singleton _ _, fun a ha b hb => ?_⟩, fun s hs => ?_, fun s hs => ?_⟩ fun j => ?_
  · rw [List.mem_singleton.1 hb]
    have := mem_upto ha
    show a.kind < k
    omega
  · rcases List.mem_append.1 hs with hs | hs
    · exact hu.kind s hs
    · rw [List.mem_singleton.1 hs]; exact h1
  · rcases List.mem_append.1 hs with hs | hs
    · exact hu.qty s hs
    · rw [List.mem_singleton.1 hs]; show 1 ≤ cnt l k; omega
  · rw [cnt_append, cnt_upto, cnt_upto, cnt, cnt_nil]
    simp only
    by_cases e : k = j
    · subst e
      rw [if_pos (Int.le_refl _), if_neg (by omega), if_pos rfl]
      omega
    · rw [if_neg e]
      by_cases hj : j ≤ p
      · rw [if_pos (by omega), if_pos hj]
        omega
      · rw [if_neg hj]
        by_cases hjk : j ≤ k
        · rw [if_pos hjk, cnt_none fun s hs e2 => by have := hk s hs (by omega); omega]
          omega
        · rw [if_neg hjk]
          rfl
theorem upto_none {l : List St} (h : Fine l) {p k : Int} (hp : p < k) (hk : ∀ s ∈ l, p < s.kind → k ≤ s.kind) (h0 : cnt l k = 0) : upto l k = upto l p := by
  refine norm_one (norm_upto h k) (norm_upto h p) fun j => ?_
  rw [cnt_upto, cnt_upto]
  by_cases hj : j ≤ p
  · rw [if_pos (by omega), if_pos hj]
  · rw [if_neg hj]
    split
    · by_cases e : j = k
      · rw [e, h0]
      · exact cnt_none fun s hs e2 => by have := hk s hs (by omega); omega
    · rfl
theorem upto_all {l : List St} (h : Fine l) {p : Int} (hp : ∀ s ∈ l, s.kind ≤ p) : upto l p = nl l := by
  refine norm_one (norm_upto h p) (norm_nl h) fun j => ?_
  rw [cnt_upto, cnt_nl]
  split
  · rfl
  · exact (cnt_none fun s hs => by have := hp s hs; omega).symm
/-- The least type above p among the first i; 0: none. -/
structure LeastK (l : List St) (p : Int) (i : Nat) (k : Int) : Prop where
  is : k = 0 ∨ (p < k ∧ ∃ s ∈ l.take i, s.kind = k)
  all : ∀ s ∈ l.take i, p < s.kind → k ≠ 0 ∧ k ≤ s.kind
theorem least_zero (l : List St) (p : Int) : LeastK l p 0 0 := ⟨.inl rfl, fun s hs => by simp at hs⟩
theorem mem_take_succ {l : List St} {i : Nat} {t : St} (h : l[i]? = some t) {s : St} : s ∈ l.take (i + 1) ↔ s ∈ l.take i ∨ s = t := by
  rw [List.take_add_one, h]
  simp
theorem least_new {l : List St} {p : Int} {i : Nat} {k : Int} {t : St} (h : LeastK l p i k) (hp : 0 ≤ p) (ht : l[i]? = some t) (h1 : p < t.kind) (h2 : k = 0 ∨ t.kind < k) : LeastK l p (i + 1) t.kind := by
  refine ⟨.inr ⟨h1, t, (mem_take_succ ht).2 (.inr rfl), rfl⟩, fun s hs hps => ?_⟩
  rcases (mem_take_succ ht).1 hs with hs | rfl
  · have := h.all s hs hps
    exact ⟨by omega, by omega⟩
  · exact ⟨by omega, Int.le_refl _⟩
theorem least_old {l : List St} {p : Int} {i : Nat} {k : Int} {t : St} (h : LeastK l p i k) (ht : l[i]? = some t) (h2 : ¬ p < t.kind ∨ (k ≠ 0 ∧ k ≤ t.kind)) : LeastK l p (i + 1) k := by
  refine ⟨?_, fun s hs hps => ?_⟩
  · rcases h.is with h3 | ⟨h3, s, hs, e⟩
    · exact .inl h3
    · exact .inr ⟨h3, s, (mem_take_succ ht).2 (.inl hs), e⟩
  · rcases (mem_take_succ ht).1 hs with hs | rfl
    · exact h.all s hs hps
    · rcases h2 with h2 | h2
      · exact absurd hps h2
      · exact h2
theorem cnt_take_succ {l : List St} {i : Nat} {t : St} (h : l[i]? = some t) (k : Int) : cnt (l.take (i + 1)) k = cnt (l.take i) k + (if t.kind = k then t.qty else 0) := by
  rw [List.take_add_one, h, cnt_append]
  simp [cnt]
theorem cnt_take_le {l : List St} (h : Fine l) (i : Nat) (k : Int) : cnt (l.take i) k ≤ cnt l k := by
  have h1 := cnt_append (l.take i) (l.drop i) k
  rw [List.take_append_drop] at h1
  have h2 := cnt_nonneg (fun s hs => (h s (List.mem_of_mem_drop hs)).2) k (l := l.drop i)
  omega
/-- Fewer are left above the next type. -/
theorem left_less {l : List St} {p k : Int} (hp : p < k) {s : St} (hs : s ∈ l) (hk : s.kind = k) : (l.filter fun s => decide (k < s.kind)).length < (l.filter fun s => decide (p < s.kind)).length := by
  induction l with
  | nil => simp at hs
  | cons x l ih =>
    have hle : ∀ m : List St, (m.filter fun s => decide (k < s.kind)).length ≤ (m.filter fun s => decide (p < s.kind)).length := fun m => by
      induction m with
      | nil => simp
      | cons y m ihm =>
        rw [List.filter_cons, List.filter_cons]
        by_cases h1 : k < y.kind
        · rw [decide_eq_true h1, decide_eq_true (by omega : p < y.kind)]
          simpa using ihm
        · rw [decide_eq_false h1, if_neg (by decide)]
          split
          · simp; omega
          · exact ihm
    rw [List.filter_cons, List.filter_cons]
    rcases List.mem_cons.1 hs with rfl | hs
    · rw [decide_eq_false (by omega : ¬ k < s.kind), decide_eq_true (by omega : p < s.kind), if_neg (by decide), if_pos rfl]
      have := hle l
      simp
      omega
    · have h1 := ih hs
      by_cases h2 : k < x.kind
      · rw [decide_eq_true h2, decide_eq_true (by omega : p < x.kind)]
        simpa using h1
      · rw [decide_eq_false h2, if_neg (by decide)]
        split
        · simp; omega
        · exact h1
end Go.Proofs.Yteaclacbdelinaa.Goods
namespace Go.Proofs.Yteaclacbdelinaa.Goods
open Go.RowKit Go.Lib

theorem below_cat {B : Nat} {a b c : World} (h : Below B a b) (k : Below B b c) : Below B a c := ⟨k.os.trans h.os, k.tape.trans h.tape, k.output.trans h.output, Nat.le_trans h.size k.size, fun q hq => (k.block q hq).trans (h.block q hq)⟩
theorem nth_at {l : List St} {i : Nat} (h : i < l.length) : ∃ t, l[i]? = some t := ⟨l[i], List.getElem?_eq_getElem h⟩
set_option maxRecDepth 100000 in
set_option maxHeartbeats 8000000 in
theorem dnorm (a : Option Addr) (n c : Nat) (l : List St) (w : World) (hl : l.length = n) (hs : Sts w a l) (hn : n ≤ 4096) :
    Calls Try.prog 72 #[.slice a n c] w fun e w' => Below w.heap.size w w' ∧ ((¬ Fine l ∧ e = .returned (.tuple #[.slice none 0 0, .int .i64 1])) ∨ (Fine l ∧ Over l ∧ e = .returned (.tuple #[.slice none 0 0, .int .i64 5])) ∨
      (Fine l ∧ ¬ Over l ∧ ∃ v, e = .returned (.tuple #[v, .int .i64 0]) ∧ OwnS w' w.heap.size v (nl l))) := by
  have hn1 : (n : Int) ≤ 1048576 := by omega
  have HL := Lib.hid hl
  have HT : Hid (∀ W i, Below w.heap.size w W → i < n → ∃ g off t, a = some ⟨g, off, none⟩ ∧ Hid (l[i]? = some t) ∧ W.cell? ⟨g, off + i * 2, none⟩ = some (.int .i64 t.kind) ∧ W.cell? ⟨g, off + i * 2 + 1, none⟩ = some (.int .i64 t.qty)) := Lib.hid (fun W i hW hi => by
    obtain ⟨t, ht⟩ := nth_at (by omega : i < l.length)
    obtain ⟨g, off, e, _, k0, k1⟩ := (hs.under hW) i t ht
    exact ⟨g, off, t, e, Lib.hid ht, k0, k1⟩)
  have HA : Hid (∀ W s p k, Below w.heap.size w W → OwnS W w.heap.size s (upto l p) → upto l k = upto l p ++ [⟨k, cnt l k⟩] → ∀ m, cnt l k = m → ∃ v' w', (Builtin.append_ #[33, 33] 33 #[s, .slice (some ⟨W.heap.size, 0, none⟩) 1 1]).run Try.prog (W.alloc (.cells #[.int .i64 k, .int .i64 m] 54)) = .ok v' w' ∧
      Hid (OwnS w' w.heap.size v' (upto l k) ∧ Below w.heap.size w w')) := Lib.hid (fun W s p k hW ho hu m hm => by
    subst hm
    have hlen : (upto l p).length ≤ l.length := by
      have h1 : (upto l p).length ≤ (nl l).length := List.length_filter_le _ _
      have h2 : ∀ l : List St, (nl l).length ≤ l.length := fun l => by
        induction l with
        | nil => simp [nl]
        | cons x l ih =>
          have h3 : ∀ m : List St, (addS x m).length ≤ m.length + 1 := fun m => by
            induction m with
            | nil => unfold addS; split <;> simp
            | cons y m ihm =>
              unfold addS
              split
              · split <;> simp
              · split
                · simp
                · simp; omega
          have := h3 (nl l)
          simp [nl]
          omega
      have := h2 l
      omega
    have hal := hW.alloc hW.size (.cells #[.int .i64 k, .int .i64 (cnt l k)] 54)
    obtain ⟨v', w', hr, h2, h3⟩ := app_st (W.alloc (.cells #[.int .i64 k, .int .i64 (cnt l k)] 54)) w.heap.size s (upto l p) [⟨k, cnt l k⟩] (ho.alloc _) (some ⟨W.heap.size, 0, none⟩) 1 1 rfl (fun j u hj => ⟨_, rfl, by
      have hblk := heap_alloc_new W (.cells #[.int .i64 k, .int .i64 (cnt l k)] 54)
      rw [addr_add, Nat.zero_add]
      refine cell_block (j := j) hblk ?_
      rw [← Array.getElem?_toList]
      exact hj⟩) (by simp; omega) hal.size
    rw [← hu] at h2
    exact ⟨v', w', hr, Lib.hid ⟨h2, below_cat hal h3⟩⟩)
  have H0 : Hid (Fine l → OwnS w w.heap.size (.slice none 0 0) (upto l 0)) := Lib.hid (fun h => by rw [upto_low h]; exact World.ownsRow_nil _ _ _ _)
  clear hl hs hn
  go_enter Try.func72, Try.ntmps72
  go_wp2_with fail
  go_loopw [4] (fun t wr => ∃ i : Nat, t = .int .i64 i ∧ i ≤ n ∧ w = wr ∧ Hid (∀ s ∈ l.take i, 1 ≤ s.kind ∧ 0 ≤ s.qty)) (fun t _ => n - (RowKit.intOf t).toNat)
  case atStart => exact ⟨0, rfl, by omega, rfl, Lib.hid (fun s hs => by simp at hs)⟩
  case round =>
    obtain ⟨i, rfl, hi, rfl, HI⟩ := hrel
    have hi0 : (0 : Int) ≤ (i : Int) := by omega
    by_cases hlt : i < n
    · have hlt2 : (i : Int) < (n : Int) := by omega
      obtain ⟨g, off, t, rfl, ht, k0, k1⟩ := HT.out w i (Below.refl _ _) hlt
      by_cases c1 : t.kind < 1
      · have HE : Hid (¬ Fine l) := Lib.hid (fun h => by have := (h t (List.mem_of_getElem? ht.out)).1; omega)
        go_wp2_with fail
        go_ret2
        exact ⟨Below.refl _ _, .inl ⟨HE.out, rfl⟩⟩
      by_cases c2 : t.qty < 0
      · have HE : Hid (¬ Fine l) := Lib.hid (fun h => by have := (h t (List.mem_of_getElem? ht.out)).2; omega)
        go_wp2_with fail
        go_ret2
        exact ⟨Below.refl _ _, .inl ⟨HE.out, rfl⟩⟩
      have HI2 : Hid (∀ s ∈ l.take (i + 1), 1 ≤ s.kind ∧ 0 ≤ s.qty) := Lib.hid (fun s hs => by
        rcases (mem_take_succ ht.out).1 hs with hs | rfl
        · exact HI.out s hs
        · exact ⟨by omega, by omega⟩)
      go_wp2_with fail
      go_roundw
      case rel => exact ⟨i + 1, by go_num, by omega, by first | rfl | trivial, HI2⟩
      case measure => simp [RowKit.intOf]; omega
    · obtain rfl : i = n := by omega
      have HF : Hid (Fine l) := Lib.hid (fun s hs => HI.out s (by rw [List.take_of_length_le (by rw [HL.out]; exact Nat.le_refl _)]; exact hs))
      have HO := Lib.hid (H0.out HF.out)
      have HC0 : Hid (∀ k, k ≤ 0 → cnt l k ≤ mq) := Lib.hid (fun k hk => by
        rw [cnt_none fun s hs => by have := (HF.out s hs).1; omega]
        unfold mq
        omega)
      clear H0 HI hi0
      go_wp2_with fail
      go_loopw [5, 6] (fun s t wr => ∃ p : Int, t = .int .i64 p ∧ 0 ≤ p ∧ Hid (OwnS wr w.heap.size s (upto l p)) ∧ Hid (Below w.heap.size w wr) ∧ Hid (∀ k, k ≤ p → cnt l k ≤ mq)) (fun _ t _ => (l.filter fun x => decide (RowKit.intOf t < x.kind)).length)
      case atStart => exact ⟨0, rfl, Int.le_refl _, HO, Lib.hid (Below.refl _ _), HC0⟩
      case round =>
        clear HO HC0
        obtain ⟨p, rfl, hp, HO, HB, HC⟩ := hrel
        go_wp2_with fail
        go_loopw [7, 8] (fun s t wx => ∃ (k : Int) (j : Nat), s = .int .i64 k ∧ t = .int .i64 j ∧ j ≤ i ∧ wr = wx ∧ Hid (LeastK l p j k)) (fun _ t _ => i - (RowKit.intOf t).toNat)
        case atStart => exact ⟨0, 0, rfl, rfl, by omega, rfl, Lib.hid (least_zero l p)⟩
        case round =>
          obtain ⟨k, j, rfl, rfl, hj, rfl, HK⟩ := hrel
          have hj0 : (0 : Int) ≤ (j : Int) := by omega
          by_cases hlt : j < i
          · have hlt2 : (j : Int) < (i : Int) := by omega
            obtain ⟨g, off, t, rfl, ht, k0, k1⟩ := HT.out wr j HB.out hlt
            by_cases c1 : p < t.kind
            · by_cases c2 : k = 0
              · have HK2 := Lib.hid (least_new HK.out hp ht.out c1 (.inl c2))
                subst c2
                go_wp2_with fail
                go_roundw
                case rel => exact ⟨t.kind, j + 1, rfl, by go_num, by omega, by first | rfl | trivial, HK2⟩
                case measure => simp [RowKit.intOf]; omega
              · have c2' : (k == 0) = false := by simpa using c2
                by_cases c3 : t.kind < k
                · have HK2 := Lib.hid (least_new HK.out hp ht.out c1 (.inr c3))
                  clear c2
                  go_wp2_with fail
                  go_roundw
                  case rel => exact ⟨t.kind, j + 1, rfl, by go_num, by omega, by first | rfl | trivial, HK2⟩
                  case measure => simp [RowKit.intOf]; omega
                · have HK2 := Lib.hid (least_old HK.out ht.out (.inr ⟨c2, by omega⟩))
                  clear c2
                  go_wp2_with fail
                  go_roundw
                  case rel => exact ⟨k, j + 1, rfl, by go_num, by omega, by first | rfl | trivial, HK2⟩
                  case measure => simp [RowKit.intOf]; omega
            · have HK2 := Lib.hid (least_old HK.out ht.out (.inl c1))
              go_wp2_with fail
              go_roundw
              case rel => exact ⟨k, j + 1, rfl, by go_num, by omega, by first | rfl | trivial, HK2⟩
              case measure => simp [RowKit.intOf]; omega
          · obtain rfl : j = i := by omega
            have htk : l.take j = l := List.take_of_length_le (by rw [HL.out]; exact Nat.le_refl _)
            by_cases c0 : k = 0
            · subst c0
              have HE : Hid (¬ Over l ∧ upto l p = nl l) := Lib.hid (by
                have hall : ∀ s ∈ l, s.kind ≤ p := fun s hs => by
                  by_cases h : p < s.kind
                  · exact absurd rfl (HK.out.all s (by rw [htk]; exact hs) h).1
                  · omega
                refine ⟨fun ⟨k, hk⟩ => ?_, upto_all HF.out hall⟩
                by_cases h : k ≤ p
                · have := HC.out k h; omega
                · rw [cnt_none fun s hs => by have := hall s hs; omega] at hk
                  unfold mq at hk
                  omega)
              clear htk
              go_wp2_with fail
              go_ret2
              exact ⟨HB.out, .inr (.inr ⟨HF.out, HE.out.1, _, rfl, by rw [← HE.out.2]; exact HO.out⟩)⟩
            · have c0' : (k == 0) = false := by simpa using c0
              have HKK : Hid (p < k ∧ (∃ s ∈ l, s.kind = k) ∧ ∀ s ∈ l, p < s.kind → k ≤ s.kind) := Lib.hid (by
                rcases HK.out.is with h | ⟨h1, h2⟩
                · exact absurd h c0
                · rw [htk] at h2
                  exact ⟨h1, h2, fun s hs h3 => (HK.out.all s (by rw [htk]; exact hs) h3).2⟩)
              clear htk c0 HK
              go_wp2_with fail
              go_loopw [9, 10] (fun s t wx => ∃ (m : Int) (x : Nat), s = .int .i64 m ∧ t = .int .i64 x ∧ x ≤ j ∧ wr = wx ∧ 0 ≤ m ∧ m ≤ 2 ^ 50 ∧ Hid (cnt (l.take x) k = m)) (fun _ t _ => j - (RowKit.intOf t).toNat)
              case atStart => exact ⟨0, 0, rfl, rfl, by omega, rfl, Int.le_refl _, by omega, Lib.hid rfl⟩
              case round =>
                obtain ⟨m, x, rfl, rfl, hx, rfl, hm0, hm1, HM⟩ := hrel
                have hx0 : (0 : Int) ≤ (x : Int) := by omega
                by_cases hlt : x < j
                · have hlt2 : (x : Int) < (j : Int) := by omega
                  obtain ⟨g, off, t, rfl, ht, k0, k1⟩ := HT.out wr x HB.out hlt
                  by_cases c1 : t.kind = k
                  · have c1' : (t.kind == k) = true := by simpa using c1
                    have HS : Hid (cnt (l.take (x + 1)) k = m + t.qty) := Lib.hid (by rw [cnt_take_succ ht.out, HM.out, if_pos c1])
                    have HTQ : Hid (0 ≤ t.qty) := Lib.hid (HF.out t (List.mem_of_getElem? ht.out)).2
                    clear c1
                    by_cases c2 : 1125899906842624 - m < t.qty
                    · have HE : Hid (Over l) := Lib.hid ⟨k, by
                        have h1 := cnt_take_le HF.out (x + 1) k
                        have h2 := HS.out
                        unfold mq
                        omega⟩
                      go_wp2_with fail
                      go_ret2
                      exact ⟨HB.out, .inr (.inl ⟨HF.out, HE.out, rfl⟩)⟩
                    · have hq0 := HTQ.out
                      have hmq : m + t.qty ≤ 2 ^ 50 := by omega
                      have hmq0 : 0 ≤ m + t.qty := by omega
                      go_wp2_with fail
                      go_roundw
                      case rel => exact ⟨m + t.qty, x + 1, by go_num, by go_num, by omega, by first | rfl | trivial, hmq0, hmq, HS⟩
                      case measure => simp [RowKit.intOf]; omega
                  · have c1' : (t.kind == k) = false := by simpa using c1
                    have HS : Hid (cnt (l.take (x + 1)) k = m) := Lib.hid (by rw [cnt_take_succ ht.out, HM.out, if_neg c1]; omega)
                    clear c1
                    go_wp2_with fail
                    go_roundw
                    case rel => exact ⟨m, x + 1, rfl, by go_num, by omega, by first | rfl | trivial, hm0, hm1, HS⟩
                    case measure => simp [RowKit.intOf]; omega
                · obtain rfl : x = j := by omega
                  have HMM : Hid (cnt l k = m) := Lib.hid (by
                    have := HM.out
                    rw [List.take_of_length_le (by rw [HL.out]; exact Nat.le_refl _)] at this
                    exact this)
                  have HC2 : Hid (∀ z, z ≤ k → cnt l z ≤ mq) := Lib.hid (fun z hz => by
                    by_cases h : z ≤ p
                    · exact HC.out z h
                    · by_cases e : z = k
                      · rw [e, HMM.out]; unfold mq; omega
                      · rw [cnt_none fun s hs e2 => by have := HKK.out.2.2 s hs (by omega); omega]
                        unfold mq
                        omega)
                  have HME : Hid ((l.filter fun x => decide (k < x.kind)).length < (l.filter fun x => decide (p < x.kind)).length) := Lib.hid (by
                    obtain ⟨s, hs, e⟩ := HKK.out.2.1
                    exact left_less HKK.out.1 hs e)
                  have hk0 : 0 ≤ k := by have := HKK.out.1; omega
                  by_cases c2 : 0 < m
                  · have HU : Hid (upto l k = upto l p ++ [⟨k, cnt l k⟩]) := Lib.hid (upto_next HF.out HKK.out.1 HKK.out.2.2 (by have := HKK.out.1; omega) (by rw [HMM.out]; exact c2))
                    obtain ⟨v', w2, hr, HO2⟩ := HA.out wr _ p k HB.out HO.out HU.out m HMM.out
                    have HR := Lib.hid hr
                    have HO3 := Lib.hid HO2.out.1; have HB3 := Lib.hid HO2.out.2
                    clear hr
                    go_wp2_with (at_builtin; refine walk_run (v' := v') (w' := w2) rfl _ _ _ _ rfl _ _ rfl rfl ?_ ?_; exact HR.out)
                    go_roundw
                    case rel => exact ⟨k, rfl, hk0, HO3, HB3, HC2⟩
                    case measure => simp only [RowKit.intOf]; exact HME.out
                  · have HU : Hid (OwnS wr w.heap.size _ (upto l k)) := Lib.hid (by
                      rw [upto_none HF.out HKK.out.1 HKK.out.2.2 (by rw [HMM.out]; omega)]
                      exact HO.out)
                    go_wp2_with fail
                    go_roundw
                    case rel => exact ⟨k, rfl, hk0, HU, HB, HC2⟩
                    case measure => simp only [RowKit.intOf]; exact HME.out
end Go.Proofs.Yteaclacbdelinaa.Goods
namespace Go.Proofs.Yteaclacbdelinaa.Goods
open Go.RowKit Go.Lib

open Classical in
/-- The error that Norm tells. -/
noncomputable def errN (l : List St) : Int := if Fine l then (if Over l then 5 else 0) else 1
open Classical in
noncomputable def valN (l : List St) : List St := if errN l = 0 then nl l else []
theorem errN_bad {l : List St} (h : ¬ Fine l) : errN l = 1 := by unfold errN; rw [if_neg h]
theorem errN_over {l : List St} (h : Fine l) (h2 : Over l) : errN l = 5 := by unfold errN; rw [if_pos h, if_pos h2]
theorem errN_ok {l : List St} (h : Fine l) (h2 : ¬ Over l) : errN l = 0 := by unfold errN; rw [if_pos h, if_neg h2]
theorem valN_none {l : List St} (h : errN l ≠ 0) : valN l = [] := by unfold valN; rw [if_neg h]
theorem valN_ok {l : List St} (h : errN l = 0) : valN l = nl l := by unfold valN; rw [if_pos h]
theorem errN_zero {l : List St} (h : errN l = 0) : Fine l ∧ ¬ Over l := by
  unfold errN at h
  split at h
  · rename_i h1
    split at h
    · omega
    · rename_i h2
      exact ⟨h1, h2⟩
  · omega
theorem len_addS (s : St) : ∀ m : List St, (addS s m).length ≤ m.length + 1
  | [] => by unfold addS; split <;> simp
  | y :: m => by
    have ihm := len_addS s m
    unfold addS
    split
    · split <;> simp
    · split
      · simp
      · simp; omega
theorem len_nl : ∀ l : List St, (nl l).length ≤ l.length
  | [] => by simp [nl]
  | x :: l => by
    have h1 := len_addS x (nl l)
    have h2 := len_nl l
    simp [nl]
    omega
theorem len_valN (l : List St) : (valN l).length ≤ l.length := by
  unfold valN
  split
  · exact len_nl l
  · simp
theorem norm_valN (l : List St) : Norm (valN l) := by
  unfold valN
  split
  · rename_i h
    exact norm_nl (errN_zero h).1
  · exact ⟨.nil, fun _ h => by simp at h, fun _ h => by simp at h⟩
theorem valN_le (l : List St) : ∀ s ∈ valN l, s.qty ≤ mq := by
  unfold valN
  split
  · rename_i h
    obtain ⟨h1, h2⟩ := errN_zero h
    intro s hs
    have h3 := cnt_at (norm_nl h1).rise hs
    rw [cnt_nl] at h3
    have h4 : ¬ mq < cnt l s.kind := fun e => h2 ⟨s.kind, e⟩
    omega
  · intro s hs
    simp at hs
theorem tot_le : ∀ {l : List St}, (∀ s ∈ l, 0 ≤ s.qty ∧ s.qty ≤ mq) → 0 ≤ tot l ∧ tot l ≤ l.length * mq
  | [], _ => by simp [tot]
  | s :: l, h => by
    have h1 := h s (by simp)
    have h2 := tot_le fun x hx => h x (List.mem_cons_of_mem _ hx)
    rw [tot, List.length_cons]
    unfold mq at *
    constructor
    · omega
    · push_cast
      omega
theorem tot_take_succ {l : List St} {i : Nat} {t : St} (h : l[i]? = some t) : tot (l.take (i + 1)) = tot (l.take i) + t.qty := by
  rw [List.take_add_one, h, tot_append]
  simp [tot]
/-- The stacks of a row, wherever it lies. -/
theorem sts_at {w : World} {a : Option Addr} {l : List St} (h : Sts w a l) : Hid (∀ W i, Below w.heap.size w W → i < l.length → ∃ g off t, a = some ⟨g, off, none⟩ ∧ Hid (l[i]? = some t) ∧ W.cell? ⟨g, off + i * 2, none⟩ = some (.int .i64 t.kind) ∧ W.cell? ⟨g, off + i * 2 + 1, none⟩ = some (.int .i64 t.qty)) := Lib.hid (fun W i hW hi => by
  obtain ⟨t, ht⟩ := nth_at hi
  obtain ⟨g, off, e, _, k0, k1⟩ := (h.under hW) i t ht
  exact ⟨g, off, t, e, Lib.hid ht, k0, k1⟩)
theorem dnorm2 (a : Option Addr) (n c : Nat) (l : List St) (w : World) (hl : l.length = n) (hs : Sts w a l) (hn : n ≤ 4096) :
    Calls Try.prog 72 #[.slice a n c] w fun e w' => ∃ a' m c', e = .returned (.tuple #[.slice a' m c', .int .i64 (errN l)]) ∧ (errN l ≠ 0 → a' = none ∧ m = 0 ∧ c' = 0) ∧ Hid ((valN l).length = m ∧ Sts w' a' (valN l) ∧ OwnS w' w.heap.size (.slice a' m c') (valN l) ∧ Below w.heap.size w w') := by
  refine (dnorm a n c l w hl hs hn).mono ?_
  rintro e w' ⟨hb, h | h | h⟩
  · obtain ⟨h1, rfl⟩ := h
    have he := errN_bad h1
    have hv := valN_none (by rw [he]; decide : errN l ≠ 0)
    rw [he, hv]
    exact ⟨none, 0, 0, rfl, fun _ => ⟨rfl, rfl, rfl⟩, Lib.hid ⟨rfl, fun i t hi => by simp at hi, World.ownsRow_nil _ _ _ _, hb⟩⟩
  · obtain ⟨h1, h2, rfl⟩ := h
    have he := errN_over h1 h2
    have hv := valN_none (by rw [he]; decide : errN l ≠ 0)
    rw [he, hv]
    exact ⟨none, 0, 0, rfl, fun _ => ⟨rfl, rfl, rfl⟩, Lib.hid ⟨rfl, fun i t hi => by simp at hi, World.ownsRow_nil _ _ _ _, hb⟩⟩
  · obtain ⟨h1, h2, v, rfl, ho⟩ := h
    have he := errN_ok h1 h2
    have hv := valN_ok he
    rw [he, hv]
    obtain ⟨a', c', rfl, hst⟩ := sts_own ho
    exact ⟨a', _, c', rfl, fun h => absurd rfl h, Lib.hid ⟨rfl, hst, ho, hb⟩⟩
end Go.Proofs.Yteaclacbdelinaa.Goods
namespace Go.Proofs.Yteaclacbdelinaa.Goods
open Go.RowKit Go.Lib

theorem St.ext' {t u : St} (h1 : t.kind = u.kind) (h2 : t.qty = u.qty) : t = u := by cases t; cases u; simp at h1 h2; rw [h1, h2]
theorem take_ne {l k : List St} {i : Nat} {t u : St} (h1 : l[i]? = some t) (h2 : k[i]? = some u) (h : t ≠ u) : l ≠ k := fun e => h (by rw [e, h2] at h1; injection h1 with h1; exact h1.symm)
theorem take_both {l k : List St} {i : Nat} {t : St} (h1 : l[i]? = some t) (h2 : k[i]? = some t) (h : l.take i = k.take i) : l.take (i + 1) = k.take (i + 1) := by
  rw [List.take_add_one, List.take_add_one, h1, h2, h]
open Classical in
set_option maxRecDepth 100000 in
set_option maxHeartbeats 2000000 in
theorem dsame (a : Option Addr) (n c : Nat) (l : List St) (b : Option Addr) (m d : Nat) (k : List St) (w : World) (hl : l.length = n) (hs : Sts w a l) (hn : n ≤ 1048576) (hk : k.length = m) (ht : Sts w b k) (hm : m ≤ 1048576) :
    Calls Try.prog 38 #[.slice a n c, .slice b m d] w fun e w' => e = .returned (.bool (decide (l = k))) ∧ Below w.heap.size w w' := by
  by_cases hnm : n = m
  · subst hnm
    have HL := Lib.hid hl; have HK := Lib.hid hk
    have H1 := sts_at hs; have H2 := sts_at ht
    have hn1 : (n : Int) ≤ 1048576 := by omega
    have hee : ((n : Int) == (n : Int)) = true := by simp
    clear hl hs hn hk ht hm
    go_enter Try.func38, Try.ntmps38
    go_wp2_with fail
    go_loopw [5] (fun s wr => ∃ i : Nat, s = .int .i64 i ∧ i ≤ n ∧ Hid (Below w.heap.size w wr) ∧ Hid (l.take i = k.take i)) (fun s _ => n - (RowKit.intOf s).toNat)
    case atStart => exact ⟨0, rfl, by omega, Lib.hid (Below.refl _ _), Lib.hid rfl⟩
    case round =>
      obtain ⟨i, rfl, hi, HB, HI⟩ := hrel
      have hi0 : (0 : Int) ≤ (i : Int) := by omega
      by_cases hlt : i < n
      · have hlt2 : (i : Int) < (n : Int) := by omega
        obtain ⟨g, off, t, rfl, hti, q0, q1⟩ := H1.out _ i HB.out (by rw [HL.out]; exact hlt)
        obtain ⟨g', off', u, rfl, hui, r0, r1⟩ := H2.out _ i HB.out (by rw [HK.out]; exact hlt)
        by_cases c1 : t.kind = u.kind
        · by_cases c2 : t.qty = u.qty
          · obtain rfl := St.ext' c1 c2
            have HI2 : Hid (l.take (i + 1) = k.take (i + 1)) := Lib.hid (take_both hti.out hui.out HI.out)
            clear c1 c2
            go_wp2_with fail
            go_quiet (fail)
            go_wp2_with fail
            go_roundw
            case rel => exact ⟨i + 1, by go_num, by omega, Lib.hid (below_drewN HB.out _), HI2⟩
            case measure => simp [RowKit.intOf]; omega
          · have HF : Hid (l ≠ k) := Lib.hid (take_ne hti.out hui.out fun e => c2 (by rw [e]))
            have c1b : (t.kind == u.kind) = true := by simpa using c1
            have c2b : (t.qty == u.qty) = false := by simpa using c2
            go_wp2_with fail
            go_quiet (fail)
            go_wp2_with fail
            go_ret
            exact ⟨by rw [decide_eq_false HF.out]; rfl, below_drewN HB.out _⟩
        · have HF : Hid (l ≠ k) := Lib.hid (take_ne hti.out hui.out fun e => c1 (by rw [e]))
          have c1b : (t.kind == u.kind) = false := by simpa using c1
          go_wp2_with fail
          go_quiet (fail)
          go_wp2_with fail
          go_ret
          exact ⟨by rw [decide_eq_false HF.out]; rfl, below_drewN HB.out _⟩
      · obtain rfl : i = n := by omega
        have HF : Hid (l = k) := Lib.hid (by
          have := HI.out
          rw [List.take_of_length_le (by rw [HL.out]; exact Nat.le_refl _), List.take_of_length_le (by rw [HK.out]; exact Nat.le_refl _)] at this
          exact this)
        go_wp2_with fail
        go_ret
        exact ⟨by rw [decide_eq_true HF.out]; rfl, HB.out⟩
  · have hf : decide (l = k) = false := decide_eq_false fun e => hnm (by rw [← hl, ← hk, e])
    rw [hf]
    have hne : ((n : Int) == (m : Int)) = false := by simp; omega
    have hn2 : ¬ (n : Int) = (m : Int) := by omega
    clear hl hs hn hk ht hm hf
    go_enter Try.func38, Try.ntmps38
    go_wp2_with fail
    go_ret
    exact ⟨rfl, Below.refl _ _⟩
end Go.Proofs.Yteaclacbdelinaa.Goods
namespace Go.Proofs.Yteaclacbdelinaa.Goods
open Go.RowKit Go.Lib

/-- These may be the stacks of a list. -/
def Listed (l : List St) (types : Int) : Prop := l.length ≤ 8 ∧ errN l = 0 ∧ nl l = l ∧ ∀ s ∈ l, s.kind ≤ types
open Classical in
noncomputable def chk (l : List St) (types : Int) : Int := if Listed l types then 0 else 1
theorem chk_no {l : List St} {types : Int} (h : ¬ Listed l types) : chk l types = 1 := by unfold chk; rw [if_neg h]
theorem chk_yes {l : List St} {types : Int} (h : Listed l types) : chk l types = 0 := by unfold chk; rw [if_pos h]
theorem rise_last {l : List St} (h : l.Pairwise (fun s t => s.kind < t.kind)) {n : Nat} (hn : l.length = n) {t : St} (ht : l[n - 1]? = some t) : ∀ s ∈ l, s.kind ≤ t.kind := by
  intro s hs
  obtain ⟨i, hi, rfl⟩ := List.mem_iff_getElem.1 hs
  by_cases e : i = n - 1
  · subst e
    rw [List.getElem?_eq_getElem hi] at ht
    injection ht with ht
    rw [ht]
    omega
  · have hj : n - 1 < l.length := by omega
    have := List.pairwise_iff_getElem.1 h i (n - 1) hi hj (by omega)
    rw [List.getElem?_eq_getElem hj] at ht
    injection ht with ht
    rw [ht] at this
    omega
open Classical in
set_option maxRecDepth 100000 in
set_option maxHeartbeats 2000000 in
theorem dcheck (a : Option Addr) (n c : Nat) (l : List St) (ty : Int) (w : World) (hl : l.length = n) (hs : Sts w a l) (hn : n ≤ 4096) :
    Calls Try.prog 54 #[.slice a n c, .int .i64 ty] w fun e w' => e = .returned (.int .i64 (chk l ty)) ∧ Below w.heap.size w w' := by
  by_cases h8 : n ≤ 8
  · have HN := Lib.hid (dnorm2 a n c l w hl hs hn)
    have hi0 : (n : Int) ≤ 8 := by omega
    have hd8 : decide (8 < (n : Int)) = false := by simp; omega
    by_cases he : errN l = 0
    · have HS : Hid (∀ W a' m c', Below w.heap.size w W → (valN l).length = m → Sts W a' (valN l) → Calls Try.prog 38 #[.slice a' m c', .slice a n c] W fun e w' => e = .returned (.bool (decide (nl l = l))) ∧ Hid (Below w.heap.size w w')) := Lib.hid (fun W a' m c' hW hm hst => by
        have h1 := len_valN l
        have := dsame a' m c' (valN l) a n c l W hm hst (by omega) hl (hs.under hW) (by omega)
        rw [valN_ok he] at this
        exact this.mono fun _ _ ⟨e, hb⟩ => ⟨e, Lib.hid (below_then hW hb)⟩)
      rw [he] at HN
      by_cases hsm : nl l = l
      · have hq : (decide (nl l = l)) = true := decide_eq_true hsm
        rw [hq] at HS
        by_cases h0 : n = 0
        · have hc : chk l ty = 0 := chk_yes ⟨by omega, he, hsm, fun s h => by have : l = [] := List.length_eq_zero_iff.1 (by omega); rw [this] at h; simp at h⟩
          rw [hc]
          subst h0
          clear hl hs hn h8 he hsm hq hc
          go_enter Try.func54, Try.ntmps54
          go_wp2_with fail
          refine HN.out.mono ?_
          rintro e w1 ⟨a', m, c', rfl, _, HV⟩
          go_wp2_with fail
          refine (HS.out w1 a' m c' HV.out.2.2.2 HV.out.1 HV.out.2.1).mono ?_
          rintro e w2 ⟨rfl, HB⟩
          go_wp2_with fail
          go_ret
          exact ⟨rfl, HB.out⟩
        · have HT := sts_at hs
          have HL := Lib.hid hl
          have hr : l.Pairwise (fun s t => s.kind < t.kind) := by have := (norm_valN l).rise; rw [valN_ok he, hsm] at this; exact this
          have HC : Hid (∀ t, l[n - 1]? = some t → chk l ty = if ty < t.kind then 1 else 0) := Lib.hid (fun t ht => by
            by_cases h : ty < t.kind
            · rw [if_pos h]
              exact chk_no fun ⟨_, _, _, h4⟩ => by have := h4 t (List.mem_of_getElem? ht); omega
            · rw [if_neg h]
              exact chk_yes ⟨by omega, he, hsm, fun s h5 => by have := rise_last hr hl ht s h5; omega⟩)
          have hn0 : 0 < n := by omega
          have hn1 : decide (0 < (n : Int)) = true := by simp; omega
          obtain ⟨n1, hn2⟩ : ∃ n1, n = n1 + 1 := ⟨n - 1, by omega⟩
          subst hn2
          have hd9 : decide (8 < (n1 : Int) + 1) = false := by simp; omega
          have hw1 : IntKind.i64.wrap (((n1 + 1 : Nat) : Int) - 1) = (n1 : Int) := by rw [IntWalk.i64_in _ (by omega)]; omega
          clear hl hs hn h8 he hsm hq hr h0
          go_enter Try.func54, Try.ntmps54
          go_wp2_with fail
          refine HN.out.mono ?_
          rintro e w1 ⟨a', m, c', rfl, _, HV⟩
          go_wp2_with fail
          refine (HS.out w1 a' m c' HV.out.2.2.2 HV.out.1 HV.out.2.1).mono ?_
          rintro e w2 ⟨rfl, HB⟩
          obtain ⟨g, off, t, rfl, hti, q0, q1⟩ := HT.out w2 n1 HB.out (by rw [HL.out]; omega)
          have hc := HC.out t hti.out
          by_cases hlt : ty < t.kind
          · have HK : Hid (chk l ty = 1) := Lib.hid (by rw [hc, if_pos hlt])
            clear hc
            go_wp2_with fail
            go_ret
            exact ⟨by rw [HK.out]; rfl, HB.out⟩
          · have HK : Hid (chk l ty = 0) := Lib.hid (by rw [hc, if_neg hlt])
            clear hc
            go_wp2_with fail
            go_ret
            exact ⟨by rw [HK.out]; rfl, HB.out⟩
      · have hq : (decide (nl l = l)) = false := decide_eq_false hsm
        rw [hq] at HS
        have hc : chk l ty = 1 := chk_no fun ⟨_, _, h3, _⟩ => hsm h3
        rw [hc]
        clear hl hs hn h8 he hsm hq hc
        go_enter Try.func54, Try.ntmps54
        go_wp2_with fail
        refine HN.out.mono ?_
        rintro e w1 ⟨a', m, c', rfl, _, HV⟩
        go_wp2_with fail
        refine (HS.out w1 a' m c' HV.out.2.2.2 HV.out.1 HV.out.2.1).mono ?_
        rintro e w2 ⟨rfl, HB⟩
        go_wp2_with fail
        go_ret
        exact ⟨rfl, HB.out⟩
    · have hc : chk l ty = 1 := chk_no fun ⟨_, h2, _, _⟩ => he h2
      rw [hc]
      obtain ⟨er, her⟩ : ∃ er, errN l = er := ⟨_, rfl⟩
      rw [her] at HN he
      have hne : (er == 0) = false := by simpa using he
      have hne2 : ¬ er = 0 := he
      clear hl hs hn h8 her he hc
      go_enter Try.func54, Try.ntmps54
      go_wp2_with fail
      refine HN.out.mono ?_
      rintro e w1 ⟨a', m, c', rfl, _, HV⟩
      go_wp2_with fail
      go_ret
      exact ⟨rfl, HV.out.2.2.2⟩
  · have hc : chk l ty = 1 := chk_no fun ⟨h1, _⟩ => h8 (by omega)
    rw [hc]
    have hd8 : decide (8 < (n : Int)) = true := by simp; omega
    have hd9 : (8 : Int) < (n : Int) := by omega
    clear hl hs hn h8 hc
    go_enter Try.func54, Try.ntmps54
    go_wp2_with fail
    go_ret
    exact ⟨rfl, Below.refl _ _⟩
end Go.Proofs.Yteaclacbdelinaa.Goods
namespace Go.Proofs.Yteaclacbdelinaa.Goods
open Go.RowKit Go.Lib

set_option maxRecDepth 100000 in
set_option maxHeartbeats 2000000 in
theorem dcount (a : Option Addr) (n c : Nat) (l : List St) (k : Int) (w : World) (hl : l.length = n) (hs : Sts w a l) (hn : n ≤ 4096) :
    Calls Try.prog 55 #[.slice a n c, .int .i64 k] w fun e w' => e = .returned (.int .i64 (cnt (valN l) k)) ∧ Below w.heap.size w w' := by
  have HN := Lib.hid (dnorm2 a n c l w hl hs hn)
  have hlen := len_valN l
  have HR := Lib.hid (norm_valN l).rise
  have hl4 : (valN l).length ≤ 4096 := by omega
  clear hl hs hn hlen
  go_enter Try.func55, Try.ntmps55
  go_wp2_with fail
  refine HN.out.mono ?_
  rintro e w1 ⟨a', m, c', rfl, _, HV⟩
  have HT := sts_at HV.out.2.1
  have HM := Lib.hid HV.out.1
  have hm1 : (m : Int) ≤ 1048576 := by have := HM.out; omega
  go_wp2_with fail
  go_loopw [7] (fun t wr => ∃ i : Nat, t = .int .i64 i ∧ i ≤ m ∧ w1 = wr ∧ Hid (∀ s ∈ (valN l).take i, s.kind ≠ k)) (fun t _ => m - (RowKit.intOf t).toNat)
  case atStart => exact ⟨0, rfl, by omega, rfl, Lib.hid (fun s hs => by simp at hs)⟩
  case round =>
    obtain ⟨i, rfl, hi, rfl, HZ⟩ := hrel
    have hi0 : (0 : Int) ≤ (i : Int) := by omega
    by_cases hlt : i < m
    · have hlt2 : (i : Int) < (m : Int) := by omega
      obtain ⟨g, off, t, rfl, ht, k0, k1⟩ := HT.out w1 i (Below.refl _ _) (by rw [HM.out]; exact hlt)
      by_cases hk : t.kind = k
      · have HE : Hid (cnt (valN l) k = t.qty) := Lib.hid (by rw [← hk]; exact cnt_at HR.out (List.mem_of_getElem? ht.out))
        have hk2 : (t.kind == k) = true := by simpa using hk
        clear hk
        go_wp2_with fail
        go_ret
        exact ⟨ret_i64 HE.out.symm, HV.out.2.2.2⟩
      · have HZ2 : Hid (∀ s ∈ (valN l).take (i + 1), s.kind ≠ k) := Lib.hid (fun s hs => by
          rcases (mem_take_succ ht.out).1 hs with hs | rfl
          · exact HZ.out s hs
          · exact hk)
        have hk2 : (t.kind == k) = false := by simpa using hk
        clear hk
        go_wp2_with fail
        go_roundw
        case rel => exact ⟨i + 1, by go_num, by omega, by first | rfl | trivial, HZ2⟩
        case measure => simp [RowKit.intOf]; omega
    · obtain rfl : i = m := by omega
      have HE : Hid (cnt (valN l) k = 0) := Lib.hid (by
        have := HZ.out
        rw [List.take_of_length_le (by rw [HM.out]; exact Nat.le_refl _)] at this
        exact cnt_none this)
      go_wp2_with fail
      go_ret
      exact ⟨ret_i64 HE.out.symm, HV.out.2.2.2⟩
end Go.Proofs.Yteaclacbdelinaa.Goods
