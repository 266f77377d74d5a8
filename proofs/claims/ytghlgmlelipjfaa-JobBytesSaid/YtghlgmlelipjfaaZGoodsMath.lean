/- Stacks: how many there are of a type; the normal ones; together, without, so often; said without a program. Slices cut and appended, of whatever elements: their runs as equations, for a walk and for a drawn region. -/
import Derived.WalkKit
import Derived.Test.YtghlgmlelipjfaaZLaw
import Derived.Laws.Append
import Derived.Laws.AppendOwn
import Derived.Deep.AppendSrc
import Derived.Deep.Upon
import Derived.Deep.RegionLaw
namespace Go.Proofs.Ytghlgmlelipjfaa.Goods

structure St where
  kind : Int
  qty : Int
def zeroSt : St := ⟨0, 0⟩
def mq : Int := 1125899906842624
/-- How many there are of a type. -/
def cnt : List St → Int → Int
  | [], _ => 0
  | s :: l, k => (if s.kind = k then s.qty else 0) + cnt l k
/-- How many things there are in all. -/
def tot : List St → Int
  | [] => 0
  | s :: l => s.qty + tot l
def Rise (l : List St) : Prop := l.Pairwise fun a b => a.kind < b.kind
structure Norm (l : List St) : Prop where
  rise : Rise l
  kind : ∀ s ∈ l, 1 ≤ s.kind
  qty : ∀ s ∈ l, 1 ≤ s.qty
theorem cnt_nil (k : Int) : cnt [] k = 0 := rfl
theorem cnt_append (a b : List St) (k : Int) : cnt (a ++ b) k = cnt a k + cnt b k := by
  induction a with
  | nil => simp [cnt]
  | cons s a ih => rw [List.cons_append, cnt, cnt, ih]; omega
theorem tot_append (a b : List St) : tot (a ++ b) = tot a + tot b := by
  induction a with
  | nil => simp [tot]
  | cons s a ih => rw [List.cons_append, tot, tot, ih]; omega
theorem cnt_none {l : List St} {k : Int} (h : ∀ s ∈ l, s.kind ≠ k) : cnt l k = 0 := by
  induction l with
  | nil => rfl
  | cons s l ih =>
    rw [cnt, if_neg (h s (by simp)), ih fun x hx => h x (by simp [hx])]
    rfl
theorem cnt_nonneg {l : List St} (h : ∀ s ∈ l, 0 ≤ s.qty) (k : Int) : 0 ≤ cnt l k := by
  induction l with
  | nil => exact Int.le_refl _
  | cons s l ih =>
    have h1 := h s (by simp)
    have h2 := ih fun x hx => h x (by simp [hx])
    rw [cnt]
    split <;> omega
theorem cnt_mem {l : List St} (h : ∀ s ∈ l, 0 ≤ s.qty) {s : St} (hs : s ∈ l) : s.qty ≤ cnt l s.kind := by
  induction l with
  | nil => simp at hs
  | cons x l ih =>
    have h1 := h x (by simp)
    have h2 := cnt_nonneg (fun y hy => h y (by simp [hy])) s.kind (l := l)
    rw [cnt]
    rcases List.mem_cons.1 hs with rfl | hs
    · rw [if_pos rfl]
      omega
    · have := ih (fun y hy => h y (by simp [hy])) hs
      split <;> omega
theorem tot_nonneg {l : List St} (h : ∀ s ∈ l, 0 ≤ s.qty) : 0 ≤ tot l := by
  induction l with
  | nil => exact Int.le_refl _
  | cons s l ih =>
    have h1 := h s (by simp)
    have h2 := ih fun x hx => h x (by simp [hx])
    rw [tot]
    omega
/-- In a row that rises there is of each type what its stack has. -/
theorem cnt_at {l : List St} (h : Rise l) {s : St} (hs : s ∈ l) : cnt l s.kind = s.qty := by
  induction l with
  | nil => simp at hs
  | cons x l ih =>
    obtain ⟨h1, h2⟩ := List.pairwise_cons.1 h
    rw [cnt]
    rcases List.mem_cons.1 hs with rfl | hs
    · rw [if_pos rfl, cnt_none fun y hy => by have := h1 y hy; omega]
      omega
    · have := h1 s hs
      rw [if_neg (by omega), ih h2 hs]
      omega
/-- There is one normal row with as many of each type. -/
theorem norm_one : ∀ {a b : List St}, Norm a → Norm b → (∀ k, cnt a k = cnt b k) → a = b
  | [], [], _, _, _ => rfl
  | [], y :: b, _, hb, h => by
    have h1 := h y.kind
    have h2 := cnt_at hb.rise (s := y) (by simp)
    have h3 := hb.qty y (by simp)
    rw [h2, cnt_nil] at h1
    omega
  | x :: a, [], ha, _, h => by
    have h1 := h x.kind
    have h2 := cnt_at ha.rise (s := x) (by simp)
    have h3 := ha.qty x (by simp)
    rw [h2, cnt_nil] at h1
    omega
  | x :: a, y :: b, ha, hb, h => by
    obtain ⟨a1, a2⟩ := List.pairwise_cons.1 ha.rise
    obtain ⟨b1, b2⟩ := List.pairwise_cons.1 hb.rise
    have hx := h x.kind
    have hy := h y.kind
    rw [cnt_at ha.rise (s := x) (by simp)] at hx
    rw [cnt_at hb.rise (s := y) (by simp)] at hy
    have qx := ha.qty x (by simp)
    have qy := hb.qty y (by simp)
    have hk : x.kind = y.kind := by
      rcases Int.lt_trichotomy x.kind y.kind with h1 | h1 | h1
      · rw [cnt_none fun s hs => by
          rcases List.mem_cons.1 hs with rfl | hs
          · omega
          · have := b1 s hs; omega] at hx
        omega
      · exact h1
      · rw [cnt_none fun s hs => by
          rcases List.mem_cons.1 hs with rfl | hs
          · omega
          · have := a1 s hs; omega] at hy
        omega
    have hq : x.qty = y.qty := by
      have h2 := cnt_at hb.rise (s := y) (by simp)
      rw [hk, h2] at hx
      exact hx
    have e : x = y := by
      cases x; cases y
      simp only at hk hq
      rw [hk, hq]
    subst e
    rw [norm_one ⟨a2, fun s hs => ha.kind s (by simp [hs]), fun s hs => ha.qty s (by simp [hs])⟩ ⟨b2, fun s hs => hb.kind s (by simp [hs]), fun s hs => hb.qty s (by simp [hs])⟩ fun k => by
      have := h k
      rw [cnt, cnt] at this
      omega]
/-- A stack put into a row that rises. -/
def addS (s : St) : List St → List St
  | [] => if s.qty = 0 then [] else [s]
  | x :: l => if s.kind < x.kind then (if s.qty = 0 then x :: l else s :: x :: l) else if s.kind = x.kind then ⟨x.kind, x.qty + s.qty⟩ :: l else x :: addS s l
/-- The normal stacks of a list that has them. -/
def nl : List St → List St
  | [] => []
  | s :: l => addS s (nl l)
theorem cnt_addS (s : St) (k : Int) : ∀ l : List St, cnt (addS s l) k = (if s.kind = k then s.qty else 0) + cnt l k
  | [] => by
    unfold addS
    split
    · rename_i h
      rw [h, cnt]
      split <;> rfl
    · rfl
  | x :: l => by
    have ih := cnt_addS s k l
    unfold addS
    split
    · split
      · rename_i h
        rw [h]
        split <;> omega
      · rw [cnt]
    · split
      · rename_i h
        rw [cnt, cnt, h]
        simp only
        split <;> omega
      · rw [cnt, cnt, ih]
        omega
theorem mem_addS {s y : St} : ∀ {l : List St}, y ∈ addS s l → y.kind = s.kind ∨ ∃ x ∈ l, x.kind = y.kind
  | [], h => by
    unfold addS at h
    split at h
    · simp at h
    · simp at h
      left; rw [h]
  | x :: l, h => by
    unfold addS at h
    split at h
    · split at h
      · exact .inr ⟨y, h, rfl⟩
      · rcases List.mem_cons.1 h with rfl | h
        · exact .inl rfl
        · exact .inr ⟨y, h, rfl⟩
    · split at h
      · rcases List.mem_cons.1 h with rfl | h
        · exact .inr ⟨x, by simp, rfl⟩
        · exact .inr ⟨y, by simp [h], rfl⟩
      · rcases List.mem_cons.1 h with rfl | h
        · exact .inr ⟨y, by simp, rfl⟩
        · rcases mem_addS h with h1 | ⟨z, hz, h1⟩
          · exact .inl h1
          · exact .inr ⟨z, by simp [hz], h1⟩
theorem norm_addS {s : St} (hk : 1 ≤ s.kind) (hq : 0 ≤ s.qty) : ∀ {l : List St}, Norm l → Norm (addS s l)
  | [], _ => by
    unfold addS
    split
    · exact ⟨.nil, fun _ h => by simp at h, fun _ h => by simp at h⟩
    · refine ⟨List.pairwise_singleton _ _, fun x hx => ?_, fun x hx => ?_⟩
      · rw [List.mem_singleton.1 hx]; exact hk
      · rw [List.mem_singleton.1 hx]; omega
  | x :: l, h => by
    obtain ⟨h1, h2⟩ := List.pairwise_cons.1 h.rise
    have ht : Norm l := ⟨h2, fun y hy => h.kind y (by simp [hy]), fun y hy => h.qty y (by simp [hy])⟩
    have ih := norm_addS hk hq ht
    unfold addS
    split
    · rename_i hlt
      split
      · exact h
      · refine ⟨List.pairwise_cons.2 ⟨fun y hy => ?_, h.rise⟩, fun y hy => ?_, fun y hy => ?_⟩
        · rcases List.mem_cons.1 hy with rfl | hy
          · exact hlt
          · have := h1 y hy; omega
        · rcases List.mem_cons.1 hy with rfl | hy
          · exact hk
          · exact h.kind y hy
        · rcases List.mem_cons.1 hy with rfl | hy
          · omega
          · exact h.qty y hy
    · split
      · have := h.qty x (by simp)
        refine ⟨List.pairwise_cons.2 ⟨h1, h2⟩, fun y hy => ?_, fun y hy => ?_⟩
        · rcases List.mem_cons.1 hy with rfl | hy
          · exact h.kind x (by simp)
          · exact h.kind y (by simp [hy])
        · rcases List.mem_cons.1 hy with rfl | hy
          · show 1 ≤ x.qty + s.qty; omega
          · exact h.qty y (by simp [hy])
      · refine ⟨List.pairwise_cons.2 ⟨fun y hy => ?_, ih.rise⟩, fun y hy => ?_, fun y hy => ?_⟩
        · rcases mem_addS hy with h3 | ⟨z, hz, h3⟩
          · omega
          · have := h1 z hz; omega
        · rcases List.mem_cons.1 hy with rfl | hy
          · exact h.kind _ (by simp)
          · exact ih.kind y hy
        · rcases List.mem_cons.1 hy with rfl | hy
          · exact h.qty _ (by simp)
          · exact ih.qty y hy
theorem cnt_nl (k : Int) : ∀ l : List St, cnt (nl l) k = cnt l k
  | [] => rfl
  | s :: l => by
    rw [nl, cnt_addS, cnt_nl k l]
    rfl
/-- A list whose stacks may be. -/
def Fine (l : List St) : Prop := ∀ s ∈ l, 1 ≤ s.kind ∧ 0 ≤ s.qty
def Over (l : List St) : Prop := ∃ k, mq < cnt l k
theorem norm_nl : ∀ {l : List St}, Fine l → Norm (nl l)
  | [], _ => ⟨.nil, fun _ h => by simp [nl] at h, fun _ h => by simp [nl] at h⟩
  | s :: l, h => norm_addS (h s (by simp)).1 (h s (by simp)).2 (norm_nl fun x hx => h x (by simp [hx]))
theorem fine_norm {l : List St} (h : Norm l) : Fine l := fun s hs => ⟨h.kind s hs, by have := h.qty s hs; omega⟩
theorem nl_norm {l : List St} (h : Norm l) : nl l = l := norm_one (norm_nl (fine_norm h)) h fun k => cnt_nl k l
theorem fine_append {a b : List St} (ha : Fine a) (hb : Fine b) : Fine (a ++ b) := fun s hs => (List.mem_append.1 hs).elim (ha s) (hb s)
/-- Two lists with as many of each type have the same normal stacks. -/
theorem nl_same {a b : List St} (ha : Fine a) (hb : Fine b) (h : ∀ k, cnt a k = cnt b k) : nl a = nl b :=
  norm_one (norm_nl ha) (norm_nl hb) fun k => by rw [cnt_nl, cnt_nl, h]
theorem over_same {a b : List St} (h : ∀ k, cnt a k = cnt b k) : Over a ↔ Over b := by
  unfold Over
  constructor
  · rintro ⟨k, hk⟩
    exact ⟨k, by rw [← h]; exact hk⟩
  · rintro ⟨k, hk⟩
    exact ⟨k, by rw [h]; exact hk⟩
/-- What is taken away. -/
def subL (a b : List St) : List St := (a.map fun s => (⟨s.kind, s.qty - cnt b s.kind⟩ : St)).filter fun s => decide (0 < s.qty)
/-- n times as many. -/
def timesL (a : List St) (n : Int) : List St := if n = 0 then [] else a.map fun s => (⟨s.kind, n * s.qty⟩ : St)
theorem rise_map {a : List St} (h : Rise a) (f : St → Int) : Rise (a.map fun s => (⟨s.kind, f s⟩ : St)) := by
  unfold Rise
  rw [List.pairwise_map]
  exact h
theorem norm_sub {a b : List St} (ha : Norm a) : Norm (subL a b) := by
  refine ⟨(rise_map ha.rise _).sublist List.filter_sublist, fun s hs => ?_, fun s hs => ?_⟩
  · obtain ⟨h1, _⟩ := List.mem_filter.1 hs
    obtain ⟨x, hx, rfl⟩ := List.mem_map.1 h1
    exact ha.kind x hx
  · obtain ⟨_, h2⟩ := List.mem_filter.1 hs
    have := of_decide_eq_true h2
    omega
theorem cnt_filter {l : List St} (h : ∀ s ∈ l, 0 ≤ s.qty) (k : Int) : cnt (l.filter fun s => decide (0 < s.qty)) k = cnt l k := by
  induction l with
  | nil => rfl
  | cons s l ih =>
    have h1 := h s (by simp)
    have h2 := ih fun x hx => h x (by simp [hx])
    rw [List.filter_cons]
    split
    · rw [cnt, cnt, h2]
    · rename_i h3
      have h4 : ¬ 0 < s.qty := fun e => h3 (decide_eq_true e)
      rw [cnt, h2]
      split <;> omega
theorem cnt_map {l : List St} (h : Rise l) (f : St → Int) (k : Int) : cnt (l.map fun s => (⟨s.kind, f s⟩ : St)) k = (match l.find? fun s => decide (s.kind = k) with | some s => f s | none => 0) := by
  induction l with
  | nil => rfl
  | cons s l ih =>
    obtain ⟨h1, h2⟩ := List.pairwise_cons.1 h
    rw [List.map_cons, cnt, ih h2, List.find?_cons]
    by_cases hk : s.kind = k
    · rw [if_pos hk, decide_eq_true hk]
      simp only
      have : l.find? (fun s => decide (s.kind = k)) = none := by
        rw [List.find?_eq_none]
        intro x hx
        have := h1 x hx
        simp
        omega
      rw [this]
      simp
    · rw [if_neg hk, decide_eq_false hk]
      simp
theorem cnt_find {l : List St} (h : Rise l) (k : Int) : cnt l k = (match l.find? fun s => decide (s.kind = k) with | some s => s.qty | none => 0) := by
  have := cnt_map h (fun s => s.qty) k
  rw [← this]
  congr 1
  exact (List.map_id'' (fun s => rfl) l).symm
theorem cnt_sub {a b : List St} (ha : Norm a) (hle : ∀ k, cnt b k ≤ cnt a k) (hb : ∀ k, 0 ≤ cnt b k) (k : Int) : cnt (subL a b) k = cnt a k - cnt b k := by
  have h0 : ∀ s ∈ a.map fun s => (⟨s.kind, s.qty - cnt b s.kind⟩ : St), 0 ≤ s.qty := fun s hs => by
    obtain ⟨x, hx, rfl⟩ := List.mem_map.1 hs
    have := hle x.kind
    rw [cnt_at ha.rise hx] at this
    show 0 ≤ x.qty - cnt b x.kind
    omega
  unfold subL
  rw [cnt_filter h0, cnt_map ha.rise, cnt_find ha.rise k]
  cases hf : a.find? fun s => decide (s.kind = k) with
  | none =>
    simp only
    have h1 := hle k
    rw [cnt_find ha.rise k, hf] at h1
    simp only at h1
    have := hb k
    omega
  | some s =>
    simp only
    have hk : s.kind = k := by
      have := List.find?_some hf
      exact of_decide_eq_true this
    rw [hk]
theorem norm_times {a : List St} (ha : Norm a) {n : Int} (hn : 0 ≤ n) : Norm (timesL a n) := by
  unfold timesL
  split
  · exact ⟨.nil, fun _ h => by simp at h, fun _ h => by simp at h⟩
  · refine ⟨rise_map ha.rise _, fun s hs => ?_, fun s hs => ?_⟩
    · obtain ⟨x, hx, rfl⟩ := List.mem_map.1 hs
      exact ha.kind x hx
    · obtain ⟨x, hx, rfl⟩ := List.mem_map.1 hs
      have h1 := ha.qty x hx
      show 1 ≤ n * x.qty
      have : 0 < n * x.qty := Int.mul_pos (by omega) (by omega)
      omega
theorem cnt_times (a : List St) (n : Int) (k : Int) : cnt (timesL a n) k = n * cnt a k := by
  unfold timesL
  split
  · rename_i h
    rw [h]
    simp [cnt]
  · induction a with
    | nil => simp [cnt]
    | cons s a ih =>
      rw [List.map_cons, cnt, cnt, ih]
      simp only
      split
      · rw [Int.mul_add]
      · rw [Int.mul_add]; simp
theorem tot_times (a : List St) (n : Int) : tot (timesL a n) = n * tot a := by
  unfold timesL
  split
  · rename_i h
    rw [h]
    simp [tot]
  · induction a with
    | nil => simp [tot]
    | cons s a ih => rw [List.map_cons, tot, tot, ih, Int.mul_add]
/-- What is added is taken away again. -/
theorem add_back {a b : List St} (ha : Fine a) (hb : Fine b) : subL (nl (nl a ++ nl b)) (nl b) = nl a := by
  have na := norm_nl ha
  have nb := norm_nl hb
  have hf := fine_append (fine_norm na) (fine_norm nb)
  have hx := norm_nl hf
  have qb : ∀ k, 0 ≤ cnt (nl b) k := cnt_nonneg fun s hs => by have := nb.qty s hs; omega
  have qa : ∀ k, 0 ≤ cnt (nl a) k := cnt_nonneg fun s hs => by have := na.qty s hs; omega
  have hc : ∀ k, cnt (nl (nl a ++ nl b)) k = cnt (nl a) k + cnt (nl b) k := fun k => by rw [cnt_nl, cnt_append]
  refine norm_one (norm_sub hx) na fun k => ?_
  rw [cnt_sub hx (fun k => by rw [hc]; have := qa k; omega) qb, hc]
  omega
theorem sub_self {a : List St} (ha : Norm a) : subL a a = [] := by
  have q : ∀ k, 0 ≤ cnt a k := cnt_nonneg fun s hs => by have := ha.qty s hs; omega
  refine norm_one (norm_sub ha) ⟨.nil, fun _ h => by simp at h, fun _ h => by simp at h⟩ fun k => ?_
  rw [cnt_sub ha (fun _ => Int.le_refl _) q, cnt_nil]
  omega
/-- A list n and m times is one as often as both together. -/
theorem times_both {a : List St} (ha : Norm a) {n m : Int} (hn : 0 ≤ n) (hm : 0 ≤ m) : nl (timesL a n ++ timesL a m) = timesL a (n + m) := by
  have h1 := norm_times ha hn
  have h2 := norm_times ha hm
  refine norm_one (norm_nl (fine_append (fine_norm h1) (fine_norm h2))) (norm_times ha (by omega)) fun k => ?_
  rw [cnt_nl, cnt_append, cnt_times, cnt_times, cnt_times, Int.add_mul]
end Go.Proofs.Ytghlgmlelipjfaa.Goods
namespace Go.Proofs.Ytghlgmlelipjfaa
open Go.RowKit Go.Lib

section
variable {P : Program} {ops : Array Oper} {rest : List Oper} {o : Oper} {a : Act} {w : World} {Q : Exit → Act → World → Prop}
/-- An append whose run is known, in a region that draws its order: go_region_law (refine step_run (by rfl) _ _ _ _ (by rfl) _ _ (by rfl) (by rfl) HR.out ?_) -/
theorem step_run {K : Act → World → Prop} {E : Prop} (hgd : o.guard = none) (s x : Operand) (t tx : TypeId)
    (ho : o.op = .call { callee := .builtin .append, args := #[s, x], argTypes := #[t, tx] }) (v u : Value) (hs : a.eval s = v) (hx : a.eval x = u) {v' : Value} {w' : World} (hr : (Builtin.append_ #[t, tx] o.type #[v, u]).run P w = .ok v' w')
    (h : K (a.put o.dst v') w') : if Region.wanted o (yielded ops a.tmps) = true then Oper.wp P o a w K Q else E := by
  have hw : Region.wanted o (yielded ops a.tmps) = true := by simp [Region.wanted, hgd]
  rw [if_pos hw]
  unfold Oper.wp execOp
  simp only [ho, resolve, invoke, builtin, Sem.run_bind, Sem.run_pure, Result.andThen_ok, List.map_toArray, List.map_cons, List.map_nil, hs, hx, hr]
  exact h
/-- .. in a walk: go_wp2_with (at_builtin; refine walk_run rfl _ _ _ _ rfl _ _ rfl rfl HR.out ?_) -/
theorem walk_run (hgd : o.guard = none) (s x : Operand) (t tx : TypeId)
    (ho : o.op = .call { callee := .builtin .append, args := #[s, x], argTypes := #[t, tx] }) (v u : Value) (hs : a.eval s = v) (hx : a.eval x = u) {v' : Value} {w' : World} (hr : (Builtin.append_ #[t, tx] o.type #[v, u]).run P w = .ok v' w')
    (h : wpList P ops Q rest (a.put o.dst v') w') : wpList P ops Q (o :: rest) a w := by
  refine wpList_plain hgd fun K hK => ?_
  unfold Oper.wp execOp
  simp only [ho, resolve, invoke, builtin, Sem.run_bind, Sem.run_pure, Result.andThen_ok, List.map_toArray, List.map_cons, List.map_nil, hs, hx, hr]
  exact hK _ _ h
end
section
variable {P : Program} {t e : TypeId} {i : TypeInfo}
/-- Where the elements of a slice lie, from the k-th on. -/
def atAddr (a : Option Addr) (size k c : Nat) : Option Addr := if c = k then a else a.map (·.add (k * size))
/-- x[:k] -/
theorem run_take (W : World) (he : P.elem t = e) (ht : P.underlying t = some (.slice (P.elem t))) (hi : P.info? e = some i) (a : Option Addr) (n c k : Nat) (ha : a = none ∨ ∃ g, a = some ⟨g, 0, none⟩) (hk : k ≤ c) :
    (Instr.slice t (.slice a n c) none (some (.int .i64 (k : Int))) none).run P W = .ok (.slice a k c) W := by
  rw [run_slice_h (P := P) W t a n c ht .i64 (k : Int) (by omega) (by omega), he]
  rcases ha with rfl | ⟨g, rfl⟩
  · simp [sizeOf, typeInfo, hi, sliced, Result.andThen]
  · simp [sizeOf, typeInfo, hi, sliced, Result.andThen, Addr.add]
/-- x[k:] -/
theorem run_rest (W : World) (he : P.elem t = e) (ht : P.underlying t = some (.slice (P.elem t))) (hi : P.info? e = some i) {size : Nat} (hs : i.size = size) (a : Option Addr) (n c k : Nat) (hk : k ≤ n) :
    (Instr.slice t (.slice a n c) (some (.int .i64 (k : Int))) none none).run P W = .ok (.slice (atAddr a size k c) (n - k) (c - k)) W := by
  rw [run_slice_l (P := P) W t a n c ht .i64 (k : Int) (by omega) (by omega), he]
  simp [sizeOf, typeInfo, hi, hs, sliced, atAddr, Result.andThen]
/-- append(v, x...): v a row of one's own; m elements lie where x says. -/
theorem app_any (w : World) (base : Nat) (ty : TypeId) (z : Value) (size bytes : Nat) (ht : P.underlying t = some (.slice e)) (hi : P.info? e = some i) (hz : i.zero = some z) (hsize : i.size = size) (hby : i.bytes = bytes) (hzs : z.cells.size = size) (hsz : 0 < size)
    (v : Value) (n : Nat) (xs : List Value) (hown : w.ownsRow base e size v n xs) (xa : Option Addr) (m xc : Nat) (news : List Value) (hl : news.length = m * size) (hnews : ∀ j u, news[j]? = some u → ∃ ad, xa = some ad ∧ w.cell? (ad.add j) = some u) (h1 : ∀ u ∈ news, u.oneCell' = true)
    (h63 : n + m ≤ maxLen) (hbytes : (n + m) * bytes ≤ 140737488355328) (hbase : base ≤ w.heap.size) :
    ∃ v' w', (Builtin.append_ #[t, t] ty #[v, .slice xa m xc]).run P w = .ok v' w' ∧ w'.ownsRow base e size v' (n + m) (xs ++ news) ∧ w.grownBy w' v.ownBlock := by
  cases xa with
  | some ad =>
    obtain ⟨v', w', hr, h2, h3, _⟩ := run_append_own (P := P) w base t ty e i z size bytes ht hi hz hsize hby hzs hsz v n xs hown ad m xc news hl (fun j u hj => by
      obtain ⟨ad', e1, h⟩ := hnews j u hj
      rw [Option.some.inj e1]
      exact h) h1 h63 hbytes hbase
    exact ⟨v', w', hr, h2, h3⟩
  | none =>
    have hn0 : news = [] := by
      cases news with
      | nil => rfl
      | cons u r =>
        obtain ⟨ad, e1, _⟩ := hnews 0 u rfl
        cases e1
    subst hn0
    have hm : m = 0 := by
      rcases Nat.eq_zero_or_pos m with h | h
      · exact h
      · have h2 : 0 < m * size := Nat.mul_pos h hsz
        simp at hl
        omega
    subst hm
    have hsl : ∃ va vc, v = .slice va n vc ∧ n ≤ vc := by
      rcases hown.2 with ⟨hv, h0⟩ | ⟨g, cap, cur, hv, _, _, hc, _⟩
      · exact ⟨none, 0, by rw [hv, h0], by omega⟩
      · exact ⟨_, _, hv, hc⟩
    obtain ⟨va, vc, rfl, hvc⟩ := hsl
    refine ⟨_, w, run_append_nothing w t t ty e i ht hi va n vc hvc _ ⟨.inl ⟨_, ht⟩, fun w' => by simp [Builtin.lenOf], ?_, ?_, by simp, by simp⟩, by simpa using hown, rfl, rfl, rfl, Nat.le_refl _, fun _ _ _ => rfl⟩
    · simp [Builtin.firstCells]
    · simp [Builtin.firstCells]
end
end Go.Proofs.Ytghlgmlelipjfaa
