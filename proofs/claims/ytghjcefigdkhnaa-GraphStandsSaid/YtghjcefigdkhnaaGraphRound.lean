/- There is an order, just if needs lead from no node to itself; said without a program. -/
import Derived.Test.YtghjcefigdkhnaaGraphReach
import Derived.Test.YtghjcefigdkhnaaGraphD
namespace Go.Proofs.Ytghjcefigdkhnaa.Graph

/-- All nodes stand there. -/
theorem stands_all {n : Int} {l : List Nd} {o : List Int} (h : Stands n l o) (hl : o.length = n.toNat) {x : Int} (h1 : 1 ≤ x) (h2 : x ≤ n) : x ∈ o := by
  refine Classical.byContradiction fun hx => ?_
  have := nodup_len (n := n.toNat) (f := x :: o) (List.nodup_cons.2 ⟨hx, h.nodup⟩) (fun y hy => by
    rcases List.mem_cons.1 hy with rfl | hy
    · omega
    · have := h.node y hy
      omega)
  simp at this
  omega
/-- What needs lead to stands ahead. -/
theorem lead_ahead {n : Int} {l : List Nd} {o : List Int} (h : Stands n l o) {x y : Int} (hl : Lead l x y) : ∀ i, o[i]? = some x → y ∈ o.take i := by
  induction hl with
  | one ht e => exact fun i hi => h.behind i _ hi _ ht e
  | more _ ht e ih =>
    intro i hi
    have h1 := ih i hi
    obtain ⟨j, hj, e2⟩ := List.mem_take_iff_getElem.1 h1
    have h3 := h.behind j _ (by rw [List.getElem?_eq_getElem (by omega), e2]) _ ht e
    rw [List.mem_take_iff_getElem] at h3 ⊢
    obtain ⟨k, hk, e3⟩ := h3
    exact ⟨k, by omega, e3⟩
theorem order_no_round {n : Int} {l : List Nd} {o : List Int} (hm : May n l) (h : Stands n l o) (hl : o.length = n.toNat) (x : Int) : ¬ Lead l x x := fun hx => by
  have hb := lead_in hm hx
  obtain ⟨i, hi, e⟩ := List.mem_iff_getElem.1 (stands_all h hl hb.1 hb.2)
  have h1 := lead_ahead h hx i (by rw [List.getElem?_eq_getElem hi, e])
  obtain ⟨j, hj, e2⟩ := List.mem_take_iff_getElem.1 h1
  have := List.pairwise_iff_getElem.1 h.nodup j i (by omega) hi (by omega)
  exact this (by rw [e2, e])
/-- A row that is too short leaves a node out. -/
theorem left_out {N : Nat} {o : List Int} (h : o.length < N) : ∃ x : Int, 1 ≤ x ∧ x ≤ N ∧ x ∉ o := by
  refine Classical.byContradiction fun hno => ?_
  have hall : ∀ k : Nat, k < N → ((k : Int) + 1) ∈ o := fun k hk => Classical.byContradiction fun hx => hno ⟨(k : Int) + 1, by omega, by omega, hx⟩
  have h1 : ((List.range N).map fun k : Nat => o.idxOf ((k : Int) + 1)).Nodup := by
    refine List.pairwise_map.2 (List.Pairwise.imp_of_mem (fun {a b} ha hb hne e => hne ?_) List.nodup_range)
    have ha' := hall a (List.mem_range.1 ha)
    have hb' := hall b (List.mem_range.1 hb)
    have e1 := List.getElem_idxOf (List.idxOf_lt_length_iff.2 ha')
    have e2 := List.getElem_idxOf (List.idxOf_lt_length_iff.2 hb')
    have : ((a : Int) + 1) = (b : Int) + 1 := by
      rw [← e1, ← e2]
      congr 1
    omega
  have h2 := nodup_lt_length o.length _ h1 (fun x hx => by
    obtain ⟨k, hk, rfl⟩ := List.mem_map.1 hx
    exact List.idxOf_lt_length_iff.2 (hall k (List.mem_range.1 hk)))
  simp at h2
  omega
/-- Where each leads on for ever, one leads to itself. -/
theorem chain_round {N : Nat} {l : List Nd} (f : Nat → Int) (hf : ∀ k, 1 ≤ f k ∧ f k ≤ N) (hs : ∀ k, ∃ t ∈ l, t.a = f k ∧ t.b = f (k + 1)) : ∃ x, Lead l x x := by
  have hlead : ∀ d i, Lead l (f i) (f (i + d + 1)) := by
    intro d
    induction d with
    | zero =>
      intro i
      obtain ⟨t, ht, e1, e2⟩ := hs i
      rw [show i + 0 + 1 = i + 1 by omega, ← e2]
      exact .one ht e1
    | succ d ih =>
      intro i
      obtain ⟨t, ht, e1, e2⟩ := hs (i + d + 1)
      rw [show i + (d + 1) + 1 = i + d + 1 + 1 by omega, ← e2]
      exact .more (ih i) ht e1
  refine Classical.byContradiction fun hno => ?_
  have hnd : ((List.range (N + 1)).map f).Nodup := by
    refine List.pairwise_iff_getElem.2 fun i j hi hj hij e => hno ?_
    simp at hi hj e
    have := hlead (j - i - 1) i
    rw [show i + (j - i - 1) + 1 = j by omega, ← e] at this
    exact ⟨_, this⟩
  have := nodup_len (n := N) hnd (fun x hx => by
    obtain ⟨k, _, rfl⟩ := List.mem_map.1 hx
    exact hf k)
  simp at this
  omega
theorem stuck_round {n : Int} {l : List Nd} {o : List Int} (hm : May n l) (hl : o.length < n.toNat) (hno : ∀ k, 1 ≤ k → k ≤ n → ¬ Ready l o k) : ∃ x, Lead l x x := by
  have hstep : ∀ x : {x : Int // (1 ≤ x ∧ x ≤ n) ∧ x ∉ o}, ∃ y : {x : Int // (1 ≤ x ∧ x ≤ n) ∧ x ∉ o}, ∃ t ∈ l, t.a = x.1 ∧ t.b = y.1 := fun ⟨x, hx, hxo⟩ => by
    refine Classical.byContradiction fun h => hno x hx.1 hx.2 ⟨hxo, fun t ht e => Classical.byContradiction fun hb => h ⟨⟨t.b, (hm.2.2 t ht).2, hb⟩, t, ht, e, rfl⟩⟩
  obtain ⟨x0, h1, h2, h3⟩ := left_out hl
  have hn := hm.1.1
  let step : {x : Int // (1 ≤ x ∧ x ≤ n) ∧ x ∉ o} → {x : Int // (1 ≤ x ∧ x ≤ n) ∧ x ∉ o} := fun x => Classical.choose (hstep x)
  let f : Nat → {x : Int // (1 ≤ x ∧ x ≤ n) ∧ x ∉ o} := fun k => Nat.rec ⟨x0, ⟨h1, by omega⟩, h3⟩ (fun _ y => step y) k
  refine chain_round (N := n.toNat) (fun k => (f k).1) (fun k => ⟨(f k).2.1.1, by have := (f k).2.1.2; omega⟩) (fun k => ?_)
  exact Classical.choose_spec (hstep (f k))
/-- There is an order, just if needs lead from no node to itself. -/
theorem order_iff {n : Int} {l : List Nd} (hm : May n l) : ordE n l = 0 ↔ ∀ x, ¬ Lead l x x := by
  constructor
  · intro h
    obtain ⟨_, hs, hl⟩ := ord_zero h
    exact order_no_round hm hs hl
  · intro h
    cases ho : ordF n l n.toNat [] with
    | some o => exact (ord_some hm ho).1
    | none =>
      obtain ⟨o, _, hl, hno⟩ := ordF_stuck hm.1.1 n.toNat [] (stands_nil n l) (by simp) ho
      obtain ⟨x, hx⟩ := stuck_round hm hl hno
      exact absurd hx (h x)
theorem order_round {n : Int} {l : List Nd} (hm : May n l) {x : Int} (h : Lead l x x) : ordE n l = 9 ∧ ordV n l = [] := by
  cases ho : ordF n l n.toNat [] with
  | none => exact ord_none hm ho
  | some o => exact absurd h ((order_iff hm).1 (ord_some hm ho).1 x)
end Go.Proofs.Ytghjcefigdkhnaa.Graph
