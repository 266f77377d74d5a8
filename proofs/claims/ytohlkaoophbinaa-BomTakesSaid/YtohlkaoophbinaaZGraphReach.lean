/- What is below a node is what needs lead to; said without a program. There is an order, just if needs lead from no node to itself; said without a program. In how many ways needs lead from a node to another one: their number, of whatever size; what it is by a node's needs; how great it may be. -/
import Derived.Test.YtohlkaoophbinaaZRecImCk
import Derived.ChangeBookTie2
import Derived.Test.YtohlkaoophbinaaZGraphB
namespace Go.Proofs.Ytohlkaoophbinaa.Graph

/-- Needs lead from the one to the other, one or more. -/
inductive Lead (l : List Nd) (x : Int) : Int → Prop
  | one {t : Nd} : t ∈ l → t.a = x → Lead l x t.b
  | more {t : Nd} {y : Int} : Lead l x y → t ∈ l → t.a = y → Lead l x t.b
theorem Lead.trans {l : List Nd} {x y z : Int} (h : Lead l x y) (k : Lead l y z) : Lead l x z := by
  induction k with
  | one ht e => exact .more h ht e
  | more _ ht e ih => exact .more ih ht e
theorem grow_cons (node : Int) (t : Nd) (l : List Nd) (f : List Int) : (Leads node f t ∧ grow node (t :: l) f = grow node l (f ++ [t.b])) ∨ (¬ Leads node f t ∧ grow node (t :: l) f = grow node l f) := by
  by_cases h : Leads node f t
  · refine .inl ⟨h, ?_⟩
    conv => lhs; unfold grow
    rw [if_pos h]
  · refine .inr ⟨h, ?_⟩
    conv => lhs; unfold grow
    rw [if_neg h]
theorem grow_len (node : Int) : ∀ (l : List Nd) (f : List Int), f.length ≤ (grow node l f).length ∧ ∀ x ∈ f, x ∈ grow node l f
  | [], _ => ⟨Nat.le_refl _, fun _ h => h⟩
  | t :: l, f => by
    rcases grow_cons node t l f with ⟨_, e⟩ | ⟨_, e⟩
    · have h := grow_len node l (f ++ [t.b])
      rw [e]
      refine ⟨by have := h.1; simp at this; omega, fun x hx => h.2 x (by simp [hx])⟩
    · rw [e]
      exact grow_len node l f
/-- Where one leads on, it grows. -/
theorem grow_lt (node : Int) : ∀ (l : List Nd) (f : List Int), (∃ t ∈ l, Leads node f t) → f.length < (grow node l f).length
  | [], _, ⟨_, h, _⟩ => by simp at h
  | t :: l, f, ⟨u, hu, hl⟩ => by
    rcases grow_cons node t l f with ⟨_, e⟩ | ⟨h, e⟩
    · have h := grow_len node l (f ++ [t.b])
      rw [e]
      have := h.1
      simp at this
      omega
    · rw [e]
      refine grow_lt node l f ⟨u, ?_, hl⟩
      rcases List.mem_cons.1 hu with rfl | hu
      · exact absurd hl h
      · exact hu
theorem grow_same (node : Int) : ∀ (l : List Nd) (f : List Int), (∀ t ∈ l, ¬ Leads node f t) → grow node l f = f
  | [], _, _ => rfl
  | t :: l, f, h => by
    rcases grow_cons node t l f with ⟨h1, _⟩ | ⟨_, e⟩
    · exact absurd h1 (h t (by simp))
    · rw [e]
      exact grow_same node l f fun u hu => h u (List.mem_cons_of_mem _ hu)
/-- What is found is found once, and led to. -/
theorem grow_keeps {node : Int} {L : List Nd} : ∀ (l : List Nd) (f : List Int), (∀ t ∈ l, t ∈ L) → f.Nodup → (∀ x ∈ f, Lead L node x) → (grow node l f).Nodup ∧ ∀ x ∈ grow node l f, Lead L node x
  | [], _, _, h1, h2 => ⟨h1, h2⟩
  | t :: l, f, hs, h1, h2 => by
    rcases grow_cons node t l f with ⟨⟨hl, hn⟩, e⟩ | ⟨_, e⟩
    · rw [e]
      refine grow_keeps l _ (fun u hu => hs u (List.mem_cons_of_mem _ hu)) ?_ fun x hx => ?_
      · rw [List.nodup_append]
        refine ⟨h1, by simp, fun x hx y hy e => ?_⟩
        simp at hy
        subst hy e
        exact hn hx
      · rcases List.mem_append.1 hx with hx | hx
        · exact h2 x hx
        · simp at hx
          subst hx
          rcases hl with hl | hl
          · exact .one (hs t (by simp)) hl
          · exact .more (h2 _ hl) (hs t (by simp)) rfl
    · rw [e]
      exact grow_keeps l f (fun u hu => hs u (List.mem_cons_of_mem _ hu)) h1 h2
theorem rounds_keeps (node : Int) (l : List Nd) : ∀ k, (rounds node l k []).Nodup ∧ ∀ x ∈ rounds node l k [], Lead l node x
  | 0 => ⟨.nil, fun x h => by simp [rounds] at h⟩
  | k + 1 => by
    have ih := rounds_keeps node l k
    exact grow_keeps l _ (fun _ h => h) ih.1 ih.2
theorem nodup_len {n : Nat} {f : List Int} (h : f.Nodup) (hb : ∀ x ∈ f, 1 ≤ x ∧ x ≤ n) : f.length ≤ n := by
  have h1 : (f.map fun x => (x - 1).toNat).Nodup := by
    refine List.pairwise_map.2 (List.Pairwise.imp_of_mem (fun ha hc hne e => hne ?_) h)
    have := hb _ ha
    have := hb _ hc
    omega
  have h2 := nodup_lt_length n _ h1 (fun x hx => by
    obtain ⟨y, hy, rfl⟩ := List.mem_map.1 hx
    have := hb y hy
    omega)
  simpa using h2
/-- After so many rounds it has so many, or none leads on. -/
theorem rounds_grow (node : Int) (l : List Nd) : ∀ k, k ≤ (rounds node l k []).length ∨ ∀ t ∈ l, ¬ Leads node (rounds node l k []) t
  | 0 => .inl (Nat.zero_le _)
  | k + 1 => by
    have e : rounds node l (k + 1) [] = grow node l (rounds node l k []) := rfl
    by_cases h : ∃ t ∈ l, Leads node (rounds node l k []) t
    · have h1 := grow_lt node l _ h
      rcases rounds_grow node l k with h2 | h2
      · exact .inl (by rw [e]; omega)
      · obtain ⟨t, ht, hl⟩ := h
        exact absurd hl (h2 t ht)
    · have h3 : ∀ t ∈ l, ¬ Leads node (rounds node l k []) t := fun t ht hl => h ⟨t, ht, hl⟩
      refine .inr ?_
      rw [e, grow_same node l _ h3]
      exact h3
theorem lead_in {n : Int} {l : List Nd} {x y : Int} (hm : May n l) (h : Lead l x y) : 1 ≤ y ∧ y ≤ n := by
  cases h with
  | one ht _ => exact (hm.2.2 _ ht).2
  | more _ ht _ => exact (hm.2.2 _ ht).2
/-- What is found at the end is all that needs lead to. -/
theorem found_iff {n : Int} {l : List Nd} (hm : May n l) (node x : Int) : x ∈ rounds node l (n.toNat + 1) [] ↔ Lead l node x := by
  have hk := rounds_keeps node l (n.toNat + 1)
  refine ⟨hk.2 x, fun h => ?_⟩
  have hlen := nodup_len (n := n.toNat) hk.1 (fun y hy => by have := lead_in hm (hk.2 y hy); omega)
  have hno : ∀ t ∈ l, ¬ Leads node (rounds node l (n.toNat + 1) []) t := by
    rcases rounds_grow node l (n.toNat + 1) with h | h
    · omega
    · exact h
  induction h with
  | one ht e => exact Classical.byContradiction fun hn => hno _ ht ⟨.inl e, hn⟩
  | more _ ht e ih => exact Classical.byContradiction fun hn => hno _ ht ⟨.inr (by rw [e]; exact ih), hn⟩
theorem mem_sel {f : List Int} {x : Int} : ∀ k : Nat, x ∈ sel f k ↔ x ∈ f ∧ 1 ≤ x ∧ x ≤ k
  | 0 => by simp [sel]; omega
  | k + 1 => by
    have ih := mem_sel (f := f) (x := x) k
    unfold sel
    rw [List.mem_append, ih]
    constructor
    · rintro (⟨h1, h2, h3⟩ | h)
      · exact ⟨h1, h2, by omega⟩
      · split at h
        · simp at h
          subst h
          rename_i hf
          exact ⟨by simpa using hf, by omega, by omega⟩
        · simp at h
    · rintro ⟨h1, h2, h3⟩
      by_cases e : x = ((k + 1 : Nat) : Int)
      · right
        rw [if_pos (by rw [← e]; exact h1), e]
        simp
      · exact .inl ⟨h1, h2, by omega⟩
/-- What Below tells: the nodes that needs lead to. -/
theorem mem_bel {n : Int} {l : List Nd} {node x : Int} (h : BelOk n l node) : x ∈ belV n l node ↔ Lead l node x := by
  rw [(bel_ok h).2, mem_sel, found_iff h.1]
  have hn := h.1.1.1
  exact ⟨fun ⟨h1, _⟩ => h1, fun h1 => ⟨h1, by have := lead_in h.1 h1; omega⟩⟩
end Go.Proofs.Ytohlkaoophbinaa.Graph
namespace Go.Proofs.Ytohlkaoophbinaa.Graph

/-- All nodes stand there. -/
theorem stands_all {n : Int} {l : List Nd} {o : List Int} (h : Stands n l o) (hl : o.length = n.toNat) {x : Int} (h1 : 1 ≤ x) (h2 : x ≤ n) : x ∈ o := by
  refine Classical.byContradiction fun hx => ?_
  have := nodup_len (n := n.toNat) (f := x :: o) (List.nodup_cons.2 ⟨hx, h.nodup⟩) (fun y hy => by
    rcases List.mem_cons.1 hy with rfl | hy
    · omega
    · have := h.node y hy
      omega)
  simp at this
  omega
/-- What needs lead to stands ahead. -/
theorem lead_ahead {n : Int} {l : List Nd} {o : List Int} (h : Stands n l o) {x y : Int} (hl : Lead l x y) : ∀ i, o[i]? = some x → y ∈ o.take i := by
  induction hl with
  | one ht e => exact fun i hi => h.behind i _ hi _ ht e
  | more _ ht e ih =>
    intro i hi
    have h1 := ih i hi
    obtain ⟨j, hj, e2⟩ := List.mem_take_iff_getElem.1 h1
    have h3 := h.behind j _ (by rw [List.getElem?_eq_getElem (by omega), e2]) _ ht e
    rw [List.mem_take_iff_getElem] at h3 ⊢
    obtain ⟨k, hk, e3⟩ := h3
    exact ⟨k, by omega, e3⟩
theorem order_no_round {n : Int} {l : List Nd} {o : List Int} (hm : May n l) (h : Stands n l o) (hl : o.length = n.toNat) (x : Int) : ¬ Lead l x x := fun hx => by
  have hb := lead_in hm hx
  obtain ⟨i, hi, e⟩ := List.mem_iff_getElem.1 (stands_all h hl hb.1 hb.2)
  have h1 := lead_ahead h hx i (by rw [List.getElem?_eq_getElem hi, e])
  obtain ⟨j, hj, e2⟩ := List.mem_take_iff_getElem.1 h1
  have := List.pairwise_iff_getElem.1 h.nodup j i (by omega) hi (by omega)
  exact this (by rw [e2, e])
/-- A row that is too short leaves a node out. -/
theorem left_out {N : Nat} {o : List Int} (h : o.length < N) : ∃ x : Int, 1 ≤ x ∧ x ≤ N ∧ x ∉ o := by
  refine Classical.byContradiction fun hno => ?_
  have hall : ∀ k : Nat, k < N → ((k : Int) + 1) ∈ o := fun k hk => Classical.byContradiction fun hx => hno ⟨(k : Int) + 1, by omega, by omega, hx⟩
  have h1 : ((List.range N).map fun k : Nat => o.idxOf ((k : Int) + 1)).Nodup := by
    refine List.pairwise_map.2 (List.Pairwise.imp_of_mem (fun {a b} ha hb hne e => hne ?_) List.nodup_range)
    have ha' := hall a (List.mem_range.1 ha)
    have hb' := hall b (List.mem_range.1 hb)
    have e1 := List.getElem_idxOf (List.idxOf_lt_length_iff.2 ha')
    have e2 := List.getElem_idxOf (List.idxOf_lt_length_iff.2 hb')
    have : ((a : Int) + 1) = (b : Int) + 1 := by
      rw [← e1, ← e2]
      congr 1
    omega
  have h2 := nodup_lt_length o.length _ h1 (fun x hx => by
    obtain ⟨k, hk, rfl⟩ := List.mem_map.1 hx
    exact List.idxOf_lt_length_iff.2 (hall k (List.mem_range.1 hk)))
  simp at h2
  omega
/-- Where each leads on for ever, one leads to itself. -/
theorem chain_round {N : Nat} {l : List Nd} (f : Nat → Int) (hf : ∀ k, 1 ≤ f k ∧ f k ≤ N) (hs : ∀ k, ∃ t ∈ l, t.a = f k ∧ t.b = f (k + 1)) : ∃ x, Lead l x x := by
  have hlead : ∀ d i, Lead l (f i) (f (i + d + 1)) := by
    intro d
    induction d with
    | zero =>
      intro i
      obtain ⟨t, ht, e1, e2⟩ := hs i
      rw [show i + 0 + 1 = i + 1 by omega, ← e2]
      exact .one ht e1
    | succ d ih =>
      intro i
      obtain ⟨t, ht, e1, e2⟩ := hs (i + d + 1)
      rw [show i + (d + 1) + 1 = i + d + 1 + 1 by omega, ← e2]
      exact .more (ih i) ht e1
  refine Classical.byContradiction fun hno => ?_
  have hnd : ((List.range (N + 1)).map f).Nodup := by
    refine List.pairwise_iff_getElem.2 fun i j hi hj hij e => hno ?_
    simp at hi hj e
    have := hlead (j - i - 1) i
    rw [show i + (j - i - 1) + 1 = j by omega, ← e] at this
    exact ⟨_, this⟩
  have := nodup_len (n := N) hnd (fun x hx => by
    obtain ⟨k, _, rfl⟩ := List.mem_map.1 hx
    exact hf k)
  simp at this
  omega
theorem stuck_round {n : Int} {l : List Nd} {o : List Int} (hm : May n l) (hl : o.length < n.toNat) (hno : ∀ k, 1 ≤ k → k ≤ n → ¬ Ready l o k) : ∃ x, Lead l x x := by
  have hstep : ∀ x : {x : Int // (1 ≤ x ∧ x ≤ n) ∧ x ∉ o}, ∃ y : {x : Int // (1 ≤ x ∧ x ≤ n) ∧ x ∉ o}, ∃ t ∈ l, t.a = x.1 ∧ t.b = y.1 := fun ⟨x, hx, hxo⟩ => by
    refine Classical.byContradiction fun h => hno x hx.1 hx.2 ⟨hxo, fun t ht e => Classical.byContradiction fun hb => h ⟨⟨t.b, (hm.2.2 t ht).2, hb⟩, t, ht, e, rfl⟩⟩
  obtain ⟨x0, h1, h2, h3⟩ := left_out hl
  have hn := hm.1.1
  let step : {x : Int // (1 ≤ x ∧ x ≤ n) ∧ x ∉ o} → {x : Int // (1 ≤ x ∧ x ≤ n) ∧ x ∉ o} := fun x => Classical.choose (hstep x)
  let f : Nat → {x : Int // (1 ≤ x ∧ x ≤ n) ∧ x ∉ o} := fun k => Nat.rec ⟨x0, ⟨h1, by omega⟩, h3⟩ (fun _ y => step y) k
  refine chain_round (N := n.toNat) (fun k => (f k).1) (fun k => ⟨(f k).2.1.1, by have := (f k).2.1.2; omega⟩) (fun k => ?_)
  exact Classical.choose_spec (hstep (f k))
/-- There is an order, just if needs lead from no node to itself. -/
theorem order_iff {n : Int} {l : List Nd} (hm : May n l) : ordE n l = 0 ↔ ∀ x, ¬ Lead l x x := by
  constructor
  · intro h
    obtain ⟨_, hs, hl⟩ := ord_zero h
    exact order_no_round hm hs hl
  · intro h
    cases ho : ordF n l n.toNat [] with
    | some o => exact (ord_some hm ho).1
    | none =>
      obtain ⟨o, _, hl, hno⟩ := ordF_stuck hm.1.1 n.toNat [] (stands_nil n l) (by simp) ho
      obtain ⟨x, hx⟩ := stuck_round hm hl hno
      exact absurd hx (h x)
theorem order_round {n : Int} {l : List Nd} (hm : May n l) {x : Int} (h : Lead l x x) : ordE n l = 9 ∧ ordV n l = [] := by
  cases ho : ordF n l n.toNat [] with
  | none => exact ord_none hm ho
  | some o => exact absurd h ((order_iff hm).1 (ord_some hm ho).1 x)
end Go.Proofs.Ytohlkaoophbinaa.Graph
namespace Go.Proofs.Ytohlkaoophbinaa.Graph

/-- What the needs of a node come to, each with so much as what it needs has. -/
def sumA (x : Int) (g : Int → Nat) : List Nd → Nat
  | [] => 0
  | t :: l => (if t.a = x then g t.b else 0) + sumA x g l
def one (to x : Int) : Nat := if x = to then 1 else 0
def nwF (l : List Nd) (to : Int) : Nat → Int → Nat
  | 0, x => one to x
  | f + 1, x => one to x + sumA x (nwF l to f) l
/-- The ways from a node to another one. -/
def nw (n : Int) (l : List Nd) (to x : Int) : Nat := nwF l to n.toNat x
theorem sumA_congr {x : Int} {g h : Int → Nat} : ∀ {l : List Nd}, (∀ t ∈ l, t.a = x → g t.b = h t.b) → sumA x g l = sumA x h l
  | [], _ => rfl
  | t :: l, hh => by
    unfold sumA
    rw [sumA_congr (l := l) fun u hu => hh u (by simp [hu])]
    by_cases e : t.a = x
    · rw [if_pos e, if_pos e, hh t (by simp) e]
    · rw [if_neg e, if_neg e]
theorem sumA_zero {x : Int} {g : Int → Nat} : ∀ {l : List Nd}, (∀ t ∈ l, t.a ≠ x) → sumA x g l = 0
  | [], _ => rfl
  | t :: l, h => by
    unfold sumA
    rw [if_neg (h t (by simp)), sumA_zero (l := l) fun u hu => h u (by simp [hu])]
theorem sumA_append (x : Int) (g : Int → Nat) : ∀ (l k : List Nd), sumA x g (l ++ k) = sumA x g l + sumA x g k
  | [], k => by simp [sumA]
  | t :: l, k => by
    show (if t.a = x then g t.b else 0) + sumA x g (l ++ k) = (if t.a = x then g t.b else 0) + sumA x g l + sumA x g k
    rw [sumA_append x g l k]
    omega
theorem sumA_take {x : Int} {g : Int → Nat} {l : List Nd} {i : Nat} {t : Nd} (h : l[i]? = some t) : sumA x g (l.take (i + 1)) = sumA x g (l.take i) + (if t.a = x then g t.b else 0) := by
  rw [List.take_add_one, h, sumA_append]
  simp [sumA]
theorem sumA_le {x : Int} {g : Int → Nat} (l : List Nd) (i : Nat) : sumA x g (l.take i) ≤ sumA x g l := by
  have := sumA_append x g (l.take i) (l.drop i)
  rw [List.take_append_drop] at this
  omega
theorem sumA_mem {x : Int} {g : Int → Nat} : ∀ {l : List Nd} {t : Nd}, t ∈ l → t.a = x → g t.b ≤ sumA x g l
  | u :: l, t, h, e => by
    unfold sumA
    rcases List.mem_cons.1 h with rfl | h
    · rw [if_pos e]
      omega
    · have := sumA_mem (g := g) h e
      omega
theorem sumA_pos {x : Int} {g : Int → Nat} : ∀ {l : List Nd}, 0 < sumA x g l → ∃ t ∈ l, t.a = x ∧ 0 < g t.b
  | t :: l, h => by
    unfold sumA at h
    by_cases e : t.a = x ∧ 0 < g t.b
    · exact ⟨t, by simp, e⟩
    · have h2 : 0 < sumA x g l := by
        by_cases e1 : t.a = x
        · rw [if_pos e1] at h
          have : ¬ 0 < g t.b := fun h3 => e ⟨e1, h3⟩
          omega
        · rw [if_neg e1] at h
          omega
      obtain ⟨u, hu, h3⟩ := sumA_pos h2
      exact ⟨u, by simp [hu], h3⟩
/-- In an order a node's ways are told by as many rounds as nodes stand ahead of it. -/
theorem nwF_same {n : Int} {l : List Nd} {to : Int} {o : List Int} (h : Stands n l o) : ∀ (i : Nat) (x : Int), o[i]? = some x → ∀ f, i ≤ f → nwF l to f x = nwF l to i x := by
  intro i
  induction i using Nat.strongRecOn with
  | _ i ih =>
    intro x hx f hf
    have hb := h.behind i x hx
    match i, f with
    | 0, 0 => rfl
    | 0, f + 1 =>
      show one to x + sumA x (nwF l to f) l = one to x
      rw [sumA_zero fun t ht e => by
        have := hb t ht e
        simp at this]
      rfl
    | i + 1, f + 1 =>
      show one to x + sumA x (nwF l to f) l = one to x + sumA x (nwF l to i) l
      congr 1
      refine sumA_congr fun t ht e => ?_
      have h1 := hb t ht e
      obtain ⟨j, hj, he⟩ := List.getElem_of_mem h1
      rw [List.length_take] at hj
      rw [List.getElem_take] at he
      have h2 : o[j]? = some t.b := by rw [← he]; exact List.getElem?_eq_getElem (by omega)
      rw [ih j (by omega) t.b h2 f (by omega), ih j (by omega) t.b h2 i (by omega)]
/-- A node's ways: one, if it is the end, and those of each of its needs. -/
theorem nw_rec {n : Int} {l : List Nd} {to x : Int} (he : ordE n l = 0) (h1 : 1 ≤ x) (h2 : x ≤ n) : nw n l to x = one to x + sumA x (nw n l to) l := by
  obtain ⟨hm, hst, hlen⟩ := ord_zero he
  have hx := stands_all hst hlen h1 h2
  obtain ⟨i, hi, hxi⟩ := List.getElem_of_mem hx
  have hx2 : (ordV n l)[i]? = some x := by rw [← hxi]; exact List.getElem?_eq_getElem hi
  have e1 : nw n l to x = nwF l to (n.toNat + 1) x := by
    unfold nw
    rw [nwF_same hst i x hx2 _ (by omega), nwF_same hst i x hx2 (n.toNat + 1) (by omega)]
  rw [e1]
  rfl
/-- What needs lead to is what the first one needs, or what needs lead to from there. -/
theorem lead_head {l : List Nd} {x z : Int} (h : Lead l x z) : ∃ t ∈ l, t.a = x ∧ (t.b = z ∨ Lead l t.b z) := by
  induction h with
  | one ht e => exact ⟨_, ht, e, .inl rfl⟩
  | more _ ht e ih =>
    obtain ⟨u, hu, ea, h⟩ := ih
    refine ⟨u, hu, ea, .inr ?_⟩
    rcases h with h | h
    · exact .one ht (by rw [e, h])
    · exact .more h ht e
theorem nw_here {n : Int} {l : List Nd} {x : Int} (he : ordE n l = 0) (h1 : 1 ≤ x) (h2 : x ≤ n) : 1 ≤ nw n l x x := by
  rw [nw_rec he h1 h2]
  unfold one
  rw [if_pos rfl]
  omega
/-- Where needs lead there is a way. -/
theorem nw_lead {n : Int} {l : List Nd} {to x : Int} (he : ordE n l = 0) (h : Lead l x to) (h1 : 1 ≤ x) (h2 : x ≤ n) : 1 ≤ nw n l to x := by
  obtain ⟨hm, hst, hlen⟩ := ord_zero he
  have key : ∀ (i : Nat) (x : Int), (ordV n l)[i]? = some x → Lead l x to → 1 ≤ nw n l to x := by
    intro i
    induction i using Nat.strongRecOn with
    | _ i ih =>
      intro x hx hl
      have hb := hst.node x (List.mem_of_getElem? hx)
      obtain ⟨t, ht, ea, hc⟩ := lead_head hl
      have htb := (hm.2.2 t ht).2
      rw [nw_rec he hb.1 hb.2]
      have h3 : nw n l to t.b ≤ sumA x (nw n l to) l := sumA_mem ht ea
      have h4 : 1 ≤ nw n l to t.b := by
        rcases hc with rfl | hc
        · exact nw_here he htb.1 htb.2
        · have h5 := hst.behind i x hx t ht ea
          obtain ⟨j, hj, hjx⟩ := List.getElem_of_mem h5
          rw [List.length_take] at hj
          rw [List.getElem_take] at hjx
          exact ih j (by omega) t.b (by rw [← hjx]; exact List.getElem?_eq_getElem (by omega)) hc
      omega
  have hx := stands_all hst hlen h1 h2
  obtain ⟨i, hi, hxi⟩ := List.getElem_of_mem hx
  exact key i x (by rw [← hxi]; exact List.getElem?_eq_getElem hi) h
/-! how great they may be -/
/-- How many needs nodes have. -/
def cntA (S : List Int) (l : List Nd) : Nat := (l.filter fun t => decide (t.a ∈ S)).length
theorem cntA_le (S : List Int) (l : List Nd) : cntA S l ≤ l.length := List.length_filter_le _ _
theorem cntA_mono {S T : List Int} (h : ∀ x ∈ S, x ∈ T) : ∀ l : List Nd, cntA S l ≤ cntA T l
  | [] => Nat.le_refl _
  | t :: l => by
    have ih := cntA_mono h l
    unfold cntA at ih ⊢
    rw [List.filter_cons, List.filter_cons]
    by_cases e : t.a ∈ S
    · rw [if_pos (by simpa using e), if_pos (by simpa using h _ e), List.length_cons, List.length_cons]
      omega
    · rw [if_neg (by simpa using e)]
      split
      · rw [List.length_cons]
        omega
      · exact ih
theorem cntA_more {S : List Int} {x : Int} (hx : x ∉ S) : ∀ l : List Nd, cntA (S ++ [x]) l = cntA S l + cntA [x] l
  | [] => rfl
  | t :: l => by
    have ih := cntA_more hx l
    unfold cntA at ih ⊢
    rw [List.filter_cons, List.filter_cons, List.filter_cons]
    by_cases e : t.a = x
    · have h1 : t.a ∉ S := by rw [e]; exact hx
      rw [if_pos (by simp [e]), if_neg (by simpa using h1), if_pos (by simp [e]), List.length_cons, List.length_cons, ih]
      omega
    · by_cases h1 : t.a ∈ S
      · rw [if_pos (by simp [h1]), if_pos (by simpa using h1), if_neg (by simp [e]), List.length_cons, List.length_cons, ih]
        omega
      · rw [if_neg (by simp [h1, e]), if_neg (by simpa using h1), if_neg (by simp [e]), ih]
theorem sumA_bound {x : Int} {g : Int → Nat} {M : Nat} : ∀ {l : List Nd}, (∀ t ∈ l, t.a = x → g t.b ≤ M) → sumA x g l ≤ cntA [x] l * M
  | [], _ => by simp [sumA]
  | t :: l, h => by
    have ih := sumA_bound (l := l) fun u hu => h u (by simp [hu])
    unfold cntA at ih ⊢
    unfold sumA
    rw [List.filter_cons]
    by_cases e : t.a = x
    · rw [if_pos e, if_pos (by simp [e]), List.length_cons, Nat.succ_mul]
      have := h t (by simp) e
      omega
    · rw [if_neg e, if_neg (by simp [e])]
      omega
theorem grow_two (d M : Nat) (hM : 1 ≤ M) : 1 + d * M ≤ 2 ^ d * M := by
  have h : d + 1 ≤ 2 ^ d := Nat.lt_two_pow_self
  have h2 : (d + 1) * M ≤ 2 ^ d * M := Nat.mul_le_mul_right M h
  rw [Nat.succ_mul] at h2
  omega
/-- There are no more ways than parts of the needs. -/
theorem nw_bound {n : Int} {l : List Nd} {to x : Int} (he : ordE n l = 0) (h1 : 1 ≤ x) (h2 : x ≤ n) : nw n l to x ≤ 2 ^ l.length := by
  obtain ⟨hm, hst, hlen⟩ := ord_zero he
  have key : ∀ (i : Nat) (x : Int), (ordV n l)[i]? = some x → nw n l to x ≤ 2 ^ cntA ((ordV n l).take (i + 1)) l := by
    intro i
    induction i using Nat.strongRecOn with
    | _ i ih =>
      intro x hx
      have hb := hst.node x (List.mem_of_getElem? hx)
      have hxn : x ∉ (ordV n l).take i := fun h => by
        obtain ⟨j, hj, hjx⟩ := List.getElem_of_mem h
        rw [List.length_take] at hj
        rw [List.getElem_take] at hjx
        obtain ⟨hi, hxi⟩ := List.getElem?_eq_some_iff.1 hx
        have := List.pairwise_iff_getElem.1 hst.nodup j i (by omega) hi (by omega)
        exact this (by rw [hjx, hxi])
      have hM : ∀ t ∈ l, t.a = x → nw n l to t.b ≤ 2 ^ cntA ((ordV n l).take i) l := fun t ht ea => by
        have h5 := hst.behind i x hx t ht ea
        obtain ⟨j, hj, hjx⟩ := List.getElem_of_mem h5
        rw [List.length_take] at hj
        rw [List.getElem_take] at hjx
        refine Nat.le_trans (ih j (by omega) t.b (by rw [← hjx]; exact List.getElem?_eq_getElem (by omega))) (Nat.pow_le_pow_right (by omega) ?_)
        exact cntA_mono (fun y hy => (List.take_sublist_take_left (by omega)).subset hy) l
      rw [nw_rec he hb.1 hb.2, List.take_add_one, hx]
      show one to x + _ ≤ 2 ^ cntA (_ ++ [x]) l
      rw [cntA_more hxn, Nat.pow_add, Nat.mul_comm]
      have h8 := sumA_bound (g := nw n l to) hM
      have h9 := grow_two (cntA [x] l) (2 ^ cntA ((ordV n l).take i) l) (Nat.one_le_two_pow)
      have h10 : one to x ≤ 1 := by unfold one; split <;> omega
      omega
  have hx := stands_all hst hlen h1 h2
  obtain ⟨i, hi, hxi⟩ := List.getElem_of_mem hx
  exact Nat.le_trans (key i x (by rw [← hxi]; exact List.getElem?_eq_getElem hi)) (Nat.pow_le_pow_right (by omega) (cntA_le _ _))
/-! what is told of them -/
def mi : Nat := 9223372036854775807
def WayOk (n : Int) (l : List Nd) (x y : Int) : Prop := May n l ∧ (1 ≤ x ∧ x ≤ n) ∧ 1 ≤ y ∧ y ≤ n
open Classical in
noncomputable def wayE (n : Int) (l : List Nd) (x y : Int) : Int := if WayOk n l x y then (if ordE n l = 0 then (if mi < nw n l y x then 5 else 0) else ordE n l) else 1
noncomputable def wayV (n : Int) (l : List Nd) (x y : Int) : Int := if wayE n l x y = 0 then ((nw n l y x : Nat) : Int) else 0
theorem way_arg {n : Int} {l : List Nd} {x y : Int} (h : ¬ WayOk n l x y) : wayE n l x y = 1 ∧ wayV n l x y = 0 := by
  have e : wayE n l x y = 1 := by unfold wayE; rw [if_neg h]
  exact ⟨e, by unfold wayV; rw [e]; rfl⟩
theorem way_round {n : Int} {l : List Nd} {x y : Int} (h : WayOk n l x y) (h2 : ordE n l ≠ 0) : wayE n l x y = ordE n l ∧ wayV n l x y = 0 := by
  have e : wayE n l x y = ordE n l := by unfold wayE; rw [if_pos h, if_neg h2]
  exact ⟨e, by unfold wayV; rw [e, if_neg h2]⟩
theorem way_over {n : Int} {l : List Nd} {x y : Int} (h : WayOk n l x y) (h2 : ordE n l = 0) (h3 : mi < nw n l y x) : wayE n l x y = 5 ∧ wayV n l x y = 0 := by
  have e : wayE n l x y = 5 := by unfold wayE; rw [if_pos h, if_pos h2, if_pos h3]
  exact ⟨e, by unfold wayV; rw [e]; rfl⟩
theorem way_fine {n : Int} {l : List Nd} {x y : Int} (h : WayOk n l x y) (h2 : ordE n l = 0) (h3 : nw n l y x ≤ mi) : wayE n l x y = 0 ∧ wayV n l x y = ((nw n l y x : Nat) : Int) := by
  have e : wayE n l x y = 0 := by unfold wayE; rw [if_pos h, if_pos h2, if_neg (by omega)]
  exact ⟨e, by unfold wayV; rw [e, if_pos rfl]⟩
end Go.Proofs.Ytohlkaoophbinaa.Graph
