/- What is below a node is what needs lead to; said without a program. -/
import Derived.Test.YtghjcefigdkhnaaGraphC
import Derived.ChangeBookTie2
namespace Go.Proofs.Ytghjcefigdkhnaa.Graph

/-- Needs lead from the one to the other, one or more. -/
inductive Lead (l : List Nd) (x : Int) : Int → Prop
  | one {t : Nd} : t ∈ l → t.a = x → Lead l x t.b
  | more {t : Nd} {y : Int} : Lead l x y → t ∈ l → t.a = y → Lead l x t.b
theorem Lead.trans {l : List Nd} {x y z : Int} (h : Lead l x y) (k : Lead l y z) : Lead l x z := by
  induction k with
  | one ht e => exact .more h ht e
  | more _ ht e ih => exact .more ih ht e
theorem grow_cons (node : Int) (t : Nd) (l : List Nd) (f : List Int) : (Leads node f t ∧ grow node (t :: l) f = grow node l (f ++ [t.b])) ∨ (¬ Leads node f t ∧ grow node (t :: l) f = grow node l f) := by
  by_cases h : Leads node f t
  · refine .inl ⟨h, ?_⟩
    conv => lhs; unfold grow
    rw [if_pos h]
  · refine .inr ⟨h, ?_⟩
    conv => lhs; unfold grow
    rw [if_neg h]
theorem grow_len (node : Int) : ∀ (l : List Nd) (f : List Int), f.length ≤ (grow node l f).length ∧ ∀ x ∈ f, x ∈ grow node l f
  | [], _ => ⟨Nat.le_refl _, fun _ h => h⟩
  | t :: l, f => by
    rcases grow_cons node t l f with ⟨_, e⟩ | ⟨_, e⟩
    · have h := grow_len node l (f ++ [t.b])
      rw [e]
      refine ⟨by have := h.1; simp at this; omega, fun x hx => h.2 x (by simp [hx])⟩
    · rw [e]
      exact grow_len node l f
/-- Where one leads on, it grows. -/
theorem grow_lt (node : Int) : ∀ (l : List Nd) (f : List Int), (∃ t ∈ l, Leads node f t) → f.length < (grow node l f).length
  | [], _, ⟨_, h, _⟩ => by simp at h
  | t :: l, f, ⟨u, hu, hl⟩ => by
    rcases grow_cons node t l f with ⟨_, e⟩ | ⟨h, e⟩
    · have h := grow_len node l (f ++ [t.b])
      rw [e]
      have := h.1
      simp at this
      omega
    · rw [e]
      refine grow_lt node l f ⟨u, ?_, hl⟩
      rcases List.mem_cons.1 hu with rfl | hu
      · exact absurd hl h
      · exact hu
theorem grow_same (node : Int) : ∀ (l : List Nd) (f : List Int), (∀ t ∈ l, ¬ Leads node f t) → grow node l f = f
  | [], _, _ => rfl
  | t :: l, f, h => by
    rcases grow_cons node t l f with ⟨h1, _⟩ | ⟨_, e⟩
    · exact absurd h1 (h t (by simp))
    · rw [e]
      exact grow_same node l f fun u hu => h u (List.mem_cons_of_mem _ hu)
/-- What is found is found once, and led to. -/
theorem grow_keeps {node : Int} {L : List Nd} : ∀ (l : List Nd) (f : List Int), (∀ t ∈ l, t ∈ L) → f.Nodup → (∀ x ∈ f, Lead L node x) → (grow node l f).Nodup ∧ ∀ x ∈ grow node l f, Lead L node x
  | [], _, _, h1, h2 => ⟨h1, h2⟩
  | t :: l, f, hs, h1, h2 => by
    rcases grow_cons node t l f with ⟨⟨hl, hn⟩, e⟩ | ⟨_, e⟩
    · rw [e]
      refine grow_keeps l _ (fun u hu => hs u (List.mem_cons_of_mem _ hu)) ?_ fun x hx => ?_
      · rw [List.nodup_append]
        refine ⟨h1, by simp, fun x hx y hy e => ?_⟩
        simp at hy
        subst hy e
        exact hn hx
      · rcases List.mem_append.1 hx with hx | hx
        · exact h2 x hx
        · simp at hx
          subst hx
          rcases hl with hl | hl
          · exact .one (hs t (by simp)) hl
          · exact .more (h2 _ hl) (hs t (by simp)) rfl
    · rw [e]
      exact grow_keeps l f (fun u hu => hs u (List.mem_cons_of_mem _ hu)) h1 h2
theorem rounds_keeps (node : Int) (l : List Nd) : ∀ k, (rounds node l k []).Nodup ∧ ∀ x ∈ rounds node l k [], Lead l node x
  | 0 => ⟨.nil, fun x h => by simp [rounds] at h⟩
  | k + 1 => by
    have ih := rounds_keeps node l k
    exact grow_keeps l _ (fun _ h => h) ih.1 ih.2
theorem nodup_len {n : Nat} {f : List Int} (h : f.Nodup) (hb : ∀ x ∈ f, 1 ≤ x ∧ x ≤ n) : f.length ≤ n := by
  have h1 : (f.map fun x => (x - 1).toNat).Nodup := by
    refine List.pairwise_map.2 (List.Pairwise.imp_of_mem (fun ha hc hne e => hne ?_) h)
    have := hb _ ha
    have := hb _ hc
    omega
  have h2 := nodup_lt_length n _ h1 (fun x hx => by
    obtain ⟨y, hy, rfl⟩ := List.mem_map.1 hx
    have := hb y hy
    omega)
  simpa using h2
/-- After so many rounds it has so many, or none leads on. -/
theorem rounds_grow (node : Int) (l : List Nd) : ∀ k, k ≤ (rounds node l k []).length ∨ ∀ t ∈ l, ¬ Leads node (rounds node l k []) t
  | 0 => .inl (Nat.zero_le _)
  | k + 1 => by
    have e : rounds node l (k + 1) [] = grow node l (rounds node l k []) := rfl
    by_cases h : ∃ t ∈ l, Leads node (rounds node l k []) t
    · have h1 := grow_lt node l _ h
      rcases rounds_grow node l k with h2 | h2
      · exact .inl (by rw [e]; omega)
      · obtain ⟨t, ht, hl⟩ := h
        exact absurd hl (h2 t ht)
    · have h3 : ∀ t ∈ l, ¬ Leads node (rounds node l k []) t := fun t ht hl => h ⟨t, ht, hl⟩
      refine .inr ?_
      rw [e, grow_same node l _ h3]
      exact h3
theorem lead_in {n : Int} {l : List Nd} {x y : Int} (hm : May n l) (h : Lead l x y) : 1 ≤ y ∧ y ≤ n := by
  cases h with
  | one ht _ => exact (hm.2.2 _ ht).2
  | more _ ht _ => exact (hm.2.2 _ ht).2
/-- What is found at the end is all that needs lead to. -/
theorem found_iff {n : Int} {l : List Nd} (hm : May n l) (node x : Int) : x ∈ rounds node l (n.toNat + 1) [] ↔ Lead l node x := by
  have hk := rounds_keeps node l (n.toNat + 1)
  refine ⟨hk.2 x, fun h => ?_⟩
  have hlen := nodup_len (n := n.toNat) hk.1 (fun y hy => by have := lead_in hm (hk.2 y hy); omega)
  have hno : ∀ t ∈ l, ¬ Leads node (rounds node l (n.toNat + 1) []) t := by
    rcases rounds_grow node l (n.toNat + 1) with h | h
    · omega
    · exact h
  induction h with
  | one ht e => exact Classical.byContradiction fun hn => hno _ ht ⟨.inl e, hn⟩
  | more _ ht e ih => exact Classical.byContradiction fun hn => hno _ ht ⟨.inr (by rw [e]; exact ih), hn⟩
theorem mem_sel {f : List Int} {x : Int} : ∀ k : Nat, x ∈ sel f k ↔ x ∈ f ∧ 1 ≤ x ∧ x ≤ k
  | 0 => by simp [sel]; omega
  | k + 1 => by
    have ih := mem_sel (f := f) (x := x) k
    unfold sel
    rw [List.mem_append, ih]
    constructor
    · rintro (⟨h1, h2, h3⟩ | h)
      · exact ⟨h1, h2, by omega⟩
      · split at h
        · simp at h
          subst h
          rename_i hf
          exact ⟨by simpa using hf, by omega, by omega⟩
        · simp at h
    · rintro ⟨h1, h2, h3⟩
      by_cases e : x = ((k + 1 : Nat) : Int)
      · right
        rw [if_pos (by rw [← e]; exact h1), e]
        simp
      · exact .inl ⟨h1, h2, by omega⟩
/-- What Below tells: the nodes that needs lead to. -/
theorem mem_bel {n : Int} {l : List Nd} {node x : Int} (h : BelOk n l node) : x ∈ belV n l node ↔ Lead l node x := by
  rw [(bel_ok h).2, mem_sel, found_iff h.1]
  have hn := h.1.1.1
  exact ⟨fun ⟨h1, _⟩ => h1, fun h1 => ⟨h1, by have := lead_in h.1 h1; omega⟩⟩
end Go.Proofs.Ytghjcefigdkhnaa.Graph
