/- Drafts, said without a program: what may be, what calls answer, what is there behind them. -/
import Derived.Test.YtfebaiefoonncaaDraDr
import Derived.Test.YtfebaiefoonncaaTbB
namespace Go.Proofs.Ytfebaiefoonncaa.Draft
open Tb (Key Rising)

abbrev mt : Int := 1099511627776
def I64 (x : Int) : Prop := -9223372036854775808 ≤ x ∧ x ≤ 9223372036854775807
/-- A draft may be. -/
structure Ok (d : Dr) : Prop where
  owner : 0 ≤ d.owner ∧ d.owner ≤ mt
  div : 0 ≤ d.div ∧ d.div ≤ 4
  place : 1 ≤ d.place ∧ d.place ≤ 8
  blue : 1 ≤ d.blue ∧ d.blue ≤ 16
  me : 0 ≤ d.me ∧ d.me ≤ 10
  te : 0 ≤ d.te ∧ d.te ≤ 10
  runs : d.runs = -1 ∨ (0 ≤ d.runs ∧ d.runs ≤ 1000)
  busy : 0 ≤ d.busy ∧ d.busy ≤ mt
instance (d : Dr) : Decidable (Ok d) := decidable_of_iff ((0 ≤ d.owner ∧ d.owner ≤ mt) ∧ (0 ≤ d.div ∧ d.div ≤ 4) ∧ (1 ≤ d.place ∧ d.place ≤ 8) ∧ (1 ≤ d.blue ∧ d.blue ≤ 16) ∧ (0 ≤ d.me ∧ d.me ≤ 10) ∧ (0 ≤ d.te ∧ d.te ≤ 10) ∧ (d.runs = -1 ∨ (0 ≤ d.runs ∧ d.runs ≤ 1000)) ∧ (0 ≤ d.busy ∧ d.busy ≤ mt))
  ⟨fun ⟨h1, h2, h3, h4, h5, h6, h7, h8⟩ => ⟨h1, h2, h3, h4, h5, h6, h7, h8⟩, fun h => ⟨h.owner, h.div, h.place, h.blue, h.me, h.te, h.runs, h.busy⟩⟩
abbrev kO (o : Int) : Key := ⟨o, 0, 0, 0⟩
def pr (a : Dr) : Tb.Pair Dr := ⟨kO a.id, a⟩
def prs (l : List Dr) : List (Tb.Pair Dr) := l.map pr
def Rise (l : List Dr) : Prop := l.Pairwise fun a b => a.id < b.id
theorem cmp_kO (a b : Int) : Tb.cmp (kO a) (kO b) = if a < b then -1 else if b < a then 1 else 0 := by
  show Tb.cmpFrom (kO a) (kO b) 0 4 = _
  by_cases h1 : a < b
  · rw [if_pos h1]
    exact Tb.cmpFrom_less _ _ 0 3 h1
  · by_cases h2 : b < a
    · rw [if_neg h1, if_pos h2]
      exact Tb.cmpFrom_more _ _ 0 3 h2
    · rw [if_neg h1, if_neg h2]
      have : a = b := by omega
      subst this
      exact Tb.cmp_zero.2 rfl
theorem kO_less {a b : Int} : Tb.cmp (kO a) (kO b) < 0 ↔ a < b := by
  rw [cmp_kO]
  split
  · simp_all
  · split <;> simp_all
theorem kO_same {a b : Int} : Tb.cmp (kO a) (kO b) = 0 ↔ a = b := by
  rw [Tb.cmp_zero]
  constructor
  · intro h
    injection h
  · rintro rfl
    rfl
theorem prs_rising {l : List Dr} (h : Rise l) : Rising (prs l) := by
  unfold prs Rising
  rw [List.pairwise_map]
  exact h.imp fun h1 => kO_less.2 h1
theorem prs_length (l : List Dr) : (prs l).length = l.length := by unfold prs; rw [List.length_map]
theorem prs_vals (l : List Dr) : (prs l).map Tb.Pair.v = l := by
  unfold prs
  rw [List.map_map]
  exact List.map_id'' (fun _ => rfl) l
/-- The draft with a number. -/
def find (l : List Dr) (i : Int) : Option Dr := l.find? fun d => d.id == i
/-- Drafts among which is another one, in place of the one with its number, if there was one. -/
def ins (l : List Dr) (d : Dr) : List Dr := l.filter (fun x => decide (x.id < d.id)) ++ d :: l.filter (fun x => decide (d.id < x.id))
theorem find_mem {l : List Dr} {i : Int} {d : Dr} (h : find l i = some d) : d ∈ l ∧ d.id = i := by
  unfold find at h
  exact ⟨List.mem_of_find?_eq_some h, by have := List.find?_some h; simpa using this⟩
theorem find_none {l : List Dr} {i : Int} (h : find l i = none) : ∀ d ∈ l, d.id ≠ i := fun d hd e => by
  unfold find at h
  have := (List.find?_eq_none.1 h) d hd
  simp [e] at this
theorem has_prs (l : List Dr) (i : Int) : Tb.has (prs l) (kO i) = (find l i).isSome := by
  induction l with
  | nil => rfl
  | cons a l ih =>
    have h1 : Tb.has (prs (a :: l)) (kO i) = (Tb.hits (kO i) (pr a) || Tb.has (prs l) (kO i)) := rfl
    have h2 : Tb.hits (kO i) (pr a) = decide (a.id = i) := decide_eq_decide.2 kO_same
    rw [h1, h2, ih]
    unfold find
    rw [List.find?_cons]
    by_cases e : a.id = i
    · simp [e]
    · have e2 : (a.id == i) = false := by simpa using e
      rw [e2, decide_eq_false e, Bool.false_or]
/-- A table of drafts has the draft with a number under that number. -/
theorem value_prs {l : List Dr} (hr : Rise l) (i : Int) : Tb.valueAt (prs l) (kO i) = (find l i).getD default := by
  unfold Tb.valueAt
  rw [has_prs]
  cases hf : find l i with
  | none => rfl
  | some d =>
    rw [Option.isSome_some, if_pos rfl]
    obtain ⟨p, hp, hk⟩ := (Tb.has_at (prs_rising hr) (kO i)).1 (by rw [has_prs, hf]; rfl)
    unfold Tb.nthP
    rw [List.getD_eq_getElem?_getD, hp]
    have hm : p ∈ prs l := List.mem_of_getElem? hp
    obtain ⟨x, hx, rfl⟩ := List.mem_map.1 hm
    have hx2 : x.id = i := by
      have : kO x.id = kO i := hk
      injection this
    obtain ⟨hd, hdi⟩ := find_mem hf
    show x = d
    obtain ⟨a, ha, rfl⟩ := List.getElem_of_mem hx
    obtain ⟨b, hb, rfl⟩ := List.getElem_of_mem hd
    rcases Nat.lt_trichotomy a b with h | h | h
    · have := List.pairwise_iff_getElem.1 hr a b ha hb h
      omega
    · subst h; rfl
    · have := List.pairwise_iff_getElem.1 hr b a hb ha h
      omega
theorem put_prs {l : List Dr} (hr : Rise l) (d : Dr) : Tb.put (prs l) (kO d.id) d = prs (ins l d) := by
  obtain ⟨A, B, hA, hB, hp, hc⟩ := Tb.rising_split (kO d.id) (prs_rising hr)
  have key : ∀ (A B M : List (Tb.Pair Dr)), prs l = A ++ (M ++ B) → (∀ p ∈ A, Tb.cmp p.k (kO d.id) < 0) → (∀ p ∈ B, Tb.cmp (kO d.id) p.k < 0) → (∀ p ∈ M, p.k = kO d.id) → A ++ ⟨kO d.id, d⟩ :: B = prs (ins l d) := fun A B M e hA hB hM => by
    obtain ⟨l1, l2, rfl, e1, e2⟩ := List.map_eq_append_iff.1 (show l.map pr = A ++ (M ++ B) from e)
    obtain ⟨l3, l4, rfl, e3, e4⟩ := List.map_eq_append_iff.1 e2
    subst e1; subst e3; subst e4
    have a1 : ∀ x ∈ l1, x.id < d.id := fun x hx => kO_less.1 (hA _ (List.mem_map_of_mem hx))
    have a2 : ∀ x ∈ l4, d.id < x.id := fun x hx => kO_less.1 (hB _ (List.mem_map_of_mem hx))
    have a3 : ∀ x ∈ l3, x.id = d.id := fun x hx => by
      have h := hM _ (List.mem_map_of_mem hx)
      have h' : kO x.id = kO d.id := h
      injection h'
    have f1 : (l1 ++ (l3 ++ l4)).filter (fun x => decide (x.id < d.id)) = l1 := by
      have g1 : l1.filter (fun x => decide (x.id < d.id)) = l1 := List.filter_eq_self.2 fun x hx => decide_eq_true (a1 x hx)
      have g2 : l3.filter (fun x => decide (x.id < d.id)) = [] := List.filter_eq_nil_iff.2 fun x hx => by have := a3 x hx; simp; omega
      have g3 : l4.filter (fun x => decide (x.id < d.id)) = [] := List.filter_eq_nil_iff.2 fun x hx => by have := a2 x hx; simp; omega
      rw [List.filter_append, List.filter_append, g1, g2, g3]
      simp
    have f2 : (l1 ++ (l3 ++ l4)).filter (fun x => decide (d.id < x.id)) = l4 := by
      have g1 : l1.filter (fun x => decide (d.id < x.id)) = [] := List.filter_eq_nil_iff.2 fun x hx => by have := a1 x hx; simp; omega
      have g2 : l3.filter (fun x => decide (d.id < x.id)) = [] := List.filter_eq_nil_iff.2 fun x hx => by have := a3 x hx; simp; omega
      have g3 : l4.filter (fun x => decide (d.id < x.id)) = l4 := List.filter_eq_self.2 fun x hx => decide_eq_true (a2 x hx)
      rw [List.filter_append, List.filter_append, g1, g2, g3]
      simp
    unfold ins prs
    rw [f1, f2, List.map_append, List.map_cons]
    rfl
  unfold Tb.put
  rw [hp]
  rcases hc with ⟨c1, c2⟩ | ⟨c1, v, c2⟩
  · rw [c1, if_neg (by simp), c2, List.take_left, List.drop_left]
    exact key A B [] (by rw [c2]; rfl) hA hB (by simp)
  · rw [c1, if_pos rfl, c2, List.take_left, List.drop_append]
    have h1 : A.drop (A.length + 1) = [] := List.drop_eq_nil_of_le (by omega)
    have h2 : A.length + 1 - A.length = 1 := by omega
    rw [h1, h2, List.nil_append, List.drop_one, List.tail_cons]
    exact key A B [⟨kO d.id, v⟩] (by rw [c2]; rfl) hA hB (by simp)
theorem ins_mem {l : List Dr} {d x : Dr} (h : x ∈ ins l d) : x = d ∨ x ∈ l := by
  unfold ins at h
  simp only [List.mem_append, List.mem_cons, List.mem_filter] at h
  rcases h with h | h | h
  · exact .inr h.1
  · exact .inl h
  · exact .inr h.1
theorem rise_ins {l : List Dr} (h : Rise l) (d : Dr) : Rise (ins l d) := by
  unfold ins Rise
  refine List.pairwise_append.2 ⟨h.filter _, List.pairwise_cons.2 ⟨fun x hx => ?_, h.filter _⟩, fun x hx y hy => ?_⟩
  · simpa using (List.mem_filter.1 hx).2
  · have h1 : x.id < d.id := by simpa using (List.mem_filter.1 hx).2
    rcases List.mem_cons.1 hy with rfl | hy
    · exact h1
    · have h2 : d.id < y.id := by simpa using (List.mem_filter.1 hy).2
      omega
theorem length_ins {l : List Dr} (hr : Rise l) (d : Dr) : (ins l d).length = if (find l d.id).isSome then l.length else l.length + 1 := by
  have e := congrArg List.length (put_prs hr d)
  rw [prs_length] at e
  rw [← e]
  unfold Tb.put
  rw [List.length_append, List.length_cons, List.length_take, has_prs, prs_length]
  have hp := Tb.place_le (prs l) (kO d.id)
  rw [prs_length] at hp
  cases hf : (find l d.id).isSome with
  | false =>
    rw [if_neg (by simp), if_neg (by simp), List.length_drop, prs_length]
    omega
  | true =>
    have := Tb.place_lt (l := prs l) (k := kO d.id) rfl (by rw [has_prs]; exact hf)
    rw [prs_length] at this
    rw [if_pos rfl, if_pos rfl, List.length_drop, prs_length]
    omega
theorem find_self (l : List Dr) (d : Dr) : find (ins l d) d.id = some d := by
  unfold find ins
  rw [List.find?_append, List.find?_eq_none.2 fun x hx => by have := (List.mem_filter.1 hx).2; simp at this; simp; omega, List.find?_cons]
  simp
theorem ins_last {l : List Dr} {d : Dr} (h : ∀ x ∈ l, x.id < d.id) : ins l d = l ++ [d] := by
  unfold ins
  rw [List.filter_eq_self.2 fun x hx => decide_eq_true (h x hx), List.filter_eq_nil_iff.2 fun x hx => by have := h x hx; simp; omega]
/-- Drafts that may be there, the number that was given last with them. -/
structure Good (l : List Dr) (z : Int) : Prop where
  rise : Rise l
  ok : ∀ d ∈ l, Ok d ∧ 1 ≤ d.id ∧ d.id ≤ z
  len : l.length ≤ 64
  last : 0 ≤ z ∧ z < mt
theorem good_nil : Good [] 0 := ⟨List.Pairwise.nil, fun d hd => (by cases hd), by simp, by decide, by decide⟩
theorem good_change {l : List Dr} {z : Int} (h : Good l z) {i : Int} {d d' : Dr} (hf : find l i = some d) (hi : d'.id = d.id) (ho : Ok d') : Good (ins l d') z := by
  obtain ⟨hm, hd⟩ := find_mem hf
  refine ⟨rise_ins h.rise _, fun x hx => ?_, ?_, h.last⟩
  · rcases ins_mem hx with rfl | hx
    · rw [hi]
      exact ⟨ho, (h.ok d hm).2⟩
    · exact h.ok x hx
  · rw [length_ins h.rise, hi, hd, hf, Option.isSome_some, if_pos rfl]
    exact h.len
theorem good_add {l : List Dr} {z : Int} (h : Good l z) {d : Dr} (hi : d.id = z + 1) (ho : Ok d) (hl : l.length < 64) (hz : z + 1 < mt) : Good (l ++ [d]) (z + 1) ∧ ins l d = l ++ [d] := by
  have e : ins l d = l ++ [d] := ins_last fun x hx => by have := (h.ok x hx).2.2; omega
  refine ⟨⟨e ▸ rise_ins h.rise _, fun x hx => ?_, by rw [List.length_append, List.length_singleton]; omega, ?_⟩, e⟩
  · rcases List.mem_append.1 hx with hx | hx
    · have := h.ok x hx
      exact ⟨this.1, this.2.1, by omega⟩
    · obtain rfl := List.mem_singleton.1 hx
      have := h.last.1
      exact ⟨ho, by omega, by omega⟩
  · have := h.last
    omega
/-! What calls answer, and what is there behind them -/
/-- A job, and runs, that may be. -/
def MayUse (j r : Int) : Prop := (1 ≤ j ∧ j ≤ mt) ∧ 0 ≤ r ∧ r ≤ 1000
instance (j r : Int) : Decidable (MayUse j r) := by unfold MayUse; infer_instance
def useE (j r : Int) (d : Dr) : Int := if MayUse j r then if d.busy = 0 then if d.runs = -1 ∨ r ≤ d.runs then 0 else 11 else 12 else 1
def useD (j r : Int) (d : Dr) : Dr := { d with busy := j, runs := if d.runs = -1 then -1 else d.runs - r }
def freeE (j r : Int) (d : Dr) : Int := if MayUse j r then if d.busy = j then if d.runs = -1 ∨ d.runs + r ≤ 1000 then 0 else 11 else 9 else 1
def freeD (_ r : Int) (d : Dr) : Dr := { d with busy := 0, runs := if d.runs = -1 then -1 else d.runs + r }
def learnE (m t : Int) (d : Dr) : Int := if m < 0 ∨ t < 0 then 1 else if 10 - d.me < m ∨ 10 - d.te < t then 11 else 0
def learnD (m t : Int) (d : Dr) : Dr := { d with me := d.me + m, te := d.te + t }
def giveE (o v : Int) (d : Dr) : Int := if (0 ≤ o ∧ o ≤ mt) ∧ 0 ≤ v ∧ v ≤ 4 then if d.busy = 0 then 0 else 12 else 1
def giveD (o v : Int) (d : Dr) : Dr := { d with owner := o, div := v }
/-- A draft is changed: what is answered, and what is there then. -/
def chE (l : List Dr) (i : Int) (E : Dr → Int) : Int := match find l i with | none => 3 | some d => E d
def chL (l : List Dr) (i : Int) (E : Dr → Int) (D : Dr → Dr) : List Dr := match find l i with | none => l | some d => if E d = 0 then ins l (D d) else l
theorem ch_refused {l : List Dr} {i : Int} {E : Dr → Int} {D : Dr → Dr} (h : chE l i E ≠ 0) : chL l i E D = l := by
  unfold chE at h
  unfold chL
  cases hf : find l i with
  | none => rfl
  | some d =>
    rw [hf] at h
    exact if_neg h
theorem good_ch {l : List Dr} {z : Int} (h : Good l z) (i : Int) {E : Dr → Int} {D : Dr → Dr} (hD : ∀ d, Ok d → E d = 0 → Ok (D d) ∧ (D d).id = d.id) : Good (chL l i E D) z := by
  unfold chL
  cases hf : find l i with
  | none => exact h
  | some d =>
    show Good (if E d = 0 then ins l (D d) else l) z
    by_cases he : E d = 0
    · rw [if_pos he]
      have := hD d (h.ok d (find_mem hf).1).1 he
      exact good_change h hf this.2 this.1
    · rw [if_neg he]
      exact h
theorem use_ok {j r : Int} (d : Dr) (h : Ok d) (he : useE j r d = 0) : Ok (useD j r d) ∧ (useD j r d).id = d.id := by
  unfold useE at he
  by_cases h1 : MayUse j r
  · rw [if_pos h1] at he
    by_cases h2 : d.busy = 0
    · rw [if_pos h2] at he
      by_cases h3 : d.runs = -1 ∨ r ≤ d.runs
      · obtain ⟨⟨j1, j2⟩, r1, r2⟩ := h1
        refine ⟨⟨h.owner, h.div, h.place, h.blue, h.me, h.te, ?_, ⟨by show 0 ≤ j; omega, j2⟩⟩, rfl⟩
        show (if d.runs = -1 then -1 else d.runs - r) = -1 ∨ (0 ≤ (if d.runs = -1 then -1 else d.runs - r) ∧ (if d.runs = -1 then -1 else d.runs - r) ≤ 1000)
        have := h.runs
        split <;> omega
      · rw [if_neg h3] at he; cases he
    · rw [if_neg h2] at he; cases he
  · rw [if_neg h1] at he; cases he
theorem free_ok {j r : Int} (d : Dr) (h : Ok d) (he : freeE j r d = 0) : Ok (freeD j r d) ∧ (freeD j r d).id = d.id := by
  unfold freeE at he
  by_cases h1 : MayUse j r
  · rw [if_pos h1] at he
    by_cases h2 : d.busy = j
    · rw [if_pos h2] at he
      by_cases h3 : d.runs = -1 ∨ d.runs + r ≤ 1000
      · obtain ⟨⟨j1, j2⟩, r1, r2⟩ := h1
        refine ⟨⟨h.owner, h.div, h.place, h.blue, h.me, h.te, ?_, ⟨by show (0 : Int) ≤ 0; omega, by show (0 : Int) ≤ mt; decide⟩⟩, rfl⟩
        show (if d.runs = -1 then -1 else d.runs + r) = -1 ∨ (0 ≤ (if d.runs = -1 then -1 else d.runs + r) ∧ (if d.runs = -1 then -1 else d.runs + r) ≤ 1000)
        have := h.runs
        split <;> omega
      · rw [if_neg h3] at he; cases he
    · rw [if_neg h2] at he; cases he
  · rw [if_neg h1] at he; cases he
theorem learn_ok {m t : Int} (d : Dr) (h : Ok d) (he : learnE m t d = 0) : Ok (learnD m t d) ∧ (learnD m t d).id = d.id := by
  unfold learnE at he
  by_cases h1 : m < 0 ∨ t < 0
  · rw [if_pos h1] at he; cases he
  · rw [if_neg h1] at he
    by_cases h2 : 10 - d.me < m ∨ 10 - d.te < t
    · rw [if_pos h2] at he; cases he
    · have h3 := h.me
      have h4 := h.te
      exact ⟨⟨h.owner, h.div, h.place, h.blue, ⟨by show 0 ≤ d.me + m; omega, by show d.me + m ≤ 10; omega⟩, ⟨by show 0 ≤ d.te + t; omega, by show d.te + t ≤ 10; omega⟩, h.runs, h.busy⟩, rfl⟩
theorem give_ok {o v : Int} (d : Dr) (h : Ok d) (he : giveE o v d = 0) : Ok (giveD o v d) ∧ (giveD o v d).id = d.id := by
  unfold giveE at he
  by_cases h1 : (0 ≤ o ∧ o ≤ mt) ∧ 0 ≤ v ∧ v ≤ 4
  · exact ⟨⟨h1.1, h1.2, h.place, h.blue, h.me, h.te, h.runs, h.busy⟩, rfl⟩
  · rw [if_neg h1] at he; cases he
/-! Add, Copies -/
def addE (l : List Dr) (z : Int) (d : Dr) : Int := if Ok d ∧ d.busy = 0 then if l.length < 64 ∧ z + 1 < mt then 0 else 4 else 1
def addL (l : List Dr) (z : Int) (d : Dr) : List Dr := if addE l z d = 0 then l ++ [{ d with id := z + 1 }] else l
def addZ (l : List Dr) (z : Int) (d : Dr) : Int := if addE l z d = 0 then z + 1 else z
theorem ok_id {d : Dr} (h : Ok d) (i : Int) : Ok { d with id := i } := ⟨h.owner, h.div, h.place, h.blue, h.me, h.te, h.runs, h.busy⟩
theorem addE_zero {l : List Dr} {z : Int} {d : Dr} (h : addE l z d = 0) : (Ok d ∧ d.busy = 0) ∧ l.length < 64 ∧ z + 1 < mt := by
  unfold addE at h
  by_cases h1 : Ok d ∧ d.busy = 0
  · rw [if_pos h1] at h
    by_cases h2 : l.length < 64 ∧ z + 1 < mt
    · exact ⟨h1, h2⟩
    · rw [if_neg h2] at h; cases h
  · rw [if_neg h1] at h; cases h
theorem good_addL {l : List Dr} {z : Int} (h : Good l z) (d : Dr) : Good (addL l z d) (addZ l z d) := by
  unfold addL addZ
  by_cases he : addE l z d = 0
  · rw [if_pos he, if_pos he]
    obtain ⟨⟨h1, _⟩, h2, h3⟩ := addE_zero he
    exact (good_add h (d := { d with id := z + 1 }) rfl (ok_id h1 _) h2 h3).1
  · rw [if_neg he, if_neg he]
    exact h
/-- So many copies of a draft, one behind the other. -/
def more (d : Dr) : Nat → Int → List Dr
  | 0, _ => []
  | n + 1, z => { d with id := z + 1 } :: more d n (z + 1)
def copy (d : Dr) (r : Int) : Dr := { d with runs := r, busy := 0 }
def copE (l : List Dr) (z : Int) (i c r : Int) : Int := match find l i with
  | none => 3
  | some d => if (1 ≤ c ∧ c ≤ 10) ∧ 1 ≤ r ∧ r ≤ 1000 then if d.runs = -1 then if (l.length : Int) + c ≤ 64 ∧ z + c < mt then 0 else 4 else 9 else 1
def copL (l : List Dr) (z : Int) (i c r : Int) : List Dr := match find l i with
  | none => l
  | some d => if copE l z i c r = 0 then l ++ more (copy d r) c.toNat z else l
def copZ (l : List Dr) (z : Int) (i c r : Int) : Int := if copE l z i c r = 0 then z + c else z
theorem more_snoc (d : Dr) : ∀ (n : Nat) (z : Int), more d (n + 1) z = more d n z ++ [{ d with id := z + n + 1 }]
  | 0, z => by simp [more]
  | n + 1, z => by
    have ih := more_snoc d n (z + 1)
    show { d with id := z + 1 } :: more d (n + 1) (z + 1) = { d with id := z + 1 } :: more d n (z + 1) ++ _
    rw [ih]
    have : z + 1 + (n : Int) + 1 = z + ((n + 1 : Nat) : Int) + 1 := by omega
    rw [this]
    rfl
theorem more_length (d : Dr) : ∀ (n : Nat) (z : Int), (more d n z).length = n
  | 0, _ => rfl
  | n + 1, z => by simp [more, more_length d n]
theorem good_more {l : List Dr} {z : Int} (h : Good l z) {d : Dr} (hd : Ok d) : ∀ n : Nat, l.length + n ≤ 64 → z + n < mt → Good (l ++ more d n z) (z + n)
  | 0, _, _ => by simpa [more] using h
  | n + 1, h1, h2 => by
    have ih := good_more h hd n (by omega) (by omega)
    have := (good_add ih (d := { d with id := z + n + 1 }) rfl (ok_id hd _) (by rw [List.length_append, more_length]; omega) (by omega)).1
    rw [List.append_assoc, ← more_snoc] at this
    have e : z + (n : Int) + 1 = z + ((n + 1 : Nat) : Int) := by omega
    rw [e] at this
    exact this
theorem ok_copy {d : Dr} (h : Ok d) {r : Int} (h1 : 1 ≤ r) (h2 : r ≤ 1000) : Ok (copy d r) := ⟨h.owner, h.div, h.place, h.blue, h.me, h.te, .inr ⟨by show 0 ≤ r; omega, h2⟩, ⟨by show (0 : Int) ≤ 0; omega, by show (0 : Int) ≤ mt; decide⟩⟩
theorem copE_zero {l : List Dr} {z i c r : Int} (h : copE l z i c r = 0) : ∃ d, find l i = some d ∧ ((1 ≤ c ∧ c ≤ 10) ∧ 1 ≤ r ∧ r ≤ 1000) ∧ d.runs = -1 ∧ (l.length : Int) + c ≤ 64 ∧ z + c < mt := by
  unfold copE at h
  cases hf : find l i with
  | none => rw [hf] at h; cases h
  | some d =>
    rw [hf] at h
    have h' : (if (1 ≤ c ∧ c ≤ 10) ∧ 1 ≤ r ∧ r ≤ 1000 then if d.runs = -1 then if (l.length : Int) + c ≤ 64 ∧ z + c < mt then (0 : Int) else 4 else 9 else 1) = 0 := h
    by_cases h1 : (1 ≤ c ∧ c ≤ 10) ∧ 1 ≤ r ∧ r ≤ 1000
    · rw [if_pos h1] at h'
      by_cases h2 : d.runs = -1
      · rw [if_pos h2] at h'
        by_cases h3 : (l.length : Int) + c ≤ 64 ∧ z + c < mt
        · exact ⟨d, rfl, h1, h2, h3⟩
        · rw [if_neg h3] at h'; cases h'
      · rw [if_neg h2] at h'; cases h'
    · rw [if_neg h1] at h'; cases h'
theorem good_cop {l : List Dr} {z : Int} (h : Good l z) (i c r : Int) : Good (copL l z i c r) (copZ l z i c r) := by
  unfold copL copZ
  by_cases he : copE l z i c r = 0
  · obtain ⟨d, hf, h1, _, h3⟩ := copE_zero he
    rw [hf, if_pos he]
    show Good (if copE l z i c r = 0 then l ++ more (copy d r) c.toNat z else l) _
    rw [if_pos he]
    have hc : z + c = z + (c.toNat : Int) := by omega
    rw [hc]
    exact good_more h (ok_copy (h.ok d (find_mem hf).1).1 h1.2.1 h1.2.2) _ (by omega) (by omega)
  · rw [if_neg he]
    cases hf : find l i with
    | none => exact h
    | some d =>
      show Good (if copE l z i c r = 0 then _ else l) z
      rw [if_neg he]
      exact h
theorem cop_refused {l : List Dr} {z i c r : Int} (h : copE l z i c r ≠ 0) : copL l z i c r = l ∧ copZ l z i c r = z := by
  refine ⟨?_, if_neg h⟩
  unfold copL
  cases hf : find l i with
  | none => rfl
  | some d => exact if_neg h
/-! Load -/
def DrOk (out : List Dr) (z : Int) (d : Dr) : Prop := Ok d ∧ (1 ≤ d.id ∧ d.id ≤ z) ∧ find out d.id = none
instance (out : List Dr) (z : Int) (d : Dr) : Decidable (DrOk out z d) := by unfold DrOk; infer_instance
def ld (z : Int) : List Dr → List Dr → Option (List Dr)
  | out, [] => some out
  | out, d :: l => if DrOk out z d then ld z (ins out d) l else none
def loadE (l : List Dr) (next : Int) : Int := if (1 ≤ next ∧ next ≤ mt) ∧ l.length ≤ 64 then match ld (next - 1) [] l with | none => 1 | some _ => 0 else 1
def loadL (l : List Dr) (next : Int) : List Dr := (ld (next - 1) [] l).getD []
theorem ld_ok {z : Int} {out l : List Dr} {i : Nat} {a : Dr} (ha : l[i]? = some a) (h : DrOk out z a) : ld z out (l.drop i) = ld z (ins out a) (l.drop (i + 1)) := by
  obtain ⟨h1, h2⟩ := List.getElem?_eq_some_iff.1 ha
  rw [List.drop_eq_getElem_cons h1, h2]
  show (if _ then _ else _) = _
  rw [if_pos h]
theorem ld_no {z : Int} {out l : List Dr} {i : Nat} {a : Dr} (ha : l[i]? = some a) (h : ¬ DrOk out z a) : ld z out (l.drop i) = none := by
  obtain ⟨h1, h2⟩ := List.getElem?_eq_some_iff.1 ha
  rw [List.drop_eq_getElem_cons h1, h2]
  show (if _ then _ else _) = _
  rw [if_neg h]
end Go.Proofs.Ytfebaiefoonncaa.Draft
