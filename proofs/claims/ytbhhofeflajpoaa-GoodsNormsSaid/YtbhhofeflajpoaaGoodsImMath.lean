/- Counts as a map has them: what is handed out of it, and what is left; said without a program. -/
import Derived.Test.YtbhhofeflajpoaaGoodsC
import Derived.Test.YtbhhofeflajpoaaIntMaps
namespace Go.Proofs.Ytbhhofeflajpoaa.Goods.Im
open Go.RowKit Go.Lib

/-- How many there are of a type, 0 where it does not stand. -/
def at0 (q : Int → Option Int) (k : Int) : Int := (q k).getD 0
/-- What is counted: n more of a type. -/
def put (q : Int → Option Int) (k n : Int) : Int → Option Int := fun x => if x = k then some n else q x
theorem at0_put (q : Int → Option Int) (k n x : Int) : at0 (put q k n) x = if x = k then n else at0 q x := by
  unfold at0 put
  split <;> rfl
structure Good (q : Int → Option Int) : Prop where
  kind : ∀ k n, q k = some n → 1 ≤ k ∧ Ints.I64 k
  qty : ∀ k n, q k = some n → 0 ≤ n ∧ n ≤ mq
theorem good_none : Good fun _ => none := ⟨fun _ _ h => (by cases h), fun _ _ h => (by cases h)⟩
theorem Good.bound {q : Int → Option Int} (h : Good q) (k : Int) : 0 ≤ at0 q k ∧ at0 q k ≤ mq := by
  unfold at0
  cases hk : q k with
  | none => simp [mq]
  | some n => exact h.qty k n hk
theorem Good.more {q : Int → Option Int} (h : Good q) {k n : Int} (hk : 1 ≤ k) (hi : Ints.I64 k) (h0 : 0 ≤ n) (h1 : n ≤ mq) : Good (put q k n) := by
  refine ⟨fun x m hx => ?_, fun x m hx => ?_⟩
  · unfold put at hx
    split at hx
    · rename_i e
      rw [e]
      exact ⟨hk, hi⟩
    · exact h.kind x m hx
  · unfold put at hx
    split at hx
    · injection hx with e
      rw [← e]
      exact ⟨h0, h1⟩
    · exact h.qty x m hx
/-- What the map holds, as values. -/
abbrev mV (q : Int → Option Int) : Int → Option Value := fun k => (q k).map (Value.int .i64)
theorem mV_some {q : Int → Option Int} {k : Int} {v : Value} (h : mV q k = some v) : ∃ n, q k = some n ∧ v = .int .i64 n := by
  obtain ⟨n, h1, h2⟩ := Option.map_eq_some_iff.1 h
  exact ⟨n, h1, h2.symm⟩
theorem mV_isSome (q : Int → Option Int) (k : Int) : (mV q k).isSome = (q k).isSome := by simp [mV]
theorem mV_getD (q : Int → Option Int) (k : Int) : (mV q k).getD (.int .i64 0) = .int .i64 (at0 q k) := by
  unfold mV at0
  cases q k <;> rfl
theorem mV_put (q : Int → Option Int) (k n x : Int) : (if x = k then some (.int .i64 n) else mV q x) = mV (put q k n) x := by
  unfold mV put
  split <;> rfl
/-- The stacks that the range has handed out. -/
def gone (left : Int → Bool) (l : List St) : List St := l.filter fun s => !left s.kind
theorem gone_all {left : Int → Bool} (h : ∀ s, left s = false) (l : List St) : gone left l = l := List.filter_eq_self.2 (fun f _ => by simp [h])
theorem gone_none {left : Int → Bool} {l : List St} (h : ∀ s ∈ l, left s.kind = true) : gone left l = [] := List.filter_eq_nil_iff.2 (fun f hf => by simp [h f hf])
theorem gone_more {left : Int → Bool} {s : St} : ∀ {l : List St}, Rise l → s ∈ l → left s.kind = true → (gone (fun x => left x && !decide (x = s.kind)) l).Perm (s :: gone left l)
  | [], _, hf, _ => by cases hf
  | a :: l, hs, hf, hl => by
    obtain ⟨hr1, hr2⟩ := List.pairwise_cons.1 hs
    unfold gone
    rw [List.filter_cons, List.filter_cons]
    rcases List.mem_cons.1 hf with rfl | hfl
    · have h1 : (!(left s.kind && !decide (s.kind = s.kind))) = true := by simp
      have h2 : ¬ (!left s.kind) = true := by simp [hl]
      rw [if_pos h1, if_neg h2]
      have h3 : (l.filter fun g => !(left g.kind && !decide (g.kind = s.kind))) = l.filter fun g => !left g.kind := by
        refine List.filter_congr (fun g hg => ?_)
        have h4 : g.kind ≠ s.kind := by have := hr1 g hg; omega
        simp [h4]
      rw [h3]
    · have hne : a.kind ≠ s.kind := by have := hr1 s hfl; omega
      have ih := gone_more (left := left) hr2 hfl hl
      unfold gone at ih
      have h1 : (!(left a.kind && !decide (a.kind = s.kind))) = (!left a.kind) := by simp [hne]
      rw [h1]
      by_cases ha : (!left a.kind) = true
      · rw [if_pos ha, if_pos ha]
        exact (ih.cons a).trans (List.Perm.swap _ _ _)
      · rw [if_neg ha, if_neg ha]
        exact ih
/-- A type of which there is none changes nothing of what is handed out. -/
theorem gone_same {left : Int → Bool} {k : Int} {l : List St} (h : ∀ s ∈ l, s.kind ≠ k) : gone (fun x => left x && !decide (x = k)) l = gone left l := by
  unfold gone
  refine List.filter_congr (fun g hg => ?_)
  have := h g hg
  simp [this]
theorem tot_perm {l l' : List St} (h : l.Perm l') : tot l = tot l' := by
  induction h with
  | nil => rfl
  | cons a _ ih => simp only [tot, ih]
  | swap a b l => simp only [tot]; omega
  | trans _ _ h1 h2 => exact h1.trans h2
theorem gone_tot {left : Int → Bool} : ∀ {l : List St}, (∀ s ∈ l, 0 ≤ s.qty) → 0 ≤ tot (gone left l) ∧ tot (gone left l) ≤ tot l
  | [], _ => by simp [gone, tot]
  | a :: l, h => by
    have h0 := h a (by simp)
    have ih := gone_tot (left := left) (l := l) fun s hs => h s (by simp [hs])
    unfold gone at ih ⊢
    rw [List.filter_cons]
    split
    · simp only [tot]; omega
    · simp only [tot]; omega
/-- The normal stacks of counts. -/
structure Of (L : List St) (q : Int → Option Int) : Prop where
  norm : Norm L
  cnt : ∀ k, cnt L k = at0 q k
theorem Of.mem {L : List St} {q : Int → Option Int} (h : Of L q) {k n : Int} (hq : q k = some n) (hn : 0 < n) : (⟨k, n⟩ : St) ∈ L := by
  have h1 := h.cnt k
  unfold at0 at h1
  rw [hq] at h1
  by_cases hex : ∃ s ∈ L, s.kind = k
  · obtain ⟨s, hs, hk⟩ := hex
    have h2 := cnt_at h.norm.rise hs
    rw [hk, h1] at h2
    have h3 : n = s.qty := h2
    cases s
    simp only at hk h3
    rw [← hk, h3]
    simpa [hk] using hs
  · have h2 := cnt_none (l := L) (k := k) fun s hs e => hex ⟨s, hs, e⟩
    rw [h1] at h2
    have h3 : n = 0 := h2
    omega
theorem Of.not {L : List St} {q : Int → Option Int} (h : Of L q) {k : Int} (hq : at0 q k = 0) : ∀ s ∈ L, s.kind ≠ k := fun s hs e => by
  have h1 := cnt_at h.norm.rise hs
  have h2 := h.norm.qty s hs
  rw [e, h.cnt k, hq] at h1
  omega
theorem Of.left {L : List St} {q : Int → Option Int} (h : Of L q) : ∀ s ∈ L, (mV q s.kind).isSome = true := fun s hs => by
  rw [mV_isSome]
  have h1 := cnt_at h.norm.rise hs
  have h2 := h.norm.qty s hs
  rw [h.cnt s.kind] at h1
  unfold at0 at h1
  cases hq : q s.kind with
  | none => rw [hq] at h1; simp at h1; omega
  | some n => rfl
/-- A type and how many there are, handed out. -/
theorem Of.step {L : List St} {q : Int → Option Int} (h : Of L q) {k n : Int} (hq : q k = some n) (h0 : 0 ≤ n) {left : Int → Bool} (hl : left k = true) :
    if 0 < n then (gone (fun x => left x && !decide (x = k)) L).Perm (⟨k, n⟩ :: gone left L) else gone (fun x => left x && !decide (x = k)) L = gone left L := by
  split
  · rename_i hn
    exact gone_more (s := ⟨k, n⟩) h.norm.rise (h.mem hq hn) hl
  · rename_i hn
    refine gone_same (h.not ?_)
    unfold at0
    rw [hq]
    show n = 0
    omega
theorem Of.step_tot {L : List St} {q : Int → Option Int} (h : Of L q) {k n : Int} (hq : q k = some n) (h0 : 0 ≤ n) {left : Int → Bool} (hl : left k = true) :
    tot (gone (fun x => left x && !decide (x = k)) L) = tot (gone left L) + n := by
  have h1 := h.step hq h0 hl
  split at h1
  · rw [tot_perm h1, tot]
    show n + _ = _
    omega
  · rw [h1]
    omega
theorem rise_kinds {L : List St} (h : Rise L) : (L.map St.kind).Pairwise fun a b => a < b := by
  rw [List.pairwise_map]
  exact h
end Go.Proofs.Ytbhhofeflajpoaa.Goods.Im
