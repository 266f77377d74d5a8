/- Timers as they come: what the document's queue does, said without a program. -/
import Derived.WalkKit
import Derived.Test.YtfbdkafpfminlaaCommon
namespace Go.Proofs.Ytfbdkafpfminlaa.Heap

structure Tm where
  due : Int
  id : Int
  what : Int
def zeroTm : Tm := ⟨0, 0, 0⟩
def ahead (a b : Tm) : Prop := a.due < b.due ∨ (a.due = b.due ∧ a.id < b.id)
instance (a b : Tm) : Decidable (ahead a b) := by unfold ahead; infer_instance
/-- How many at the front come ahead of t. -/
def putK (t : Tm) : List Tm → Nat
  | [] => 0
  | x :: l => if ahead x t then putK t l + 1 else 0
def put (l : List Tm) (t : Tm) : List Tm := l.take (putK t l) ++ t :: l.drop (putK t l)
/-- Where a number stands; the length: nowhere. -/
def findK (id : Int) : List Tm → Nat
  | [] => 0
  | x :: l => if x.id = id then 0 else findK id l + 1
def findV (l : List Tm) (id : Int) : Int := if findK id l < l.length then (findK id l : Int) else -1
def nthT (l : List Tm) (n : Nat) : Tm := l.getD n zeroTm
def cut (l : List Tm) (k : Nat) : List Tm := l.take k ++ l.drop (k + 1)
theorem ahead_trans {a b c : Tm} (h : ahead a b) (k : ahead b c) : ahead a c := by unfold ahead at *; omega
theorem ahead_total (a b : Tm) (h : a.id ≠ b.id) : ahead a b ∨ ahead b a := by unfold ahead; omega
theorem ahead_irrefl (a : Tm) : ¬ ahead a a := by unfold ahead; omega
theorem putK_le (t : Tm) : ∀ l : List Tm, putK t l ≤ l.length
  | [] => Nat.le_refl _
  | x :: l => by
    have := putK_le t l
    unfold putK
    split
    · simp; omega
    · simp
theorem putK_of (t : Tm) : ∀ (l : List Tm) (i : Nat), i ≤ l.length → (∀ j x, j < i → l[j]? = some x → ahead x t) → (∀ x, l[i]? = some x → ¬ ahead x t) → putK t l = i
  | [], i, h, _, _ => by
    have : i = 0 := by simpa using h
    rw [this]; rfl
  | x :: l, 0, _, _, h2 => by
    have := h2 x rfl
    unfold putK
    rw [if_neg this]
  | x :: l, i + 1, h, h1, h2 => by
    have h3 := h1 0 x (by omega) rfl
    unfold putK
    rw [if_pos h3, putK_of t l i (by simpa using h) (fun j y hj hy => h1 (j + 1) y (by omega) (by simpa using hy)) (fun y hy => h2 y (by simpa using hy))]
theorem findK_le (id : Int) : ∀ l : List Tm, findK id l ≤ l.length
  | [] => Nat.le_refl _
  | x :: l => by
    have := findK_le id l
    unfold findK
    split
    · simp
    · simp; omega
theorem findK_of (id : Int) : ∀ (l : List Tm) (i : Nat), i ≤ l.length → (∀ j x, j < i → l[j]? = some x → x.id ≠ id) → (∀ x, l[i]? = some x → x.id = id) → findK id l = i
  | [], i, h, _, _ => by
    have : i = 0 := by simpa using h
    rw [this]; rfl
  | x :: l, 0, _, _, h2 => by
    have := h2 x rfl
    unfold findK
    rw [if_pos this]
  | x :: l, i + 1, h, h1, h2 => by
    have h3 := h1 0 x (by omega) rfl
    unfold findK
    rw [if_neg h3, findK_of id l i (by simpa using h) (fun j y hj hy => h1 (j + 1) y (by omega) (by simpa using hy)) (fun y hy => h2 y (by simpa using hy))]
theorem findK_at (id : Int) : ∀ (l : List Tm), findK id l < l.length → ∃ x, l[findK id l]? = some x ∧ x.id = id
  | [], h => by simp [findK] at h
  | x :: l, h => by
    unfold findK at h ⊢
    by_cases hx : x.id = id
    · rw [if_pos hx]
      exact ⟨x, rfl, hx⟩
    · rw [if_neg hx] at h ⊢
      obtain ⟨y, h1, h2⟩ := findK_at id l (by simpa using h)
      exact ⟨y, by simpa using h1, h2⟩
theorem findK_none (id : Int) : ∀ (l : List Tm), findK id l = l.length ↔ ∀ x ∈ l, x.id ≠ id
  | [] => by simp [findK]
  | x :: l => by
    unfold findK
    by_cases hx : x.id = id
    · rw [if_pos hx]
      simp [hx]
    · rw [if_neg hx]
      have := findK_none id l
      simp [hx, this]
theorem length_put (l : List Tm) (t : Tm) : (put l t).length = l.length + 1 := by
  have := putK_le t l
  unfold put
  rw [List.length_append, List.length_cons, List.length_take, List.length_drop]
  omega
theorem length_cut {l : List Tm} {k : Nat} (h : k < l.length) : (cut l k).length + 1 = l.length := by
  unfold cut
  rw [List.length_append, List.length_take, List.length_drop]
  omega
theorem mem_put {l : List Tm} {t x : Tm} : x ∈ put l t ↔ x = t ∨ x ∈ l := by
  unfold put
  rw [List.mem_append, List.mem_cons]
  constructor
  · rintro (h | h | h)
    · exact .inr (List.mem_of_mem_take h)
    · exact .inl h
    · exact .inr (List.mem_of_mem_drop h)
  · rintro (h | h)
    · exact .inr (.inl h)
    · rw [← List.take_append_drop (putK t l) l] at h
      rcases List.mem_append.1 h with h | h
      · exact .inl h
      · exact .inr (.inr h)
theorem mem_cut {l : List Tm} {k : Nat} {x : Tm} (h : x ∈ cut l k) : x ∈ l := by
  unfold cut at h
  rcases List.mem_append.1 h with h | h
  · exact List.mem_of_mem_take h
  · exact List.mem_of_mem_drop h
def Sorted (l : List Tm) : Prop := l.Pairwise ahead
def Uniq (l : List Tm) : Prop := l.Pairwise fun a b => a.id ≠ b.id
theorem cut_sub (l : List Tm) (k : Nat) : (cut l k).Sublist l := by
  unfold cut
  rw [← List.eraseIdx_eq_take_drop_succ]
  exact List.eraseIdx_sublist _ _
theorem sorted_cut {l : List Tm} (h : Sorted l) (k : Nat) : Sorted (cut l k) := h.sublist (cut_sub l k)
theorem uniq_cut {l : List Tm} (h : Uniq l) (k : Nat) : Uniq (cut l k) := h.sublist (cut_sub l k)
theorem front_ahead (t : Tm) : ∀ (l : List Tm), ∀ x ∈ l.take (putK t l), ahead x t
  | [], x, h => by simp at h
  | y :: l, x, h => by
    unfold putK at h
    by_cases hy : ahead y t
    · rw [if_pos hy, List.take_succ_cons] at h
      rcases List.mem_cons.1 h with rfl | h
      · exact hy
      · exact front_ahead t l x h
    · rw [if_neg hy] at h
      simp at h
theorem back_behind (t : Tm) : ∀ (l : List Tm), Sorted l → (∀ x ∈ l, x.id ≠ t.id) → ∀ x ∈ l.drop (putK t l), ahead t x
  | [], _, _, x, h => by simp at h
  | y :: l, hs, hu, x, h => by
    obtain ⟨h1, h2⟩ := List.pairwise_cons.1 hs
    unfold putK at h
    by_cases hy : ahead y t
    · rw [if_pos hy, List.drop_succ_cons] at h
      exact back_behind t l h2 (fun z hz => hu z (List.mem_cons_of_mem _ hz)) x h
    · rw [if_neg hy, List.drop_zero] at h
      have h3 : ahead t y := by
        rcases ahead_total y t (hu y (by simp)) with h4 | h4
        · exact absurd h4 hy
        · exact h4
      rcases List.mem_cons.1 h with rfl | h
      · exact h3
      · exact ahead_trans h3 (h1 x h)
theorem sorted_put {l : List Tm} (h : Sorted l) (t : Tm) (hu : ∀ x ∈ l, x.id ≠ t.id) : Sorted (put l t) := by
  have hf := front_ahead t l
  have hb := back_behind t l h hu
  unfold put
  refine List.pairwise_append.2 ⟨h.sublist (List.take_sublist _ _), List.pairwise_cons.2 ⟨fun x hx => hb x hx, h.sublist (List.drop_sublist _ _)⟩, fun x hx y hy => ?_⟩
  rcases List.mem_cons.1 hy with rfl | hy
  · exact hf x hx
  · exact ahead_trans (hf x hx) (hb y hy)
theorem uniq_put {l : List Tm} (h : Uniq l) (t : Tm) (hu : ∀ x ∈ l, x.id ≠ t.id) : Uniq (put l t) := by
  unfold put
  refine List.pairwise_append.2 ⟨h.sublist (List.take_sublist _ _), List.pairwise_cons.2 ⟨fun x hx => (hu x (List.mem_of_mem_drop hx)).symm, h.sublist (List.drop_sublist _ _)⟩, fun x hx y hy => ?_⟩
  have hl : (l.take (putK t l) ++ l.drop (putK t l)).Pairwise fun a b => a.id ≠ b.id := by rw [List.take_append_drop]; exact h
  rcases List.mem_cons.1 hy with rfl | hy
  · exact hu x (List.mem_of_mem_take hx)
  · exact (List.pairwise_append.1 hl).2.2 x hx y hy
/-! The queue -/
structure QS where
  l : List Tm
  most : Int
  next : Int
def mt : Int := 1099511627776
structure Good (q : QS) : Prop where
  sorted : Sorted q.l
  uniq : Uniq q.l
  ids : ∀ t ∈ q.l, 1 ≤ t.id ∧ t.id < q.next
  dues : ∀ t ∈ q.l, 0 ≤ t.due
  most : 1 ≤ q.most ∧ q.most ≤ 1024
  len : (q.l.length : Int) ≤ q.most
  next : 1 ≤ q.next ∧ q.next ≤ mt
def ins (q : QS) (due what : Int) : QS × Int × Int :=
  if due < 0 then (q, 0, 1) else if q.most ≤ q.l.length ∨ q.next = mt then (q, 0, 4) else (⟨put q.l ⟨due, q.next, what⟩, q.most, q.next + 1⟩, q.next, 0)
def cancel (q : QS) (id : Int) : QS × Int := if findK id q.l < q.l.length then (⟨cut q.l (findK id q.l), q.most, q.next⟩, 0) else (q, 3)
def move (q : QS) (id due : Int) : QS × Int × Int :=
  if findK id q.l < q.l.length then (if due < 0 then (q, 0, 1) else if q.next = mt then (q, 0, 4) else
    (⟨put (cut q.l (findK id q.l)) ⟨due, q.next, (nthT q.l (findK id q.l)).what⟩, q.most, q.next + 1⟩, q.next, 0)) else (q, 0, 3)
def pop (q : QS) (now : Int) : QS × Tm × Bool := match q.l with
  | [] => (q, zeroTm, false)
  | t :: r => if now < t.due then (q, zeroTm, false) else (⟨r, q.most, q.next⟩, t, true)
def get (q : QS) (id : Int) : Tm × Bool := if findK id q.l < q.l.length then (nthT q.l (findK id q.l), true) else (zeroTm, false)
def first (q : QS) : Tm × Bool := match q.l with
  | [] => (zeroTm, false)
  | t :: _ => (t, true)
theorem good_ins {q : QS} (h : Good q) (due what : Int) : Good (ins q due what).1 := by
  unfold ins
  split
  · exact h
  · split
    · exact h
    · rename_i h1 h2
      have h3 : ∀ x ∈ q.l, x.id ≠ q.next := fun x hx e => by have := (h.ids x hx).2; omega
      have h4 : ¬ q.next = mt := fun e => h2 (.inr e)
      refine ⟨sorted_put h.sorted _ h3, uniq_put h.uniq _ h3, fun t ht => ?_, fun t ht => ?_, h.most, ?_, ⟨by have := h.next.1; show 1 ≤ q.next + 1; omega, by have := h.next.2; show q.next + 1 ≤ mt; omega⟩⟩
      · rcases mem_put.1 ht with rfl | ht
        · exact ⟨h.next.1, by show q.next < q.next + 1; omega⟩
        · have := h.ids t ht
          exact ⟨this.1, by show t.id < q.next + 1; omega⟩
      · rcases mem_put.1 ht with rfl | ht
        · show 0 ≤ due; omega
        · exact h.dues t ht
      · show ((put q.l _).length : Int) ≤ q.most
        rw [length_put]
        have : ¬ q.most ≤ q.l.length := fun e => h2 (.inl e)
        omega
theorem good_cut {q : QS} (h : Good q) (k : Nat) : Good ⟨cut q.l k, q.most, q.next⟩ :=
  ⟨sorted_cut h.sorted k, uniq_cut h.uniq k, fun t ht => h.ids t (mem_cut ht), fun t ht => h.dues t (mem_cut ht), h.most, by
    have h1 := (cut_sub q.l k).length_le
    have := h.len
    show ((cut q.l k).length : Int) ≤ q.most
    omega, h.next⟩
theorem good_cancel {q : QS} (h : Good q) (id : Int) : Good (cancel q id).1 := by
  unfold cancel
  split
  · exact good_cut h _
  · exact h
theorem good_move {q : QS} (h : Good q) (id due : Int) : Good (move q id due).1 := by
  unfold move
  split
  · rename_i hf
    split
    · exact h
    · split
      · exact h
      · rename_i h1 h4
        have hc := good_cut h (findK id q.l)
        have h3 : ∀ x ∈ cut q.l (findK id q.l), x.id ≠ q.next := fun x hx e => by have := (hc.ids x hx).2; simp only at this; omega
        refine ⟨sorted_put hc.sorted _ h3, uniq_put hc.uniq _ h3, fun t ht => ?_, fun t ht => ?_, h.most, ?_, ⟨by have := h.next.1; show 1 ≤ q.next + 1; omega, by have := h.next.2; show q.next + 1 ≤ mt; omega⟩⟩
        · rcases mem_put.1 ht with rfl | ht
          · exact ⟨h.next.1, by show q.next < q.next + 1; omega⟩
          · have := hc.ids t ht
            exact ⟨this.1, by show t.id < q.next + 1; have h5 := this.2; simp only at h5; omega⟩
        · rcases mem_put.1 ht with rfl | ht
          · show 0 ≤ due; omega
          · exact hc.dues t ht
        · show ((put (cut q.l _) _).length : Int) ≤ q.most
          rw [length_put]
          have := length_cut hf
          have := h.len
          omega
  · exact h
theorem good_pop {q : QS} (h : Good q) (now : Int) : Good (pop q now).1 := by
  unfold pop
  split
  · exact h
  · rename_i t r hl
    split
    · exact h
    · have hc := good_cut h 0
      have : cut q.l 0 = r := by rw [hl]; rfl
      rw [this] at hc
      exact hc
end Go.Proofs.Ytfbdkafpfminlaa.Heap
