/- What Norm answers, in one word; the document's Size, Count, both, Add. -/
import Derived.Test.YtghlgmlelipjfaaGoodsB
namespace Go.Proofs.Ytghlgmlelipjfaa.Goods
open Go.RowKit Go.Lib

open Classical in
/-- The error that Norm tells. -/
noncomputable def errN (l : List St) : Int := if Fine l then (if Over l then 5 else 0) else 1
open Classical in
noncomputable def valN (l : List St) : List St := if errN l = 0 then nl l else []
theorem errN_bad {l : List St} (h : ¬ Fine l) : errN l = 1 := by unfold errN; rw [if_neg h]
theorem errN_over {l : List St} (h : Fine l) (h2 : Over l) : errN l = 5 := by unfold errN; rw [if_pos h, if_pos h2]
theorem errN_ok {l : List St} (h : Fine l) (h2 : ¬ Over l) : errN l = 0 := by unfold errN; rw [if_pos h, if_neg h2]
theorem valN_none {l : List St} (h : errN l ≠ 0) : valN l = [] := by unfold valN; rw [if_neg h]
theorem valN_ok {l : List St} (h : errN l = 0) : valN l = nl l := by unfold valN; rw [if_pos h]
theorem errN_zero {l : List St} (h : errN l = 0) : Fine l ∧ ¬ Over l := by
  unfold errN at h
  split at h
  · rename_i h1
    split at h
    · omega
    · rename_i h2
      exact ⟨h1, h2⟩
  · omega
theorem len_addS (s : St) : ∀ m : List St, (addS s m).length ≤ m.length + 1
  | [] => by unfold addS; split <;> simp
  | y :: m => by
    have ihm := len_addS s m
    unfold addS
    split
    · split <;> simp
    · split
      · simp
      · simp; omega
theorem len_nl : ∀ l : List St, (nl l).length ≤ l.length
  | [] => by simp [nl]
  | x :: l => by
    have h1 := len_addS x (nl l)
    have h2 := len_nl l
    simp [nl]
    omega
theorem len_valN (l : List St) : (valN l).length ≤ l.length := by
  unfold valN
  split
  · exact len_nl l
  · simp
theorem norm_valN (l : List St) : Norm (valN l) := by
  unfold valN
  split
  · rename_i h
    exact norm_nl (errN_zero h).1
  · exact ⟨.nil, fun _ h => by simp at h, fun _ h => by simp at h⟩
theorem valN_le (l : List St) : ∀ s ∈ valN l, s.qty ≤ mq := by
  unfold valN
  split
  · rename_i h
    obtain ⟨h1, h2⟩ := errN_zero h
    intro s hs
    have h3 := cnt_at (norm_nl h1).rise hs
    rw [cnt_nl] at h3
    have h4 : ¬ mq < cnt l s.kind := fun e => h2 ⟨s.kind, e⟩
    omega
  · intro s hs
    simp at hs
theorem tot_le : ∀ {l : List St}, (∀ s ∈ l, 0 ≤ s.qty ∧ s.qty ≤ mq) → 0 ≤ tot l ∧ tot l ≤ l.length * mq
  | [], _ => by simp [tot]
  | s :: l, h => by
    have h1 := h s (by simp)
    have h2 := tot_le fun x hx => h x (List.mem_cons_of_mem _ hx)
    rw [tot, List.length_cons]
    unfold mq at *
    constructor
    · omega
    · push_cast
      omega
theorem tot_take_succ {l : List St} {i : Nat} {t : St} (h : l[i]? = some t) : tot (l.take (i + 1)) = tot (l.take i) + t.qty := by
  rw [List.take_add_one, h, tot_append]
  simp [tot]
/-- The stacks of a row, wherever it lies. -/
theorem sts_at {w : World} {a : Option Addr} {l : List St} (h : Sts w a l) : Hid (∀ W i, Below w.heap.size w W → i < l.length → ∃ g off t, a = some ⟨g, off, none⟩ ∧ Hid (l[i]? = some t) ∧ W.cell? ⟨g, off + i * 2, none⟩ = some (.int .i64 t.kind) ∧ W.cell? ⟨g, off + i * 2 + 1, none⟩ = some (.int .i64 t.qty)) := Lib.hid (fun W i hW hi => by
  obtain ⟨t, ht⟩ := nth_at hi
  obtain ⟨g, off, e, _, k0, k1⟩ := (h.under hW) i t ht
  exact ⟨g, off, t, e, Lib.hid ht, k0, k1⟩)
theorem dnorm2 (a : Option Addr) (n c : Nat) (l : List St) (w : World) (hl : l.length = n) (hs : Sts w a l) (hn : n ≤ 4096) :
    Calls Try.prog 56 #[.slice a n c] w fun e w' => ∃ a' m c', e = .returned (.tuple #[.slice a' m c', .int .i64 (errN l)]) ∧ (errN l ≠ 0 → a' = none ∧ m = 0 ∧ c' = 0) ∧ Hid ((valN l).length = m ∧ Sts w' a' (valN l) ∧ OwnS w' w.heap.size (.slice a' m c') (valN l) ∧ Below w.heap.size w w') := by
  refine (dnorm a n c l w hl hs hn).mono ?_
  rintro e w' ⟨hb, h | h | h⟩
  · obtain ⟨h1, rfl⟩ := h
    have he := errN_bad h1
    have hv := valN_none (by rw [he]; decide : errN l ≠ 0)
    rw [he, hv]
    exact ⟨none, 0, 0, rfl, fun _ => ⟨rfl, rfl, rfl⟩, Lib.hid ⟨rfl, fun i t hi => by simp at hi, World.ownsRow_nil _ _ _ _, hb⟩⟩
  · obtain ⟨h1, h2, rfl⟩ := h
    have he := errN_over h1 h2
    have hv := valN_none (by rw [he]; decide : errN l ≠ 0)
    rw [he, hv]
    exact ⟨none, 0, 0, rfl, fun _ => ⟨rfl, rfl, rfl⟩, Lib.hid ⟨rfl, fun i t hi => by simp at hi, World.ownsRow_nil _ _ _ _, hb⟩⟩
  · obtain ⟨h1, h2, v, rfl, ho⟩ := h
    have he := errN_ok h1 h2
    have hv := valN_ok he
    rw [he, hv]
    obtain ⟨a', c', rfl, hst⟩ := sts_own ho
    exact ⟨a', _, c', rfl, fun h => absurd rfl h, Lib.hid ⟨rfl, hst, ho, hb⟩⟩
end Go.Proofs.Ytghlgmlelipjfaa.Goods
