/- HeapSorts, walked. -/
import Derived.Test.YtfbdkafpfminlaaHeapImL
import Derived.Laws.BitsLemmas
namespace Go.Proofs.Ytfbdkafpfminlaa.Heap.Im
open Go.RowKit Go.Lib

def msk (z : Int) : Int := bits .and .i64 z 9223372036854775807
theorem msk_eq (n : Int) : msk n = n % 9223372036854775808 := by
  have h127 : (BitVec.ofInt 64 9223372036854775807).toNat = 2 ^ 63 - 1 := by decide
  have key : (BitVec.ofInt 64 n &&& BitVec.ofInt 64 9223372036854775807).toNat = (n % ((2 ^ 64 : Nat) : Int)).toNat % 2 ^ 63 := by
    rw [BitVec.toNat_and, BitVec.toNat_ofInt, h127, Nat.and_two_pow_sub_one_eq_mod]
  show IntKind.i64.wrap ((BitVec.ofInt 64 n &&& BitVec.ofInt 64 9223372036854775807).toNat : Nat) = n % 9223372036854775808
  rw [key, IntKind.wrap_i64]
  omega
theorem msk_in (n : Int) : 0 ≤ msk n ∧ msk n ≤ 9223372036854775807 := by rw [msk_eq]; omega
/-- The queue behind the first i numbers. -/
def qs (A : Nat → Int) : Nat → QS
  | 0 => ⟨[], 60, 1⟩
  | i + 1 => (ins (qs A i) (A i) (i : Nat)).1
structure QsIs (A : Nat → Int) (i : Nat) : Prop where
  good : Good (qs A i)
  next : (qs A i).next = (i : Int) + 1
  len : (qs A i).l.length = i
  most : (qs A i).most = 60
  mem : ∀ t ∈ (qs A i).l, ∃ k : Nat, k < i ∧ t = ⟨A k, (k : Int) + 1, k⟩
theorem ins_qs {A : Nat → Int} (hA : ∀ i, 0 ≤ A i) {i : Nat} (h : QsIs A i) (hi : i < 60) : ins (qs A i) (A i) (i : Nat) = (qs A (i + 1), (i : Int) + 1, 0) ∧ QsIs A (i + 1) := by
  have h0 := hA i
  have e : ins (qs A i) (A i) (i : Nat) = (⟨put (qs A i).l ⟨A i, (qs A i).next, (i : Nat)⟩, (qs A i).most, (qs A i).next + 1⟩, (qs A i).next, 0) := by
    unfold ins
    rw [if_neg (by omega), if_neg]
    rw [h.most, h.next, h.len]
    unfold mt
    omega
  have e2 : qs A (i + 1) = ⟨put (qs A i).l ⟨A i, (qs A i).next, (i : Nat)⟩, (qs A i).most, (qs A i).next + 1⟩ := by
    show (ins (qs A i) (A i) (i : Nat)).1 = _
    rw [e]
  refine ⟨by rw [e, e2, h.next], ?_, ?_, ?_, ?_, ?_⟩
  · exact good_ins h.good _ _
  · rw [e2]
    show (qs A i).next + 1 = _
    rw [h.next]
    omega
  · rw [e2]
    show (put _ _).length = _
    rw [length_put, h.len]
  · rw [e2]
    exact h.most
  · rw [e2]
    intro t ht
    rcases mem_put.1 ht with rfl | ht
    · exact ⟨i, by omega, by rw [h.next]⟩
    · obtain ⟨k, hk, e⟩ := h.mem t ht
      exact ⟨k, by omega, e⟩
theorem qs_zero (A : Nat → Int) : QsIs A 0 := ⟨good_new (by omega), rfl, rfl, rfl, fun t ht => by simp [qs] at ht⟩
/-- What is left behind i of n, the last one taken being u. -/
structure Left (A : Nat → Int) (n i : Nat) (q : QS) (u : Tm) : Prop where
  good : Good q
  len : q.l.length = n - i
  mem : ∀ t ∈ q.l, ∃ k : Nat, k < n ∧ t = ⟨A k, (k : Int) + 1, k⟩
  above : ∀ t ∈ q.l, ahead u t
theorem left_start {A : Nat → Int} (hA : ∀ i, 0 ≤ A i) {n : Nat} (h : QsIs A n) : Left A n 0 (qs A n) ⟨-1, 0, 0⟩ := ⟨h.good, by rw [h.len]; rfl, h.mem, fun t ht => by
  obtain ⟨k, _, rfl⟩ := h.mem t ht
  have := hA k
  exact .inl (by show (-1 : Int) < A k; omega)⟩
theorem left_pop {A : Nat → Int} (hA : ∀ i, A i ≤ 9223372036854775807) {n i : Nat} {q : QS} {u : Tm} (h : Left A n i q u) (hi : i < n) :
    ∃ (k : Nat) (q' : QS), k < n ∧ pop q 9223372036854775807 = (q', ⟨A k, (k : Int) + 1, k⟩, true) ∧ ahead u ⟨A k, (k : Int) + 1, k⟩ ∧ Left A n (i + 1) q' ⟨A k, (k : Int) + 1, k⟩ := by
  rcases hl : q.l with _ | ⟨t, r⟩
  · have := h.len
    rw [hl] at this
    simp at this
    omega
  · obtain ⟨k, hk, e⟩ := h.mem t (by rw [hl]; simp)
    have h1 := hA k
    have hp : pop q 9223372036854775807 = (⟨r, q.most, q.next⟩, t, true) := by
      unfold pop
      rw [hl]
      have : ¬ (9223372036854775807 : Int) < t.due := by rw [e]; show ¬ (9223372036854775807 : Int) < A k; omega
      simp [this]
    have hg := good_pop h.good 9223372036854775807
    rw [hp] at hg
    have hs := h.good.sorted
    unfold Sorted at hs
    rw [hl] at hs
    refine ⟨k, _, hk, by rw [hp, e], by rw [← e]; exact h.above t (by rw [hl]; simp), hg, ?_, fun x hx => h.mem x (by rw [hl]; simp [hx]), fun x hx => by rw [← e]; exact (List.pairwise_cons.1 hs).1 x hx⟩
    have := h.len
    rw [hl] at this
    simp at this
    show r.length = _
    omega
theorem left_end {A : Nat → Int} {n : Nat} {q : QS} {u : Tm} (h : Left A n n q u) : pop q 9223372036854775807 = (q, zeroTm, false) ∧ q.l.length = 0 := by
  have := h.len
  have hl : q.l = [] := List.eq_nil_of_length_eq_zero (by omega)
  exact ⟨by unfold pop; rw [hl], by rw [hl]; rfl⟩
/-- The queue of the call's own, and beside it, at block T, the timer that was last. -/
def L2 (w W : World) (Q T : Nat) (q : QS) (u : Tm) : Prop := ∃ F, HQ W Q F q ∧ Below w.heap.size w W ∧ (∀ k, F k → w.heap.size ≤ k) ∧ ¬ F T ∧ w.heap.size ≤ T ∧ W.heap[T]? = some (.cells u.cells 45 (0, 0))
theorem L2.start {w W : World} {Q : Nat} {q : QS} (h : FQ w W Q q) (u : Tm) : L2 w (W.alloc (.cells u.cells 45)) Q W.heap.size q u := by
  obtain ⟨F, h1, h2, h3⟩ := h
  exact ⟨F, h1.under ((Below.refl _ W).alloc (Nat.le_refl _) _), h2.alloc h2.size _, h3, fun e => by have := h1.lt _ e; omega, h2.size, heap_alloc_new W _⟩
theorem L2.under {w W W' : World} {Q T : Nat} {q : QS} {u : Tm} (h : L2 w W Q T q u) (hb : Below W.heap.size W W') : L2 w W' Q T q u := by
  obtain ⟨F, h1, h2, h3, h4, h5, h6⟩ := h
  exact ⟨F, h1.under hb, below_then h2 hb, h3, h4, h5, (hb.block T (Array.getElem?_eq_some_iff.1 h6).1).trans h6⟩
theorem L2.pop {w W : World} {Q T : Nat} {q : QS} {u : Tm} (now : Int) (h : L2 w W Q T q u) (hg : Good q) :
    Calls Try.prog 15 #[ptr Q, .int .i64 now] W fun e w' => e = .returned (firstV (pop q now).2) ∧ L2 w w' Q T (pop q now).1 u := by
  obtain ⟨F, h1, h2, h3, h4, h5, h6⟩ := h
  refine (pop_im now W h1 hg).mono ?_
  rintro e w' ⟨rfl, F', h7, h8⟩
  obtain ⟨h9, h10⟩ := h8.fresh h2 h3
  have hT := (Array.getElem?_eq_some_iff.1 h6).1
  refine ⟨rfl, F', h7, h9, h10, fun e => ?_, h5, (h8.block T hT h4).trans h6⟩
  rcases h8.grows T e with h11 | h11
  · exact h4 h11
  · omega
theorem L2.set {w W : World} {Q T : Nat} {q : QS} {u : Tm} (h : L2 w W Q T q u) (x : Tm) : L2 w (((W.setCell ⟨T, 0, none⟩ (.int .i64 x.due)).setCell ⟨T, 1, none⟩ (.int .i64 x.id)).setCell ⟨T, 2, none⟩ (.int .i64 x.what)) Q T q x := by
  obtain ⟨F, h1, h2, h3, h4, h5, h6⟩ := h
  have hg : W.grownBy (((W.setCell ⟨T, 0, none⟩ (.int .i64 x.due)).setCell ⟨T, 1, none⟩ (.int .i64 x.id)).setCell ⟨T, 2, none⟩ (.int .i64 x.what)) (some T) := only_setCell (only_setCell (only_setCell (only_refl W (some T)) _ _) _ _) _ _
  exact ⟨F, h1.keep (fun k hk => hg.block k (h1.lt k hk) (fun e => h4 (by rw [← Option.some.inj e]; exact hk))), below_of_only h2 h5 hg, h3, h4, h5, tm_set h6⟩
theorem L2.fq {w W : World} {Q T : Nat} {q : QS} {u : Tm} (h : L2 w W Q T q u) : FQ w W Q q := by
  obtain ⟨F, h1, h2, h3, _⟩ := h
  exact ⟨F, h1, h2, h3⟩
theorem L2.at_ {w W : World} {Q T : Nat} {q : QS} {u : Tm} (h : L2 w W Q T q u) : W.heap[T]? = some (.cells u.cells 45 (0, 0)) := by
  obtain ⟨F, h1, h2, h3, h4, h5, h6⟩ := h
  exact h6
end Go.Proofs.Ytfbdkafpfminlaa.Heap.Im
