/- A slice cut with its bound and grown: its run as an equation, and the row that comes of it. -/
import Derived.Test.YtfebaiefoonncaaAppend
import Derived.Lib.AppendZerosOnto
import Derived.Laws.OwnMore
namespace Go.Proofs.Ytfebaiefoonncaa
open Go.RowKit Go.Lib

theorem addr_block (a : Addr) (n : Nat) : (a.add n).block = a.block := by unfold Addr.add; split <;> rfl
section
variable {P : Program} {t tn e : TypeId} {i : TypeInfo}
/-- x[:k:k] -/
theorem run_take_bound (W : World) (he : P.elem t = e) (ht : P.underlying t = some (.slice (P.elem t))) (hi : P.info? e = some i) (a : Option Addr) (n c k : Nat) (ha : a = none ∨ ∃ g, a = some ⟨g, 0, none⟩) (hk : k ≤ c) :
    (Instr.slice t (.slice a n c) none (some (.int .i64 (k : Int))) (some (.int .i64 (k : Int)))).run P W = .ok (.slice a k k) W := by
  rw [run_slice_hm (P := P) W t a n c ht .i64 .i64 (k : Int) (k : Int) (by omega) (by omega) (by omega), he]
  rcases ha with rfl | ⟨g, rfl⟩
  · simp [sizeOf, typeInfo, hi, sliced, Result.andThen]
  · simp [sizeOf, typeInfo, hi, sliced, Result.andThen, Addr.add]
/-- x[j:k:k] -/
theorem run_part_bound (W : World) (he : P.elem t = e) (ht : P.underlying t = some (.slice (P.elem t))) (hi : P.info? e = some i) {size : Nat} (hs : i.size = size) (a : Option Addr) (n c j k : Nat) (hjk : j ≤ k) (hk : k ≤ c) :
    (Instr.slice t (.slice a n c) (some (.int .i64 (j : Int))) (some (.int .i64 (k : Int))) (some (.int .i64 (k : Int)))).run P W = .ok (.slice (if k = j then a else a.map (·.add (j * size))) (k - j) (k - j)) W := by
  rw [run_slice_lhm (P := P) W t a n c ht .i64 .i64 .i64 (j : Int) (k : Int) (k : Int) (by omega) (by omega) (by omega) (by omega), he]
  simp [sizeOf, typeInfo, hi, hs, sliced, Result.andThen]
/-- append(x, make([]E, n)...) where x has no room: a row that begins with what x holds. -/
theorem app_zeros (w : World) {z : Value} {size bytes : Nat} {kn : IntKind} (ht : P.underlying t = some (.slice e)) (htn : P.underlying tn = some (.int kn)) (hi : P.info? e = some i) (hz : i.zero = some z) (hsize : i.size = size) (hby : i.bytes = bytes) (hzs : z.cells.size = size) (hsz : 0 < size) (hb40 : bytes ≤ 200)
    (a : Option Addr) (m : Nat) (olds : List Value) (hl : olds.length = m * size) (hsrc : ∀ j u, olds[j]? = some u → ∃ ad, a = some ad ∧ w.cell? (ad.add j) = some u) (n : Nat) (hn : 0 < n) (hb : m + n ≤ 1048576) :
    ∃ G W', m + n ≤ G ∧ (∀ ty, (Builtin.append_ #[t, tn] ty #[.slice a m m, .int .i64 (n : Nat)]).run P w = .ok (.slice (some ⟨w.heap.size, 0, none⟩) (m + n) G) W') ∧ W'.ownsRow w.heap.size e size (.slice (some ⟨w.heap.size, 0, none⟩) m G) m olds ∧ Below w.heap.size w W' := by
  subst hsize; subst hby
  have hold : (Builtin.firstCells i.size m (.slice a m m)).run P w.drew = .ok olds.toArray w.drew := by
    cases a with
    | none =>
      have h0 : olds = [] := by
        cases olds with
        | nil => rfl
        | cons u r =>
          obtain ⟨ad, e1, _⟩ := hsrc 0 u rfl
          cases e1
      rw [h0]
      exact run_firstCells_none w.drew _ _ _ _
    | some ad =>
      exact run_firstCells_some w.drew i.size m ad m m olds hl (fun j v hj => by
        obtain ⟨ad', e1, h⟩ := hsrc j v hj
        cases e1
        exact h)
  have hG := grownCap_ge w (m + n) m e
  have hGm := grownCap_le_maxLen w (m + n) m e (by unfold maxLen; omega)
  have hbb : (m + n) * i.bytes ≤ 209715200 := by
    have h1 : (m + n) * i.bytes ≤ (m + n) * 200 := Nat.mul_le_mul_left _ hb40
    omega
  have hbn : n * i.bytes ≤ 209715200 := by
    have h1 : n * i.bytes ≤ n * 200 := Nat.mul_le_mul_left _ hb40
    omega
  refine ⟨grownCap w (m + n) m e, _, hG, fun ty => Lib.run_append_grow_zeros (P := P) w t tn ty e i z .i64 kn ht htn hi hz a m m olds hold n hn hsz (by omega) (by omega) (by omega) (growslice_fits (by omega) (by omega)), ?_, ?_⟩
  · refine ⟨hl, .inr ⟨w.heap.size, _, _, rfl, Nat.le_refl _, by rw [show w.heap.size = w.drew.heap.size from rfl]; exact heap_alloc_new _ _, by omega, hGm, ?_, ?_⟩⟩
    · rw [Array.size_append, Array.size_append, size_zeroCells, size_zeroCells, hzs, List.size_toArray, hl, ← Nat.add_mul, ← Nat.add_mul]
      congr 1
      omega
    · rw [Array.append_assoc, Array.toList_append, List.toList_toArray, ← hl]
      exact List.take_left
  · exact (Below.refl _ w).drew.alloc (Nat.le_refl _) _
end
end Go.Proofs.Ytfebaiefoonncaa
