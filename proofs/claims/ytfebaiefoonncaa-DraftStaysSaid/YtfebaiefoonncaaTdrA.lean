/- The program's table: what it is in memory (two slices, the first cells of a block of whatever type); its lists. -/
import Derived.Test.YtfebaiefoonncaaDraDr
import Derived.Test.YtfebaiefoonncaaTbB
namespace Go.Proofs.Ytfebaiefoonncaa.Tb.Dr
open Go.RowKit Go.Lib Draft

abbrev Pr := Tb.Pair Dr
abbrev vals (l : List Pr) : List Dr := l.map Pair.v
/-- The program's table at block Q: two lists that nobody writes over, and what else its struct holds; F: all that it is made of. -/
structure PTV (w : World) (Q : Nat) (F : Nat → Prop) (l : List Pr) (ks vs : Value) (rest : List Value) : Prop where
  head : ∃ T, w.heap[Q]? = some (.cells (ks :: vs :: rest).toArray T (0, 0))
  keys : OwnK w 0 ks (keys l)
  vals : OwnV w 0 vs (vals l)
  self : F Q
  kb : ∀ q, ks.ownBlock = some q → F q ∧ q ≠ Q
  vb : ∀ q, vs.ownBlock = some q → F q ∧ q ≠ Q
  lt : ∀ k, F k → k < w.heap.size
def PT (w : World) (Q : Nat) (F : Nat → Prop) (l : List Pr) (rest : List Value) : Prop := ∃ ks vs, PTV w Q F l ks vs rest
section
variable {w w' : World} {Q : Nat} {F : Nat → Prop} {l : List Pr} {ks vs : Value} {rest : List Value}
theorem PTV.keep (h : PTV w Q F l ks vs rest) (hsz : w.heap.size ≤ w'.heap.size) (hk : ∀ k, F k → w'.heap[k]? = w.heap[k]?) : PTV w' Q F l ks vs rest :=
  ⟨h.head.imp fun _ e => (hk Q h.self).trans e, own_same h.keys (fun q hq => hk q (h.kb q hq).1), own_same h.vals (fun q hq => hk q (h.vb q hq).1), h.self, h.kb, h.vb, fun k hf => Nat.lt_of_lt_of_le (h.lt k hf) hsz⟩
theorem PTV.under (h : PTV w Q F l ks vs rest) (hb : Below w.heap.size w w') : PTV w' Q F l ks vs rest :=
  h.keep hb.size (fun k hk => hb.block k (h.lt k hk))
theorem PT.keep (h : PT w Q F l rest) (hsz : w.heap.size ≤ w'.heap.size) (hk : ∀ k, F k → w'.heap[k]? = w.heap[k]?) : PT w' Q F l rest := by
  obtain ⟨ks, vs, h⟩ := h
  exact ⟨ks, vs, h.keep hsz hk⟩
theorem PT.lt (h : PT w Q F l rest) (k : Nat) (hk : F k) : k < w.heap.size := by
  obtain ⟨ks, vs, h⟩ := h
  exact h.lt k hk
theorem PT.under (h : PT w Q F l rest) (hb : Below w.heap.size w w') : PT w' Q F l rest := h.keep hb.size fun k hk => hb.block k (h.lt k hk)
theorem PT.self (h : PT w Q F l rest) : F Q := by
  obtain ⟨ks, vs, h⟩ := h
  exact h.self
/-- A table's two fields. -/
theorem PTV.cells (h : PTV w Q F l ks vs rest) : w.cell? ⟨Q, 0, none⟩ = some ks ∧ w.cell? ⟨Q, 1, none⟩ = some vs :=
  h.head.elim fun _ e => ⟨cell_block (j := 0) e (by simp), cell_block (j := 1) e (by simp)⟩
/-- .. and what else its struct holds. -/
theorem PT.more (h : PT w Q F l rest) (j : Nat) (v : Value) (hj : rest[j]? = some v) : w.cell? ⟨Q, j + 2, none⟩ = some v ∧ w.frozen? ⟨Q, j + 2, none⟩ = false := by
  obtain ⟨ks, vs, h⟩ := h
  obtain ⟨T, e⟩ := h.head
  exact ⟨cell_block (j := j + 2) e (by simpa using hj), free_block _ e⟩
/-- What else it holds is turned. -/
theorem PT.turn (h : PT w Q F l rest) (j : Nat) (v : Value) : PT (w.setCell ⟨Q, j + 2, none⟩ v) Q F l (rest.set j v) := by
  obtain ⟨ks, vs, h⟩ := h
  obtain ⟨T, e⟩ := h.head
  have hne : ∀ q, q ≠ Q → (w.setCell ⟨Q, j + 2, none⟩ v).heap[q]? = w.heap[q]? := fun q hq => Below.heap_setCell w ⟨Q, j + 2, none⟩ v q hq
  refine ⟨ks, vs, ⟨T, ?_⟩, own_same h.keys fun q hq => hne q (h.kb q hq).2, own_same h.vals fun q hq => hne q (h.vb q hq).2, h.self, h.kb, h.vb, fun k hk => by have := h.lt k hk; simpa [World.setCell] using this⟩
  have := heap_setCell_same w Q (j + 2) _ _ v e
  simpa using this
end
set_option maxRecDepth 100000 in
theorem lists_any {Q : Nat} {F : Nat → Prop} {l : List Pr} {ks vs : Value} {rest : List Value} (w : World) (h : PTV w Q F l ks vs rest) :
    Calls Try.prog 37 #[ptr Q] w fun e w' => e = .returned (.tuple #[ks, vs]) ∧ ∃ m, w.drewN m = w' := by
  obtain ⟨c0, c1⟩ := h.cells
  clear h
  go_enter Try.func37, Try.ntmps37
  go_wp2_with fail
  go_quiet (fail)
  go_wp2_with fail
  go_ret2
  exact ⟨rfl, _, rfl⟩
set_option maxRecDepth 100000 in
theorem lists_nil (w : World) :
    Calls Try.prog 37 #[.pointer none] w fun e w' => e = .returned (.tuple #[.slice none 0 0, .slice none 0 0]) ∧ w = w' := by
  go_enter Try.func37, Try.ntmps37
  go_wp2_with fail
  go_ret2
  exact ⟨rfl, rfl⟩
end Go.Proofs.Ytfebaiefoonncaa.Tb.Dr
