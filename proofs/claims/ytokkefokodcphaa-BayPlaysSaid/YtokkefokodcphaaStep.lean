/- A call that turns only what belongs to a thing, and makes new blocks. -/
import Derived.Test.YtokkefokodcphaaCommon
namespace Go.Proofs.Ytokkefokodcphaa
open Go.RowKit Go.Lib

/-- What stands of a world behind a call: all but what lies in F, and F grows by new blocks alone. -/
structure StepF (w w' : World) (F F' : Nat → Prop) : Prop where
  os : w'.os = w.os
  tape : w'.tape = w.tape
  output : w'.output = w.output
  size : w.heap.size ≤ w'.heap.size
  block : ∀ k, k < w.heap.size → ¬ F k → w'.heap[k]? = w.heap[k]?
  grows : ∀ k, F' k → F k ∨ w.heap.size ≤ k
theorem StepF.refl (w : World) (F : Nat → Prop) : StepF w w F F := ⟨rfl, rfl, rfl, Nat.le_refl _, fun _ _ _ => rfl, fun _ h => .inl h⟩
theorem StepF.trans {w w1 w2 : World} {F F1 F2 : Nat → Prop} (h : StepF w w1 F F1) (k : StepF w1 w2 F1 F2) : StepF w w2 F F2 := by
  refine ⟨k.os.trans h.os, k.tape.trans h.tape, k.output.trans h.output, Nat.le_trans h.size k.size, fun i hi hF => ?_, fun i hi => ?_⟩
  · rw [k.block i (Nat.lt_of_lt_of_le hi h.size) (fun h1 => by rcases h.grows i h1 with h2 | h2; · exact hF h2
                                                               · omega), h.block i hi hF]
  · rcases k.grows i hi with h1 | h1
    · exact h.grows i h1
    · exact .inr (Nat.le_trans h.size h1)
theorem StepF.below {w w' : World} (F : Nat → Prop) (h : Below w.heap.size w w') : StepF w w' F F := ⟨h.os, h.tape, h.output, h.size, fun i hi _ => h.block i hi, fun _ h => .inl h⟩
/-- A call on what is new leaves alone what was there. -/
theorem StepF.fresh {W w w' : World} {F F' : Nat → Prop} (hb : Below W.heap.size W w) (h : StepF w w' F F') (hF : ∀ k, F k → W.heap.size ≤ k) : Below W.heap.size W w' ∧ ∀ k, F' k → W.heap.size ≤ k :=
  ⟨⟨h.os.trans hb.os, h.tape.trans hb.tape, h.output.trans hb.output, Nat.le_trans hb.size h.size, fun i hi => (h.block i (Nat.lt_of_lt_of_le hi hb.size) (fun h1 => by have := hF i h1; omega)).trans (hb.block i hi)⟩,
    fun k hk => by rcases h.grows k hk with h1 | h1; · exact hF k h1
                   · exact Nat.le_trans hb.size h1⟩
theorem step_own {w w' : World} {F F' : Nat → Prop} {base : Nat} {e : TypeId} {size n : Nat} {v : Value} {xs : List Value} (h : w.ownsRow base e size v n xs) (hs : StepF w w' F F') (hn : ∀ q, v.ownBlock = some q → ¬ F q) : w'.ownsRow base e size v n xs := by
  refine ⟨h.1, ?_⟩
  rcases h.2 with h1 | ⟨g, cap, cur, hv, h1, h2, h3⟩
  · exact .inl h1
  · exact .inr ⟨g, cap, cur, hv, h1, (hs.block g (Array.getElem?_eq_some_iff.1 h2).1 (hn g (by rw [hv]; rfl))).trans h2, h3⟩
end Go.Proofs.Ytokkefokodcphaa
