/- What the laws ask of the program's table, said once; the laws' acts. -/
import Derived.Test.YtighjiiaplihjaaTabC
import Derived.Test.YtighjiiaplihjaaTabF
import Derived.Test.YtighjiiaplihjaaStep
namespace Go.Proofs.Ytighjiiaplihjaa.Tab
open Go.RowKit Go.Lib

def nthP (l : List Pair) (n : Nat) : Pair := l.getD n ⟨zeroKey, 0⟩
def valueAt (l : List Pair) (k : Key) : Int := if has l k then (nthP l (place l k)).v else 0
abbrev ptr (Q : Nat) : Value := .pointer (some ⟨Q, 0, none⟩)
abbrev atV (l : List Pair) (i : Int) : Value := if 0 ≤ i ∧ i < l.length then .tuple #[kV (nthP l i.toNat).k, .int .i64 (nthP l i.toNat).v, .bool true] else .tuple #[kV zeroKey, .int .i64 0, .bool false]
/-- The program's zero table, its cells. -/
abbrev zeroT : Array Value := #[.slice none 0 0, .slice none 0 0]
/-- A table of the program's: where it lies, what it holds, and what its calls do. -/
structure Impl where
  PT : World → Nat → (Nat → Prop) → List Pair → Prop
  lt : ∀ {w Q F l}, PT w Q F l → ∀ k, F k → k < w.heap.size
  keep : ∀ {w w' : World} {Q F l}, PT w Q F l → w.heap.size ≤ w'.heap.size → (∀ k, F k → w'.heap[k]? = w.heap[k]?) → PT w' Q F l
  put : ∀ (Q : Nat) (F : Nat → Prop) (l : List Pair) (k : Key) (x : Int) (w : World), PT w Q F l → Rising l → l.length ≤ 1000 →
    Calls Try.prog 22 #[ptr Q, kV k, .int .i64 x] w fun e w' => e = .returned (.bool (!has l k)) ∧ ∃ F', PT w' Q F' (put l k x) ∧ StepF w w' F F'
  del : ∀ (Q : Nat) (F : Nat → Prop) (l : List Pair) (k : Key) (w : World), PT w Q F l → Rising l → l.length ≤ 1000 →
    Calls Try.prog 21 #[ptr Q, kV k] w fun e w' => e = .returned (.bool (has l k)) ∧ ∃ F', PT w' Q F' (del l k) ∧ StepF w w' F F'
  get : ∀ (Q : Nat) (F : Nat → Prop) (l : List Pair) (k : Key) (w : World), PT w Q F l → Rising l → l.length ≤ 1000 →
    Calls Try.prog 25 #[ptr Q, kV k] w fun e w' => e = .returned (.tuple #[.int .i64 (valueAt l k), .bool (has l k)]) ∧ Below w.heap.size w w'
  place : ∀ (Q : Nat) (F : Nat → Prop) (l : List Pair) (k : Key) (w : World), PT w Q F l → Rising l → l.length ≤ 1000 →
    Calls Try.prog 26 #[ptr Q, kV k] w fun e w' => e = .returned (placeV l k) ∧ Below w.heap.size w w'
  len : ∀ (Q : Nat) (F : Nat → Prop) (l : List Pair) (w : World), PT w Q F l → Rising l → l.length ≤ 1000 →
    Calls Try.prog 24 #[ptr Q] w fun e w' => e = .returned (.int .i64 (l.length : Nat)) ∧ Below w.heap.size w w'
  at' : ∀ (Q : Nat) (F : Nat → Prop) (l : List Pair) (i : Int) (w : World), PT w Q F l → Rising l → l.length ≤ 1000 →
    Calls Try.prog 15 #[ptr Q, .int .i64 i] w fun e w' => e = .returned (atV l i) ∧ Below w.heap.size w w'
  keys' : ∀ (Q : Nat) (F : Nat → Prop) (l : List Pair) (w : World), PT w Q F l → Rising l → l.length ≤ 1000 →
    Calls Try.prog 13 #[ptr Q] w fun e w' => ∃ v, e = .returned v ∧ OwnK w' w.heap.size v (keys l) ∧ Below w.heap.size w w'
  zero : ∀ (w : World), PT (w.alloc (.cells zeroT 28)) w.heap.size (fun k => k = w.heap.size) []
  compare : ∀ (x y : Key) (w : World), Calls Try.prog 18 #[kV x, kV y] w fun e w' => ∃ r : Int, e = .returned (.int .i64 r) ∧ ((r < 0 ↔ cmp x y < 0) ∧ (0 < r ↔ 0 < cmp x y)) ∧ Below w.heap.size w w'
variable (I : Impl)
/-- An act: 1 Put, 2 Delete, others look. -/
structure AC where
  kind : Int
  v : Int
  k : Key
instance : Inhabited AC := ⟨⟨0, 0, zeroKey⟩⟩
def doL (l : List Pair) (a : AC) : List Pair := if a.kind = 1 then put l a.k a.v else if a.kind = 2 then del l a.k else l
def actsL (A : Nat → AC) : Nat → List Pair
  | 0 => []
  | n + 1 => doL (actsL A n) (A n)
/-- The acts of a slice that came in. -/
def Acts (w : World) (aa : Option Addr) (an : Nat) (A : Nat → AC) : Prop := ∀ j, j < an → ∃ b off, aa = some ⟨b, off, none⟩ ∧ b < w.heap.size ∧ w.cell? ⟨b, off + j * 6, none⟩ = some (.int .i64 (A j).kind) ∧ w.cell? ⟨b, off + j * 6 + 1, none⟩ = some (.int .i64 (A j).v) ∧
  w.cell? ⟨b, off + j * 6 + 2, none⟩ = some (.int .i64 (A j).k.a) ∧ w.cell? ⟨b, off + j * 6 + 3, none⟩ = some (.int .i64 (A j).k.b) ∧ w.cell? ⟨b, off + j * 6 + 4, none⟩ = some (.int .i64 (A j).k.c) ∧ w.cell? ⟨b, off + j * 6 + 5, none⟩ = some (.int .i64 (A j).k.d)
theorem rising_acts (A : Nat → AC) : ∀ n, Rising (actsL A n)
  | 0 => rising_nil
  | n + 1 => by
    show Rising (doL (actsL A n) (A n))
    unfold doL
    split
    · exact rising_put (rising_acts A n) _ _
    · split
      · exact rising_del (rising_acts A n) _
      · exact rising_acts A n
theorem length_put (l : List Pair) (k : Key) (v : Int) : (put l k v).length ≤ l.length + 1 := by
  unfold put
  have := place_le l k
  rw [List.length_append, List.length_cons, List.length_take]
  split
  · rw [List.length_drop]; omega
  · rw [List.length_drop]; omega
theorem length_del (l : List Pair) (k : Key) : (del l k).length ≤ l.length := by
  unfold del
  split
  · rw [← List.eraseIdx_eq_take_drop_succ]
    exact (List.eraseIdx_sublist _ _).length_le
  · exact Nat.le_refl _
theorem length_acts (A : Nat → AC) : ∀ n, (actsL A n).length ≤ n
  | 0 => Nat.le_refl _
  | n + 1 => by
    have ih := length_acts A n
    show (doL (actsL A n) (A n)).length ≤ n + 1
    unfold doL
    split
    · have := length_put (actsL A n) (A n).k (A n).v; omega
    · split
      · have := length_del (actsL A n) (A n).k; omega
      · omega
/-- The program's table beside the document's pairs; all of it is newer than W. -/
structure Both (W w : World) (Q : Nat) (F : Nat → Prop) (xv : Value) (l : List Pair) : Prop where
  pt : I.PT w Q F l
  pairs : Pairs w xv l
  far : ∀ k, F k → W.heap.size ≤ k
  apart : ∀ q, xv.ownBlock = some q → ¬ F q ∧ W.heap.size ≤ q
  below : Below W.heap.size W w
variable {I}
theorem Both.under {W w w' : World} {Q : Nat} {F : Nat → Prop} {xv : Value} {l : List Pair} (h : Both I W w Q F xv l) (hb : Below w.heap.size w w') : Both I W w' Q F xv l :=
  ⟨I.keep h.pt hb.size (fun k hk => hb.block k (I.lt h.pt k hk)), own_next h.pairs hb, h.far, h.apart, below_then h.below hb⟩
/-- The table has turned. -/
theorem Both.prog {W w w' : World} {Q : Nat} {F F' : Nat → Prop} {xv : Value} {l l' : List Pair} (h : Both I W w Q F xv l) (hp : I.PT w' Q F' l') (hs : StepF w w' F F') : I.PT w' Q F' l' ∧ Pairs w' xv l ∧ (∀ k, F' k → W.heap.size ≤ k) ∧ (∀ q, xv.ownBlock = some q → ¬ F' q ∧ W.heap.size ≤ q) ∧ Below W.heap.size W w' := by
  obtain ⟨h1, h2⟩ := hs.fresh h.below h.far
  refine ⟨hp, step_own h.pairs hs (fun q hq => (h.apart q hq).1), h2, fun q hq => ⟨fun hf => ?_, (h.apart q hq).2⟩, h1⟩
  rcases hs.grows q hf with h3 | h3
  · exact (h.apart q hq).1 h3
  · have := (h.pairs.lt q hq).2
    omega
end Go.Proofs.Ytighjiiaplihjaa.Tab
