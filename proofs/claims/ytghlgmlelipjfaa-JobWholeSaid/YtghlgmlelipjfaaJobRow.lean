/- Rows of one's own, and what is kept while other blocks are turned. -/
import Derived.Test.YtghlgmlelipjfaaJobA
namespace Go.Proofs.Ytghlgmlelipjfaa.Job
open Go.RowKit Go.Lib
open Goods (St Sts OwnS)

theorem own_by {w w' : World} {B : Nat} {e : TypeId} {size n : Nat} {v : Value} {xs : List Value} {row : Option Nat} (h : w.ownsRow B e size v n xs) (hg : w.grownBy w' row) (hn : ∀ g cur, row = some g → w.heap[g]? = some (.cells cur e (0, 0)) → v.ownBlock ≠ some g) : w'.ownsRow B e size v n xs := by
  refine Goods.own_same h fun q hq => ?_
  rcases h.2 with ⟨hv, _⟩ | ⟨g, cap, cur, hv, _, hb, _⟩
  · rw [hv] at hq
    cases hq
  · rw [hv] at hq
    injection hq with hq
    have hq : g = q := hq
    subst hq
    exact hg.block g (Array.getElem?_eq_some_iff.1 hb).1 fun e => hn g cur e.symm hb (by rw [hv]; rfl)
/-- The block of a row of one's own: what it holds is of the row's type. -/
theorem own_type {w : World} {B : Nat} {e : TypeId} {size n : Nat} {v : Value} {xs : List Value} {g : Nat} (h : w.ownsRow B e size v n xs) (hv : v.ownBlock = some g) : B ≤ g ∧ g < w.heap.size ∧ ∃ cur, w.heap[g]? = some (.cells cur e (0, 0)) := by
  rcases h.2 with ⟨h0, _⟩ | ⟨k, cap, cur, h1, hB, hb, _⟩
  · rw [h0] at hv
    cases hv
  · rw [h1] at hv
    injection hv with hv
    have hv : k = g := hv
    subst hv
    exact ⟨hB, (Array.getElem?_eq_some_iff.1 hb).1, cur, hb⟩
theorem own_past {w w' : World} {B : Nat} {e : TypeId} {size n : Nat} {v : Value} {xs : List Value} {g : Nat} (h : w.ownsRow B e size v n xs) (hg : w.grownBy w' (some g)) (hb : g < B) : w'.ownsRow B e size v n xs := own_by h hg fun k cur e h1 hv => by
  injection e with e
  have h2 := (own_type h hv).1
  omega
theorem ca_bad (now : Int) {j : JS} (h : ¬ Ok j) (b : Bool) (x : JS) : caE now j b = 1 ∧ caV now j b x = zJ := by
  by_cases ht : 0 ≤ now ∧ now ≤ 1099511627776
  · obtain ⟨e1, e2⟩ := ca_yes ht j b x
    rw [e1, e2]
    exact ch_bad h b x
  · exact ca_no ht j b x
/-- What is turned behind the blocks that there were. -/
theorem grown_over {w w1 w2 : World} {row r2 : Option Nat} (h : w.grownBy w1 row) (k : w1.grownBy w2 r2) (hr : ∀ g, r2 = some g → row = some g ∨ w.heap.size ≤ g) : w.grownBy w2 row :=
  ⟨k.os.trans h.os, k.tape.trans h.tape, k.output.trans h.output, Nat.le_trans h.size k.size, fun i hi hn => (k.block i (Nat.lt_of_lt_of_le hi h.size) (fun e => by
    rcases hr i e.symm with h1 | h1
    · exact hn h1.symm
    · omega)).trans (h.block i hi hn)⟩
theorem grown_set {w w1 : World} {row : Option Nat} (h : w.grownBy w1 row) (g o : Nat) (u : Value) (hr : row = some g ∨ w.heap.size ≤ g) : w.grownBy (w1.setCell ⟨g, o, none⟩ u) row :=
  grown_over h (only_setCell (only_refl w1 (some g)) o u) fun _ e => by
    injection e with e
    subst e
    exact hr
theorem grown_block {w w' : World} {row : Option Nat} {g : Nat} {o : Obj} (h : w.grownBy w' row) (hb : w.heap[g]? = some o) (hn : row ≠ some g) : w'.heap[g]? = some o := (h.block g (Array.getElem?_eq_some_iff.1 hb).1 (fun e => hn e.symm)).trans hb
theorem grown_below {w w1 w2 : World} {B : Nat} {row : Option Nat} (h : w.grownBy w1 row) (k : Below B w1 w2) (hB : w.heap.size ≤ B) : w.grownBy w2 row :=
  ⟨k.os.trans h.os, k.tape.trans h.tape, k.output.trans h.output, Nat.le_trans h.size k.size, fun i hi hn => (k.block i (by omega)).trans (h.block i hi hn)⟩
theorem sts_row {w : World} {B : Nat} {a : Option Addr} {n c : Nat} {l : List St} (h : OwnS w B (.slice a n c) l) : l.length = n ∧ Sts w a l := by
  obtain ⟨a', c', e, q⟩ := Goods.sts_own h
  injection e with e1 e2 _
  subst e1
  exact ⟨e2.symm, q⟩
end Go.Proofs.Ytghlgmlelipjfaa.Job
