/- Rows of blueprints and of bays; what is kept while other blocks are turned. -/
import Derived.Test.YtdbhdlgoecpeaaaZRecA
import Derived.Test.YtdbhdlgoecpeaaaZGoodsB
namespace Go.Proofs.Ytdbhdlgoecpeaaa.Cat
open Go.RowKit Go.Lib
open Goods (St Sts OwnS)
open Recipe (BlIn blV)

def bCells (b : Recipe.Bl) : List Value := [.int .i64 b.ot, .int .i64 b.per, .int .i64 b.tm, .slice b.sa b.sm b.sc, .int .i64 b.cp, .int .i64 b.st, .int .i64 b.mo]
def bcells (l : List Recipe.Bl) : List Value := l.flatMap bCells
theorem bcells_cons (t : Recipe.Bl) (l : List Recipe.Bl) : bcells (t :: l) = bCells t ++ bcells l := by simp [bcells]
theorem bcells_append (l m : List Recipe.Bl) : bcells (l ++ m) = bcells l ++ bcells m := by simp [bcells]
theorem bcells_length : ∀ l : List Recipe.Bl, (bcells l).length = l.length * 7
  | [] => rfl
  | p :: l => by rw [bcells_cons, List.length_append, bcells_length l]; simp [bCells]; omega
theorem bcells_at : ∀ (l : List Recipe.Bl) (i : Nat) (p : Recipe.Bl), l[i]? = some p → ∀ (j : Nat) (v : Value), (bCells p)[j]? = some v → (bcells l)[i * 7 + j]? = some v
  | [], i, p, h => by simp at h
  | q :: l, 0, p, h => by
    intro j v hj
    have : q = p := by simpa using h
    subst this
    have hlt : j < (bCells q).length := (List.getElem?_eq_some_iff.1 hj).1
    rw [bcells_cons, List.getElem?_append_left (by simpa using hlt)]
    simpa using hj
  | q :: l, i + 1, p, h => by
    intro j v hj
    have ih := bcells_at l i p (by simpa using h) j v hj
    rw [bcells_cons, show (i + 1) * 7 + j = 7 + (i * 7 + j) by omega, List.getElem?_append_right (by simp [bCells])]
    simpa [bCells] using ih
theorem bcells_one : ∀ (l : List Recipe.Bl), ∀ u ∈ bcells l, u.oneCell' = true
  | [], u, h => by cases h
  | p :: l, u, h => by
    rw [bcells_cons] at h
    rcases List.mem_append.1 h with h | h
    · simp [bCells] at h
      rcases h with rfl | rfl | rfl | rfl | rfl | rfl | rfl <;> rfl
    · exact bcells_one l u h
abbrev OwnB (w : World) (B : Nat) (v : Value) (l : List Recipe.Bl) : Prop := w.ownsRow B 51 7 v l.length (bcells l)
theorem info_b : (Try.prog.info? 51).map (fun i => (i.zero, i.size, i.bytes)) = some (some (.agg #[.int .i64 0, .int .i64 0, .int .i64 0, .slice none 0 0, .int .i64 0, .int .i64 0, .int .i64 0]), 7, 72) := by kernel_rfl
theorem row_b {w : World} {B : Nat} {v : Value} {l : List Recipe.Bl} (h : OwnB w B v l) : ∃ a c, v = .slice a l.length c ∧ ∀ j u, (bcells l)[j]? = some u → ∃ g, a = some ⟨g, 0, none⟩ ∧ g < w.heap.size ∧ w.cell? ⟨g, j, none⟩ = some u := by
  rcases h.2 with ⟨hv, h0⟩ | ⟨g, cap, cur, hv, _, hg, hn, hm, _⟩
  · refine ⟨none, 0, by rw [hv, h0], fun j u hj => ?_⟩
    have := (List.getElem?_eq_some_iff.1 hj).1
    rw [bcells_length, h0] at this
    omega
  · refine ⟨some ⟨g, 0, none⟩, cap, hv, fun j u hj => ⟨g, rfl, (Array.getElem?_eq_some_iff.1 hg).1, ?_⟩⟩
    have := h.cells (g := g) (by rw [hv]; rfl) j u hj
    rw [Goods.addr_add, Nat.zero_add] at this
    exact this
/-- One more at a row's end. -/
theorem app_b (W : World) {B : Nat} {a : Option Addr} {m c : Nat} {o : List Recipe.Bl} (t : Recipe.Bl) (h : OwnB W B (.slice a m c) o) (hm : m ≤ 1048576) (hB : B ≤ W.heap.size) :
    ∃ a' c' W', Hid ((Builtin.append_ #[22, 22] 22 #[.slice a m c, .slice (some ⟨W.heap.size, 0, none⟩) 1 1]).run Try.prog (W.alloc (.cells #[.int .i64 t.ot, .int .i64 t.per, .int .i64 t.tm, .slice t.sa t.sm t.sc, .int .i64 t.cp, .int .i64 t.st, .int .i64 t.mo] 51)) = .ok (.slice a' (m + 1) c') W') ∧ OwnB W' B (.slice a' (m + 1) c') (o ++ [t]) ∧ W.grownBy W' (Value.slice a m c).ownBlock := by
  have hl : o.length = m := by
    obtain ⟨a', c', e, _⟩ := row_b h
    injection e with _ e2 _
    exact e2.symm
  obtain ⟨i0, hi, hz0, hz1, hz2⟩ := info_parts info_b
  have hA : (OwnB (W.alloc (.cells #[.int .i64 t.ot, .int .i64 t.per, .int .i64 t.tm, .slice t.sa t.sm t.sc, .int .i64 t.cp, .int .i64 t.st, .int .i64 t.mo] 51)) B (.slice a m c) o) := h.alloc _
  obtain ⟨v2, W3, r2, o2, b2⟩ := app_any (P := Try.prog) (t := 22) (e := 51) (i := i0) (W.alloc (.cells #[.int .i64 t.ot, .int .i64 t.per, .int .i64 t.tm, .slice t.sa t.sm t.sc, .int .i64 t.cp, .int .i64 t.st, .int .i64 t.mo] 51)) B 22 (.agg #[.int .i64 0, .int .i64 0, .int .i64 0, .slice none 0 0, .int .i64 0, .int .i64 0, .int .i64 0]) 7 72 Try.underlying22 hi hz0 hz1 hz2 rfl (by omega) _ o.length (bcells o) hA (some ⟨W.heap.size, 0, none⟩) 1 1 (bcells [t]) rfl (fun j u hj => ⟨_, rfl, by
    have hblk := heap_alloc_new W (.cells #[.int .i64 t.ot, .int .i64 t.per, .int .i64 t.tm, .slice t.sa t.sm t.sc, .int .i64 t.cp, .int .i64 t.st, .int .i64 t.mo] 51)
    rw [Goods.addr_add, Nat.zero_add]
    refine cell_block (j := j) hblk ?_
    rw [← Array.getElem?_toList]
    exact hj⟩) (bcells_one _) (by unfold maxLen; omega) (by omega) (Nat.le_trans hB ((Below.refl W.heap.size W).alloc (Nat.le_refl _) _).size)
  have e3 : bcells o ++ bcells [t] = bcells (o ++ [t]) := (bcells_append o [t]).symm
  have e4 : o.length + 1 = (o ++ [t]).length := by simp
  rw [e3, e4] at o2
  obtain ⟨a2, c2, rfl, _⟩ := row_b o2
  have e : (o ++ [t]).length = m + 1 := by simp [hl]
  have hg : W.grownBy W3 (Value.slice a m c).ownBlock := by
    have hb := (Below.refl W.heap.size W).alloc (Nat.le_refl _) (.cells #[.int .i64 t.ot, .int .i64 t.per, .int .i64 t.tm, .slice t.sa t.sm t.sc, .int .i64 t.cp, .int .i64 t.st, .int .i64 t.mo] 51)
    exact ⟨b2.os.trans hb.os, b2.tape.trans hb.tape, b2.output.trans hb.output, Nat.le_trans hb.size b2.size, fun k hk hr => (b2.block k (Nat.lt_of_lt_of_le hk hb.size) hr).trans (hb.block k hk)⟩
  rw [e] at r2 o2
  exact ⟨a2, c2, W3, Lib.hid r2, by show World.ownsRow _ _ _ _ _ _ _; rw [e]; exact o2, hg⟩
def yCells (b : Ba) : List Value := [.int .i64 b.pl, .int .i64 b.mf, .int .i64 b.lb, .int .i64 b.rt]
def ycells (l : List Ba) : List Value := l.flatMap yCells
theorem ycells_cons (t : Ba) (l : List Ba) : ycells (t :: l) = yCells t ++ ycells l := by simp [ycells]
theorem ycells_append (l m : List Ba) : ycells (l ++ m) = ycells l ++ ycells m := by simp [ycells]
theorem ycells_length : ∀ l : List Ba, (ycells l).length = l.length * 4
  | [] => rfl
  | p :: l => by rw [ycells_cons, List.length_append, ycells_length l]; simp [yCells]; omega
theorem ycells_at : ∀ (l : List Ba) (i : Nat) (p : Ba), l[i]? = some p → ∀ (j : Nat) (v : Value), (yCells p)[j]? = some v → (ycells l)[i * 4 + j]? = some v
  | [], i, p, h => by simp at h
  | q :: l, 0, p, h => by
    intro j v hj
    have : q = p := by simpa using h
    subst this
    have hlt : j < (yCells q).length := (List.getElem?_eq_some_iff.1 hj).1
    rw [ycells_cons, List.getElem?_append_left (by simpa using hlt)]
    simpa using hj
  | q :: l, i + 1, p, h => by
    intro j v hj
    have ih := ycells_at l i p (by simpa using h) j v hj
    rw [ycells_cons, show (i + 1) * 4 + j = 4 + (i * 4 + j) by omega, List.getElem?_append_right (by simp [yCells])]
    simpa [yCells] using ih
theorem ycells_one : ∀ (l : List Ba), ∀ u ∈ ycells l, u.oneCell' = true
  | [], u, h => by cases h
  | p :: l, u, h => by
    rw [ycells_cons] at h
    rcases List.mem_append.1 h with h | h
    · simp [yCells] at h
      rcases h with rfl | rfl | rfl | rfl <;> rfl
    · exact ycells_one l u h
abbrev OwnY (w : World) (B : Nat) (v : Value) (l : List Ba) : Prop := w.ownsRow B 48 4 v l.length (ycells l)
theorem info_y : (Try.prog.info? 48).map (fun i => (i.zero, i.size, i.bytes)) = some (some (.agg #[.int .i64 0, .int .i64 0, .int .i64 0, .int .i64 0]), 4, 32) := by kernel_rfl
theorem row_y {w : World} {B : Nat} {v : Value} {l : List Ba} (h : OwnY w B v l) : ∃ a c, v = .slice a l.length c ∧ ∀ j u, (ycells l)[j]? = some u → ∃ g, a = some ⟨g, 0, none⟩ ∧ g < w.heap.size ∧ w.cell? ⟨g, j, none⟩ = some u := by
  rcases h.2 with ⟨hv, h0⟩ | ⟨g, cap, cur, hv, _, hg, hn, hm, _⟩
  · refine ⟨none, 0, by rw [hv, h0], fun j u hj => ?_⟩
    have := (List.getElem?_eq_some_iff.1 hj).1
    rw [ycells_length, h0] at this
    omega
  · refine ⟨some ⟨g, 0, none⟩, cap, hv, fun j u hj => ⟨g, rfl, (Array.getElem?_eq_some_iff.1 hg).1, ?_⟩⟩
    have := h.cells (g := g) (by rw [hv]; rfl) j u hj
    rw [Goods.addr_add, Nat.zero_add] at this
    exact this
/-- One more at a row's end. -/
theorem app_y (W : World) {B : Nat} {a : Option Addr} {m c : Nat} {o : List Ba} (t : Ba) (h : OwnY W B (.slice a m c) o) (hm : m ≤ 1048576) (hB : B ≤ W.heap.size) :
    ∃ a' c' W', Hid ((Builtin.append_ #[23, 23] 23 #[.slice a m c, .slice (some ⟨W.heap.size, 0, none⟩) 1 1]).run Try.prog (W.alloc (.cells #[.int .i64 t.pl, .int .i64 t.mf, .int .i64 t.lb, .int .i64 t.rt] 48)) = .ok (.slice a' (m + 1) c') W') ∧ OwnY W' B (.slice a' (m + 1) c') (o ++ [t]) ∧ W.grownBy W' (Value.slice a m c).ownBlock := by
  have hl : o.length = m := by
    obtain ⟨a', c', e, _⟩ := row_y h
    injection e with _ e2 _
    exact e2.symm
  obtain ⟨i0, hi, hz0, hz1, hz2⟩ := info_parts info_y
  have hA : (OwnY (W.alloc (.cells #[.int .i64 t.pl, .int .i64 t.mf, .int .i64 t.lb, .int .i64 t.rt] 48)) B (.slice a m c) o) := h.alloc _
  obtain ⟨v2, W3, r2, o2, b2⟩ := app_any (P := Try.prog) (t := 23) (e := 48) (i := i0) (W.alloc (.cells #[.int .i64 t.pl, .int .i64 t.mf, .int .i64 t.lb, .int .i64 t.rt] 48)) B 23 (.agg #[.int .i64 0, .int .i64 0, .int .i64 0, .int .i64 0]) 4 32 Try.underlying23 hi hz0 hz1 hz2 rfl (by omega) _ o.length (ycells o) hA (some ⟨W.heap.size, 0, none⟩) 1 1 (ycells [t]) rfl (fun j u hj => ⟨_, rfl, by
    have hblk := heap_alloc_new W (.cells #[.int .i64 t.pl, .int .i64 t.mf, .int .i64 t.lb, .int .i64 t.rt] 48)
    rw [Goods.addr_add, Nat.zero_add]
    refine cell_block (j := j) hblk ?_
    rw [← Array.getElem?_toList]
    exact hj⟩) (ycells_one _) (by unfold maxLen; omega) (by omega) (Nat.le_trans hB ((Below.refl W.heap.size W).alloc (Nat.le_refl _) _).size)
  have e3 : ycells o ++ ycells [t] = ycells (o ++ [t]) := (ycells_append o [t]).symm
  have e4 : o.length + 1 = (o ++ [t]).length := by simp
  rw [e3, e4] at o2
  obtain ⟨a2, c2, rfl, _⟩ := row_y o2
  have e : (o ++ [t]).length = m + 1 := by simp [hl]
  have hg : W.grownBy W3 (Value.slice a m c).ownBlock := by
    have hb := (Below.refl W.heap.size W).alloc (Nat.le_refl _) (.cells #[.int .i64 t.pl, .int .i64 t.mf, .int .i64 t.lb, .int .i64 t.rt] 48)
    exact ⟨b2.os.trans hb.os, b2.tape.trans hb.tape, b2.output.trans hb.output, Nat.le_trans hb.size b2.size, fun k hk hr => (b2.block k (Nat.lt_of_lt_of_le hk hb.size) hr).trans (hb.block k hk)⟩
  rw [e] at r2 o2
  exact ⟨a2, c2, W3, Lib.hid r2, by show World.ownsRow _ _ _ _ _ _ _; rw [e]; exact o2, hg⟩
/-! What is kept while other blocks are turned. -/
theorem own_by {w w' : World} {B : Nat} {e : TypeId} {size n : Nat} {v : Value} {xs : List Value} {row : Option Nat} (h : w.ownsRow B e size v n xs) (hg : w.grownBy w' row) (hn : ∀ g cur, row = some g → w.heap[g]? = some (.cells cur e (0, 0)) → v.ownBlock ≠ some g) : w'.ownsRow B e size v n xs := by
  refine Goods.own_same h fun q hq => ?_
  rcases h.2 with ⟨hv, _⟩ | ⟨g, cap, cur, hv, _, hb, _⟩
  · rw [hv] at hq
    cases hq
  · rw [hv] at hq
    injection hq with hq
    have hq : g = q := hq
    subst hq
    exact hg.block g (Array.getElem?_eq_some_iff.1 hb).1 fun e => hn g cur e.symm hb (by rw [hv]; rfl)
/-- The block of a row of one's own: what it holds is of the row's type. -/
theorem own_type {w : World} {B : Nat} {e : TypeId} {size n : Nat} {v : Value} {xs : List Value} {g : Nat} (h : w.ownsRow B e size v n xs) (hv : v.ownBlock = some g) : B ≤ g ∧ g < w.heap.size ∧ ∃ cur, w.heap[g]? = some (.cells cur e (0, 0)) := by
  rcases h.2 with ⟨h0, _⟩ | ⟨k, cap, cur, h1, hB, hb, _⟩
  · rw [h0] at hv
    cases hv
  · rw [h1] at hv
    injection hv with hv
    have hv : k = g := hv
    subst hv
    exact ⟨hB, (Array.getElem?_eq_some_iff.1 hb).1, cur, hb⟩
theorem grown_alloc (w : World) (o : Obj) (row : Option Nat) : w.grownBy (w.alloc o) row := by
  have hb := (Below.refl w.heap.size w).alloc (Nat.le_refl _) o
  exact ⟨hb.os, hb.tape, hb.output, hb.size, fun k hk _ => hb.block k hk⟩
/-- What is turned behind the blocks that there were. -/
theorem grown_over {w w1 w2 : World} {row r2 : Option Nat} (h : w.grownBy w1 row) (k : w1.grownBy w2 r2) (hr : ∀ g, r2 = some g → row = some g ∨ w.heap.size ≤ g) : w.grownBy w2 row :=
  ⟨k.os.trans h.os, k.tape.trans h.tape, k.output.trans h.output, Nat.le_trans h.size k.size, fun i hi hn => (k.block i (Nat.lt_of_lt_of_le hi h.size) (fun e => by
    rcases hr i e.symm with h1 | h1
    · exact hn h1.symm
    · omega)).trans (h.block i hi hn)⟩
theorem grown_set {w w1 : World} {row : Option Nat} (h : w.grownBy w1 row) (g o : Nat) (u : Value) (hr : row = some g ∨ w.heap.size ≤ g) : w.grownBy (w1.setCell ⟨g, o, none⟩ u) row :=
  grown_over h (only_setCell (only_refl w1 (some g)) o u) fun _ e => by
    injection e with e
    subst e
    exact hr
theorem grown_block {w w' : World} {row : Option Nat} {g : Nat} {o : Obj} (h : w.grownBy w' row) (hb : w.heap[g]? = some o) (hn : row ≠ some g) : w'.heap[g]? = some o := (h.block g (Array.getElem?_eq_some_iff.1 hb).1 (fun e => hn e.symm)).trans hb
/-- The needs of blueprints lie in rows of their own. -/
def NeedsAt (w : World) (B : Nat) (l : List Recipe.Bl) : Prop := ∀ b ∈ l, OwnS w B (.slice b.sa b.sm b.sc) b.s
theorem NeedsAt.by {w w' : World} {B : Nat} {l : List Recipe.Bl} {row : Option Nat} (h : NeedsAt w B l) (hg : w.grownBy w' row) (hn : ∀ g cur, row = some g → ¬ w.heap[g]? = some (.cells cur 79 (0, 0))) : NeedsAt w' B l := fun b hb =>
  own_by (h b hb) hg fun g cur e he => absurd he (hn g cur e)
theorem grown_below {w w1 w2 : World} {B : Nat} {row : Option Nat} (h : w.grownBy w1 row) (k : Below B w1 w2) (hB : w.heap.size ≤ B) : w.grownBy w2 row :=
  ⟨k.os.trans h.os, k.tape.trans h.tape, k.output.trans h.output, Nat.le_trans h.size k.size, fun i hi hn => (k.block i (by omega)).trans (h.block i hi hn)⟩
/-- Stacks, blueprints and bays that a composite literal lays. -/
theorem sts_lay {w : World} {g : Nat} {cs : Array Value} {T : TypeId} (l : List St) (h : w.heap[g]? = some (.cells cs T (0, 0))) (hc : cs.toList = Goods.scells l) : Sts w (some ⟨g, 0, none⟩) l := fun i t hi => by
  have hq : ∀ j u, (Goods.stCells t)[j]? = some u → w.cell? ⟨g, 0 + i * 2 + j, none⟩ = some u := fun j u hj => by
    rw [Nat.zero_add]
    refine cell_block (j := i * 2 + j) h ?_
    rw [← Array.getElem?_toList, hc]
    exact Goods.scells_at l i t hi j u hj
  exact ⟨g, 0, rfl, (Array.getElem?_eq_some_iff.1 h).1, hq 0 _ rfl, hq 1 _ rfl⟩
theorem blues_lay {w : World} {g : Nat} {cs : Array Value} {T : TypeId} (l : List Recipe.Bl) (h : w.heap[g]? = some (.cells cs T (0, 0))) (hc : cs.toList = bcells l) : Blues w (some ⟨g, 0, none⟩) l := fun i t hi => by
  have hq : ∀ j u, (bCells t)[j]? = some u → w.cell? ⟨g, 0 + i * 7 + j, none⟩ = some u := fun j u hj => by
    rw [Nat.zero_add]
    refine cell_block (j := i * 7 + j) h ?_
    rw [← Array.getElem?_toList, hc]
    exact bcells_at l i t hi j u hj
  exact ⟨g, 0, rfl, (Array.getElem?_eq_some_iff.1 h).1, hq 0 _ rfl, hq 1 _ rfl, hq 2 _ rfl, hq 3 _ rfl, hq 4 _ rfl, hq 5 _ rfl, hq 6 _ rfl⟩
theorem bays_lay {w : World} {g : Nat} {cs : Array Value} {T : TypeId} (l : List Ba) (h : w.heap[g]? = some (.cells cs T (0, 0))) (hc : cs.toList = ycells l) : Bays w (some ⟨g, 0, none⟩) l := fun i t hi => by
  have hq : ∀ j u, (yCells t)[j]? = some u → w.cell? ⟨g, 0 + i * 4 + j, none⟩ = some u := fun j u hj => by
    rw [Nat.zero_add]
    refine cell_block (j := i * 4 + j) h ?_
    rw [← Array.getElem?_toList, hc]
    exact ycells_at l i t hi j u hj
  exact ⟨g, 0, rfl, (Array.getElem?_eq_some_iff.1 h).1, hq 0 _ rfl, hq 1 _ rfl, hq 2 _ rfl, hq 3 _ rfl⟩

theorem cell_kept {w w' : World} {g : Nat} (h : w'.heap[g]? = w.heap[g]?) (o : Nat) : w'.cell? ⟨g, o, none⟩ = w.cell? ⟨g, o, none⟩ := by
  simp only [World.cell?, h]
theorem sts_by {w w' : World} {g : Nat} {l : List St} {row : Option Nat} (h : Sts w (some ⟨g, 0, none⟩) l) (hg : w.grownBy w' row) (hn : row ≠ some g) : Sts w' (some ⟨g, 0, none⟩) l := fun i t hi => by
  obtain ⟨k, off, e, hk, c0, c1⟩ := h i t hi
  injection e with e
  injection e with e1 e2 _
  subst e1 e2
  have hb := hg.block g hk (fun e => hn e.symm)
  exact ⟨g, 0, rfl, Nat.lt_of_lt_of_le hk hg.size, (cell_kept hb _).trans c0, (cell_kept hb _).trans c1⟩
theorem bays_by {w w' : World} {g : Nat} {l : List Ba} {row : Option Nat} (h : Bays w (some ⟨g, 0, none⟩) l) (hg : w.grownBy w' row) (hn : row ≠ some g) : Bays w' (some ⟨g, 0, none⟩) l := fun i t hi => by
  obtain ⟨k, off, e, hk, c⟩ := h i t hi
  injection e with e
  injection e with e1 e2 _
  subst e1 e2
  have hb := hg.block g hk (fun e => hn e.symm)
  exact ⟨g, 0, rfl, Nat.lt_of_lt_of_le hk hg.size, c.to fun j => cell_kept hb j⟩
theorem blues_own {w : World} {B : Nat} {a : Option Addr} {n c : Nat} {l : List Recipe.Bl} (h : OwnB w B (.slice a n c) l) : l.length = n ∧ Blues w a l := by
  obtain ⟨a1, c1, e1, h1⟩ := row_b h
  injection e1 with e11 e12 _
  subst e11
  refine ⟨e12.symm, fun i b hi => ?_⟩
  obtain ⟨g, ha, hg, _⟩ := h1 _ _ (bcells_at l i b hi 0 _ rfl)
  have hh : ∀ j u, (bCells b)[j]? = some u → w.cell? ⟨g, 0 + i * 7 + j, none⟩ = some u := fun j u hj => by
    obtain ⟨g2, e, _, q⟩ := h1 _ _ (bcells_at l i b hi j u hj)
    rw [ha] at e
    cases e
    rw [Nat.zero_add]
    exact q
  exact ⟨g, 0, ha, hg, hh 0 _ rfl, hh 1 _ rfl, hh 2 _ rfl, hh 3 _ rfl, hh 4 _ rfl, hh 5 _ rfl, hh 6 _ rfl⟩
end Go.Proofs.Ytdbhdlgoecpeaaa.Cat
