/- Rows of blueprints and of bays; a reader's block beside others. The document's Take. -/
import Derived.Test.YteaclacbdelinaaZCatByt
import Derived.Test.YteaclacbdelinaaZCatRow
import Derived.Test.YteaclacbdelinaaZGoodsMath
import Derived.Test.YteaclacbdelinaaZPrMath
import Derived.Laws.ResultCell
import Derived.Laws.Rows
import Derived.Test.YteaclacbdelinaaZCatE
namespace Go.Proofs.Yteaclacbdelinaa.Cat
open Go.RowKit Go.Lib
open Goods (St Sts OwnS)
open Recipe (BlIn blV)
open Pen (Rq RqTo Link isBad uiN uiS)

/-- A reader's block, and what is left of its text. -/
def RD (w : World) (Q : Nat) (S : ByteArray) (st : RS) : Prop := ∃ a, Rq w Q S a (isBad st) ∧ Link S st a
theorem RD.by {w w' : World} {Q : Nat} {S : ByteArray} {st : RS} {row : Option Nat} (h : RD w Q S st) (hg : w.grownBy w' row) (hn : row ≠ some Q) : RD w' Q S st := by
  obtain ⟨a, h1, h2⟩ := h
  exact ⟨a, h1.of_grown hg (fun e => hn e.symm), h2⟩
theorem RD.alloc {w : World} {Q : Nat} {S : ByteArray} {st : RS} (h : RD w Q S st) (o : Obj) : RD (w.alloc o) Q S st := by
  obtain ⟨a, h1, h2⟩ := h
  have hb := (Below.refl w.heap.size w).alloc (Nat.le_refl _) o
  exact ⟨a, (hb.block Q h1.lt).trans h1, h2⟩
theorem RD.lt {w : World} {Q : Nat} {S : ByteArray} {st : RS} (h : RD w Q S st) : Q < w.heap.size := by
  obtain ⟨a, h1, _⟩ := h
  exact h1.lt
theorem RD.bad {w : World} {Q : Nat} {S : ByteArray} {st : RS} (h : RD w Q S st) : w.cell? ⟨Q, 2, none⟩ = some (.bool (isBad st)) := by
  obtain ⟨a, h1, _⟩ := h
  exact h1.cells.2.2.1
theorem RD.type {w : World} {Q : Nat} {S : ByteArray} {st : RS} (h : RD w Q S st) : ∃ cur, w.heap[Q]? = some (.cells cur 85 (0, 0)) := by
  obtain ⟨a, h1, _⟩ := h
  exact ⟨_, h1⟩
/-- A number that is read, as walks want it. -/
theorem ui_at (Q : Nat) (S : ByteArray) (hS : S.size ≤ 4611686018427387904) : Hid (∀ W st most n st', uiN st most = n → uiS st most = st' → RD W Q S st → most ≤ 9223372036854775807 → Calls Try.prog 47 #[.pointer (some ⟨Q, 0, none⟩), .int .i64 most] W fun e w' => e = .returned (.int .i64 (n : Nat)) ∧ Hid (RD w' Q S st' ∧ W.grownBy w' (some Q))) := Lib.hid (fun W st most n st' hn hs h hm => by
  subst hn hs
  obtain ⟨a, h1, h2⟩ := h
  refine (Pen.ruint_any Q S st a most W h1 h2 hS hm).mono ?_
  rintro e w' ⟨rfl, ⟨a', h3, h4⟩, hg⟩
  exact ⟨rfl, Lib.hid ⟨⟨a', h3, h4⟩, hg⟩⟩)
/-- A block that is filled while a reader goes on; what was there before stands, but for the reader. -/
structure RB (W0 w : World) (Q b : Nat) (S : ByteArray) (st : RS) (cs : Array Value) (T : TypeId) : Prop where
  grown : W0.grownBy w (some Q)
  rd : RD w Q S st
  blk : w.heap[b]? = some (.cells cs T (0, 0))
  new : W0.heap.size ≤ b
  far : b ≠ Q
theorem RB.step {W0 w w' : World} {Q b : Nat} {S : ByteArray} {st st' : RS} {cs : Array Value} {T : TypeId} (h : RB W0 w Q b S st cs T) (k : RD w' Q S st' ∧ w.grownBy w' (some Q)) : RB W0 w' Q b S st' cs T :=
  ⟨only_trans h.grown k.2, k.1, grown_block k.2 h.blk (fun e => h.far (Option.some.inj e).symm), h.new, h.far⟩
theorem RB.alloc {W0 w : World} {Q b : Nat} {S : ByteArray} {st : RS} {cs : Array Value} {T : TypeId} (h : RB W0 w Q b S st cs T) (o : Obj) : RB W0 (w.alloc o) Q b S st cs T :=
  ⟨only_trans h.grown (grown_alloc w o _), h.rd.alloc o, grown_block (grown_alloc w o (some Q)) h.blk (fun e => h.far (Option.some.inj e).symm), h.new, h.far⟩
theorem RB.set {W0 w : World} {Q b : Nat} {S : ByteArray} {st : RS} {cs : Array Value} {T : TypeId} (h : RB W0 w Q b S st cs T) (j : Nat) (u : Value) : RB W0 (w.setCell ⟨b, j, none⟩ u) Q b S st (cs.setIfInBounds j u) T := by
  have hg : w.grownBy (w.setCell ⟨b, j, none⟩ u) (some b) := only_setCell (only_refl w (some b)) j u
  exact ⟨grown_over h.grown hg (fun g e => by injection e with e; subst e; exact .inr h.new), h.rd.by hg (fun e => h.far (Option.some.inj e)), heap_setCell_same w b j _ _ u h.blk, h.new, h.far⟩
/-- .. and another block of one's own is turned. -/
theorem RB.over {W0 w w' : World} {Q b B : Nat} {S : ByteArray} {st : RS} {cs : Array Value} {T : TypeId} (h : RB W0 w Q b S st cs T) (k : Below B w w') (hB : W0.heap.size ≤ B) (hb : b < B) (hQ : Q < B) : RB W0 w' Q b S st cs T := by
  obtain ⟨a, h1, h2⟩ := h.rd
  exact ⟨grown_below h.grown k hB, ⟨a, (k.block Q hQ).trans h1, h2⟩, (k.block b hb).trans h.blk, h.new, h.far⟩
theorem ret_ca2 {fn : Func} {R : Ending → World → Prop} {a : Act} {w : World} {p u : Tmp} {g : Nat} {c0 c1 c2 c3 c4 c5 c6 c7 x : Value} {T : TypeId} (h : fn.results = #[.cell p 27, .tmp u]) (hd : a.defers = [])
    (ht : a.tmps.getD p undef = .pointer (some ⟨g, 0, none⟩)) (hu : a.tmps.getD u undef = x) (hb : w.heap[g]? = some (.cells #[c0, c1, c2, c3, c4, c5, c6, c7] T (0, 0))) (hR : R (.returned (.tuple #[.agg #[c0, c1, c2, c3, c4, c5, c6, c7], x])) w) : bodyPost Try.prog fn R .ret a w := by
  refine bodyPost_ret (v := .tuple #[.agg #[c0, c1, c2, c3, c4, c5, c6, c7], x]) ?_ hd hR
  rw [results_cell_tmp h, ht, hu]
  simp [asAddr, run_loadVar_row (P := Try.prog) w g T 27 #[c0, c1, c2, c3, c4, c5, c6, c7] (0, 0) _ hb Try.underlying27 rfl (by kernel_rfl), Result.andThen]
theorem ca_set {w : World} {g : Nat} {a b c d e f h k x0 x1 x2 x3 x4 x5 x6 x7 : Value} {T : TypeId} (hb : w.heap[g]? = some (.cells #[a, b, c, d, e, f, h, k] T (0, 0))) :
    ((((((((w.setCell ⟨g, 0, none⟩ x0).setCell ⟨g, 1, none⟩ x1).setCell ⟨g, 2, none⟩ x2).setCell ⟨g, 3, none⟩ x3).setCell ⟨g, 4, none⟩ x4).setCell ⟨g, 5, none⟩ x5).setCell ⟨g, 6, none⟩ x6).setCell ⟨g, 7, none⟩ x7).heap[g]? = some (.cells #[x0, x1, x2, x3, x4, x5, x6, x7] T (0, 0)) := by
  obtain ⟨w0, e0⟩ : ∃ u, w.setCell ⟨g, 0, none⟩ x0 = u := ⟨_, rfl⟩
  have h0 : w0.heap[g]? = some (.cells #[x0, b, c, d, e, f, h, k] T (0, 0)) := by rw [← e0]; exact heap_setCell_same w g 0 _ _ x0 hb
  rw [e0]
  obtain ⟨w1, e1⟩ : ∃ u, w0.setCell ⟨g, 1, none⟩ x1 = u := ⟨_, rfl⟩
  have h1 : w1.heap[g]? = some (.cells #[x0, x1, c, d, e, f, h, k] T (0, 0)) := by rw [← e1]; exact heap_setCell_same w0 g 1 _ _ x1 h0
  rw [e1]
  obtain ⟨w2, e2⟩ : ∃ u, w1.setCell ⟨g, 2, none⟩ x2 = u := ⟨_, rfl⟩
  have h2 : w2.heap[g]? = some (.cells #[x0, x1, x2, d, e, f, h, k] T (0, 0)) := by rw [← e2]; exact heap_setCell_same w1 g 2 _ _ x2 h1
  rw [e2]
  obtain ⟨w3, e3⟩ : ∃ u, w2.setCell ⟨g, 3, none⟩ x3 = u := ⟨_, rfl⟩
  have h3 : w3.heap[g]? = some (.cells #[x0, x1, x2, x3, e, f, h, k] T (0, 0)) := by rw [← e3]; exact heap_setCell_same w2 g 3 _ _ x3 h2
  rw [e3]
  obtain ⟨w4, e4⟩ : ∃ u, w3.setCell ⟨g, 4, none⟩ x4 = u := ⟨_, rfl⟩
  have h4 : w4.heap[g]? = some (.cells #[x0, x1, x2, x3, x4, f, h, k] T (0, 0)) := by rw [← e4]; exact heap_setCell_same w3 g 4 _ _ x4 h3
  rw [e4]
  obtain ⟨w5, e5⟩ : ∃ u, w4.setCell ⟨g, 5, none⟩ x5 = u := ⟨_, rfl⟩
  have h5 : w5.heap[g]? = some (.cells #[x0, x1, x2, x3, x4, x5, h, k] T (0, 0)) := by rw [← e5]; exact heap_setCell_same w4 g 5 _ _ x5 h4
  rw [e5]
  obtain ⟨w6, e6⟩ : ∃ u, w5.setCell ⟨g, 6, none⟩ x6 = u := ⟨_, rfl⟩
  have h6 : w6.heap[g]? = some (.cells #[x0, x1, x2, x3, x4, x5, x6, k] T (0, 0)) := by rw [← e6]; exact heap_setCell_same w5 g 6 _ _ x6 h5
  rw [e6]
  exact heap_setCell_same w6 g 7 _ _ x7 h6
theorem ui_le {st : RS} {most : Int} (h : 0 ≤ most) : (uiN st most : Int) ≤ most := by
  unfold uiN
  rw [if_neg (by omega)]
  have := (Pen.tkN_le st most.toNat).1
  omega
theorem ned_end {j m : Nat} {st : RS} (h : j = m ∨ st = none) (hj : j ≤ m) : nedP (m - j) st = ([], st) := by
  rcases h with rfl | rfl
  · rw [Nat.sub_self]; rfl
  · cases hm : m - j with
    | zero => rfl
    | succ k => unfold nedP; rw [if_pos rfl]
theorem ned_step {j m : Nat} {st : RS} (h : j < m) (hs : ¬ st = none) : nedP (m - j) st = (⟨uiN st MX, uiN (uiS st MX) MX⟩ :: (nedP (m - (j + 1)) (uiS (uiS st MX) MX)).1, (nedP (m - (j + 1)) (uiS (uiS st MX) MX)).2) := by
  rw [show m - j = (m - (j + 1)) + 1 by omega]
  conv => lhs; unfold nedP
  rw [if_neg hs]
theorem bls_end {j m : Nat} {st : RS} (h : j = m ∨ st = none) (hj : j ≤ m) : blsP (m - j) st = ([], st) := by
  rcases h with rfl | rfl
  · rw [Nat.sub_self]; rfl
  · cases hm : m - j with
    | zero => rfl
    | succ k => unfold blsP; rw [if_pos rfl]
theorem bls_step {j m : Nat} {st : RS} (h : j < m) (hs : ¬ st = none) : blsP (m - j) st = ((bluP st).1 :: (blsP (m - (j + 1)) (bluP st).2).1, (blsP (m - (j + 1)) (bluP st).2).2) := by
  rw [show m - j = (m - (j + 1)) + 1 by omega]
  conv => lhs; unfold blsP
  rw [if_neg hs]
theorem bays_end {j m : Nat} {st : RS} (h : j = m ∨ st = none) (hj : j ≤ m) : baysP (m - j) st = ([], st) := by
  rcases h with rfl | rfl
  · rw [Nat.sub_self]; rfl
  · cases hm : m - j with
    | zero => rfl
    | succ k => unfold baysP; rw [if_pos rfl]
theorem bays_step {j m : Nat} {st : RS} (h : j < m) (hs : ¬ st = none) : baysP (m - j) st = ((bayP st).1 :: (baysP (m - (j + 1)) (bayP st).2).1, (baysP (m - (j + 1)) (bayP st).2).2) := by
  rw [show m - j = (m - (j + 1)) + 1 by omega]
  conv => lhs; unfold baysP
  rw [if_neg hs]
end Go.Proofs.Yteaclacbdelinaa.Cat
namespace Go.Proofs.Yteaclacbdelinaa.Cat
open Go.RowKit Go.Lib
open Goods (St Sts OwnS)
open Recipe (BlIn blV)
open Pen (Rq RqTo Link isBad uiN uiS)

theorem link_all (S : ByteArray) : Link S (some S) 0 := ⟨Nat.zero_le _, fun s h => by injection h with h; rw [← h]; exact (ByteArray.extract_zero_size).symm⟩
/-- One more stack at a row's end. -/
theorem app_s (W : World) {B : Nat} {a : Option Addr} {m c : Nat} {o : List St} (t : St) (h : OwnS W B (.slice a m c) o) (hm : m ≤ 1048576) (hB : B ≤ W.heap.size) :
    ∃ a' c' W', Hid ((Builtin.append_ #[33, 33] 33 #[.slice a m c, .slice (some ⟨W.heap.size, 0, none⟩) 1 1]).run Try.prog (W.alloc (.cells #[.int .i64 t.kind, .int .i64 t.qty] 54)) = .ok (.slice a' (m + 1) c') W') ∧ OwnS W' B (.slice a' (m + 1) c') (o ++ [t]) ∧ Below B W W' := by
  have hl : o.length = m := by
    obtain ⟨a', c', e, _⟩ := Goods.rowS h
    injection e with _ e2 _
    exact e2.symm
  have hA : Below B W (W.alloc (.cells #[.int .i64 t.kind, .int .i64 t.qty] 54)) := (Below.refl B W).alloc hB _
  obtain ⟨v2, W3, r2, o2, b2⟩ := Goods.app_st (W.alloc (.cells #[.int .i64 t.kind, .int .i64 t.qty] 54)) B _ o [t] (h.alloc _) (some ⟨W.heap.size, 0, none⟩) 1 1 rfl (fun j u hj => ⟨_, rfl, by
    have hblk := heap_alloc_new W (.cells #[.int .i64 t.kind, .int .i64 t.qty] 54)
    rw [Goods.addr_add, Nat.zero_add]
    refine cell_block (j := j) hblk ?_
    rw [← Array.getElem?_toList]
    exact hj⟩) (by simp; omega) (Nat.le_trans hB hA.size)
  obtain ⟨a2, c2, rfl, _⟩ := Goods.rowS o2
  have e : (o ++ [t]).length = m + 1 := by simp [hl]
  rw [e] at r2 o2
  exact ⟨a2, c2, W3, Lib.hid r2, by rw [e] at *; exact o2, hA.trans b2⟩
theorem bad_some {st : RS} (h : ¬ st = none) : isBad st = false := by
  cases st with
  | none => exact absurd rfl h
  | some s => rfl
theorem blk2 {w : World} {g : Nat} {a b : Value} {T : TypeId} (h : w.heap[g]? = some (.cells #[a, b] T (0, 0))) : w.cell? ⟨g, 0, none⟩ = some a ∧ w.cell? ⟨g, 1, none⟩ = some b ∧ w.frozen? ⟨g, 0, none⟩ = false ∧ w.frozen? ⟨g, 1, none⟩ = false :=
  ⟨cell_block (j := 0) h rfl, cell_block (j := 1) h rfl, free_block 0 h, free_block 1 h⟩
theorem blk4 {w : World} {g : Nat} {a b c d : Value} {T : TypeId} (h : w.heap[g]? = some (.cells #[a, b, c, d] T (0, 0))) : (w.cell? ⟨g, 0, none⟩ = some a ∧ w.cell? ⟨g, 1, none⟩ = some b ∧ w.cell? ⟨g, 2, none⟩ = some c ∧ w.cell? ⟨g, 3, none⟩ = some d) ∧ w.frozen? ⟨g, 0, none⟩ = false ∧ w.frozen? ⟨g, 1, none⟩ = false ∧ w.frozen? ⟨g, 2, none⟩ = false ∧ w.frozen? ⟨g, 3, none⟩ = false :=
  ⟨⟨cell_block (j := 0) h rfl, cell_block (j := 1) h rfl, cell_block (j := 2) h rfl, cell_block (j := 3) h rfl⟩, free_block 0 h, free_block 1 h, free_block 2 h, free_block 3 h⟩
theorem blk7 {w : World} {k : Nat} {a b c d e f g : Value} {T : TypeId} (h : w.heap[k]? = some (.cells #[a, b, c, d, e, f, g] T (0, 0))) : (w.cell? ⟨k, 0, none⟩ = some a ∧ w.cell? ⟨k, 1, none⟩ = some b ∧ w.cell? ⟨k, 2, none⟩ = some c ∧ w.cell? ⟨k, 3, none⟩ = some d ∧ w.cell? ⟨k, 4, none⟩ = some e ∧ w.cell? ⟨k, 5, none⟩ = some f ∧ w.cell? ⟨k, 6, none⟩ = some g) ∧ w.frozen? ⟨k, 0, none⟩ = false ∧ w.frozen? ⟨k, 1, none⟩ = false ∧ w.frozen? ⟨k, 2, none⟩ = false ∧ w.frozen? ⟨k, 3, none⟩ = false ∧ w.frozen? ⟨k, 4, none⟩ = false ∧ w.frozen? ⟨k, 5, none⟩ = false ∧ w.frozen? ⟨k, 6, none⟩ = false :=
  ⟨⟨cell_block (j := 0) h rfl, cell_block (j := 1) h rfl, cell_block (j := 2) h rfl, cell_block (j := 3) h rfl, cell_block (j := 4) h rfl, cell_block (j := 5) h rfl, cell_block (j := 6) h rfl⟩, free_block 0 h, free_block 1 h, free_block 2 h, free_block 3 h, free_block 4 h, free_block 5 h, free_block 6 h⟩
theorem blk8 {w : World} {k : Nat} {a b c d e f g i : Value} {T : TypeId} (h : w.heap[k]? = some (.cells #[a, b, c, d, e, f, g, i] T (0, 0))) : (w.cell? ⟨k, 0, none⟩ = some a ∧ w.cell? ⟨k, 1, none⟩ = some b ∧ w.cell? ⟨k, 2, none⟩ = some c ∧ w.cell? ⟨k, 3, none⟩ = some d ∧ w.cell? ⟨k, 4, none⟩ = some e ∧ w.cell? ⟨k, 5, none⟩ = some f ∧ w.cell? ⟨k, 6, none⟩ = some g ∧ w.cell? ⟨k, 7, none⟩ = some i) ∧ w.frozen? ⟨k, 0, none⟩ = false ∧ w.frozen? ⟨k, 1, none⟩ = false ∧ w.frozen? ⟨k, 2, none⟩ = false ∧ w.frozen? ⟨k, 3, none⟩ = false ∧ w.frozen? ⟨k, 4, none⟩ = false ∧ w.frozen? ⟨k, 5, none⟩ = false ∧ w.frozen? ⟨k, 6, none⟩ = false ∧ w.frozen? ⟨k, 7, none⟩ = false :=
  ⟨⟨cell_block (j := 0) h rfl, cell_block (j := 1) h rfl, cell_block (j := 2) h rfl, cell_block (j := 3) h rfl, cell_block (j := 4) h rfl, cell_block (j := 5) h rfl, cell_block (j := 6) h rfl, cell_block (j := 7) h rfl⟩, free_block 0 h, free_block 1 h, free_block 2 h, free_block 3 h, free_block 4 h, free_block 5 h, free_block 6 h, free_block 7 h⟩
/-- Blueprints read so far: the catalogue's block, the row, the needs' rows. -/
structure Mid (X w : World) (Q K B : Nat) (S : ByteArray) (st : RS) (cs : Array Value) (v : Value) (bs : List Recipe.Bl) : Prop where
  rb : RB X w Q K S st cs 27
  own : OwnB w B v bs
  needs : NeedsAt w B bs
  few : ∀ b ∈ bs, b.sm ≤ 8
theorem Mid.step {X w w' : World} {Q K B : Nat} {S : ByteArray} {st st' : RS} {cs : Array Value} {v : Value} {bs : List Recipe.Bl} (h : Mid X w Q K B S st cs v bs) (k : RD w' Q S st' ∧ w.grownBy w' (some Q)) : Mid X w' Q K B S st' cs v bs := by
  obtain ⟨cur, hq⟩ := h.rb.rd.type
  refine ⟨h.rb.step k, own_by h.own k.2 (fun g c e hg => ?_), h.needs.by k.2 (fun g c e hg => ?_), h.few⟩
  · injection e with e
    subst e
    rw [hq] at hg
    injection hg with hg
    injection hg with _ hT
    exact absurd hT (by decide)
  · injection e with e
    subst e
    rw [hq] at hg
    injection hg with hg
    injection hg with _ hT
    exact absurd hT (by decide)
theorem Mid.set {X w : World} {Q K B : Nat} {S : ByteArray} {st : RS} {cs : Array Value} {v : Value} {bs : List Recipe.Bl} (h : Mid X w Q K B S st cs v bs) (j : Nat) (u : Value) : Mid X (w.setCell ⟨K, j, none⟩ u) Q K B S st (cs.setIfInBounds j u) v bs := by
  have hg : w.grownBy (w.setCell ⟨K, j, none⟩ u) (some K) := only_setCell (only_refl w (some K)) j u
  refine ⟨h.rb.set j u, own_by h.own hg (fun g c e hb => ?_), h.needs.by hg (fun g c e hb => ?_), h.few⟩
  · injection e with e
    subst e
    rw [h.rb.blk] at hb
    injection hb with hb
    injection hb with _ hT
    exact absurd hT (by decide)
  · injection e with e
    subst e
    rw [h.rb.blk] at hb
    injection hb with hb
    injection hb with _ hT
    exact absurd hT (by decide)
/-- Behind a round that read one more: its block and its needs' row are new. -/
theorem Mid.more {X w w1 : World} {Q K B : Nat} {S : ByteArray} {st st1 : RS} {cs : Array Value} {a : Option Addr} {m c g : Nat} {bs : List Recipe.Bl} (b : Recipe.Bl) {T : TypeId} {cs1 : Array Value} (h : Mid X w Q K B S st cs (.slice a m c) bs) (hB : B ≤ w.heap.size) (hK : K < B)
    (h1 : RB w w1 Q g S st1 cs1 T) (ho : OwnS w1 w.heap.size (.slice b.sa b.sm b.sc) b.s) (h8 : b.sm ≤ 8) (hm : m ≤ 1000) :
    ∃ a' c' W', Hid ((Builtin.append_ #[22, 22] 22 #[.slice a m c, .slice (some ⟨w1.heap.size, 0, none⟩) 1 1]).run Try.prog (w1.alloc (.cells #[.int .i64 b.ot, .int .i64 b.per, .int .i64 b.tm, .slice b.sa b.sm b.sc, .int .i64 b.cp, .int .i64 b.st, .int .i64 b.mo] 35)) = .ok (.slice a' (m + 1) c') W') ∧ Mid X W' Q K B S st1 cs (.slice a' (m + 1) c') (bs ++ [b]) := by
  have hM := h.step ⟨h1.rd, h1.grown⟩
  have hsz := h1.grown.size
  obtain ⟨a2, c2, W2, hr, ho2, hg⟩ := app_b w1 b hM.own (by omega) (by omega)
  refine ⟨a2, c2, W2, hr, ⟨⟨?_, ?_, ?_, h.rb.new, h.rb.far⟩, ho2, fun x hx => ?_, fun x hx => ?_⟩⟩
  · refine grown_over hM.rb.grown hg fun k e => .inr ?_
    have := (own_type hM.own e).1
    have := h.rb.new
    omega
  · obtain ⟨cur, hq⟩ := h1.rd.type
    refine h1.rd.by hg fun e => ?_
    obtain ⟨_, _, c3, h3⟩ := own_type hM.own e
    rw [hq] at h3
    injection h3 with h3
    injection h3 with _ hT
    exact absurd hT (by decide)
  · refine grown_block hg hM.rb.blk fun e => ?_
    obtain ⟨h2, _⟩ := own_type hM.own e
    omega
  · rcases List.mem_append.1 hx with hx | hx
    · refine own_by (hM.needs x hx) hg fun k c3 e h3 => ?_
      obtain ⟨_, _, c4, h4⟩ := own_type hM.own e
      rw [h4] at h3
      injection h3 with h3
      injection h3 with _ hT
      exact absurd hT (by decide)
    · rw [List.mem_singleton.1 hx]
      refine World.ownsRow.mono (own_by ho hg fun k c3 e h3 => ?_) hB
      obtain ⟨_, _, c4, h4⟩ := own_type hM.own e
      rw [h4] at h3
      injection h3 with h3
      injection h3 with _ hT
      exact absurd hT (by decide)
  · rcases List.mem_append.1 hx with hx | hx
    · exact h.few x hx
    · rw [List.mem_singleton.1 hx]
      exact h8
theorem own_past {w w' : World} {B : Nat} {e : TypeId} {size n : Nat} {v : Value} {xs : List Value} {g : Nat} (h : w.ownsRow B e size v n xs) (hg : w.grownBy w' (some g)) (hb : g < B) : w'.ownsRow B e size v n xs := own_by h hg fun k cur e h1 hv => by
  injection e with e
  have h2 := (own_type h hv).1
  omega
theorem own_set {w : World} {B : Nat} {e : TypeId} {size n : Nat} {v : Value} {xs : List Value} {g : Nat} (h : w.ownsRow B e size v n xs) (j : Nat) (u : Value) (hb : g < B) : (w.setCell ⟨g, j, none⟩ u).ownsRow B e size v n xs := own_past h (only_setCell (only_refl w (some g)) j u) hb
theorem done_yes {st : RS} (h : Pen.doneOf st = true) : st = some ⟨#[]⟩ := by
  cases st with
  | none => cases h
  | some s =>
    have e : s.toList.length = s.size := by rw [ByteArray.toList_eq, Array.length_toList]; rfl
    have h1 : s.size = 0 := by
      simp only [Pen.doneOf, List.isEmpty_iff] at h
      rw [← e, h]
      rfl
    have h2 : s = ⟨#[]⟩ := by
      apply ByteArray.ext
      exact Array.eq_empty_of_size_eq_zero h1
    rw [h2]
theorem done_nil : Pen.doneOf (some (⟨#[]⟩ : ByteArray)) = true := by
  simp [Pen.doneOf, ByteArray.toList_eq]
theorem blu_as {st t1 t2 t3 t4 t5 t6 t7 t8 : RS} {ot per tm mm cp sd mo : Nat} {l : List St} (h1 : uiN st MX = ot) (k1 : uiS st MX = t1) (h2 : uiN t1 MX = per) (k2 : uiS t1 MX = t2) (h3 : uiN t2 MX = tm) (k3 : uiS t2 MX = t3) (h4 : uiN t3 8 = mm) (k4 : uiS t3 8 = t4) (hl : nedP mm t4 = (l, t5)) (h6 : uiN t5 MX = cp) (k6 : uiS t5 MX = t6) (h7 : uiN t6 MX = sd) (k7 : uiS t6 MX = t7) (h8 : uiN t7 MX = mo) (k8 : uiS t7 MX = t8) : bluP st = (⟨ot, per, tm, l, cp, sd, mo⟩, t8) := by
  subst h1 k1 h2 k2 h3 k3 h4 k4 h6 k6 h7 k7 h8 k8
  unfold bluP b5 b4
  rw [hl]
theorem bay_as {st t1 t2 t3 t4 : RS} {pl mf lb rt : Nat} (h1 : uiN st MX = pl) (k1 : uiS st MX = t1) (h2 : uiN t1 MX = mf) (k2 : uiS t1 MX = t2) (h3 : uiN t2 MX = lb) (k3 : uiS t2 MX = t3) (h4 : uiN t3 MX = rt) (k4 : uiS t3 MX = t4) : bayP st = (⟨pl, mf, lb, rt⟩, t4) := by
  subst h1 k1 h2 k2 h3 k3 h4 k4
  rfl
theorem cat_as {S : ByteArray} {s1 s2 s3 s4 s5 s6 s7 s8 s9 sa : RS} {ty nb pl ny ch f0 f1 f2 : Nat} {bs : List PB} {ys : List Ba} (h1 : uiN (some S) MX = ty) (k1 : uiS (some S) MX = s1) (h2 : uiN s1 16 = nb) (k2 : uiS s1 16 = s2) (hb : blsP nb s2 = (bs, s3)) (h4 : uiN s3 MX = pl) (k4 : uiS s3 MX = s4) (h5 : uiN s4 8 = ny) (k5 : uiS s4 8 = s5) (hy : baysP ny s5 = (ys, s6))
    (h7 : uiN s6 MX = ch) (k7 : uiS s6 MX = s7) (h8 : uiN s7 MX = f0) (k8 : uiS s7 MX = s8) (h9 : uiN s8 MX = f1) (k9 : uiS s8 MX = s9) (ha : uiN s9 MX = f2) (ka : uiS s9 MX = sa) : catP (some S) = (⟨ty, bs, pl, ys, ch, ⟨f0, f1, f2⟩⟩, sa) := by
  subst h1 k1 h2 k2
  have e2 : c2 (some S) = s3 := by unfold c2 c1; rw [hb]
  subst h4 k4 h5 k5
  have e4 : c4 (some S) = s6 := by unfold c4 c3; rw [e2, hy]
  subst h7 k7 h8 k8 h9 k9 ha ka
  unfold catP
  rw [e4, e2]
  unfold c3
  rw [e2, hy]
  unfold c1
  rw [hb]
/-- .. and bays. -/
structure MidY (X w : World) (Q K B : Nat) (S : ByteArray) (st : RS) (cs : Array Value) (v : Value) (bs : List Recipe.Bl) (u : Value) (ys : List Ba) : Prop where
  mid : Mid X w Q K B S st cs v bs
  own : OwnY w B u ys
theorem MidY.step {X w w' : World} {Q K B : Nat} {S : ByteArray} {st st' : RS} {cs : Array Value} {v u : Value} {bs : List Recipe.Bl} {ys : List Ba} (h : MidY X w Q K B S st cs v bs u ys) (k : RD w' Q S st' ∧ w.grownBy w' (some Q)) : MidY X w' Q K B S st' cs v bs u ys := by
  obtain ⟨cur, hq⟩ := h.mid.rb.rd.type
  refine ⟨h.mid.step k, own_by h.own k.2 (fun g c e hg => ?_)⟩
  injection e with e
  subst e
  rw [hq] at hg
  injection hg with hg
  injection hg with _ hT
  exact absurd hT (by decide)
theorem MidY.set {X w : World} {Q K B : Nat} {S : ByteArray} {st : RS} {cs : Array Value} {v u : Value} {bs : List Recipe.Bl} {ys : List Ba} (h : MidY X w Q K B S st cs v bs u ys) (j : Nat) (x : Value) : MidY X (w.setCell ⟨K, j, none⟩ x) Q K B S st (cs.setIfInBounds j x) v bs u ys := by
  have hg : w.grownBy (w.setCell ⟨K, j, none⟩ x) (some K) := only_setCell (only_refl w (some K)) j x
  refine ⟨h.mid.set j x, own_by h.own hg (fun g c e hb => ?_)⟩
  injection e with e
  subst e
  rw [h.mid.rb.blk] at hb
  injection hb with hb
  injection hb with _ hT
  exact absurd hT (by decide)
theorem MidY.more {X w w1 : World} {Q K B : Nat} {S : ByteArray} {st st1 : RS} {cs : Array Value} {a : Option Addr} {m c g : Nat} {v : Value} {bs : List Recipe.Bl} {ys : List Ba} (y : Ba) {T : TypeId} {cs1 : Array Value} (h : MidY X w Q K B S st cs v bs (.slice a m c) ys) (hB : B ≤ w.heap.size) (hK : K < B)
    (h1 : RB w w1 Q g S st1 cs1 T) (hm : m ≤ 1000) :
    ∃ a' c' W', Hid ((Builtin.append_ #[23, 23] 23 #[.slice a m c, .slice (some ⟨w1.heap.size, 0, none⟩) 1 1]).run Try.prog (w1.alloc (.cells #[.int .i64 y.pl, .int .i64 y.mf, .int .i64 y.lb, .int .i64 y.rt] 40)) = .ok (.slice a' (m + 1) c') W') ∧ MidY X W' Q K B S st1 cs v bs (.slice a' (m + 1) c') (ys ++ [y]) := by
  have hM := h.step ⟨h1.rd, h1.grown⟩
  have hsz := h1.grown.size
  obtain ⟨a2, c2, W2, hr, ho2, hg⟩ := app_y w1 y hM.own (by omega) (by omega)
  refine ⟨a2, c2, W2, hr, ⟨⟨⟨?_, ?_, ?_, h.mid.rb.new, h.mid.rb.far⟩, ?_, fun x hx => ?_, h.mid.few⟩, ho2⟩⟩
  · refine grown_over hM.mid.rb.grown hg fun k e => .inr ?_
    have := (own_type hM.own e).1
    have := h.mid.rb.new
    omega
  · obtain ⟨cur, hq⟩ := h1.rd.type
    refine h1.rd.by hg fun e => ?_
    obtain ⟨_, _, c3, h3⟩ := own_type hM.own e
    rw [hq] at h3
    injection h3 with h3
    injection h3 with _ hT
    exact absurd hT (by decide)
  · refine grown_block hg hM.mid.rb.blk fun e => ?_
    obtain ⟨h2, _⟩ := own_type hM.own e
    omega
  · refine own_by hM.mid.own hg fun k c3 e h3 => ?_
    obtain ⟨_, _, c4, h4⟩ := own_type hM.own e
    rw [h4] at h3
    injection h3 with h3
    injection h3 with _ hT
    exact absurd hT (by decide)
  · refine own_by (hM.mid.needs x hx) hg fun k c3 e h3 => ?_
    obtain ⟨_, _, c4, h4⟩ := own_type hM.own e
    rw [h4] at h3
    injection h3 with h3
    injection h3 with _ hT
    exact absurd hT (by decide)
/-- Rows of one's own that make a catalogue's lists. -/
structure Rows (w : World) (B : Nat) (v : Value) (bs : List Recipe.Bl) (u : Value) (ys : List Ba) : Prop where
  own : OwnB w B v bs
  needs : NeedsAt w B bs
  few : ∀ b ∈ bs, b.sm ≤ 8
  bays : OwnY w B u ys
theorem MidY.rows {X w : World} {Q K B : Nat} {S : ByteArray} {st : RS} {cs : Array Value} {v u : Value} {bs : List Recipe.Bl} {ys : List Ba} (h : MidY X w Q K B S st cs v bs u ys) : Rows w B v bs u ys := ⟨h.mid.own, h.mid.needs, h.mid.few, h.own⟩
theorem Rows.under {w w' : World} {B : Nat} {v u : Value} {bs : List Recipe.Bl} {ys : List Ba} (h : Rows w B v bs u ys) (hb : Below w.heap.size w w') : Rows w' B v bs u ys := ⟨Goods.own_under h.own hb, fun b hm => Goods.own_under (h.needs b hm) hb, h.few, Goods.own_under h.bays hb⟩
theorem Rows.set {w : World} {B : Nat} {v u : Value} {bs : List Recipe.Bl} {ys : List Ba} (h : Rows w B v bs u ys) {g : Nat} (hg : g < B) (j : Nat) (x : Value) : Rows (w.setCell ⟨g, j, none⟩ x) B v bs u ys := ⟨own_set h.own j x hg, fun b hm => own_set (h.needs b hm) j x hg, h.few, own_set h.bays j x hg⟩
/-- What has been read lies as a catalogue lies. -/
theorem Rows.cat {w : World} {B : Nat} {ba ya : Option Addr} {bn bc yn yc : Nat} {bs : List Recipe.Bl} {ys : List Ba} (h : Rows w B (.slice ba bn bc) bs (.slice ya yn yc) ys) (hb : bn ≤ 16) (hy : yn ≤ 8) (ty pl ch : Int) (f : Fee.FS) :
    CatAt w ⟨ty, ba, bn, bc, bs, pl, ya, yn, yc, ys, ch, f⟩ ∧ Lim ⟨ty, ba, bn, bc, bs, pl, ya, yn, yc, ys, ch, f⟩ := by
  obtain ⟨a1, c1, e1, h1⟩ := row_b h.own
  obtain ⟨a2, c2, e2, h2⟩ := row_y h.bays
  injection e1 with e11 e12 e13
  injection e2 with e21 e22 e23
  subst e11 e21
  refine ⟨⟨⟨e12.symm, fun i b hi => ?_, fun b hm => ?_⟩, e22.symm, fun i y hi => ?_⟩, fun b hm => ?_, ?_, ?_⟩
  · obtain ⟨g, ha, hg, q0⟩ := h1 _ _ (bcells_at bs i b hi 0 _ rfl)
    have hh : ∀ j u, (bCells b)[j]? = some u → w.cell? ⟨g, 0 + i * 7 + j, none⟩ = some u := fun j u hj => by
      obtain ⟨g2, e, _, q⟩ := h1 _ _ (bcells_at bs i b hi j u hj)
      have e3 : ba = some ⟨g, 0, none⟩ := ha
      rw [ha] at e
      cases e
      rw [Nat.zero_add]
      exact q
    exact ⟨g, 0, ha, hg, hh 0 _ rfl, hh 1 _ rfl, hh 2 _ rfl, hh 3 _ rfl, hh 4 _ rfl, hh 5 _ rfl, hh 6 _ rfl⟩
  · obtain ⟨a', c', e, q⟩ := Goods.sts_own (h.needs b hm)
    injection e with e1 e2 _
    subst e1
    exact ⟨e2.symm, q⟩
  · obtain ⟨g, ha, hg, q0⟩ := h2 _ _ (ycells_at ys i y hi 0 _ rfl)
    have hh : ∀ j u, (yCells y)[j]? = some u → w.cell? ⟨g, 0 + i * 4 + j, none⟩ = some u := fun j u hj => by
      obtain ⟨g2, e, _, q⟩ := h2 _ _ (ycells_at ys i y hi j u hj)
      rw [ha] at e
      cases e
      rw [Nat.zero_add]
      exact q
    exact ⟨g, 0, ha, hg, hh 0 _ rfl, hh 1 _ rfl, hh 2 _ rfl, hh 3 _ rfl⟩
  · have := h.few b hm
    omega
  · show bn ≤ 20
    omega
  · show yn ≤ 12
    omega
end Go.Proofs.Yteaclacbdelinaa.Cat
