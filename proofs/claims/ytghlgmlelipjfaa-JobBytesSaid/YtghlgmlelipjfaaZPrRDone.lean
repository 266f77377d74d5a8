/- The document's reader: Done. The document's reader beside blocks of one's own; stacks at a row's end. A whole job read out of a block, and stored into one, at one stroke. The program's reader in memory. The program's reader: spoil. The program's reader: Bad. The program's reader: a word. The program's reader: Uint. The program's reader: Left. -/
import Derived.Test.YtghlgmlelipjfaaZPrW
import Derived.Test.YtghlgmlelipjfaaZJobByt
import Derived.Test.YtghlgmlelipjfaaZJobA
import Derived.Laws.Tables
import Derived.Deep.RegionHeld3
import Derived.Test.YtghlgmlelipjfaaZJobMath
namespace Go.Proofs.Ytghlgmlelipjfaa.Pen
open Go.RowKit Go.Lib

theorem done_link {S s : ByteArray} {a : Nat} (h : Link S (some s) a) : doneOf (some s) = ((a : Int) == (S.size : Int)) := by
  obtain ⟨h1, h2⟩ := link_size h
  have e : s.toList.length = s.size := by rw [ByteArray.toList_eq, Array.length_toList]; rfl
  simp only [doneOf]
  rw [Bool.eq_iff_iff, List.isEmpty_iff_length_eq_zero, beq_iff_eq, e]
  omega
theorem rdone_any (Q : Nat) (S : ByteArray) (st : Option ByteArray) (a : Nat) (w : World) (h : Rq w Q S a (isBad st)) (hl : Link S st a) :
    Calls Try.prog 44 #[.pointer (some ⟨Q, 0, none⟩)] w fun e w' => e = .returned (.bool (doneOf st)) ∧ ∃ m, w.drewN m = w' := by
  cases st with
  | none =>
    obtain ⟨c0, c1, c2, f0, f1, f2⟩ := h.cells
    have c2' : w.cell? ⟨Q, 2, none⟩ = some (.bool true) := c2
    clear c2 h
    go_enter Try.func44, Try.ntmps44
    go_wp2
    go_quiet (fail)
    go_wp2
    go_ret
    exact ⟨rfl, _, rfl⟩
  | some s =>
    have HZ := Lib.hid (done_link hl)
    obtain ⟨c0, c1, c2, f0, f1, f2⟩ := h.cells
    have c2' : w.cell? ⟨Q, 2, none⟩ = some (.bool false) := c2
    clear c2 h
    go_enter Try.func44, Try.ntmps44
    go_wp2
    go_quiet (fail)
    go_wp2
    go_ret
    exact ⟨ret_bool (by rw [HZ.out]), _, rfl⟩
end Go.Proofs.Ytghlgmlelipjfaa.Pen
namespace Go.Proofs.Ytghlgmlelipjfaa.Job
open Go.RowKit Go.Lib
open Goods (St Sts OwnS)
open Pen (Rq RqTo Link isBad uiN uiS)

theorem grown_alloc (w : World) (o : Obj) (row : Option Nat) : w.grownBy (w.alloc o) row := by
  have hb := (Below.refl w.heap.size w).alloc (Nat.le_refl _) o
  exact ⟨hb.os, hb.tape, hb.output, hb.size, fun k hk _ => hb.block k hk⟩
def RD (w : World) (Q : Nat) (S : ByteArray) (st : RS) : Prop := ∃ a, Rq w Q S a (isBad st) ∧ Link S st a
theorem RD.by {w w' : World} {Q : Nat} {S : ByteArray} {st : RS} {row : Option Nat} (h : RD w Q S st) (hg : w.grownBy w' row) (hn : row ≠ some Q) : RD w' Q S st := by
  obtain ⟨a, h1, h2⟩ := h
  exact ⟨a, h1.of_grown hg (fun e => hn e.symm), h2⟩
theorem RD.alloc {w : World} {Q : Nat} {S : ByteArray} {st : RS} (h : RD w Q S st) (o : Obj) : RD (w.alloc o) Q S st := by
  obtain ⟨a, h1, h2⟩ := h
  have hb := (Below.refl w.heap.size w).alloc (Nat.le_refl _) o
  exact ⟨a, (hb.block Q h1.lt).trans h1, h2⟩
theorem RD.lt {w : World} {Q : Nat} {S : ByteArray} {st : RS} (h : RD w Q S st) : Q < w.heap.size := by
  obtain ⟨a, h1, _⟩ := h
  exact h1.lt
theorem RD.bad {w : World} {Q : Nat} {S : ByteArray} {st : RS} (h : RD w Q S st) : w.cell? ⟨Q, 2, none⟩ = some (.bool (isBad st)) := by
  obtain ⟨a, h1, _⟩ := h
  exact h1.cells.2.2.1
theorem RD.type {w : World} {Q : Nat} {S : ByteArray} {st : RS} (h : RD w Q S st) : ∃ cur, w.heap[Q]? = some (.cells cur 67 (0, 0)) := by
  obtain ⟨a, h1, _⟩ := h
  exact ⟨_, h1⟩
theorem ui_at (Q : Nat) (S : ByteArray) (hS : S.size ≤ 4611686018427387904) : Hid (∀ W st most n st', uiN st most = n → uiS st most = st' → RD W Q S st → most ≤ 9223372036854775807 → Calls Try.prog 65 #[.pointer (some ⟨Q, 0, none⟩), .int .i64 most] W fun e w' => e = .returned (.int .i64 (n : Nat)) ∧ Hid (RD w' Q S st' ∧ W.grownBy w' (some Q))) := Lib.hid (fun W st most n st' hn hs h hm => by
  subst hn hs
  obtain ⟨a, h1, h2⟩ := h
  refine (Pen.ruint_any Q S st a most W h1 h2 hS hm).mono ?_
  rintro e w' ⟨rfl, ⟨a', h3, h4⟩, hg⟩
  exact ⟨rfl, Lib.hid ⟨⟨a', h3, h4⟩, hg⟩⟩)
theorem ui_le {st : RS} {most : Int} (h : 0 ≤ most) : (uiN st most : Int) ≤ most := by
  unfold uiN
  rw [if_neg (by omega)]
  have := (Pen.tkN_le st most.toNat).1
  omega
theorem ned_end {j m : Nat} {st : RS} (h : j = m ∨ st = none) (hj : j ≤ m) : nedP (m - j) st = ([], st) := by
  rcases h with rfl | rfl
  · rw [Nat.sub_self]; rfl
  · cases hm : m - j with
    | zero => rfl
    | succ k => unfold nedP; rw [if_pos rfl]
theorem ned_step {j m : Nat} {st : RS} (h : j < m) (hs : ¬ st = none) : nedP (m - j) st = (⟨uiN st MX, uiN (uiS st MX) MX⟩ :: (nedP (m - (j + 1)) (uiS (uiS st MX) MX)).1, (nedP (m - (j + 1)) (uiS (uiS st MX) MX)).2) := by
  rw [show m - j = (m - (j + 1)) + 1 by omega]
  conv => lhs; unfold nedP
  rw [if_neg hs]
theorem link_all (S : ByteArray) : Link S (some S) 0 := ⟨Nat.zero_le _, fun s h => by injection h with h; rw [← h]; exact (ByteArray.extract_zero_size).symm⟩
theorem bad_some {st : RS} (h : ¬ st = none) : isBad st = false := by
  cases st with
  | none => exact absurd rfl h
  | some s => rfl
theorem done_yes {st : RS} (h : Pen.doneOf st = true) : st = some ⟨#[]⟩ := by
  cases st with
  | none => cases h
  | some s =>
    have e : s.toList.length = s.size := by rw [ByteArray.toList_eq, Array.length_toList]; rfl
    have h1 : s.size = 0 := by
      simp only [Pen.doneOf, List.isEmpty_iff] at h
      rw [← e, h]
      rfl
    have h2 : s = ⟨#[]⟩ := by
      apply ByteArray.ext
      exact Array.eq_empty_of_size_eq_zero h1
    rw [h2]
theorem done_nil : Pen.doneOf (some (⟨#[]⟩ : ByteArray)) = true := by
  simp [Pen.doneOf, ByteArray.toList_eq]
theorem app_s (W : World) {B : Nat} {a : Option Addr} {m c : Nat} {o : List St} (t : St) (h : OwnS W B (.slice a m c) o) (hm : m ≤ 1048576) (hB : B ≤ W.heap.size) :
    ∃ a' c' W', Hid ((Builtin.append_ #[22, 22] 22 #[.slice a m c, .slice (some ⟨W.heap.size, 0, none⟩) 1 1]).run Try.prog (W.alloc (.cells #[.int .i64 t.kind, .int .i64 t.qty] 74)) = .ok (.slice a' (m + 1) c') W') ∧ OwnS W' B (.slice a' (m + 1) c') (o ++ [t]) ∧ W.grownBy W' (Value.slice a m c).ownBlock := by
  have hl : o.length = m := by
    obtain ⟨a', c', e, _⟩ := Goods.sts_own h
    injection e with _ e2 _
    exact e2.symm
  obtain ⟨i0, hi, hz0, hz1, hz2⟩ := info_parts Goods.info_st
  have hA : (OwnS (W.alloc (.cells #[.int .i64 t.kind, .int .i64 t.qty] 74)) B (.slice a m c) o) := h.alloc _
  have hb := (Below.refl W.heap.size W).alloc (Nat.le_refl _) (.cells #[.int .i64 t.kind, .int .i64 t.qty] 74)
  obtain ⟨v2, W3, r2, o2, b2⟩ := app_any (P := Try.prog) (t := 22) (e := 74) (i := i0) (W.alloc (.cells #[.int .i64 t.kind, .int .i64 t.qty] 74)) B 22 Goods.zeroStV 2 16 Try.underlying22 hi hz0 hz1 hz2 rfl (by omega) _ o.length (Goods.scells o) hA (some ⟨W.heap.size, 0, none⟩) 1 1 (Goods.scells [t]) rfl (fun j u hj => ⟨_, rfl, by
    have hblk := heap_alloc_new W (.cells #[.int .i64 t.kind, .int .i64 t.qty] 74)
    rw [Goods.addr_add, Nat.zero_add]
    refine cell_block (j := j) hblk ?_
    rw [← Array.getElem?_toList]
    exact hj⟩) (Goods.scells_one _) (by unfold maxLen; omega) (by omega) (Nat.le_trans hB hb.size)
  have e3 : Goods.scells o ++ Goods.scells [t] = Goods.scells (o ++ [t]) := (Goods.scells_append o [t]).symm
  have e4 : o.length + 1 = (o ++ [t]).length := by simp
  rw [e3, e4] at o2
  obtain ⟨a2, c2, rfl, _⟩ := Goods.rowS o2
  have e : (o ++ [t]).length = m + 1 := by simp [hl]
  have hg : W.grownBy W3 (Value.slice a m c).ownBlock :=
    ⟨b2.os.trans hb.os, b2.tape.trans hb.tape, b2.output.trans hb.output, Nat.le_trans hb.size b2.size, fun k hk hr => (b2.block k (Nat.lt_of_lt_of_le hk hb.size) hr).trans (hb.block k hk)⟩
  rw [e] at r2 o2
  exact ⟨a2, c2, W3, Lib.hid r2, by show World.ownsRow _ _ _ _ _ _ _; rw [e]; exact o2, hg⟩
end Go.Proofs.Ytghlgmlelipjfaa.Job
namespace Go.Proofs.Ytghlgmlelipjfaa.Job
open Go.RowKit Go.Lib
open Goods (St Sts OwnS)

theorem size_jo : (Try.prog.info? 24).map (·.size) = some 16 := by
  have h := info_jo
  cases hq : Try.prog.info? 24 with
  | none => simp [hq] at h
  | some i =>
    simp [hq] at h
    simp [h.2.1]
theorem load_jo {ops : Array Oper} {rest : List Oper} {o : Oper} {a : Act} {w : World} {Q : Exit → Act → World → Prop} (hgd : o.guard = none) (x : Operand) (ho : o.op = .load 24 x) (g : Nat) (hx : a.eval x = .pointer (some ⟨g, 0, none⟩)) (j : JS) (v : Value) (hg : Has w g j v)
    (h : wpList Try.prog ops Q rest (a.put o.dst (jV j v)) w) : wpList Try.prog ops Q (o :: rest) a w :=
  wpList_load_row hgd 24 x ho g hx 24 (j.cells v) (0, 0) _ hg Try.underlying24 rfl size_jo h
theorem load_joG {ops : Array Oper} {rest : List Oper} {o : Oper} {a : Act} {w : World} {Q : Exit → Act → World → Prop} (hw : Region.wanted o (yielded ops a.tmps) = true) (x : Operand) (ho : o.op = .load 24 x) (g : Nat) (hx : a.eval x = .pointer (some ⟨g, 0, none⟩)) (j : JS) (v : Value) (hg : Has w g j v)
    (h : wpList Try.prog ops Q rest (a.put o.dst (jV j v)) w) : wpList Try.prog ops Q (o :: rest) a w :=
  BigFrame.wpList_want hw fun _ hK => wp_load_row 24 x ho g hx 24 (j.cells v) (0, 0) _ hg Try.underlying24 rfl size_jo (hK _ _ h)
theorem only_row (w : World) (g : Nat) (cs : Array Value) : w.grownBy (w.setRow g cs) (some g) :=
  ⟨rfl, rfl, rfl, by rw [setRow_size]; exact Nat.le_refl _, fun k _ hn => setRow_other w g k cs (fun e => hn (by rw [e]))⟩
theorem store_jo {ops : Array Oper} {rest : List Oper} {o : Oper} {a : Act} {w : World} {Q : Exit → Act → World → Prop} (hgd : o.guard = none) (x y : Operand) (ho : o.op = .store 24 x y) (g : Nat) (hx : a.eval x = .pointer (some ⟨g, 0, none⟩)) (j : JS) (b : Option Addr) (m d : Nat) (hy : a.eval y = jV j (.slice b m d)) (k : JS) (u : Value) (hg : Has w g k u)
    (h : ∀ w', Has w' g j (.slice b m d) → w.grownBy w' (some g) → wpList Try.prog ops Q rest (a.put o.dst undef) w') : wpList Try.prog ops Q (o :: rest) a w :=
  wpList_store_row hgd 24 x y ho g (j.cells (.slice b m d)) hx hy 24 (k.cells u) hg size_jo rfl (by simp [JS.cells, Value.oneCell']) (h _ (setRow_heap w g _ _ _ (0, 0) hg) (only_row w g _))
/-! .. in a region that draws its order -/
theorem yields_jo {ops : Array Oper} {S : World → Prop} {op : Oper} {a : Act} (hw : Region.wanted op (yielded ops a.tmps) = true) (x : Operand) (ho : op.op = .load 24 x) (g : Nat) (hx : a.eval x = .pointer (some ⟨g, 0, none⟩)) (j : JS) (v : Value) (hS : ∀ w, S w → Has w g j v) : YieldsIf Try.prog ops S op (jV j v) a :=
  .inl ⟨hw, fun w hw' => by
    unfold execOp
    simp only [ho, hx, Instr.loadAt, Instr.sureAddr, Sem.run_bind, Sem.run_pure, Result.andThen_ok, run_loadVar_row (P := Try.prog) w g 24 24 (j.cells v) (0, 0) _ (hS w hw') Try.underlying24 rfl size_jo]
    rfl⟩
theorem wp_store_jo {o : Oper} {a : Act} {w : World} {K : Act → World → Prop} {Q : Exit → Act → World → Prop} (x y : Operand) (ho : o.op = .store 24 x y) (g : Nat) (hx : a.eval x = .pointer (some ⟨g, 0, none⟩)) (j : JS) (b : Option Addr) (m d : Nat) (hy : a.eval y = jV j (.slice b m d)) (k : JS) (u : Value) (hg : Has w g k u)
    (h : ∀ w', Has w' g j (.slice b m d) → w.grownBy w' (some g) → K (a.put o.dst undef) w') : o.wp Try.prog a w K Q :=
  wp_store_row 24 x y ho g (j.cells (.slice b m d)) hx hy 24 (k.cells u) hg size_jo rfl (by simp [JS.cells, Value.oneCell']) (h _ (setRow_heap w g _ _ _ (0, 0) hg) (only_row w g _))
end Go.Proofs.Ytghlgmlelipjfaa.Job
namespace Go.Proofs.Ytghlgmlelipjfaa.Pen
open Go.RowKit Go.Lib

/-- A reader's block: what is left, or that it is bad. -/
def rdCells : Option ByteArray → Array Value
  | some s => #[.string s, .bool true]
  | none => #[.string ⟨#[]⟩, .bool false]
def Rd (w : World) (R : Nat) (st : Option ByteArray) : Prop := w.heap[R]? = some (.cells (rdCells st) 81 (0, 0))
theorem Rd.good {w : World} {R : Nat} {s : ByteArray} (h : Rd w R (some s)) : w.cell? ⟨R, 0, none⟩ = some (.string s) ∧ w.cell? ⟨R, 1, none⟩ = some (.bool true) ∧ w.frozen? ⟨R, 0, none⟩ = false ∧ w.frozen? ⟨R, 1, none⟩ = false :=
  ⟨cell_block h rfl, cell_block h rfl, free_block 0 h, free_block 1 h⟩
theorem Rd.bad {w : World} {R : Nat} (h : Rd w R none) : w.cell? ⟨R, 0, none⟩ = some (.string ⟨#[]⟩) ∧ w.cell? ⟨R, 1, none⟩ = some (.bool false) ∧ w.frozen? ⟨R, 0, none⟩ = false ∧ w.frozen? ⟨R, 1, none⟩ = false :=
  ⟨cell_block h rfl, cell_block h rfl, free_block 0 h, free_block 1 h⟩
theorem Rd.lt {w : World} {R : Nat} {st : Option ByteArray} (h : Rd w R st) : R < w.heap.size := by
  rcases Nat.lt_or_ge R w.heap.size with h' | h'
  · exact h'
  · unfold Rd at h; simp [Array.getElem?_eq_none h'] at h
theorem Rd.spoilt {w : World} {R : Nat} {st : Option ByteArray} (h : Rd w R st) : Rd ((w.setCell ⟨R, 0, none⟩ (.string ⟨#[]⟩)).setCell ⟨R, 1, none⟩ (.bool false)) R none := by
  have h1 := heap_setCell_same w R 0 _ _ (.string ⟨#[]⟩) h
  have h2 := heap_setCell_same _ R 1 _ _ (.bool false) h1
  unfold Rd
  rw [h2]
  cases st <;> rfl
theorem Rd.rest {w : World} {R : Nat} {s : ByteArray} (h : Rd w R (some s)) (t : ByteArray) : Rd (w.setCell ⟨R, 0, none⟩ (.string t)) R (some t) := by
  have h1 := heap_setCell_same w R 0 _ _ (.string t) h
  unfold Rd
  rw [h1]
  rfl
theorem Rd.of_grown {w w' : World} {R : Nat} {st : Option ByteArray} {row : Option Nat} (h : Rd w R st) (hg : w.grownBy w' row) (hne : some R ≠ row) : Rd w' R st :=
  (hg.block R h.lt hne).trans h
theorem Rd.of_below {w w' : World} {R : Nat} {st : Option ByteArray} (h : Rd w R st) (hg : Below w.heap.size w w') : Rd w' R st :=
  (hg.block R h.lt).trans h
theorem Rd.drewN {w : World} {R : Nat} {st : Option ByteArray} (h : Rd w R st) (n : Nat) : Rd (w.drewN n) R st := h
end Go.Proofs.Ytghlgmlelipjfaa.Pen
namespace Go.Proofs.Ytghlgmlelipjfaa.Pen
open Go.RowKit Go.Lib

theorem spoil_any (R : Nat) (st : Option ByteArray) (w : World) (h : Rd w R st) :
    Calls Try.prog 70 #[.pointer (some ⟨R, 0, none⟩)] w fun e w' => e = .returned (.tuple #[]) ∧ Rd w' R none ∧ w.grownBy w' (some R) := by
  have H := h
  cases st with
  | some s =>
    obtain ⟨c0, c1, f0, f1⟩ := h.good
    clear h
    go_enter Try.func70, Try.ntmps70
    go_wp2
    go_end0
    exact ⟨rfl, H.spoilt, only_setCell (only_setCell (only_refl _ _) _ _) _ _⟩
  | none =>
    obtain ⟨c0, c1, f0, f1⟩ := h.bad
    clear h
    go_enter Try.func70, Try.ntmps70
    go_wp2
    go_end0
    exact ⟨rfl, H.spoilt, only_setCell (only_setCell (only_refl _ _) _ _) _ _⟩
theorem spoil_nil (w : World) :
    Calls Try.prog 70 #[.pointer none] w fun e w' => e = .returned (.tuple #[]) ∧ w = w' := by
  go_enter Try.func70, Try.ntmps70
  go_wp2
  go_end0
  exact ⟨rfl, rfl⟩
end Go.Proofs.Ytghlgmlelipjfaa.Pen
namespace Go.Proofs.Ytghlgmlelipjfaa.Pen
open Go.RowKit Go.Lib

theorem bad_any (R : Nat) (st : Option ByteArray) (w : World) (h : Rd w R st) :
    Calls Try.prog 64 #[.pointer (some ⟨R, 0, none⟩)] w fun e w' => e = .returned (.bool (isBad st)) ∧ w = w' := by
  cases st with
  | some s =>
    obtain ⟨c0, c1, _, _⟩ := h.good
    clear h
    go_enter Try.func64, Try.ntmps64
    go_wp2
    go_ret
    exact ⟨rfl, rfl⟩
  | none =>
    obtain ⟨c0, c1, _, _⟩ := h.bad
    clear h
    go_enter Try.func64, Try.ntmps64
    go_wp2
    go_ret
    exact ⟨rfl, rfl⟩
theorem bad_nil (w : World) :
    Calls Try.prog 64 #[.pointer none] w fun e w' => e = .returned (.bool true) ∧ w = w' := by
  go_enter Try.func64, Try.ntmps64
  go_wp2
  go_ret
  exact ⟨rfl, rfl⟩
end Go.Proofs.Ytghlgmlelipjfaa.Pen
namespace Go.Proofs.Ytghlgmlelipjfaa.Pen
open Go.RowKit Go.Lib

set_option maxHeartbeats 400000 in
theorem mayEnd_yes (b i : Int) (w : World) (h0 : 0 ≤ b) (h1 : b ≤ 127) (h2 : 0 ≤ i) (h3 : i ≤ 9) (h : ¬ ((b = 0 ∧ 0 < i) ∨ (i = 9 ∧ 1 < b))) :
    Calls Try.prog 76 #[.int .u8 b, .int .i64 i] w fun e w' => e = .returned (.bool true) ∧ w = w' := by
  by_cases hb : b = 0
  · have hi : decide (0 < i) = false := by simp; omega
    have h9 : decide (i < 9) = true := by simp; omega
    have hB : (b == 0) = true := by simp [hb]
    clear hb h
    go_enter Try.func76, Try.ntmps76
    go_wp2
    go_ret
    exact ⟨rfl, rfl⟩
  · have hB : (b == 0) = false := by simp [hb]
    by_cases h9 : i < 9
    · have hd : decide (i < 9) = true := by simp [h9]
      clear hb h
      go_enter Try.func76, Try.ntmps76
      go_wp2
      go_ret
      exact ⟨rfl, rfl⟩
    · have hd : decide (i < 9) = false := by simp; omega
      have hB1 : (b == 1) = true := by simp; omega
      clear hb h
      go_enter Try.func76, Try.ntmps76
      go_wp2
      go_ret
      exact ⟨rfl, rfl⟩
set_option maxHeartbeats 400000 in
theorem mayEnd_no (b i : Int) (w : World) (h0 : 0 ≤ b) (h1 : b ≤ 127) (h2 : 0 ≤ i) (h3 : i ≤ 9) (h : (b = 0 ∧ 0 < i) ∨ (i = 9 ∧ 1 < b)) :
    Calls Try.prog 76 #[.int .u8 b, .int .i64 i] w fun e w' => e = .returned (.bool false) ∧ w = w' := by
  by_cases hb : b = 0
  · have hi : decide (0 < i) = true := by simp; omega
    have hB : (b == 0) = true := by simp [hb]
    clear hb h
    go_enter Try.func76, Try.ntmps76
    go_wp2
    go_ret
    exact ⟨rfl, rfl⟩
  · have hB : (b == 0) = false := by simp [hb]
    have hd : decide (i < 9) = false := by simp; omega
    have hB1 : (b == 1) = false := by simp; omega
    clear hb h
    go_enter Try.func76, Try.ntmps76
    go_wp2
    go_ret
    exact ⟨rfl, rfl⟩
set_option maxRecDepth 100000 in
set_option maxHeartbeats 1000000 in
theorem first_any (s : ByteArray) (w : World) (hs : s.size ≤ 9223372036854775807) :
    Calls Try.prog 75 #[.string s] w fun e w' => e = .returned (.tuple #[.int .u64 (FV s), .int .i64 (FK s)]) ∧ w = w' := by
  go_enter Try.func75, Try.ntmps75
  go_wp2
  all_goals
    go_loop [4, 10] (fun n i => ∃ (k acc : Nat) (z : Int), k ≤ 10 ∧ k ≤ s.size ∧ i = .int .i64 k ∧ n = .int .u64 z ∧ FirstAt s k acc z) (fun _ i => 10 - (intOf i).toNat)
    case atStart => exact ⟨0, 0, 0, by omega, by omega, rfl, rfl, ⟨fun _ => ⟨rfl, by simp⟩, rfl⟩⟩
    case round =>
      obtain ⟨k, acc, z, hk, hks, rfl, rfl, hP⟩ := hrel
      by_cases h1 : k < s.size ∧ k < 10
      · obtain ⟨h1, h2⟩ := h1
        obtain ⟨hz, hP⟩ := hP
        obtain ⟨rfl, ha⟩ := hz h2
        clear hz
        obtain ⟨c, hc⟩ : ∃ c, s[k].toNat = c := ⟨_, rfl⟩
        have hg : gb s k = c := by rw [gb_at s k h1, hc]
        have hc256 : c < 256 := by have := gb_lt s k; omega
        have HP := Lib.hid hP; have HG := Lib.hid hg
        have HA := Lib.hid ha
        clear hP hg ha
        by_cases hlt : c < 128
        · by_cases hend : (c = 0 ∧ 0 < k) ∨ (k = 9 ∧ 1 < c)
          · have HE := Lib.hid hend
            clear hend
            go_wp2_with fail
            refine (mayEnd_no c k _ (by omega) (by omega) (by omega) (by omega) (by have := HE.out; omega)).mono ?_
            rintro e w' ⟨rfl, rfl⟩
            go_wp2_with fail
            go_ret2
            exact ⟨first_none (by rw [HP.out]; exact scan_bad _ _ _ _ h1 h2 (by rw [HG.out]; exact hlt) (by rw [HG.out]; exact HE.out)), rfl⟩
          · have HE := Lib.hid hend
            clear hend
            go_wp2_with fail
            refine (mayEnd_yes c k _ (by omega) (by omega) (by omega) (by omega) (by have := HE.out; omega)).mono ?_
            rintro e w' ⟨rfl, rfl⟩
            go_wp2_with fail
            go_ret2
            exact ⟨first_some (by rw [HP.out]; exact scan_end _ _ _ _ h1 h2 (by rw [HG.out]; exact hlt) (by rw [HG.out]; exact HE.out)) (by rw [HG.out]; exact or_last acc c k (by omega) HA.out hlt (fun h => HE.out (Or.inr h))) (by omega), rfl⟩
        · have hge : (128 : Int) ≤ (c : Int) := by omega
          go_wp2_with fail
          go_round
          case rel =>
            refine ⟨k + 1, acc + (c - 128) * 2 ^ (7 * k), _, by omega, by omega, by go_num, rfl, ?_, ?_⟩
            · intro h9
              exact or_more acc c k (by omega) HA.out (by omega) hc256
            · rw [HP.out, scan_more _ _ _ _ h1 h2 (by rw [HG.out]; exact hlt), HG.out]
          case measure => simp [intOf]; omega
      · have HP := Lib.hid hP.2; clear hP
        go_wp2_with fail
        go_ret2
        exact ⟨first_none (by rw [HP.out]; exact scan_out _ _ _ _ h1), rfl⟩
set_option maxRecDepth 100000 in
set_option maxHeartbeats 1000000 in
theorem take_any (R : Nat) (st : Option ByteArray) (most : Nat) (w : World) (h : Rd w R st) (hf : Fit st) (_hm : most < 18446744073709551616) :
    Calls Try.prog 71 #[.pointer (some ⟨R, 0, none⟩), .int .u64 most] w fun e w' => e = .returned (.int .u64 (tkN st most)) ∧ Rd w' R (tkS st most) ∧ w.grownBy w' (some R) := by
  have H := h
  cases st with
  | none =>
    clear h
    go_enter Try.func71, Try.ntmps71
    go_wp2_with fail
    refine (bad_any R none _ H).mono ?_
    rintro e w' ⟨rfl, rfl⟩
    go_wp2_with fail
    go_ret
    exact ⟨rfl, H, only_refl _ _⟩
  | some s =>
    obtain ⟨c0, c1, f0, f1⟩ := h.good
    clear h
    have hs := hf s rfl
    obtain ⟨n, hn⟩ : ∃ n, FV s = n := ⟨_, rfl⟩
    obtain ⟨k, hk⟩ : ∃ k, FK s = k := ⟨_, rfl⟩
    have hn64 := FV_lt s
    have hkle := (FK_le s).1
    have hk10 := (FK_le s).2
    rw [hn] at hn64; rw [hk] at hkle hk10
    have HN := Lib.hid hn; have HK := Lib.hid hk
    by_cases hz : k = 0
    · have hd : ((k : Int) == 0) = true := by simp [hz]
      have hN : tkN (some s) most = 0 := by simp [tkN, hk, hz]
      have hS : tkS (some s) most = none := by simp [tkS, hk, hz]
      have HNN := Lib.hid hN; have HSS := Lib.hid hS
      clear hN hS hn hk hz
      go_enter Try.func71, Try.ntmps71
      go_wp2_with fail
      refine (bad_any R (some s) _ H).mono ?_
      rintro e w' ⟨rfl, rfl⟩
      go_wp2_with fail
      refine (first_any s _ hs).mono ?_
      rintro e w' ⟨rfl, rfl⟩
      rw [HN.out, HK.out]
      go_wp2_with fail
      refine (spoil_any R _ _ H).mono ?_
      rintro e w' ⟨rfl, H', hg⟩
      go_wp2_with fail
      go_ret
      exact ⟨ret_u64 (by rw [HNN.out]; rfl), by rw [HSS.out]; exact H', hg⟩
    · have hd : ((k : Int) == 0) = false := by simp [hz]
      by_cases hgt : most < n
      · have hgt' : (most : Int) < (n : Int) := by omega
        have hN : tkN (some s) most = 0 := by simp [tkN, hn, hgt]
        have hS : tkS (some s) most = none := by simp [tkS, hn, hgt]
        have HNN := Lib.hid hN; have HSS := Lib.hid hS
        clear hN hS hn hk hz
        go_enter Try.func71, Try.ntmps71
        go_wp2_with fail
        refine (bad_any R (some s) _ H).mono ?_
        rintro e w' ⟨rfl, rfl⟩
        go_wp2_with fail
        refine (first_any s _ hs).mono ?_
        rintro e w' ⟨rfl, rfl⟩
        rw [HN.out, HK.out]
        go_wp2_with fail
        refine (spoil_any R _ _ H).mono ?_
        rintro e w' ⟨rfl, H', hg⟩
        go_wp2_with fail
        go_ret
        exact ⟨ret_u64 (by rw [HNN.out]; rfl), by rw [HSS.out]; exact H', hg⟩
      · have hgt' : (n : Int) ≤ (most : Int) := by omega
        have hd2 : decide (most < n) = false := by simp; omega
        have hN : tkN (some s) most = n := by unfold tkN; simp only []; rw [if_neg (by omega), hn]
        have hS : tkS (some s) most = some (s.extract k s.size) := by unfold tkS; simp only []; rw [if_neg (by omega), hk]
        have HNN := Lib.hid hN; have HSS := Lib.hid hS
        clear hN hS hn hk hz
        go_enter Try.func71, Try.ntmps71
        go_wp2_with fail
        refine (bad_any R (some s) _ H).mono ?_
        rintro e w' ⟨rfl, rfl⟩
        go_wp2_with fail
        refine (first_any s _ hs).mono ?_
        rintro e w' ⟨rfl, rfl⟩
        rw [HN.out, HK.out]
        go_wp2_with fail
        go_ret
        exact ⟨ret_u64 (by rw [HNN.out]), by rw [HSS.out]; exact H.rest _, only_setCell (only_refl _ _) _ _⟩
theorem take_nil (most : Nat) (w : World) :
    Calls Try.prog 71 #[.pointer none, .int .u64 most] w fun e w' => e = .returned (.int .u64 0) ∧ w = w' := by
  go_enter Try.func71, Try.ntmps71
  go_wp2_with fail
  refine (bad_nil _).mono ?_
  rintro e w' ⟨rfl, rfl⟩
  go_wp2_with fail
  go_ret
  exact ⟨rfl, rfl⟩
end Go.Proofs.Ytghlgmlelipjfaa.Pen
namespace Go.Proofs.Ytghlgmlelipjfaa.Pen
open Go.RowKit Go.Lib

set_option maxHeartbeats 1000000 in
theorem uint_any (R : Nat) (st : Option ByteArray) (most : Int) (w : World) (h : Rd w R st) (hf : Fit st) (hm : most ≤ 9223372036854775807) :
    Calls Try.prog 61 #[.pointer (some ⟨R, 0, none⟩), .int .i64 most] w fun e w' => e = .returned (.int .i64 (uiN st most)) ∧ Rd w' R (uiS st most) ∧ w.grownBy w' (some R) := by
  by_cases hneg : most < 0
  · have hN : uiN st most = 0 := by unfold uiN; rw [if_pos hneg]
    have hS : uiS st most = none := by unfold uiS; rw [if_pos hneg]
    have HNN := Lib.hid hN; have HSS := Lib.hid hS
    clear hN hS
    go_enter Try.func61, Try.ntmps61
    go_wp2_with fail
    refine (spoil_any R st _ h).mono ?_
    rintro e w' ⟨rfl, H', hg⟩
    go_wp2_with fail
    go_ret
    exact ⟨ret_i64 (by rw [HNN.out]; rfl), by rw [HSS.out]; exact H', hg⟩
  · obtain ⟨m, rfl⟩ : ∃ m : Nat, most = m := ⟨most.toNat, by omega⟩
    obtain ⟨n, hn⟩ : ∃ n, tkN st m = n := ⟨_, rfl⟩
    have hN : uiN st m = n := by unfold uiN; rw [if_neg hneg, Int.toNat_natCast, hn]
    have hS : uiS st m = tkS st m := by unfold uiS; rw [if_neg hneg, Int.toNat_natCast]
    have hle := (tkN_le st m).1
    rw [hn] at hle
    have hd : decide ((m : Int) < 0) = false := by simp
    have HNN := Lib.hid hN; have HSS := Lib.hid hS; have HN := Lib.hid hn
    clear hN hS hneg hn
    go_enter Try.func61, Try.ntmps61
    go_wp2_with fail
    refine (take_any R st m _ h hf (by omega)).mono ?_
    rintro e w' ⟨rfl, H', hg⟩
    rw [HN.out]
    go_wp2_with fail
    go_ret
    exact ⟨ret_i64 (by rw [HNN.out]), by rw [HSS.out]; exact H', hg⟩
theorem uint_nil (most : Int) (w : World) (hm : most ≤ 9223372036854775807) :
    Calls Try.prog 61 #[.pointer none, .int .i64 most] w fun e w' => e = .returned (.int .i64 0) ∧ w = w' := by
  by_cases hneg : most < 0
  · go_enter Try.func61, Try.ntmps61
    go_wp2_with fail
    refine (spoil_nil _).mono ?_
    rintro e w' ⟨rfl, rfl⟩
    go_wp2_with fail
    go_ret
    exact ⟨rfl, rfl⟩
  · obtain ⟨m, rfl⟩ : ∃ m : Nat, most = m := ⟨most.toNat, by omega⟩
    have hd : decide ((m : Int) < 0) = false := by simp
    clear hneg
    go_enter Try.func61, Try.ntmps61
    go_wp2_with fail
    refine (take_nil m _).mono ?_
    rintro e w' ⟨rfl, rfl⟩
    go_wp2_with fail
    go_ret
    exact ⟨rfl, rfl⟩
end Go.Proofs.Ytghlgmlelipjfaa.Pen
namespace Go.Proofs.Ytghlgmlelipjfaa.Pen
open Go.RowKit Go.Lib

theorem left_any (R : Nat) (st : Option ByteArray) (w : World) (h : Rd w R st) :
    Calls Try.prog 72 #[.pointer (some ⟨R, 0, none⟩)] w fun e w' => e = .returned (.int .i64 (leftOf st)) ∧ w = w' := by
  have H := h
  cases st with
  | some s =>
    obtain ⟨c0, c1, _, _⟩ := h.good
    clear h
    go_enter Try.func72, Try.ntmps72
    go_wp2_with fail
    refine (bad_any R _ _ H).mono ?_
    rintro e w' ⟨rfl, rfl⟩
    go_wp2
    go_ret
    exact ⟨rfl, rfl⟩
  | none =>
    go_enter Try.func72, Try.ntmps72
    go_wp2_with fail
    refine (bad_any R _ _ H).mono ?_
    rintro e w' ⟨rfl, rfl⟩
    go_wp2
    go_ret
    exact ⟨rfl, rfl⟩
theorem left_nil (w : World) :
    Calls Try.prog 72 #[.pointer none] w fun e w' => e = .returned (.int .i64 0) ∧ w = w' := by
  go_enter Try.func72, Try.ntmps72
  go_wp2_with fail
  refine (bad_nil _).mono ?_
  rintro e w' ⟨rfl, rfl⟩
  go_wp2_with fail
  go_ret
  exact ⟨rfl, rfl⟩
end Go.Proofs.Ytghlgmlelipjfaa.Pen
