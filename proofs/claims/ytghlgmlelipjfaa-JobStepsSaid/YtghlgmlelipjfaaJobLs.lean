/- A whole job read out of a block, and stored into one, at one stroke. -/
import Derived.Test.YtghlgmlelipjfaaJobRow
import Derived.Laws.Tables
import Derived.Deep.RegionHeld3
namespace Go.Proofs.Ytghlgmlelipjfaa.Job
open Go.RowKit Go.Lib
open Goods (St Sts OwnS)

theorem size_jo : (Try.prog.info? 24).map (·.size) = some 16 := by
  have h := info_jo
  cases hq : Try.prog.info? 24 with
  | none => simp [hq] at h
  | some i =>
    simp [hq] at h
    simp [h.2.1]
theorem load_jo {ops : Array Oper} {rest : List Oper} {o : Oper} {a : Act} {w : World} {Q : Exit → Act → World → Prop} (hgd : o.guard = none) (x : Operand) (ho : o.op = .load 24 x) (g : Nat) (hx : a.eval x = .pointer (some ⟨g, 0, none⟩)) (j : JS) (v : Value) (hg : Has w g j v)
    (h : wpList Try.prog ops Q rest (a.put o.dst (jV j v)) w) : wpList Try.prog ops Q (o :: rest) a w :=
  wpList_load_row hgd 24 x ho g hx 24 (j.cells v) (0, 0) _ hg Try.underlying24 rfl size_jo h
theorem load_joG {ops : Array Oper} {rest : List Oper} {o : Oper} {a : Act} {w : World} {Q : Exit → Act → World → Prop} (hw : Region.wanted o (yielded ops a.tmps) = true) (x : Operand) (ho : o.op = .load 24 x) (g : Nat) (hx : a.eval x = .pointer (some ⟨g, 0, none⟩)) (j : JS) (v : Value) (hg : Has w g j v)
    (h : wpList Try.prog ops Q rest (a.put o.dst (jV j v)) w) : wpList Try.prog ops Q (o :: rest) a w :=
  BigFrame.wpList_want hw fun _ hK => wp_load_row 24 x ho g hx 24 (j.cells v) (0, 0) _ hg Try.underlying24 rfl size_jo (hK _ _ h)
theorem only_row (w : World) (g : Nat) (cs : Array Value) : w.grownBy (w.setRow g cs) (some g) :=
  ⟨rfl, rfl, rfl, by rw [setRow_size]; exact Nat.le_refl _, fun k _ hn => setRow_other w g k cs (fun e => hn (by rw [e]))⟩
theorem store_jo {ops : Array Oper} {rest : List Oper} {o : Oper} {a : Act} {w : World} {Q : Exit → Act → World → Prop} (hgd : o.guard = none) (x y : Operand) (ho : o.op = .store 24 x y) (g : Nat) (hx : a.eval x = .pointer (some ⟨g, 0, none⟩)) (j : JS) (b : Option Addr) (m d : Nat) (hy : a.eval y = jV j (.slice b m d)) (k : JS) (u : Value) (hg : Has w g k u)
    (h : ∀ w', Has w' g j (.slice b m d) → w.grownBy w' (some g) → wpList Try.prog ops Q rest (a.put o.dst undef) w') : wpList Try.prog ops Q (o :: rest) a w :=
  wpList_store_row hgd 24 x y ho g (j.cells (.slice b m d)) hx hy 24 (k.cells u) hg size_jo rfl (by simp [JS.cells, Value.oneCell']) (h _ (setRow_heap w g _ _ _ (0, 0) hg) (only_row w g _))
/-! .. in a region that draws its order -/
theorem yields_jo {ops : Array Oper} {S : World → Prop} {op : Oper} {a : Act} (hw : Region.wanted op (yielded ops a.tmps) = true) (x : Operand) (ho : op.op = .load 24 x) (g : Nat) (hx : a.eval x = .pointer (some ⟨g, 0, none⟩)) (j : JS) (v : Value) (hS : ∀ w, S w → Has w g j v) : YieldsIf Try.prog ops S op (jV j v) a :=
  .inl ⟨hw, fun w hw' => by
    unfold execOp
    simp only [ho, hx, Instr.loadAt, Instr.sureAddr, Sem.run_bind, Sem.run_pure, Result.andThen_ok, run_loadVar_row (P := Try.prog) w g 24 24 (j.cells v) (0, 0) _ (hS w hw') Try.underlying24 rfl size_jo]
    rfl⟩
theorem wp_store_jo {o : Oper} {a : Act} {w : World} {K : Act → World → Prop} {Q : Exit → Act → World → Prop} (x y : Operand) (ho : o.op = .store 24 x y) (g : Nat) (hx : a.eval x = .pointer (some ⟨g, 0, none⟩)) (j : JS) (b : Option Addr) (m d : Nat) (hy : a.eval y = jV j (.slice b m d)) (k : JS) (u : Value) (hg : Has w g k u)
    (h : ∀ w', Has w' g j (.slice b m d) → w.grownBy w' (some g) → K (a.put o.dst undef) w') : o.wp Try.prog a w K Q :=
  wp_store_row 24 x y ho g (j.cells (.slice b m d)) hx hy 24 (k.cells u) hg size_jo rfl (by simp [JS.cells, Value.oneCell']) (h _ (setRow_heap w g _ _ _ (0, 0) hg) (only_row w g _))
end Go.Proofs.Ytghlgmlelipjfaa.Job
