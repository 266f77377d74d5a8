/- What the laws ask of the program's recipe; the blueprint of what must come. -/
import Derived.Test.YtbibkonlhghplaaRecB
import Derived.Test.YtbibkonlhghplaaRecC
namespace Go.Proofs.Ytbibkonlhghplaa.Recipe
open Go.RowKit Go.Lib
open Goods (St Sts OwnS)

def I64 (x : Int) : Prop := -9223372036854775808 ≤ x ∧ x ≤ 9223372036854775807
def InS (s : List St) : Prop := ∀ t ∈ s, I64 t.kind ∧ I64 t.qty
def InBl (b : Bl) : Prop := I64 b.ot ∧ I64 b.per ∧ I64 b.tm ∧ I64 b.cp ∧ I64 b.st ∧ I64 b.mo ∧ InS b.s
/-- A blueprint as the laws have it. -/
def Fit (w : World) (b : Bl) : Prop := BlIn w b ∧ InBl b ∧ b.sm ≤ 12
theorem Fit.under {w w' : World} {b : Bl} (h : Fit w b) (hb : Below w.heap.size w w') : Fit w' b := ⟨h.1.under hb, h.2⟩
/-- The program's functions answer in the document's words. -/
structure Impl : Prop where
  check : ∀ (b : Bl) (ty : Int) (w : World), Fit w b → I64 ty → Calls Try.prog 15 #[blV b, .int .i64 ty] w fun e w' => e = .returned (.int .i64 (chkB b ty)) ∧ Below w.heap.size w w'
  needs : ∀ (b : Bl) (lv r : Int) (w : World), Fit w b → I64 lv → I64 r → Calls Try.prog 8 #[blV b, .int .i64 lv, .int .i64 r] w fun e w' => ∃ a' m' c', e = .returned (.tuple #[.slice a' m' c', .int .i64 (needsE b lv r)]) ∧ Hid (OwnS w' w.heap.size (.slice a' m' c') (needsL b lv r) ∧ Below w.heap.size w w')
  makes : ∀ (b : Bl) (r : Int) (w : World), Fit w b → I64 r → Calls Try.prog 10 #[blV b, .int .i64 r] w fun e w' => e = .returned (.tuple #[.agg #[.int .i64 (makesV b r).kind, .int .i64 (makesV b r).qty], .int .i64 (makesE b r)]) ∧ Below w.heap.size w w'
  runs : ∀ (b : Bl) (n : Int) (w : World), Fit w b → I64 n → Calls Try.prog 21 #[blV b, .int .i64 n] w fun e w' => e = .returned (.tuple #[.int .i64 (runsV b n), .int .i64 (runsE b n)]) ∧ Below w.heap.size w w'
  time : ∀ (b : Bl) (lv r : Int) (w : World), Fit w b → I64 lv → I64 r → Calls Try.prog 12 #[blV b, .int .i64 lv, .int .i64 r] w fun e w' => e = .returned (.tuple #[.int .i64 (timeV b lv r), .int .i64 (timeE b lv r)]) ∧ Below w.heap.size w w'
  study : ∀ (b : Bl) (lv n : Int) (w : World), Fit w b → I64 lv → I64 n → Calls Try.prog 17 #[blV b, .int .i64 lv, .int .i64 n] w fun e w' => e = .returned (.tuple #[.int .i64 (studyV b lv n), .int .i64 (studyE b lv n)]) ∧ Below w.heap.size w w'
  copy : ∀ (b : Bl) (c r : Int) (w : World), Fit w b → I64 c → I64 r → Calls Try.prog 19 #[blV b, .int .i64 c, .int .i64 r] w fun e w' => e = .returned (.tuple #[.int .i64 (copyV b c r), .int .i64 (copyE b c r)]) ∧ Below w.heap.size w w'

theorem own_sts {w : World} {B : Nat} {a : Option Addr} {n c : Nat} {l : List St} (h : OwnS w B (.slice a n c) l) : l.length = n ∧ Sts w a l := by
  obtain ⟨a', c', e, h1⟩ := Goods.sts_own h
  injection e with e1 e2 _
  subst e1
  exact ⟨e2.symm, h1⟩
open Classical in
/-- Two rows of the same stacks. -/
theorem same_at {W : World} {l : List St} {a b : Option Addr} {n c m d : Nat} (h1 : l.length = n) (s1 : Sts W a l) (h2 : l.length = m) (s2 : Sts W b l) (hl : l.length ≤ 1000) : Calls Try.prog 14 #[.slice a n c, .slice b m d] W fun e w' => e = .returned (.bool true) ∧ Hid (Below W.heap.size W w') := by
  have := Goods.dsame a n c l b m d l W h1 s1 (by omega) h2 s2 (by omega)
  rw [decide_eq_true rfl] at this
  exact this.mono fun _ _ ⟨e, h⟩ => ⟨e, Lib.hid h⟩
/-- Stacks that a composite literal lays. -/
theorem sts_lit {w : World} {g : Nat} {cs : Array Value} {T : TypeId} (l : List St) (h : w.heap[g]? = some (.cells cs T (0, 0))) (hc : cs.toList = Goods.scells l) : Sts w (some ⟨g, 0, none⟩) l := fun i t hi => by
  have hq : ∀ j u, (Goods.stCells t)[j]? = some u → w.cell? ⟨g, 0 + i * 2 + j, none⟩ = some u := fun j u hj => by
    rw [Nat.zero_add]
    refine cell_block (j := i * 2 + j) h ?_
    rw [← Array.getElem?_toList, hc]
    exact Goods.scells_at l i t hi j u hj
  exact ⟨g, 0, rfl, (Array.getElem?_eq_some_iff.1 h).1, hq 0 _ rfl, hq 1 _ rfl⟩
def plS : List St := [⟨1, 10⟩, ⟨2, 1⟩]
abbrev plB (g : Nat) : Bl := ⟨3, 5, 60, some ⟨g, 0, none⟩, 2, 2, plS, 7, 100, 20⟩
theorem in_pl (g : Nat) : InBl (plB g) := ⟨by simp [I64], by simp [I64], by simp [I64], by simp [I64], by simp [I64], by simp [I64], fun s hs => by simp [plS] at hs; rcases hs with rfl | rfl <;> simp [I64]⟩
theorem pl_listed : Goods.Listed plS 32 ∧ ¬ 0 < Goods.cnt (Goods.valN plS) 3 := by
  have hf : Goods.Fine plS := fun s hs => by simp [plS] at hs; rcases hs with rfl | rfl <;> simp
  have hov : ¬ Goods.Over plS := by
    rintro ⟨k, hk⟩
    have h1 : Goods.cnt plS k ≤ 11 := by
      simp only [plS, Goods.cnt]
      split <;> split <;> omega
    unfold Goods.mq at hk
    omega
  have he := Goods.errN_ok hf hov
  refine ⟨⟨by decide, he, rfl, fun s hs => by simp [plS] at hs; rcases hs with rfl | rfl <;> simp⟩, ?_⟩
  rw [Goods.valN_ok he]
  decide
theorem pl_ok (g : Nat) : BlOk (plB g) 32 := ⟨by simp, by simp, by simp, by simp, by simp, by simp, by simp, pl_listed.1, pl_listed.2⟩
theorem pl_no (g : Nat) : chkB (plB g) 2 = 1 := chkB_no fun h => by have := h.2.1.2; simp at this
theorem pl_needs (g : Nat) : needsE (plB g) 5 3 = 0 ∧ needsL (plB g) 5 3 = [⟨1, 29⟩, ⟨2, 3⟩] := by
  have h := needsE_ok (b := plB g) (lv := 5) (r := 3) (pl_ok g) (by unfold LvOk; omega) (fun t ht => by
    simp [plS] at ht
    rcases ht with rfl | rfl <;> decide)
  exact ⟨h.1, by rw [h.2]; rfl⟩
theorem pl_makes (g : Nat) : makesE (plB g) 3 = 0 ∧ (makesV (plB g) 3).kind = 3 ∧ (makesV (plB g) 3).qty = 15 := by
  have h := makes_ok (b := plB g) (r := 3) (pl_ok g) (by unfold RunOk; omega)
  exact ⟨h.1, by rw [h.2], by rw [h.2]; rfl⟩
theorem pl_time (g : Nat) : timeE (plB g) 10 3 = 0 ∧ timeV (plB g) 10 3 = 144 := by
  have h := time_ok (b := plB g) (lv := 10) (r := 3) (pl_ok g) (by unfold LvOk; omega)
  exact ⟨h.1, by rw [h.2]; rfl⟩
theorem pl_study (g : Nat) : studyE (plB g) 2 2 = 0 ∧ studyV (plB g) 2 2 = 700 := by
  have h := study_ok (b := plB g) (lv := 2) (n := 2) (pl_ok g) (by unfold StOk; omega)
  exact ⟨h.1, by rw [h.2]; rfl⟩
theorem pl_runs (g : Nat) : runsE (plB g) 11 = 0 ∧ runsV (plB g) 11 = 3 := by
  have h := runs_ok (b := plB g) (n := 11) (pl_ok g) (by unfold QtyOk mq; omega)
  exact ⟨h.1, by rw [h.2]; rfl⟩
theorem ret_blue {fn : Func} {R : Ending → World → Prop} {a : Act} {w : World} {p : Tmp} {g : Nat} {b : Bl} {T : TypeId} (h : fn.results = #[.cell p 24]) (hd : a.defers = [])
    (ht : a.tmps.getD p undef = .pointer (some ⟨g, 0, none⟩)) (hb : w.heap[g]? = some (.cells #[.int .i64 b.ot, .int .i64 b.per, .int .i64 b.tm, .slice b.sa b.sm b.sc, .int .i64 b.cp, .int .i64 b.st, .int .i64 b.mo] T (0, 0))) (hR : R (.returned (blV b)) w) : bodyPost Try.prog fn R .ret a w :=
  bodyPost_ret (v := blV b) (results_cell_row h _ w g T #[.int .i64 b.ot, .int .i64 b.per, .int .i64 b.tm, .slice b.sa b.sm b.sc, .int .i64 b.cp, .int .i64 b.st, .int .i64 b.mo] (0, 0) _ ht hb Try.underlying24 rfl (by kernel_rfl)) hd hR
theorem blue_set {w : World} {g : Nat} {a b c d e f h x0 x1 x2 x3 x4 x5 x6 : Value} {T : TypeId} (hb : w.heap[g]? = some (.cells #[a, b, c, d, e, f, h] T (0, 0))) :
    (((((((w.setCell ⟨g, 0, none⟩ x0).setCell ⟨g, 1, none⟩ x1).setCell ⟨g, 2, none⟩ x2).setCell ⟨g, 3, none⟩ x3).setCell ⟨g, 4, none⟩ x4).setCell ⟨g, 5, none⟩ x5).setCell ⟨g, 6, none⟩ x6).heap[g]? = some (.cells #[x0, x1, x2, x3, x4, x5, x6] T (0, 0)) := by
  obtain ⟨w0, e0⟩ : ∃ u, w.setCell ⟨g, 0, none⟩ x0 = u := ⟨_, rfl⟩
  have h0 : w0.heap[g]? = some (.cells #[x0, b, c, d, e, f, h] T (0, 0)) := by rw [← e0]; exact heap_setCell_same w g 0 _ _ x0 hb
  rw [e0]
  obtain ⟨w1, e1⟩ : ∃ u, w0.setCell ⟨g, 1, none⟩ x1 = u := ⟨_, rfl⟩
  have h1 : w1.heap[g]? = some (.cells #[x0, x1, c, d, e, f, h] T (0, 0)) := by rw [← e1]; exact heap_setCell_same w0 g 1 _ _ x1 h0
  rw [e1]
  obtain ⟨w2, e2⟩ : ∃ u, w1.setCell ⟨g, 2, none⟩ x2 = u := ⟨_, rfl⟩
  have h2 : w2.heap[g]? = some (.cells #[x0, x1, x2, d, e, f, h] T (0, 0)) := by rw [← e2]; exact heap_setCell_same w1 g 2 _ _ x2 h1
  rw [e2]
  obtain ⟨w3, e3⟩ : ∃ u, w2.setCell ⟨g, 3, none⟩ x3 = u := ⟨_, rfl⟩
  have h3 : w3.heap[g]? = some (.cells #[x0, x1, x2, x3, e, f, h] T (0, 0)) := by rw [← e3]; exact heap_setCell_same w2 g 3 _ _ x3 h2
  rw [e3]
  obtain ⟨w4, e4⟩ : ∃ u, w3.setCell ⟨g, 4, none⟩ x4 = u := ⟨_, rfl⟩
  have h4 : w4.heap[g]? = some (.cells #[x0, x1, x2, x3, x4, f, h] T (0, 0)) := by rw [← e4]; exact heap_setCell_same w3 g 4 _ _ x4 h3
  rw [e4]
  obtain ⟨w5, e5⟩ : ∃ u, w4.setCell ⟨g, 5, none⟩ x5 = u := ⟨_, rfl⟩
  have h5 : w5.heap[g]? = some (.cells #[x0, x1, x2, x3, x4, x5, h] T (0, 0)) := by rw [← e5]; exact heap_setCell_same w4 g 5 _ _ x5 h4
  rw [e5]
  obtain ⟨w6, e6⟩ : ∃ u, w5.setCell ⟨g, 6, none⟩ x6 = u := ⟨_, rfl⟩
  have h6 : w6.heap[g]? = some (.cells #[x0, x1, x2, x3, x4, x5, x6] T (0, 0)) := by rw [← e6]; exact heap_setCell_same w5 g 6 _ _ x6 h5
  rw [e6]
  exact h6
set_option maxRecDepth 100000 in
set_option maxHeartbeats 4000000 in
theorem plain_in (w : World) : Calls Try.prog 23 #[] w fun e w' => ∃ g, e = .returned (blV (plB g)) ∧ Hid (Fit w' (plB g) ∧ Below w.heap.size w w') := by
  obtain ⟨V, hV⟩ : ∃ V, w.heap.size = V := ⟨_, rfl⟩
  obtain ⟨X, hX⟩ : ∃ X, w.alloc (.cells #[.int .i64 0, .int .i64 0, .int .i64 0, .slice none 0 0, .int .i64 0, .int .i64 0, .int .i64 0] 24) = X := ⟨_, rfl⟩
  obtain ⟨G, hG⟩ : ∃ G, X.heap.size = G := ⟨_, rfl⟩
  obtain ⟨Z, hZ⟩ : ∃ Z, X.alloc (.cells #[.int .i64 1, .int .i64 10, .int .i64 2, .int .i64 1] 30) = Z := ⟨_, rfl⟩
  have hXB : Below w.heap.size w X := by rw [← hX]; exact (Below.refl _ w).alloc (Nat.le_refl _) _
  have hZB : Below X.heap.size X Z := by rw [← hZ]; exact (Below.refl _ X).alloc (Nat.le_refl _) _
  have hXV : X.heap[V]? = some (.cells #[.int .i64 0, .int .i64 0, .int .i64 0, .slice none 0 0, .int .i64 0, .int .i64 0, .int .i64 0] 24 (0, 0)) := by rw [← hX, ← hV]; exact heap_alloc_new w _
  have hlt := (Array.getElem?_eq_some_iff.1 hXV).1
  have hZV := (hZB.block V hlt).trans hXV
  have hZG : Z.heap[G]? = some (.cells #[.int .i64 1, .int .i64 10, .int .i64 2, .int .i64 1] 30 (0, 0)) := by rw [← hZ, ← hG]; exact heap_alloc_new X _
  have hne : G ≠ V := by omega
  have HZV := Lib.hid hZV
  have HEND : Hid (∀ x0 x1 x2 x3 x4 x5 x6, Fit (((((((Z.setCell ⟨V, 0, none⟩ x0).setCell ⟨V, 1, none⟩ x1).setCell ⟨V, 2, none⟩ x2).setCell ⟨V, 3, none⟩ x3).setCell ⟨V, 4, none⟩ x4).setCell ⟨V, 5, none⟩ x5).setCell ⟨V, 6, none⟩ x6) (plB G) ∧ Below w.heap.size w (((((((Z.setCell ⟨V, 0, none⟩ x0).setCell ⟨V, 1, none⟩ x1).setCell ⟨V, 2, none⟩ x2).setCell ⟨V, 3, none⟩ x3).setCell ⟨V, 4, none⟩ x4).setCell ⟨V, 5, none⟩ x5).setCell ⟨V, 6, none⟩ x6)) := Lib.hid (fun x0 x1 x2 x3 x4 x5 x6 => by
    have h := only_setCell (only_setCell (only_setCell (only_setCell (only_setCell (only_setCell (only_setCell (only_refl Z (some V)) 0 x0) 1 x1) 2 x2) 3 x3) 4 x4) 5 x5) 6 x6
    refine ⟨⟨⟨rfl, sts_lit plS ((h.block G (Array.getElem?_eq_some_iff.1 hZG).1 (by rintro e; injection e with e; exact hne e)).trans hZG) rfl, by show 2 ≤ 1000; omega⟩, in_pl G, by show 2 ≤ 12; omega⟩, below_of_only (below_then hXB hZB) (by rw [hV]; exact Nat.le_refl _) h⟩)
  have c0 := cell_block (j := 0) hZV rfl
  have c1 := cell_block (j := 1) hZV rfl
  have c2 := cell_block (j := 2) hZV rfl
  have c3 := cell_block (j := 3) hZV rfl
  have c4 := cell_block (j := 4) hZV rfl
  have c5 := cell_block (j := 5) hZV rfl
  have c6 := cell_block (j := 6) hZV rfl
  have f0 := free_block 0 hZV
  have f1 := free_block 1 hZV
  have f2 := free_block 2 hZV
  have f3 := free_block 3 hZV
  have f4 := free_block 4 hZV
  have f5 := free_block 5 hZV
  have f6 := free_block 6 hZV
  clear hXB hZB hXV hlt hZV hZG hne
  go_enter Try.func23, Try.ntmps23
  go_wp2_with fail
  exact ret_blue (b := plB G) rfl rfl rfl (blue_set HZV.out) ⟨G, rfl, Lib.hid (HEND.out _ _ _ _ _ _ _)⟩
/-- As walks want it. -/
theorem plain_at (w : World) : Hid (∀ W, Below w.heap.size w W → Calls Try.prog 23 #[] W fun e w' => ∃ g, e = .returned (blV (plB g)) ∧ Hid (Fit w' (plB g) ∧ Below w.heap.size w w')) := Lib.hid (fun W hW => (plain_in W).mono fun _ _ ⟨g, e, h⟩ => ⟨g, e, Lib.hid ⟨h.out.1, below_then hW h.out.2⟩⟩)
end Go.Proofs.Ytbibkonlhghplaa.Recipe
