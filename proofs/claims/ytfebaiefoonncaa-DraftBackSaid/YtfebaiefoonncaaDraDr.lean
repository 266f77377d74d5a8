/- A struct api.Draft of whole numbers: in memory, as a result, in rows. -/
import Derived.Test.YtfebaiefoonncaaTbCmp
import Derived.Laws.ResultCell
import Derived.Laws.Rows
namespace Go.Proofs.Ytfebaiefoonncaa.Draft
open Go.RowKit Go.Lib

structure Dr where
  id : Int
  owner : Int
  div : Int
  place : Int
  blue : Int
  me : Int
  te : Int
  runs : Int
  busy : Int
instance : Inhabited Dr := ⟨⟨0, 0, 0, 0, 0, 0, 0, 0, 0⟩⟩
def Dr.cells (x : Dr) : Array Value := #[.int .i64 x.id, .int .i64 x.owner, .int .i64 x.div, .int .i64 x.place, .int .i64 x.blue, .int .i64 x.me, .int .i64 x.te, .int .i64 x.runs, .int .i64 x.busy]
def elCells (x : Dr) : List Value := [.int .i64 x.id, .int .i64 x.owner, .int .i64 x.div, .int .i64 x.place, .int .i64 x.blue, .int .i64 x.me, .int .i64 x.te, .int .i64 x.runs, .int .i64 x.busy]
abbrev elV (x : Dr) : Value := .agg #[.int .i64 x.id, .int .i64 x.owner, .int .i64 x.div, .int .i64 x.place, .int .i64 x.blue, .int .i64 x.me, .int .i64 x.te, .int .i64 x.runs, .int .i64 x.busy]
abbrev elZ : Value := .agg #[.int .i64 0, .int .i64 0, .int .i64 0, .int .i64 0, .int .i64 0, .int .i64 0, .int .i64 0, .int .i64 0, .int .i64 0]
theorem el_at {w : World} {g : Nat} {x : Dr} {t : TypeId} (h : w.heap[g]? = some (.cells x.cells t (0, 0))) :
    w.cell? ⟨g, 0, none⟩ = some (.int .i64 x.id) ∧ w.cell? ⟨g, 1, none⟩ = some (.int .i64 x.owner) ∧ w.cell? ⟨g, 2, none⟩ = some (.int .i64 x.div) ∧ w.cell? ⟨g, 3, none⟩ = some (.int .i64 x.place) ∧ w.cell? ⟨g, 4, none⟩ = some (.int .i64 x.blue) ∧ w.cell? ⟨g, 5, none⟩ = some (.int .i64 x.me) ∧ w.cell? ⟨g, 6, none⟩ = some (.int .i64 x.te) ∧ w.cell? ⟨g, 7, none⟩ = some (.int .i64 x.runs) ∧ w.cell? ⟨g, 8, none⟩ = some (.int .i64 x.busy) :=
  ⟨cell_block (j := 0) h rfl, cell_block (j := 1) h rfl, cell_block (j := 2) h rfl, cell_block (j := 3) h rfl, cell_block (j := 4) h rfl, cell_block (j := 5) h rfl, cell_block (j := 6) h rfl, cell_block (j := 7) h rfl, cell_block (j := 8) h rfl⟩
theorem el_free {w : World} {g : Nat} {x : Dr} {t : TypeId} (h : w.heap[g]? = some (.cells x.cells t (0, 0))) :
    w.frozen? ⟨g, 0, none⟩ = false ∧ w.frozen? ⟨g, 1, none⟩ = false ∧ w.frozen? ⟨g, 2, none⟩ = false ∧ w.frozen? ⟨g, 3, none⟩ = false ∧ w.frozen? ⟨g, 4, none⟩ = false ∧ w.frozen? ⟨g, 5, none⟩ = false ∧ w.frozen? ⟨g, 6, none⟩ = false ∧ w.frozen? ⟨g, 7, none⟩ = false ∧ w.frozen? ⟨g, 8, none⟩ = false :=
  ⟨free_block 0 h, free_block 1 h, free_block 2 h, free_block 3 h, free_block 4 h, free_block 5 h, free_block 6 h, free_block 7 h, free_block 8 h⟩
/-- All numbers of it stored into a block. -/
abbrev setEl (W : World) (g : Nat) (x : Dr) : World := (((((((((W.setCell ⟨g, 0, none⟩ (.int .i64 x.id)).setCell ⟨g, 1, none⟩ (.int .i64 x.owner)).setCell ⟨g, 2, none⟩ (.int .i64 x.div)).setCell ⟨g, 3, none⟩ (.int .i64 x.place)).setCell ⟨g, 4, none⟩ (.int .i64 x.blue)).setCell ⟨g, 5, none⟩ (.int .i64 x.me)).setCell ⟨g, 6, none⟩ (.int .i64 x.te)).setCell ⟨g, 7, none⟩ (.int .i64 x.runs)).setCell ⟨g, 8, none⟩ (.int .i64 x.busy))
theorem el_set {w : World} {g : Nat} {k : Dr} (x : Dr) {T : TypeId} (h : w.heap[g]? = some (.cells k.cells T (0, 0))) : (setEl w g x).heap[g]? = some (.cells x.cells T (0, 0)) := by
  have h0 : ((w.setCell ⟨g, 0, none⟩ (.int .i64 x.id))).heap[g]? = some (.cells #[.int .i64 x.id, .int .i64 k.owner, .int .i64 k.div, .int .i64 k.place, .int .i64 k.blue, .int .i64 k.me, .int .i64 k.te, .int .i64 k.runs, .int .i64 k.busy] T (0, 0)) := heap_setCell_same _ g 0 _ _ (.int .i64 x.id) h
  have h1 : (((w.setCell ⟨g, 0, none⟩ (.int .i64 x.id)).setCell ⟨g, 1, none⟩ (.int .i64 x.owner))).heap[g]? = some (.cells #[.int .i64 x.id, .int .i64 x.owner, .int .i64 k.div, .int .i64 k.place, .int .i64 k.blue, .int .i64 k.me, .int .i64 k.te, .int .i64 k.runs, .int .i64 k.busy] T (0, 0)) := heap_setCell_same _ g 1 _ _ (.int .i64 x.owner) h0
  have h2 : ((((w.setCell ⟨g, 0, none⟩ (.int .i64 x.id)).setCell ⟨g, 1, none⟩ (.int .i64 x.owner)).setCell ⟨g, 2, none⟩ (.int .i64 x.div))).heap[g]? = some (.cells #[.int .i64 x.id, .int .i64 x.owner, .int .i64 x.div, .int .i64 k.place, .int .i64 k.blue, .int .i64 k.me, .int .i64 k.te, .int .i64 k.runs, .int .i64 k.busy] T (0, 0)) := heap_setCell_same _ g 2 _ _ (.int .i64 x.div) h1
  have h3 : (((((w.setCell ⟨g, 0, none⟩ (.int .i64 x.id)).setCell ⟨g, 1, none⟩ (.int .i64 x.owner)).setCell ⟨g, 2, none⟩ (.int .i64 x.div)).setCell ⟨g, 3, none⟩ (.int .i64 x.place))).heap[g]? = some (.cells #[.int .i64 x.id, .int .i64 x.owner, .int .i64 x.div, .int .i64 x.place, .int .i64 k.blue, .int .i64 k.me, .int .i64 k.te, .int .i64 k.runs, .int .i64 k.busy] T (0, 0)) := heap_setCell_same _ g 3 _ _ (.int .i64 x.place) h2
  have h4 : ((((((w.setCell ⟨g, 0, none⟩ (.int .i64 x.id)).setCell ⟨g, 1, none⟩ (.int .i64 x.owner)).setCell ⟨g, 2, none⟩ (.int .i64 x.div)).setCell ⟨g, 3, none⟩ (.int .i64 x.place)).setCell ⟨g, 4, none⟩ (.int .i64 x.blue))).heap[g]? = some (.cells #[.int .i64 x.id, .int .i64 x.owner, .int .i64 x.div, .int .i64 x.place, .int .i64 x.blue, .int .i64 k.me, .int .i64 k.te, .int .i64 k.runs, .int .i64 k.busy] T (0, 0)) := heap_setCell_same _ g 4 _ _ (.int .i64 x.blue) h3
  have h5 : (((((((w.setCell ⟨g, 0, none⟩ (.int .i64 x.id)).setCell ⟨g, 1, none⟩ (.int .i64 x.owner)).setCell ⟨g, 2, none⟩ (.int .i64 x.div)).setCell ⟨g, 3, none⟩ (.int .i64 x.place)).setCell ⟨g, 4, none⟩ (.int .i64 x.blue)).setCell ⟨g, 5, none⟩ (.int .i64 x.me))).heap[g]? = some (.cells #[.int .i64 x.id, .int .i64 x.owner, .int .i64 x.div, .int .i64 x.place, .int .i64 x.blue, .int .i64 x.me, .int .i64 k.te, .int .i64 k.runs, .int .i64 k.busy] T (0, 0)) := heap_setCell_same _ g 5 _ _ (.int .i64 x.me) h4
  have h6 : ((((((((w.setCell ⟨g, 0, none⟩ (.int .i64 x.id)).setCell ⟨g, 1, none⟩ (.int .i64 x.owner)).setCell ⟨g, 2, none⟩ (.int .i64 x.div)).setCell ⟨g, 3, none⟩ (.int .i64 x.place)).setCell ⟨g, 4, none⟩ (.int .i64 x.blue)).setCell ⟨g, 5, none⟩ (.int .i64 x.me)).setCell ⟨g, 6, none⟩ (.int .i64 x.te))).heap[g]? = some (.cells #[.int .i64 x.id, .int .i64 x.owner, .int .i64 x.div, .int .i64 x.place, .int .i64 x.blue, .int .i64 x.me, .int .i64 x.te, .int .i64 k.runs, .int .i64 k.busy] T (0, 0)) := heap_setCell_same _ g 6 _ _ (.int .i64 x.te) h5
  have h7 : (((((((((w.setCell ⟨g, 0, none⟩ (.int .i64 x.id)).setCell ⟨g, 1, none⟩ (.int .i64 x.owner)).setCell ⟨g, 2, none⟩ (.int .i64 x.div)).setCell ⟨g, 3, none⟩ (.int .i64 x.place)).setCell ⟨g, 4, none⟩ (.int .i64 x.blue)).setCell ⟨g, 5, none⟩ (.int .i64 x.me)).setCell ⟨g, 6, none⟩ (.int .i64 x.te)).setCell ⟨g, 7, none⟩ (.int .i64 x.runs))).heap[g]? = some (.cells #[.int .i64 x.id, .int .i64 x.owner, .int .i64 x.div, .int .i64 x.place, .int .i64 x.blue, .int .i64 x.me, .int .i64 x.te, .int .i64 x.runs, .int .i64 k.busy] T (0, 0)) := heap_setCell_same _ g 7 _ _ (.int .i64 x.runs) h6
  have h8 : ((((((((((w.setCell ⟨g, 0, none⟩ (.int .i64 x.id)).setCell ⟨g, 1, none⟩ (.int .i64 x.owner)).setCell ⟨g, 2, none⟩ (.int .i64 x.div)).setCell ⟨g, 3, none⟩ (.int .i64 x.place)).setCell ⟨g, 4, none⟩ (.int .i64 x.blue)).setCell ⟨g, 5, none⟩ (.int .i64 x.me)).setCell ⟨g, 6, none⟩ (.int .i64 x.te)).setCell ⟨g, 7, none⟩ (.int .i64 x.runs)).setCell ⟨g, 8, none⟩ (.int .i64 x.busy))).heap[g]? = some (.cells #[.int .i64 x.id, .int .i64 x.owner, .int .i64 x.div, .int .i64 x.place, .int .i64 x.blue, .int .i64 x.me, .int .i64 x.te, .int .i64 x.runs, .int .i64 x.busy] T (0, 0)) := heap_setCell_same _ g 8 _ _ (.int .i64 x.busy) h7
  exact h8
theorem only_el {a w : World} {g : Nat} (h : a.grownBy w (some g)) (x : Dr) : a.grownBy (setEl w g x) (some g) :=
  only_setCell (only_setCell (only_setCell (only_setCell (only_setCell (only_setCell (only_setCell (only_setCell (only_setCell (h) _ _) _ _) _ _) _ _) _ _) _ _) _ _) _ _) _ _
theorem below_el {B : Nat} {a w : World} {g : Nat} (h : Below B a w) (hB : B ≤ g) (x : Dr) : Below B a (setEl w g x) :=
  (((((((((h.setCell (p := ⟨g, 0, none⟩) hB _).setCell (p := ⟨g, 1, none⟩) hB _).setCell (p := ⟨g, 2, none⟩) hB _).setCell (p := ⟨g, 3, none⟩) hB _).setCell (p := ⟨g, 4, none⟩) hB _).setCell (p := ⟨g, 5, none⟩) hB _).setCell (p := ⟨g, 6, none⟩) hB _).setCell (p := ⟨g, 7, none⟩) hB _).setCell (p := ⟨g, 8, none⟩) hB _)
/-- .. nought. -/
abbrev setZ (W : World) (g : Nat) : World := (((((((((W.setCell ⟨g, 0, none⟩ (.int .i64 0)).setCell ⟨g, 1, none⟩ (.int .i64 0)).setCell ⟨g, 2, none⟩ (.int .i64 0)).setCell ⟨g, 3, none⟩ (.int .i64 0)).setCell ⟨g, 4, none⟩ (.int .i64 0)).setCell ⟨g, 5, none⟩ (.int .i64 0)).setCell ⟨g, 6, none⟩ (.int .i64 0)).setCell ⟨g, 7, none⟩ (.int .i64 0)).setCell ⟨g, 8, none⟩ (.int .i64 0))
theorem el_zero {w : World} {g : Nat} {k : Dr} {T : TypeId} (h : w.heap[g]? = some (.cells k.cells T (0, 0))) : (setZ w g).heap[g]? = some (.cells (default : Dr).cells T (0, 0)) := el_set default h
theorem below_zero {B : Nat} {a w : World} {g : Nat} (h : Below B a w) (hB : B ≤ g) : Below B a (setZ w g) := below_el h hB default
theorem ret_el {fn : Func} {R : Ending → World → Prop} {a : Act} {w : World} {p : Tmp} {g : Nat} {t : Dr} {T : TypeId} (h : fn.results = #[.cell p 36]) (hd : a.defers = [])
    (ht : a.tmps.getD p undef = .pointer (some ⟨g, 0, none⟩)) (hb : w.heap[g]? = some (.cells t.cells T (0, 0))) (hR : R (.returned (elV t)) w) : bodyPost Try.prog fn R .ret a w := by
  exact bodyPost_ret (v := elV t) (results_cell_row h _ w g T t.cells (0, 0) _ ht hb Try.underlying36 rfl (by kernel_rfl)) hd hR
theorem ret_el2 {fn : Func} {R : Ending → World → Prop} {a : Act} {w : World} {p u : Tmp} {g : Nat} {t : Dr} {x : Value} {T : TypeId} (h : fn.results = #[.cell p 36, .tmp u]) (hd : a.defers = [])
    (ht : a.tmps.getD p undef = .pointer (some ⟨g, 0, none⟩)) (hu : a.tmps.getD u undef = x) (hb : w.heap[g]? = some (.cells t.cells T (0, 0))) (hR : R (.returned (.tuple #[elV t, x])) w) : bodyPost Try.prog fn R .ret a w := by
  refine bodyPost_ret (v := .tuple #[elV t, x]) ?_ hd hR
  rw [results_cell_tmp h, ht, hu]
  simp [asAddr, run_loadVar_row (P := Try.prog) w g T 36 t.cells (0, 0) _ hb Try.underlying36 rfl (by kernel_rfl), Result.andThen]
  rfl
/-- Rows of them. -/
def vcells (l : List Dr) : List Value := l.flatMap elCells
theorem vcells_cons (k : Dr) (l : List Dr) : vcells (k :: l) = elCells k ++ vcells l := by simp [vcells]
theorem vcells_append (l m : List Dr) : vcells (l ++ m) = vcells l ++ vcells m := by simp [vcells]
theorem vcells_length : ∀ l : List Dr, (vcells l).length = l.length * 9
  | [] => rfl
  | p :: l => by rw [vcells_cons, List.length_append, vcells_length l]; simp [elCells]; omega
theorem vcells_at : ∀ (l : List Dr) (i : Nat) (p : Dr), l[i]? = some p → ∀ (j : Nat) (v : Value), (elCells p)[j]? = some v → (vcells l)[i * 9 + j]? = some v
  | [], i, p, h => by simp at h
  | q :: l, 0, p, h => by
    intro j v hj
    have : q = p := by simpa using h
    subst this
    have hlt : j < (elCells q).length := (List.getElem?_eq_some_iff.1 hj).1
    rw [vcells_cons, List.getElem?_append_left (by simpa using hlt)]
    simpa using hj
  | q :: l, i + 1, p, h => by
    intro j v hj
    have ih := vcells_at l i p (by simpa using h) j v hj
    rw [vcells_cons, show (i + 1) * 9 + j = 9 + (i * 9 + j) by omega, List.getElem?_append_right (by simp [elCells])]
    simpa [elCells] using ih
theorem vcells_one : ∀ (l : List Dr), ∀ u ∈ vcells l, u.oneCell' = true
  | [], u, h => by cases h
  | p :: l, u, h => by
    rw [vcells_cons] at h
    rcases List.mem_append.1 h with h | h
    · simp [elCells] at h
      rcases h with rfl | rfl | rfl | rfl | rfl | rfl | rfl | rfl | rfl <;> rfl
    · exact vcells_one l u h
abbrev OwnV (w : World) (B : Nat) (v : Value) (l : List Dr) : Prop := w.ownsRow B 36 9 v l.length (vcells l)
set_option maxRecDepth 100000 in
theorem info_el : (Try.prog.info? 36).map (fun i => (i.zero, i.size, i.bytes)) = some (some elZ, 9, 72) := by kernel_rfl
theorem app_els (w : World) (B : Nat) (v : Value) (xs ys : List Dr) (h : OwnV w B v xs) (xa : Option Addr) (m xc : Nat) (hm : m = ys.length) (hsrc : ∀ j u, (vcells ys)[j]? = some u → ∃ ad, xa = some ad ∧ w.cell? (ad.add j) = some u) (hl : xs.length + ys.length ≤ 1099511627776) (hB : B ≤ w.heap.size) :
    ∃ v' w', (Builtin.append_ #[22, 22] 22 #[v, .slice xa m xc]).run Try.prog w = .ok v' w' ∧ OwnV w' B v' (xs ++ ys) ∧ Below B w w' := by
  obtain ⟨i0, hi, hz0, hz1, hz2⟩ := info_parts info_el
  subst hm
  obtain ⟨v', w', hr, h2, h3⟩ := app_any (P := Try.prog) (t := 22) (e := 36) (i := i0) w B 22 elZ 9 72 Try.underlying22 hi hz0 hz1 hz2 rfl (by omega) v xs.length (vcells xs) h xa ys.length xc (vcells ys) (vcells_length ys) hsrc (vcells_one ys) (by unfold maxLen; omega) (by omega) hB
  rw [← vcells_append, ← List.length_append] at h2
  exact ⟨v', w', hr, h2, (Below.refl B w).grown h3 hB (fun k hk => (h.lt k hk).1)⟩
theorem rowV {w : World} {B : Nat} {v : Value} {l : List Dr} (h : OwnV w B v l) : ∃ a c, v = .slice a l.length c ∧ l.length ≤ c ∧ c ≤ maxLen ∧ (a = none ∨ ∃ g, a = some ⟨g, 0, none⟩) ∧ ∀ j u, (vcells l)[j]? = some u → ∃ g, a = some ⟨g, 0, none⟩ ∧ g < w.heap.size ∧ w.cell? ⟨g, j, none⟩ = some u := by
  rcases h.2 with ⟨hv, h0⟩ | ⟨g, cap, cur, hv, _, hg, hn, hm, _⟩
  · refine ⟨none, 0, by rw [hv, h0], by omega, by unfold maxLen; omega, .inl rfl, fun j u hj => ?_⟩
    have := (List.getElem?_eq_some_iff.1 hj).1
    rw [vcells_length, h0] at this
    omega
  · refine ⟨some ⟨g, 0, none⟩, cap, hv, hn, hm, .inr ⟨g, rfl⟩, fun j u hj => ⟨g, rfl, (Array.getElem?_eq_some_iff.1 hg).1, ?_⟩⟩
    have := h.cells (g := g) (by rw [hv]; rfl) j u hj
    rw [Tb.addr_add, Nat.zero_add] at this
    exact this
theorem row_val {w : World} {B : Nat} {v : Value} {l : List Dr} (h : OwnV w B v l) : ∃ a c, v = .slice a l.length c ∧ l.length ≤ c ∧ ∀ (i : Nat) (p : Dr), l[i]? = some p → ∃ g, a = some ⟨g, 0, none⟩ ∧ g < w.heap.size ∧
    w.cell? ⟨g, i * 9, none⟩ = some (.int .i64 p.id) ∧ w.cell? ⟨g, i * 9 + 1, none⟩ = some (.int .i64 p.owner) ∧ w.cell? ⟨g, i * 9 + 2, none⟩ = some (.int .i64 p.div) ∧ w.cell? ⟨g, i * 9 + 3, none⟩ = some (.int .i64 p.place) ∧ w.cell? ⟨g, i * 9 + 4, none⟩ = some (.int .i64 p.blue) ∧ w.cell? ⟨g, i * 9 + 5, none⟩ = some (.int .i64 p.me) ∧ w.cell? ⟨g, i * 9 + 6, none⟩ = some (.int .i64 p.te) ∧ w.cell? ⟨g, i * 9 + 7, none⟩ = some (.int .i64 p.runs) ∧ w.cell? ⟨g, i * 9 + 8, none⟩ = some (.int .i64 p.busy) := by
  obtain ⟨a, c, hv, hc, _, _, hat⟩ := rowV h
  refine ⟨a, c, hv, hc, fun i p hi => ?_⟩
  obtain ⟨g, rfl, hg, c0⟩ := hat _ _ (vcells_at l i p hi 0 _ rfl)
  have hh : ∀ j u, (elCells p)[j]? = some u → w.cell? ⟨g, i * 9 + j, none⟩ = some u := fun j u hj => by
    obtain ⟨g2, e, _, c1⟩ := hat _ _ (vcells_at l i p hi j u hj)
    cases e
    exact c1
  exact ⟨g, rfl, hg, c0, hh 1 _ rfl, hh 2 _ rfl, hh 3 _ rfl, hh 4 _ rfl, hh 5 _ rfl, hh 6 _ rfl, hh 7 _ rfl, hh 8 _ rfl⟩

end Go.Proofs.Ytfebaiefoonncaa.Draft
