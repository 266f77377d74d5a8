/- Lines in memory: cells of a line, rows of lines, the bays with all their rows apart; what a row's turning and a store leave of them. -/
import Derived.Test.YtokkefokodcphaaBayRow
import Derived.Test.YtokkefokodcphaaBayMath
import Derived.Laws.Rows
namespace Go.Proofs.Ytokkefokodcphaa.Bay
open Go.RowKit Go.Lib IRows

structure XL where
  r : List Int
  rm : Rm
  q : List Int
  qm : Rm
  s : Int
def XL.pl (x : XL) : Ln := ⟨x.r, x.q, x.s⟩
abbrev XL.rv (x : XL) : Value := .slice x.rm.a x.r.length x.rm.c
abbrev XL.qv (x : XL) : Value := .slice x.qm.a x.q.length x.qm.c
def xCells (x : XL) : List Value := [.slice x.rm.a x.r.length x.rm.c, .slice x.qm.a x.q.length x.qm.c, .int .i64 x.s]
def xcells (l : List XL) : List Value := l.flatMap xCells
theorem xcells_cons (t : XL) (l : List XL) : xcells (t :: l) = xCells t ++ xcells l := by simp [xcells]
theorem xcells_append (l m : List XL) : xcells (l ++ m) = xcells l ++ xcells m := by simp [xcells]
theorem xcells_length : ∀ l : List XL, (xcells l).length = l.length * 3
  | [] => rfl
  | p :: l => by rw [xcells_cons, List.length_append, xcells_length l]; simp [xCells]; omega
theorem xcells_at : ∀ (l : List XL) (i : Nat) (p : XL), l[i]? = some p → ∀ (j : Nat) (v : Value), (xCells p)[j]? = some v → (xcells l)[i * 3 + j]? = some v
  | [], i, p, h => by simp at h
  | q :: l, 0, p, h => by
    intro j v hj
    have : q = p := by simpa using h
    subst this
    have hlt : j < (xCells q).length := (List.getElem?_eq_some_iff.1 hj).1
    rw [xcells_cons, List.getElem?_append_left (by simpa using hlt)]
    simpa using hj
  | q :: l, i + 1, p, h => by
    intro j v hj
    have ih := xcells_at l i p (by simpa using h) j v hj
    rw [xcells_cons, show (i + 1) * 3 + j = 3 + (i * 3 + j) by omega, List.getElem?_append_right (by simp [xCells])]
    simpa [xCells] using ih
theorem xcells_one : ∀ (l : List XL), ∀ u ∈ xcells l, u.oneCell' = true
  | [], u, h => by cases h
  | p :: l, u, h => by
    rw [xcells_cons] at h
    rcases List.mem_append.1 h with h | h
    · simp [xCells] at h
      rcases h with rfl | rfl | rfl <;> rfl
    · exact xcells_one l u h
theorem xcells_set : ∀ (l : List XL) (k : Nat) (x y : XL) (j : Nat) (u : Value), l[k]? = some x → j < 3 → xCells y = (xCells x).set j u → (xcells l).set (k * 3 + j) u = xcells (l.set k y)
  | [], k, x, y, j, u, h, _, _ => by simp at h
  | q :: l, 0, x, y, j, u, h, hj, hy => by
    have : q = x := by simpa using h
    subst this
    rw [List.set_cons_zero, xcells_cons, xcells_cons, hy, List.set_append_left _ _ (by simp [xCells]; omega)]
    simp
  | q :: l, k + 1, x, y, j, u, h, hj, hy => by
    have ih := xcells_set l k x y j u (by simpa using h) hj hy
    rw [List.set_cons_succ, xcells_cons, xcells_cons, ← ih, List.set_append_right _ _ (by simp [xCells]; omega)]
    congr 2
    simp [xCells]
    omega
abbrev OwnX (w : World) (B : Nat) (v : Value) (l : List XL) : Prop := w.ownsRow B 73 3 v l.length (xcells l)
set_option maxRecDepth 100000 in
theorem info_x : (Try.prog.info? 73).map (fun i => (i.zero, i.size, i.bytes)) = some (some (.agg #[.slice none 0 0, .slice none 0 0, .int .i64 0]), 3, 56) := by kernel_rfl
theorem app_xs (w : World) (B : Nat) (v : Value) (xs ys : List XL) (h : OwnX w B v xs) (xa : Option Addr) (m xc : Nat) (hm : m = ys.length) (hsrc : ∀ j u, (xcells ys)[j]? = some u → ∃ ad, xa = some ad ∧ w.cell? (ad.add j) = some u) (hl : xs.length + ys.length ≤ 1000) (hB : B ≤ w.heap.size) :
    ∃ v' w', (Builtin.append_ #[56, 56] 56 #[v, .slice xa m xc]).run Try.prog w = .ok v' w' ∧ OwnX w' B v' (xs ++ ys) ∧ w.grownBy w' v.ownBlock ∧ ∀ g, v'.ownBlock = some g → v.ownBlock = some g ∨ w.heap.size ≤ g := by
  obtain ⟨i0, hi, hz0, hz1, hz2⟩ := info_parts info_x
  subst hm
  cases xa with
  | some ad =>
    obtain ⟨v', w', hr, h2, h3, _, h5⟩ := run_append_own_at (P := Try.prog) w B 56 56 73 i0 _ 3 56 Try.underlying56 hi hz0 hz1 hz2 rfl (by omega) v xs.length (xcells xs) h ad ys.length xc (xcells ys) (xcells_length ys) (fun j u hj => by
      obtain ⟨ad', e1, h⟩ := hsrc j u hj
      rw [Option.some.inj e1]
      exact h) (xcells_one ys) (by unfold maxLen; omega) (by omega) hB
    rw [← xcells_append, ← List.length_append] at h2
    refine ⟨v', w', hr, h2, h3, fun g hg => ?_⟩
    rcases h5 with h5 | h5
    · exact .inl (by rw [← h5]; exact hg)
    · rw [h5] at hg
      exact .inr (by have := Option.some.inj hg; omega)
  | none =>
    obtain ⟨v', w', hr, h2, h3⟩ := app_any (P := Try.prog) (t := 56) (e := 73) (i := i0) w B 56 _ 3 56 Try.underlying56 hi hz0 hz1 hz2 rfl (by omega) v xs.length (xcells xs) h none ys.length xc (xcells ys) (xcells_length ys) hsrc (xcells_one ys) (by unfold maxLen; omega) (by omega) hB
    have hy : ys = [] := by
      cases ys with
      | nil => rfl
      | cons y ys =>
        obtain ⟨ad, e, _⟩ := hsrc 0 y.rv (by rw [xcells_cons]; rfl)
        cases e
    subst hy
    rw [← xcells_append, ← List.length_append] at h2
    refine ⟨v', w', hr, h2, h3, fun g hg => ?_⟩
    by_cases e : v.ownBlock = some g
    · exact .inl e
    · have hn := run_append_nothing (P := Try.prog) w 56 56 56 73 i0 Try.underlying56 hi
      rcases h.2 with ⟨hv, h0⟩ | ⟨g', cap, cur, hv, _, hgg, hncap, _⟩
      · have := hn none 0 0 (Nat.le_refl _) (.slice none 0 xc) (Src.ofNil w Try.underlying56 xc)
        rw [hv] at hr
        rw [show ([] : List XL).length = 0 from rfl, this] at hr
        cases hr
        cases hg
      · have := hn (some ⟨g', 0, none⟩) xs.length cap hncap (.slice none 0 xc) (Src.ofNil w Try.underlying56 xc)
        rw [hv] at hr
        rw [show ([] : List XL).length = 0 from rfl, this] at hr
        cases hr
        rw [hv] at e
        exact absurd hg e
/-- What a row of lines is, and its cells. -/
theorem row_x {w : World} {B : Nat} {v : Value} {l : List XL} (h : OwnX w B v l) : ∃ a c, v = .slice a l.length c ∧ l.length ≤ c ∧ (0 < l.length → ∃ g, a = some ⟨g, 0, none⟩ ∧ g < w.heap.size) ∧ ∀ (i : Nat) (p : XL), l[i]? = some p → ∃ g, a = some ⟨g, 0, none⟩ ∧ g < w.heap.size ∧
    (w.cell? ⟨g, i * 3, none⟩ = some p.rv ∧ w.cell? ⟨g, i * 3 + 1, none⟩ = some p.qv ∧ w.cell? ⟨g, i * 3 + 2, none⟩ = some (.int .i64 p.s)) ∧ ∀ j, w.frozen? ⟨g, j, none⟩ = false := by
  rcases h.2 with ⟨hv, h0⟩ | ⟨g, cap, cur, hv, hb, hg, hn, hm, _⟩
  · refine ⟨none, 0, by rw [hv, h0], by omega, fun h1 => by omega, fun i p hi => ?_⟩
    have := (List.getElem?_eq_some_iff.1 hi).1
    omega
  · refine ⟨some ⟨g, 0, none⟩, cap, hv, hn, fun _ => ⟨g, rfl, (Array.getElem?_eq_some_iff.1 hg).1⟩, fun i p hi => ⟨g, rfl, (Array.getElem?_eq_some_iff.1 hg).1, ?_, fun j => free_block _ hg⟩⟩
    have hh : ∀ j u, (xCells p)[j]? = some u → w.cell? ⟨g, i * 3 + j, none⟩ = some u := fun j u hj => by
      have := h.cells (g := g) (by rw [hv]; rfl) _ u (xcells_at l i p hi j u hj)
      rw [addr_add, Nat.zero_add] at this
      exact this
    exact ⟨hh 0 _ rfl, hh 1 _ rfl, hh 2 _ rfl⟩
theorem set_x {w : World} {B g n c : Nat} {l : List XL} (h : OwnX w B (.slice (some ⟨g, 0, none⟩) n c) l) {k : Nat} {x y : XL} {j : Nat} {u : Value} (hx : l[k]? = some x) (hj : j < 3) (hy : xCells y = (xCells x).set j u) :
    OwnX (w.setCell ⟨g, k * 3 + j, none⟩ u) B (.slice (some ⟨g, 0, none⟩) n c) (l.set k y) := by
  have hn : n = l.length := by
    rcases h.2 with ⟨hv, h0⟩ | ⟨_, _, _, hv, _⟩
    · cases hv
    · injection hv
  subst hn
  obtain ⟨h1, h2⟩ := World.ownsRow.stored h (k * 3 + j) u
  rw [xcells_set l k x y j u hx hj hy] at h1
  show World.ownsRow _ B 73 3 _ (l.set k y).length _
  rw [List.length_set]
  exact h1
/-- One of a line's two rows. -/
def rowOf (x : XL) : Bool → Rm × List Int
  | false => (x.rm, x.r)
  | true => (x.qm, x.q)
def XL.put (x : XL) : Bool → Rm → List Int → XL
  | false, m, l => ⟨l, m, x.q, x.qm, x.s⟩
  | true, m, l => ⟨x.r, x.rm, l, m, x.s⟩
theorem rowOf_put (x : XL) (d : Bool) (m : Rm) (l : List Int) : rowOf (x.put d m l) d = (m, l) := by cases d <;> rfl
theorem rowOf_other (x : XL) {d d' : Bool} (h : d' ≠ d) (m : Rm) (l : List Int) : rowOf (x.put d m l) d' = rowOf x d' := by cases d <;> cases d' <;> first | rfl | exact absurd rfl h
def bk (xs : List XL) (i : Nat) (d : Bool) : Option Nat := (xs[i]?).bind fun x => ownB (rowOf x d).1
/-- All rows of lines, apart, and of none of certain blocks. -/
structure RW (W : World) (G : Nat → Prop) (xs : List XL) : Prop where
  row : ∀ (i : Nat) (x : XL) (d : Bool), xs[i]? = some x → RowAt W (rowOf x d).1 (rowOf x d).2
  ap : ∀ (i : Nat) (d : Bool) (i' : Nat) (d' : Bool) (g : Nat), bk xs i d = some g → bk xs i' d' = some g → i = i' ∧ d = d'
  out : ∀ (i : Nat) (d : Bool) (g : Nat), bk xs i d = some g → ¬ G g
theorem bk_some {xs : List XL} {i : Nat} {d : Bool} {g : Nat} (h : bk xs i d = some g) : ∃ x, xs[i]? = some x ∧ ownB (rowOf x d).1 = some g := by
  unfold bk at h
  cases hx : xs[i]? with
  | none => rw [hx] at h; cases h
  | some x => rw [hx] at h; exact ⟨x, rfl, h⟩
theorem bk_of {xs : List XL} {i : Nat} {d : Bool} {x : XL} (h : xs[i]? = some x) : bk xs i d = ownB (rowOf x d).1 := by unfold bk; rw [h]; rfl
theorem RW.lt {W : World} {G : Nat → Prop} {xs : List XL} (h : RW W G xs) {i : Nat} {d : Bool} {g : Nat} (hg : bk xs i d = some g) : g < W.heap.size := by
  obtain ⟨x, hx, h1⟩ := bk_some hg
  exact (h.row i x d hx).lt h1
theorem RW.same {W W' : World} {G : Nat → Prop} {xs : List XL} (h : RW W G xs) (hk : ∀ g i d, bk xs i d = some g → W'.heap[g]? = W.heap[g]?) : RW W' G xs :=
  ⟨fun i x d hx => (h.row i x d hx).same fun g hg => hk g i d (by rw [bk_of hx]; exact hg), h.ap, h.out⟩
theorem bk_set {xs : List XL} {k : Nat} {x : XL} (hx : xs[k]? = some x) (d : Bool) (m : Rm) (l : List Int) (i : Nat) (d' : Bool) :
    bk (xs.set k (x.put d m l)) i d' = if i = k ∧ d' = d then ownB m else bk xs i d' := by
  have hlt := (List.getElem?_eq_some_iff.1 hx).1
  by_cases e : i = k
  · subst e
    unfold bk
    rw [List.getElem?_set_self hlt]
    by_cases e2 : d' = d
    · subst e2
      rw [if_pos ⟨rfl, rfl⟩]
      show ownB (rowOf (x.put d' m l) d').1 = _
      rw [rowOf_put]
    · rw [if_neg (fun h => e2 h.2), hx]
      show ownB (rowOf (x.put d m l) d').1 = ownB (rowOf x d').1
      rw [rowOf_other x e2]
  · rw [if_neg (fun h => e h.1)]
    unfold bk
    rw [List.getElem?_set_ne (fun e2 => e e2.symm)]
/-- One row turned. -/
theorem RW.turn {W W' : World} {G : Nat → Prop} {xs : List XL} (h : RW W G xs) {k : Nat} {x : XL} {d : Bool} {m : Rm} {l : List Int} (hx : xs[k]? = some x) (hG : ∀ g, G g → g < W.heap.size) (hw : Went W W' (rowOf x d).1 m) (hr : RowAt W' m l) : RW W' G (xs.set k (x.put d m l)) := by
  have hlt := (List.getElem?_eq_some_iff.1 hx).1
  have hbk := bk_of (d := d) hx
  refine ⟨fun i y d' hy => ?_, fun i a i' a' g h1 h2 => ?_, fun i a g h1 hg => ?_⟩
  · by_cases e : i = k
    · subst e
      rw [List.getElem?_set_self hlt] at hy
      obtain rfl := Option.some.inj hy
      by_cases e2 : d' = d
      · subst e2
        rw [rowOf_put]
        exact hr
      · rw [rowOf_other x e2]
        refine (h.row i x d' hx).same fun g hg => hw.only.block g ((h.row i x d' hx).lt hg) (fun e3 => ?_)
        exact e2 (h.ap i d' i d g (by rw [bk_of hx]; exact hg) (by rw [hbk, ← e3])).2
    · rw [List.getElem?_set_ne (fun e2 => e e2.symm)] at hy
      refine (h.row i y d' hy).same fun g hg => hw.only.block g ((h.row i y d' hy).lt hg) (fun e3 => ?_)
      exact e (h.ap i d' k d g (by rw [bk_of hy]; exact hg) (by rw [hbk, ← e3])).1
  · rw [bk_set hx] at h1 h2
    by_cases c1 : i = k ∧ a = d
    · rw [if_pos c1] at h1
      by_cases c2 : i' = k ∧ a' = d
      · exact ⟨c1.1.trans c2.1.symm, c1.2.trans c2.2.symm⟩
      · rw [if_neg c2] at h2
        rcases hw.new g h1 with h3 | h3
        · have := h.ap k d i' a' g (by rw [hbk]; exact h3) h2
          exact ⟨c1.1.trans this.1, c1.2.trans this.2⟩
        · have := h.lt h2
          omega
    · rw [if_neg c1] at h1
      by_cases c2 : i' = k ∧ a' = d
      · rw [if_pos c2] at h2
        rcases hw.new g h2 with h3 | h3
        · have := h.ap k d i a g (by rw [hbk]; exact h3) h1
          exact ⟨this.1.symm.trans c2.1.symm, this.2.symm.trans c2.2.symm⟩
        · have := h.lt h1
          omega
      · rw [if_neg c2] at h2
        exact h.ap i a i' a' g h1 h2
  · rw [bk_set hx] at h1
    split at h1
    · rcases hw.new g h1 with h3 | h3
      · exact h.out k d g (by rw [hbk]; exact h3) hg
      · have := hG g hg
        omega
    · exact h.out i a g h1 hg
/-- The program's bays at Q: their lines' cells say ys, their rows hold xs. -/
structure PBX (W : World) (Q : Nat) (lv : Value) (ys xs : List XL) : Prop where
  self : W.heap[Q]? = some (.cells #[.bool true, lv] 58 (0, 0))
  own : OwnX W 0 lv ys
  far : lv.ownBlock ≠ some Q
  rows : RW W (fun g => g = Q ∨ lv.ownBlock = some g) xs
def foot (Q : Nat) (lv : Value) (xs : List XL) (g : Nat) : Prop := g = Q ∨ lv.ownBlock = some g ∨ ∃ i d, bk xs i d = some g
section
variable {W W' : World} {Q : Nat} {lv : Value} {ys xs : List XL}
theorem PBX.fixed (h : PBX W Q lv ys xs) : ∀ g, (g = Q ∨ lv.ownBlock = some g) → g < W.heap.size := fun g hg => by
  rcases hg with rfl | hg
  · exact (Array.getElem?_eq_some_iff.1 h.self).1
  · exact (h.own.lt g hg).2
theorem PBX.lt (h : PBX W Q lv ys xs) : ∀ g, foot Q lv xs g → g < W.heap.size := fun g hg => by
  rcases hg with hg | hg | ⟨i, d, hg⟩
  · exact h.fixed g (.inl hg)
  · exact h.fixed g (.inr hg)
  · exact h.rows.lt hg
theorem own_keep {B n size : Nat} {e : TypeId} {v : Value} {l : List Value} (h : W.ownsRow B e size v n l) (hk : ∀ g, v.ownBlock = some g → W'.heap[g]? = W.heap[g]?) : W'.ownsRow B e size v n l := by
  refine ⟨h.1, ?_⟩
  rcases h.2 with h1 | ⟨g, cap, cur, hv, h1, h2, h3⟩
  · exact .inl h1
  · exact .inr ⟨g, cap, cur, hv, h1, (hk g (by rw [hv]; rfl)).trans h2, h3⟩
theorem PBX.keep (h : PBX W Q lv ys xs) (hk : ∀ g, foot Q lv xs g → W'.heap[g]? = W.heap[g]?) : PBX W' Q lv ys xs :=
  ⟨(hk Q (.inl rfl)).trans h.self, own_keep h.own fun g hg => hk g (.inr (.inl hg)), h.far, h.rows.same fun g i d hg => hk g (.inr (.inr ⟨i, d, hg⟩))⟩
theorem PBX.under (h : PBX W Q lv ys xs) (hb : Below W.heap.size W W') : PBX W' Q lv ys xs := h.keep fun g hg => hb.block g (h.lt g hg)
/-- A row turned by a call. -/
theorem PBX.turn (h : PBX W Q lv ys xs) {k : Nat} {x : XL} {d : Bool} {m : Rm} {l : List Int} (hx : xs[k]? = some x) (hw : Went W W' (rowOf x d).1 m) (hr : RowAt W' m l) : PBX W' Q lv ys (xs.set k (x.put d m l)) ∧ StepF W W' (foot Q lv xs) (foot Q lv (xs.set k (x.put d m l))) := by
  have hbk := bk_of (d := d) hx
  have hne : ∀ g, (g = Q ∨ lv.ownBlock = some g) → some g ≠ ownB (rowOf x d).1 := fun g hg e => h.rows.out k d g (by rw [hbk, e]) hg
  refine ⟨⟨(hw.only.block Q (h.fixed Q (.inl rfl)) (hne Q (.inl rfl))).trans h.self, own_keep h.own fun g hg => hw.only.block g (h.fixed g (.inr hg)) (hne g (.inr hg)), h.far, h.rows.turn hx h.fixed hw hr⟩,
    ⟨hw.only.os, hw.only.tape, hw.only.output, hw.only.size, fun g hg hn => hw.only.block g hg (fun e => hn (.inr (.inr ⟨k, d, by rw [hbk, ← e]⟩))), fun g hg => ?_⟩⟩
  rcases hg with hg | hg | ⟨i, d', hg⟩
  · exact .inl (.inl hg)
  · exact .inl (.inr (.inl hg))
  · rw [bk_set hx] at hg
    split at hg
    · rcases hw.new g hg with h3 | h3
      · exact .inl (.inr (.inr ⟨k, d, by rw [hbk]; exact h3⟩))
      · exact .inr h3
    · exact .inl (.inr (.inr ⟨i, d', hg⟩))
/-- A cell stored. -/
theorem PBX.store {g n c : Nat} (h : PBX W Q (.slice (some ⟨g, 0, none⟩) n c) ys xs) {k : Nat} {x y : XL} {j : Nat} {u : Value} (hx : ys[k]? = some x) (hj : j < 3) (hy : xCells y = (xCells x).set j u) :
    PBX (W.setCell ⟨g, k * 3 + j, none⟩ u) Q (.slice (some ⟨g, 0, none⟩) n c) (ys.set k y) xs ∧ StepF W (W.setCell ⟨g, k * 3 + j, none⟩ u) (foot Q (.slice (some ⟨g, 0, none⟩) n c) xs) (foot Q (.slice (some ⟨g, 0, none⟩) n c) xs) := by
  have hb : ∀ q, q ≠ g → (W.setCell ⟨g, k * 3 + j, none⟩ u).heap[q]? = W.heap[q]? := fun q hq => heap_setCell_other W ⟨g, k * 3 + j, none⟩ q u (fun e => hq e)
  refine ⟨⟨(hb Q (fun e => h.far (by rw [e]; rfl))).trans h.self, set_x h.own hx hj hy, h.far, h.rows.same fun q i d hq => hb q (fun e => h.rows.out i d q hq (.inr (by rw [e]; rfl)))⟩,
    ⟨rfl, rfl, rfl, by simp [World.setCell], fun q _ hn => hb q (fun e => hn (.inr (.inl (by rw [e]; rfl)))), fun q hq => .inl hq⟩⟩
end
/-- The program's bays, whatever their memory. -/
def PB (W : World) (Q : Nat) (F : Nat → Prop) (L : List Ln) : Prop := ∃ lv xs, PBX W Q lv xs xs ∧ xs.map XL.pl = L ∧ F = foot Q lv xs
section
variable {W W' : World} {Q : Nat} {F : Nat → Prop} {L : List Ln}
theorem PB.lt (h : PB W Q F L) : ∀ g, F g → g < W.heap.size := by
  obtain ⟨lv, xs, h1, h2, rfl⟩ := h
  exact h1.lt
theorem PB.self (h : PB W Q F L) : F Q := by
  obtain ⟨lv, xs, h1, h2, rfl⟩ := h
  exact .inl rfl
theorem PB.keep (h : PB W Q F L) (hk : ∀ g, F g → W'.heap[g]? = W.heap[g]?) : PB W' Q F L := by
  obtain ⟨lv, xs, h1, h2, rfl⟩ := h
  exact ⟨lv, xs, h1.keep hk, h2, rfl⟩
theorem PB.under (h : PB W Q F L) (hb : Below W.heap.size W W') : PB W' Q F L := h.keep fun g hg => hb.block g (h.lt g hg)
end
theorem pl_at {xs : List XL} {k : Nat} {x : XL} (h : xs[k]? = some x) : (xs.map XL.pl)[k]? = some x.pl := by rw [List.getElem?_map, h]; rfl
theorem pl_set (xs : List XL) (k : Nat) (x : XL) : (xs.set k x).map XL.pl = (xs.map XL.pl).set k x.pl := List.map_set
end Go.Proofs.Ytokkefokodcphaa.Bay
