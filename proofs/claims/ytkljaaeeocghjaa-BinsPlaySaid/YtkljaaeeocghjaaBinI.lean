/- Acts: where they lie; the document's Do, Few. -/
import Derived.Test.YtkljaaeeocghjaaBinF
import Derived.Test.YtkljaaeeocghjaaBinH
namespace Go.Proofs.Ytkljaaeeocghjaa.Bins
open Go.RowKit Go.Lib
open Goods (St Sts OwnS)

/-- An act, and where its stacks lie. -/
structure Act where
  kind : Int
  n : Int
  a : Bn
  b : Bn
  sa : Option Addr
  sm : Nat
  sc : Nat
  s : List St
abbrev actV (x : Act) : Value := .agg #[.int .i64 x.kind, .int .i64 x.n, .int .i64 x.a.o, .int .i64 x.a.d, .int .i64 x.a.p, .int .i64 x.a.t, .int .i64 x.b.o, .int .i64 x.b.d, .int .i64 x.b.p, .int .i64 x.b.t, .slice x.sa x.sm x.sc]
def ActOk (w : World) (x : Act) : Prop := x.s.length = x.sm ∧ Sts w x.sa x.s
theorem ActOk.under {w w' : World} {x : Act} (h : ActOk w x) (hb : Below w.heap.size w w') : ActOk w' x := ⟨h.1, h.2.under hb⟩
open Classical in
noncomputable def doE (l : List Lt) (x : Act) : Int := if x.kind = 1 then putE l x.a x.n else if x.kind = 2 then takeE l x.a x.n else if x.kind = 3 then moveE l x.a x.b x.n else if x.kind = 4 then putsE l x.a x.s else takesE l x.a x.s
open Classical in
noncomputable def doL (l : List Lt) (x : Act) : List Lt := if x.kind = 1 then putL l x.a x.n else if x.kind = 2 then takeL l x.a x.n else if x.kind = 3 then moveL l x.a x.b x.n else if x.kind = 4 then putsL l x.a x.s else takesL l x.a x.s
theorem good_do {l : List Lt} (h : Good l) (x : Act) : Good (doL l x) ∧ (doL l x).length ≤ l.length + x.s.length + 2 := by
  unfold doL
  split
  · exact ⟨good_put h _ _, by have := put_length l x.a x.n; omega⟩
  · split
    · exact ⟨good_take h _ _, by have := take_length l x.a x.n; omega⟩
    · split
      · exact ⟨good_move h _ _ _, by have := move_length l x.a x.b x.n; omega⟩
      · split
        · have := good_puts h x.a x.s
          exact ⟨this.1, by omega⟩
        · have := good_takes h x.a x.s
          exact ⟨this.1, by omega⟩
/-- What is refused changes nothing. -/
theorem do_refused {l : List Lt} {x : Act} (h : doE l x ≠ 0) : doL l x = l := by
  unfold doE at h
  unfold doL
  split at h
  · rename_i e; rw [if_pos e]; unfold putL; rw [if_neg h]
  · rename_i e; rw [if_neg e]
    split at h
    · rename_i e; rw [if_pos e]; unfold takeL; rw [if_neg h]
    · rename_i e; rw [if_neg e]
      split at h
      · rename_i e; rw [if_pos e]; unfold moveL; rw [if_neg h]
      · rename_i e; rw [if_neg e]
        split at h
        · rename_i e; rw [if_pos e]; unfold putsL; rw [if_neg h]
        · rename_i e; rw [if_neg e]; unfold takesL; rw [if_neg h]
/-- The eleven cells of an act. -/
def CellsA (w : World) (g o : Nat) (x : Act) : Prop := w.cell? ⟨g, o, none⟩ = some (.int .i64 x.kind) ∧ w.cell? ⟨g, o + 1, none⟩ = some (.int .i64 x.n) ∧
  (w.cell? ⟨g, o + 2, none⟩ = some (.int .i64 x.a.o) ∧ w.cell? ⟨g, o + 3, none⟩ = some (.int .i64 x.a.d) ∧ w.cell? ⟨g, o + 4, none⟩ = some (.int .i64 x.a.p) ∧ w.cell? ⟨g, o + 5, none⟩ = some (.int .i64 x.a.t)) ∧
  (w.cell? ⟨g, o + 6, none⟩ = some (.int .i64 x.b.o) ∧ w.cell? ⟨g, o + 7, none⟩ = some (.int .i64 x.b.d) ∧ w.cell? ⟨g, o + 8, none⟩ = some (.int .i64 x.b.p) ∧ w.cell? ⟨g, o + 9, none⟩ = some (.int .i64 x.b.t)) ∧ w.cell? ⟨g, o + 10, none⟩ = some (.slice x.sa x.sm x.sc)
theorem CellsA.under {w w' : World} {g o : Nat} {x : Act} (h : CellsA w g o x) (hg : g < w.heap.size) (hb : Below w.heap.size w w') : CellsA w' g o x := by
  obtain ⟨k0, k1, ⟨k2, k3, k4, k5⟩, ⟨k6, k7, k8, k9⟩, k10⟩ := h
  exact ⟨((bcell hb).1 g _ hg).trans k0, ((bcell hb).1 g _ hg).trans k1, ⟨((bcell hb).1 g _ hg).trans k2, ((bcell hb).1 g _ hg).trans k3, ((bcell hb).1 g _ hg).trans k4, ((bcell hb).1 g _ hg).trans k5⟩, ⟨((bcell hb).1 g _ hg).trans k6, ((bcell hb).1 g _ hg).trans k7, ((bcell hb).1 g _ hg).trans k8, ((bcell hb).1 g _ hg).trans k9⟩, ((bcell hb).1 g _ hg).trans k10⟩
/-- An act in a box of its own. -/
theorem box_act (w : World) (x : Act) : ∃ V X, w.heap.size = V ∧ w.alloc (.cells #[.int .i64 x.kind, .int .i64 x.n, .int .i64 x.a.o, .int .i64 x.a.d, .int .i64 x.a.p, .int .i64 x.a.t, .int .i64 x.b.o, .int .i64 x.b.d, .int .i64 x.b.p, .int .i64 x.b.t, .slice x.sa x.sm x.sc] 37) = X ∧ Hid (Below w.heap.size w X) ∧
    X.cell? ⟨V, 0, none⟩ = some (.int .i64 x.kind) ∧ X.cell? ⟨V, 1, none⟩ = some (.int .i64 x.n) ∧
    (X.cell? ⟨V, 2, none⟩ = some (.int .i64 x.a.o) ∧ X.cell? ⟨V, 3, none⟩ = some (.int .i64 x.a.d) ∧ X.cell? ⟨V, 4, none⟩ = some (.int .i64 x.a.p) ∧ X.cell? ⟨V, 5, none⟩ = some (.int .i64 x.a.t)) ∧
    (X.cell? ⟨V, 6, none⟩ = some (.int .i64 x.b.o) ∧ X.cell? ⟨V, 7, none⟩ = some (.int .i64 x.b.d) ∧ X.cell? ⟨V, 8, none⟩ = some (.int .i64 x.b.p) ∧ X.cell? ⟨V, 9, none⟩ = some (.int .i64 x.b.t)) ∧ X.cell? ⟨V, 10, none⟩ = some (.slice x.sa x.sm x.sc) := by
  have h1 := heap_alloc_new w (.cells #[.int .i64 x.kind, .int .i64 x.n, .int .i64 x.a.o, .int .i64 x.a.d, .int .i64 x.a.p, .int .i64 x.a.t, .int .i64 x.b.o, .int .i64 x.b.d, .int .i64 x.b.p, .int .i64 x.b.t, .slice x.sa x.sm x.sc] 37)
  exact ⟨_, _, rfl, rfl, Lib.hid ((Below.refl _ w).alloc (Nat.le_refl _) _), cell_block (j := 0) h1 rfl, cell_block (j := 1) h1 rfl, ⟨cell_block (j := 2) h1 rfl, cell_block (j := 3) h1 rfl, cell_block (j := 4) h1 rfl, cell_block (j := 5) h1 rfl⟩, ⟨cell_block (j := 6) h1 rfl, cell_block (j := 7) h1 rfl, cell_block (j := 8) h1 rfl, cell_block (j := 9) h1 rfl⟩, cell_block (j := 10) h1 rfl⟩
set_option maxRecDepth 100000 in
set_option maxHeartbeats 8000000 in
theorem ddo {a : Option Addr} {n c : Nat} {l : List Lt} (x : Act) (w : World) (hr : OwnL w 0 (.slice a n c) l) (hn : n ≤ 3000) (hg : Good l) (hx : ActOk w x) (hm : x.sm ≤ 900) :
    Calls Try.prog 11 #[.slice a n c, actV x] w fun e w' => ∃ a' m' c', e = .returned (.tuple #[.slice a' m' c', .int .i64 (doE l x)]) ∧ Hid (Res w w' (.slice a n c) (.slice a' m' c') (doL l x)) := by
  obtain ⟨V, X, hV, hX, HXB, k0, k1, ⟨k2, k3, k4, k5⟩, ⟨k6, k7, k8, k9⟩, k10⟩ := box_act w x
  have hrX := own_under hr HXB.out
  have hxX := hx.under HXB.out
  obtain ⟨kd, q, xa, xb, sa, sm, sc, s⟩ := x
  simp only at k0 k1 k2 k3 k4 k5 k6 k7 k8 k9 k10 hm hxX hX
  by_cases c1 : kd = 1
  · subst c1
    have HC : Hid (Calls Try.prog 32 #[.slice a n c, bV xa, .int .i64 q] X fun e w' => ∃ a' m' c', e = .returned (.tuple #[.slice a' m' c', .int .i64 (putE l xa q)]) ∧ Hid (Res w w' (.slice a n c) (.slice a' m' c') (putL l xa q))) := Lib.hid ((dput xa q X hrX (by omega) hg).mono fun _ _ ⟨a', m', c', e, h⟩ => ⟨a', m', c', e, Lib.hid (Res.late HXB.out h.out)⟩)
    have e1 : doE l ⟨1, q, xa, xb, sa, sm, sc, s⟩ = putE l xa q := by unfold doE; exact if_pos rfl
    have e2 : doL l ⟨1, q, xa, xb, sa, sm, sc, s⟩ = putL l xa q := by unfold doL; exact if_pos rfl
    rw [e1, e2]
    clear hr hn hg hx hm hrX hxX e1 e2
    go_enter Try.func11, Try.ntmps11
    go_wp2_with fail
    clear hX hV
    refine HC.out.mono ?_
    rintro e w1 ⟨a', m', c', rfl, H1⟩
    go_wp2_with fail
    go_ret2
    exact ⟨_, _, _, rfl, H1⟩
  have d1 : (kd == 1) = false := by simpa using c1
  by_cases c2 : kd = 2
  · subst c2
    have HC : Hid (Calls Try.prog 33 #[.slice a n c, bV xa, .int .i64 q] X fun e w' => ∃ a' m' c', e = .returned (.tuple #[.slice a' m' c', .int .i64 (takeE l xa q)]) ∧ Hid (Res w w' (.slice a n c) (.slice a' m' c') (takeL l xa q))) := Lib.hid ((dtake xa q X hrX (by omega) hg).mono fun _ _ ⟨a', m', c', e, h⟩ => ⟨a', m', c', e, Lib.hid (Res.late HXB.out h.out)⟩)
    have e1 : doE l ⟨2, q, xa, xb, sa, sm, sc, s⟩ = takeE l xa q := by unfold doE; rw [if_neg c1]; exact if_pos rfl
    have e2 : doL l ⟨2, q, xa, xb, sa, sm, sc, s⟩ = takeL l xa q := by unfold doL; rw [if_neg c1]; exact if_pos rfl
    rw [e1, e2]
    clear hr hn hg hx hm hrX hxX e1 e2 c1 d1
    go_enter Try.func11, Try.ntmps11
    go_wp2_with fail
    clear hX hV
    refine HC.out.mono ?_
    rintro e w1 ⟨a', m', c', rfl, H1⟩
    go_wp2_with fail
    go_ret2
    exact ⟨_, _, _, rfl, H1⟩
  have d2 : (kd == 2) = false := by simpa using c2
  by_cases c3 : kd = 3
  · subst c3
    have HC : Hid (Calls Try.prog 34 #[.slice a n c, bV xa, bV xb, .int .i64 q] X fun e w' => ∃ a' m' c', e = .returned (.tuple #[.slice a' m' c', .int .i64 (moveE l xa xb q)]) ∧ Hid (Res w w' (.slice a n c) (.slice a' m' c') (moveL l xa xb q))) := Lib.hid ((dmove xa xb q X hrX (by omega) hg).mono fun _ _ ⟨a', m', c', e, h⟩ => ⟨a', m', c', e, Lib.hid (Res.late HXB.out h.out)⟩)
    have e1 : doE l ⟨3, q, xa, xb, sa, sm, sc, s⟩ = moveE l xa xb q := by unfold doE; rw [if_neg c1, if_neg c2]; exact if_pos rfl
    have e2 : doL l ⟨3, q, xa, xb, sa, sm, sc, s⟩ = moveL l xa xb q := by unfold doL; rw [if_neg c1, if_neg c2]; exact if_pos rfl
    rw [e1, e2]
    clear hr hn hg hx hm hrX hxX e1 e2 c1 d1 c2 d2
    go_enter Try.func11, Try.ntmps11
    go_wp2_with fail
    clear hX hV
    refine HC.out.mono ?_
    rintro e w1 ⟨a', m', c', rfl, H1⟩
    go_wp2_with fail
    go_ret2
    exact ⟨_, _, _, rfl, H1⟩
  have d3 : (kd == 3) = false := by simpa using c3
  by_cases c4 : kd = 4
  · subst c4
    have HC : Hid (Calls Try.prog 35 #[.slice a n c, bV xa, .slice sa sm sc] X fun e w' => ∃ a' m' c', e = .returned (.tuple #[.slice a' m' c', .int .i64 (putsE l xa s)]) ∧ Hid (Res w w' (.slice a n c) (.slice a' m' c') (putsL l xa s))) := Lib.hid ((dputs xa sa sm sc s X hrX hn hg hxX.2 hxX.1 hm).mono fun _ _ ⟨a', m', c', e, h⟩ => ⟨a', m', c', e, Lib.hid (Res.late HXB.out h.out)⟩)
    have e1 : doE l ⟨4, q, xa, xb, sa, sm, sc, s⟩ = putsE l xa s := by unfold doE; rw [if_neg c1, if_neg c2, if_neg c3]; exact if_pos rfl
    have e2 : doL l ⟨4, q, xa, xb, sa, sm, sc, s⟩ = putsL l xa s := by unfold doL; rw [if_neg c1, if_neg c2, if_neg c3]; exact if_pos rfl
    rw [e1, e2]
    clear hr hn hg hx hm hrX hxX e1 e2 c1 d1 c2 d2 c3 d3
    go_enter Try.func11, Try.ntmps11
    go_wp2_with fail
    clear hX hV
    refine HC.out.mono ?_
    rintro e w1 ⟨a', m', c', rfl, H1⟩
    go_wp2_with fail
    go_ret2
    exact ⟨_, _, _, rfl, H1⟩
  have d4 : (kd == 4) = false := by simpa using c4
  have HC : Hid (Calls Try.prog 36 #[.slice a n c, bV xa, .slice sa sm sc] X fun e w' => ∃ a' m' c', e = .returned (.tuple #[.slice a' m' c', .int .i64 (takesE l xa s)]) ∧ Hid (Res w w' (.slice a n c) (.slice a' m' c') (takesL l xa s))) := Lib.hid ((dtakes xa sa sm sc s X hrX hn hg hxX.2 hxX.1 hm).mono fun _ _ ⟨a', m', c', e, h⟩ => ⟨a', m', c', e, Lib.hid (Res.late HXB.out h.out)⟩)
  have e1 : doE l ⟨kd, q, xa, xb, sa, sm, sc, s⟩ = takesE l xa s := by unfold doE; rw [if_neg c1, if_neg c2, if_neg c3, if_neg c4]
  have e2 : doL l ⟨kd, q, xa, xb, sa, sm, sc, s⟩ = takesL l xa s := by unfold doL; rw [if_neg c1, if_neg c2, if_neg c3, if_neg c4]
  rw [e1, e2]
  clear hr hn hg hx hm hrX hxX e1 e2 c1 c2 c3 c4
  go_enter Try.func11, Try.ntmps11
  go_wp2_with fail
  clear hX hV
  refine HC.out.mono ?_
  rintro e w1 ⟨a', m', c', rfl, H1⟩
  go_wp2_with fail
  go_ret2
  exact ⟨_, _, _, rfl, H1⟩
/-- Acts that lie somewhere. -/
def Acts (w : World) (a : Option Addr) (xs : List Act) : Prop := ∀ (i : Nat) (x : Act), xs[i]? = some x → ActOk w x ∧ ∃ g off, a = some ⟨g, off, none⟩ ∧ g < w.heap.size ∧ CellsA w g (off + i * 11) x
theorem Acts.under {w w' : World} {a : Option Addr} {xs : List Act} (h : Acts w a xs) (hb : Below w.heap.size w w') : Acts w' a xs := fun i x hi => by
  obtain ⟨h1, g, off, e, hg, k⟩ := h i x hi
  exact ⟨h1.under hb, g, off, e, Nat.lt_of_lt_of_le hg hb.size, k.under hg hb⟩
theorem acts_all {w : World} {a : Option Addr} {xs : List Act} (h : Acts w a xs) : Hid (∀ i, i < xs.length → ∃ g off x, a = some ⟨g, off, none⟩ ∧ Hid (xs[i]? = some x) ∧ Hid (ActOk w x) ∧ Hid (∀ W, Below w.heap.size w W → CellsA W g (off + i * 11) x)) := Lib.hid (fun i hi => by
  obtain ⟨h1, g, off, e, hg, k⟩ := h i xs[i] (List.getElem?_eq_getElem hi)
  exact ⟨g, off, xs[i], e, Lib.hid (List.getElem?_eq_getElem hi), Lib.hid h1, Lib.hid fun W hW => k.under hg hW⟩)
set_option maxRecDepth 100000 in
set_option maxHeartbeats 4000000 in
theorem dfew (a : Option Addr) (m d : Nat) (xs : List Act) (most : Nat) (w : World) (hx : Acts w a xs) (hl : xs.length = m) (hmost : most ≤ 1000) :
    Calls Try.prog 7 #[.slice a m d, .int .i64 (most : Nat)] w fun e w' => ∃ f : Bool, e = .returned (.bool f) ∧ Hid (f = true → m ≤ most ∧ ∀ x ∈ xs, x.sm ≤ 12) ∧ w = w' := by
  have HT := acts_all hx
  have HL := Lib.hid hl
  have hmo : (most : Int) ≤ 1000 := by omega
  clear hx hl hmost
  go_enter Try.func7, Try.ntmps7
  go_wp2_with fail
  go_loopw [5] (fun t wr => ∃ i : Nat, t = .int .i64 i ∧ i ≤ m ∧ i ≤ most ∧ w = wr ∧ Hid (∀ j x, j < i → xs[j]? = some x → x.sm ≤ 12)) (fun t _ => m - (RowKit.intOf t).toNat)
  case atStart => exact ⟨0, rfl, by omega, by omega, rfl, Lib.hid (fun j x hj => by omega)⟩
  case round =>
    obtain ⟨i, rfl, hi, him, rfl, HI⟩ := hrel
    have hi0 : (0 : Int) ≤ (i : Int) := by omega
    by_cases hlt : i < m
    · have hlt2 : (i : Int) < (m : Int) := by omega
      have dlt : decide ((i : Int) < (m : Int)) = true := decide_eq_true hlt2
      have dlt1 : decide (i < m) = true := decide_eq_true hlt
      by_cases hlt3 : i < most
      · have hlt4 : (i : Int) < (most : Int) := by omega
        have dlt3 : decide ((i : Int) < (most : Int)) = true := decide_eq_true hlt4
        have dlt5 : decide (i < most) = true := decide_eq_true hlt3
        obtain ⟨g, off, x, rfl, hxi, _, HC⟩ := HT.out i (by rw [HL.out]; exact hlt)
        obtain ⟨_, _, _, _, k10⟩ := HC.out w (Below.refl _ _)
        by_cases c1 : (12 : Int) < (x.sm : Int)
        · have e1 : decide ((12 : Int) < (x.sm : Int)) = true := decide_eq_true c1
          clear c1
          go_wp2_with fail
          go_ret
          exact ⟨false, rfl, Lib.hid (fun h => by cases h), by first | rfl | trivial⟩
        · have e1 : decide ((12 : Int) < (x.sm : Int)) = false := decide_eq_false c1
          have HI2 : Hid (∀ j y, j < i + 1 → xs[j]? = some y → y.sm ≤ 12) := Lib.hid (fun j y hj hy => by
            rcases Nat.lt_or_ge j i with h1 | h1
            · exact HI.out j y h1 hy
            · obtain rfl : j = i := by omega
              rw [hxi.out] at hy
              cases hy
              omega)
          clear c1
          go_wp2_with fail
          go_roundw
          case rel => exact ⟨i + 1, by go_num, by omega, by omega, by first | rfl | trivial, HI2⟩
          case measure => simp [RowKit.intOf]; omega
      · have dlt3 : decide ((i : Int) < (most : Int)) = false := decide_eq_false (by omega)
        have dlt5 : decide (i < most) = false := decide_eq_false hlt3
        have hge : ¬ (m : Int) ≤ (most : Int) := by omega
        have e2 : decide ((m : Int) ≤ (most : Int)) = false := decide_eq_false hge
        have e3 : decide (m ≤ most) = false := decide_eq_false (by omega)
        go_wp2_with fail
        go_ret
        first
        | exact ⟨false, rfl, Lib.hid (fun h => by cases h), by first | rfl | trivial⟩
        | exact .inl ⟨rfl, Lib.hid trivial, rfl⟩
    · obtain rfl : i = m := by omega
      have e2 : decide ((i : Int) ≤ (most : Int)) = true := decide_eq_true (by omega)
      have e3 : decide (i ≤ most) = true := decide_eq_true him
      have HF : Hid (i ≤ most ∧ ∀ x ∈ xs, x.sm ≤ 12) := Lib.hid (⟨him, fun x hx => by
        obtain ⟨j, hj, rfl⟩ := List.getElem_of_mem hx
        exact HI.out j _ (by rw [← HL.out]; exact hj) (List.getElem?_eq_getElem hj)⟩)
      go_wp2_with fail
      go_ret
      first
      | exact ⟨true, rfl, Lib.hid fun _ => HF.out, by first | rfl | trivial⟩
      | exact .inr ⟨rfl, HF, rfl⟩
end Go.Proofs.Ytkljaaeeocghjaa.Bins
