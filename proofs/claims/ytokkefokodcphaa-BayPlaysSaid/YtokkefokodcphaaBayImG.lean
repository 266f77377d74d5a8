/- A line lets a job run, at its place; the side of a bay; the line of a job. -/
import Derived.Test.YtokkefokodcphaaBayImD
import Derived.Test.YtokkefokodcphaaBayImF
namespace Go.Proofs.Ytokkefokodcphaa.Bay
open Go.RowKit Go.Lib IRows

/-- A line's cells, and that they may be stored into. -/
theorem PBX.cells {W : World} {Q : Nat} {lv : Value} {ys xs : List XL} (h : PBX W Q lv ys xs) : ∃ a c, lv = .slice a ys.length c ∧ ∀ (k : Nat) (x : XL), ys[k]? = some x → ∃ g, a = some ⟨g, 0, none⟩ ∧ g < W.heap.size ∧
    (W.cell? ⟨g, k * 3, none⟩ = some x.rv ∧ W.cell? ⟨g, k * 3 + 1, none⟩ = some x.qv ∧ W.cell? ⟨g, k * 3 + 2, none⟩ = some (.int .i64 x.s)) ∧ ∀ j, W.frozen? ⟨g, j, none⟩ = false := by
  obtain ⟨a, c, e, _, _, h2⟩ := row_x h.own
  exact ⟨a, c, e, h2⟩
theorem PBX.at {W : World} {Q g n c : Nat} {ys xs : List XL} (h : PBX W Q (.slice (some ⟨g, 0, none⟩) n c) ys xs) {k : Nat} {x : XL} (hx : ys[k]? = some x) : g < W.heap.size ∧ (W.cell? ⟨g, k * 3, none⟩ = some x.rv ∧ W.cell? ⟨g, k * 3 + 1, none⟩ = some x.qv ∧ W.cell? ⟨g, k * 3 + 2, none⟩ = some (.int .i64 x.s)) ∧ ∀ j, W.frozen? ⟨g, j, none⟩ = false := by
  obtain ⟨a, c', e, h2⟩ := h.cells
  obtain ⟨g', e2, h3⟩ := h2 k x hx
  injection e with e1 _ _
  rw [← e1] at e2
  injection e2 with e2
  injection e2 with e2 _ _
  subst e2
  exact h3
theorem PBX.mem {W : World} {Q : Nat} {lv : Value} {ys xs : List XL} (h : PBX W Q lv ys xs) : W.cell? ⟨Q, 0, none⟩ = some (.bool true) ∧ W.cell? ⟨Q, 1, none⟩ = some lv ∧ Q < W.heap.size :=
  ⟨cell_block (j := 0) h.self rfl, cell_block (j := 1) h.self rfl, (Array.getElem?_eq_some_iff.1 h.self).1⟩
theorem set_set_row (xs : List XL) (k : Nat) (x y : XL) : (xs.set k x).set k y = xs.set k y := List.set_set ..
set_option maxRecDepth 100000 in
set_option maxHeartbeats 1000000 in
theorem run_im {Q g n c k : Nat} {xs : List XL} {x : XL} (j : Int) (w : World) (h : PBX w Q (.slice (some ⟨g, 0, none⟩) n c) xs xs) (hx : xs[k]? = some x) (hr : Rise x.r) (hj : j ∉ x.r) (hl : x.r.length ≤ 8) :
    Calls Try.prog 36 #[.pointer (some ⟨g, k * 3, none⟩), .int .i64 j] w fun e w' => e = .returned (.tuple #[]) ∧ Hid (∃ m, PBX w' Q (.slice (some ⟨g, 0, none⟩) n c) (xs.set k (x.put false m (ins x.r j))) (xs.set k (x.put false m (ins x.r j))) ∧ StepF w w' (foot Q (.slice (some ⟨g, 0, none⟩) n c) xs) (foot Q (.slice (some ⟨g, 0, none⟩) n c) (xs.set k (x.put false m (ins x.r j))))) := by
  obtain ⟨hg, ⟨c0, c1, c2⟩, f0⟩ := h.at hx
  have hrow := h.rows.row k x false hx
  have H1 := Lib.hid (search_im x.rm.a x.r.length x.rm.c x.r j w rfl hrow.irow (by omega) hr hj)
  have HA : Hid (∀ w1, Below w.heap.size w w1 → w1.cell? ⟨g, k * 3, none⟩ = some x.rv ∧ (w1.alloc (.cells #[.int .i64 j] 3)).cell? ⟨g, k * 3, none⟩ = some x.rv) := Lib.hid (fun w1 hb => ⟨((bcell hb).1 g _ hg).trans c0, ((bcell (below_then hb ((Below.refl _ w1).alloc (Nat.le_refl _) _))).1 g _ hg).trans c0⟩)
  have H2 : Hid (∀ w1 (p : Nat), Below w.heap.size w w1 → Place x.r j p → Calls Try.prog 50 #[.slice x.rm.a x.r.length x.rm.c, .int .i64 p, .slice (some ⟨w1.heap.size, 0, none⟩) 1 1] (w1.alloc (.cells #[.int .i64 j] 3)) fun e w' => ∃ a' c', e = .returned (.slice a' (x.r.length + 1) c') ∧ Hid (w'.cell? ⟨g, k * 3, none⟩ = some x.rv ∧ (∀ j, w'.frozen? ⟨g, j, none⟩ = false) ∧ ∃ m, PBX (w'.setCell ⟨g, k * 3, none⟩ (.slice a' (x.r.length + 1) c')) Q (.slice (some ⟨g, 0, none⟩) n c) (xs.set k (x.put false m (ins x.r j))) (xs.set k (x.put false m (ins x.r j))) ∧ StepF w (w'.setCell ⟨g, k * 3, none⟩ (.slice a' (x.r.length + 1) c')) (foot Q (.slice (some ⟨g, 0, none⟩) n c) xs) (foot Q (.slice (some ⟨g, 0, none⟩) n c) (xs.set k (x.put false m (ins x.r j)))))) := Lib.hid (fun w1 p hb hp => by
    have hb2 := below_then hb ((Below.refl _ w1).alloc (Nat.le_refl _) (.cells #[.int .i64 j] 3))
    have h2 := h.under hb2
    have hrow2 := h2.rows.row k x false hx
    refine (insert_im j p w1.heap.size _ hrow2 hp.1 (show x.r.length ≤ 1000 by omega) 3 (heap_alloc_new w1 _) (fun e => ?_)).mono ?_
    · have := hrow.lt e
      have := hb.size
      omega
    · rintro e w' ⟨m', rfl, H⟩
      obtain ⟨g1, g2⟩ := H.out
      have e1 : ins x.r j = x.r.take p ++ j :: x.r.drop p := ins_cut p hp.1 hp.2.1 (fun y hy => hp.2.2 p y (Nat.le_refl _) hy)
      have g1' : RowAt w' m' (ins x.r j) := by rw [e1]; exact g1
      obtain ⟨h3, s3⟩ := h2.turn (d := false) hx g2 g1'
      obtain ⟨_, ⟨d0, _, _⟩, fz⟩ := h3.at hx
      have hlen : (ins x.r j).length = x.r.length + 1 := ins_length _ _
      obtain ⟨h4, s4⟩ := h3.store (k := k) (x := x) (y := x.put false m' (ins x.r j)) (j := 0) (u := .slice m'.a (x.r.length + 1) m'.c) hx (by omega) (by show xCells (x.put false m' (ins x.r j)) = _; simp [xCells, XL.put, hlen])
      exact ⟨m'.a, m'.c, rfl, Lib.hid ⟨d0, fz, m', h4, (StepF.below _ hb2).trans (s3.trans s4)⟩⟩)
  clear h hr hj hl hx hrow c1 c2 hg f0
  go_enter Try.func36, Try.ntmps36
  go_wp2_with fail
  refine H1.out.mono ?_
  rintro e w1 ⟨p, rfl, HP, hb⟩
  obtain ⟨d0, d1⟩ := HA.out w1 hb
  have H3 := Lib.hid (H2.out w1 p hb HP.out)
  clear H1 H2 HA hb
  go_wp2_with fail
  refine H3.out.mono ?_
  rintro e w2 ⟨a', c', rfl, HE⟩
  obtain ⟨e0, e1, _⟩ := HE.out
  go_wp2_with fail
  go_end0
  exact ⟨rfl, Lib.hid HE.out.2.2⟩
end Go.Proofs.Ytokkefokodcphaa.Bay
