/- do: an act in both bays; they answer the same, and part nowhere. -/
import Derived.Test.YtokkefokodcphaaBayTw
import Derived.Test.YtokkefokodcphaaBayDj
namespace Go.Proofs.Ytokkefokodcphaa.Bay
open Go.RowKit Go.Lib IRows

/-- An act. -/
structure Ac where
  k : Int
  b : Int
  s : Int
  j : Int
abbrev acV (x : Ac) : Value := .agg #[.int .i64 x.k, .int .i64 x.b, .int .i64 x.s, .int .i64 x.j]
def actL (L : List Ln) (x : Ac) : List Ln := if x.k = 1 then (ask L x.b x.s x.j).1 else if x.k = 2 then (leave L x.j).1 else L
theorem good_act {L : List Ln} (h : Good L) (x : Ac) : Good (actL L x) := by
  unfold actL
  split
  · exact good_ask h _ _ _
  · split
    · exact good_leave h _
    · exact h
/-- do's blocks. -/
structure BoxDo (W : World) (U : Nat) (la : Option Addr) (ln lc : Nat) (da : Option Addr) (dn dc : Nat) (x : Ac) : Prop where
  bx : W.heap[U]? = some (.cells #[.slice la ln lc, .slice da dn dc] 32 (0, 0))
  ax : W.heap[U + 1]? = some (.cells #[.int .i64 x.k, .int .i64 x.b, .int .i64 x.s, .int .i64 x.j] 40 (0, 0))
  gx : W.heap[U + 2]? = some (.cells #[.slice none 0 0, .slice none 0 0] 32 (0, 0))
section
variable {W W' : World} {U : Nat} {la : Option Addr} {ln lc : Nat} {da : Option Addr} {dn dc : Nat} {x : Ac}
theorem BoxDo.keep (h : BoxDo W U la ln lc da dn dc x) (hk : ∀ g, U ≤ g → g < U + 3 → W'.heap[g]? = W.heap[g]?) : BoxDo W' U la ln lc da dn dc x :=
  ⟨(hk U (by omega) (by omega)).trans h.bx, (hk (U + 1) (by omega) (by omega)).trans h.ax, (hk (U + 2) (by omega) (by omega)).trans h.gx⟩
theorem BoxDo.under (h : BoxDo W U la ln lc da dn dc x) (hb : Below W.heap.size W W') : BoxDo W' U la ln lc da dn dc x := by
  have h2 := (Array.getElem?_eq_some_iff.1 h.gx).1
  exact h.keep fun g _ hg => hb.block g (by omega)
theorem BoxDo.cells (h : BoxDo W U la ln lc da dn dc x) : (W.cell? ⟨U, 0, none⟩ = some (.slice la ln lc) ∧ W.cell? ⟨U, 1, none⟩ = some (.slice da dn dc)) ∧ (W.cell? ⟨U + 1, 0, none⟩ = some (.int .i64 x.k) ∧ W.cell? ⟨U + 1, 1, none⟩ = some (.int .i64 x.b) ∧ W.cell? ⟨U + 1, 2, none⟩ = some (.int .i64 x.s) ∧ W.cell? ⟨U + 1, 3, none⟩ = some (.int .i64 x.j)) ∧ (W.cell? ⟨U + 2, 0, none⟩ = some (.slice none 0 0) ∧ W.cell? ⟨U + 2, 1, none⟩ = some (.slice none 0 0)) ∧ W.frozen? ⟨U + 2, 0, none⟩ = false ∧ W.frozen? ⟨U + 2, 1, none⟩ = false :=
  ⟨⟨cell_block (j := 0) h.bx rfl, cell_block (j := 1) h.bx rfl⟩, ⟨cell_block (j := 0) h.ax rfl, cell_block (j := 1) h.ax rfl, cell_block (j := 2) h.ax rfl, cell_block (j := 3) h.ax rfl⟩, ⟨cell_block (j := 0) h.gx rfl, cell_block (j := 1) h.gx rfl⟩, free_block 0 h.gx, free_block 1 h.gx⟩
end
theorem open_do (w : World) (la : Option Addr) (ln lc : Nat) (da : Option Addr) (dn dc : Nat) (x : Ac) : ∃ U Y X Z, w.heap.size = U ∧ w.alloc (.cells #[.slice la ln lc, .slice da dn dc] 32) = Y ∧ Y.alloc (.cells #[.int .i64 x.k, .int .i64 x.b, .int .i64 x.s, .int .i64 x.j] 40) = X ∧ X.alloc (.cells #[.slice none 0 0, .slice none 0 0] 32) = Z ∧ Y.heap.size = U + 1 ∧ X.heap.size = U + 2 ∧ Hid (Below w.heap.size w Z ∧ Z.heap.size = U + 3 ∧ BoxDo Z U la ln lc da dn dc x) := by
  have h1 := heap_alloc_new w (.cells #[.slice la ln lc, .slice da dn dc] 32)
  obtain ⟨Y, hY⟩ : ∃ Y, w.alloc (.cells #[.slice la ln lc, .slice da dn dc] 32) = Y := ⟨_, rfl⟩
  have b1 : Below w.heap.size w Y := by rw [← hY]; exact (Below.refl _ _).alloc (Nat.le_refl _) _
  have s1 : Y.heap.size = w.heap.size + 1 := by rw [← hY]; simp
  rw [hY] at h1
  have h2 := heap_alloc_new Y (.cells #[.int .i64 x.k, .int .i64 x.b, .int .i64 x.s, .int .i64 x.j] 40)
  obtain ⟨X, hX⟩ : ∃ X, Y.alloc (.cells #[.int .i64 x.k, .int .i64 x.b, .int .i64 x.s, .int .i64 x.j] 40) = X := ⟨_, rfl⟩
  have b2 : Below Y.heap.size Y X := by rw [← hX]; exact (Below.refl _ _).alloc (Nat.le_refl _) _
  have s2 : X.heap.size = w.heap.size + 2 := by rw [← hX]; simp; omega
  rw [hX, s1] at h2
  have h3 := heap_alloc_new X (.cells #[.slice none 0 0, .slice none 0 0] 32)
  obtain ⟨Z, hZ⟩ : ∃ Z, X.alloc (.cells #[.slice none 0 0, .slice none 0 0] 32) = Z := ⟨_, rfl⟩
  have b3 : Below X.heap.size X Z := by rw [← hZ]; exact (Below.refl _ _).alloc (Nat.le_refl _) _
  have s3 : Z.heap.size = w.heap.size + 3 := by rw [← hZ]; simp; omega
  rw [hZ, s2] at h3
  exact ⟨_, Y, X, Z, rfl, hY, hX, hZ, s1, s2, Lib.hid ⟨below_then (below_then b1 b2) b3, s3, (b3.block _ (by omega)).trans ((b2.block _ (by omega)).trans h1), (b3.block _ (by omega)).trans h2, h3⟩⟩
section
variable {w W w2 : World} {Q U : Nat} {L' : List Ln} {F F' : Nat → Prop} {la : Option Addr} {ln lc : Nat} {l : List By} {a' : Option Addr} {dn c' : Nat}
/-- The result stored. -/
theorem do_done (hU : W.heap.size = U) (hwU : w.heap.size ≤ U) (hby : ByAt w la l) (p1 : PS w w2 Q L' F') (p2 : DB w2 (fun q => ¬ F' q ∧ (q < U ∨ U + 3 ≤ q)) la ln l a' dn c' L') (p3 : StepF W w2 F F') (p4 : w2.heap[U + 2]? = some (.cells #[.slice none 0 0, .slice none 0 0] 32 (0, 0))) (hF : ¬ F' (U + 2)) :
    ((w2.setCell ⟨U + 2, 0, none⟩ (.slice la ln lc)).setCell ⟨U + 2, 1, none⟩ (.slice a' dn c')).heap[U + 2]? = some (.cells #[.slice la ln lc, .slice a' dn c'] 32 (0, 0)) ∧
      ∃ F', TW w ((w2.setCell ⟨U + 2, 0, none⟩ (.slice la ln lc)).setCell ⟨U + 2, 1, none⟩ (.slice a' dn c')) Q L' F' la ln l a' dn c' L' ∧ StepF W ((w2.setCell ⟨U + 2, 0, none⟩ (.slice la ln lc)).setCell ⟨U + 2, 1, none⟩ (.slice a' dn c')) F F' := by
  have k1 := heap_setCell_same w2 (U + 2) 0 _ _ (.slice la ln lc) p4
  have k2 := heap_setCell_same _ (U + 2) 1 _ _ (.slice a' dn c') k1
  have hne : ∀ q, q ≠ U + 2 → ((w2.setCell ⟨U + 2, 0, none⟩ (.slice la ln lc)).setCell ⟨U + 2, 1, none⟩ (.slice a' dn c')).heap[q]? = w2.heap[q]? := fun q hq => (heap_setCell_other _ ⟨U + 2, 1, none⟩ q _ (fun e => hq e)).trans (heap_setCell_other _ ⟨U + 2, 0, none⟩ q _ (fun e => hq e))
  have hbw : Below w.heap.size w ((w2.setCell ⟨U + 2, 0, none⟩ (.slice la ln lc)).setCell ⟨U + 2, 1, none⟩ (.slice a' dn c')) := (p1.below.setCell (p := ⟨U + 2, 0, none⟩) (by show w.heap.size ≤ U + 2; omega) _).setCell (p := ⟨U + 2, 1, none⟩) (by show w.heap.size ≤ U + 2; omega) _
  refine ⟨k2, F', ⟨p1.keep hbw fun g hg => hne g (fun e => hF (e ▸ hg)), (p2.step hbw hby (by simp [World.setCell]) fun g hg _ => hne g (fun e => by have := hg.2; omega)).mono fun g hg _ => hg.1⟩, ?_⟩
  exact ⟨p3.os, p3.tape, p3.output, by have := p3.size; simpa [World.setCell] using this, fun k hk hf => (hne k (by omega)).trans (p3.block k hk hf), p3.grows⟩
/-- Between the calls. -/
theorem do_mid {Z w1 X2 : World} {L : List Ln} {da : Option Addr} {dc : Nat} {x : Ac} (hU : W.heap.size = U) (hP : PS w W Q L F) (hZb : Below W.heap.size W Z) (hZs : Z.heap.size = U + 3) (hB : BoxDo Z U la ln lc da dn dc x) (h1 : DB w1 (fun q => (¬ F q ∧ q < U) ∨ Z.heap.size ≤ q) la ln l a' dn c' L') (hb1 : Below Z.heap.size Z w1) (hb2 : Below w1.heap.size w1 X2) (h2 : PS w w2 Q L' F') (s2 : StepF X2 w2 F F') (hby : ByAt w la l) :
    BoxDo w2 U la ln lc da dn dc x ∧ (∀ g, U ≤ g → g < X2.heap.size → w2.heap[g]? = X2.heap[g]?) ∧ ((w2.setCell ⟨U + 2, 0, none⟩ (.slice la ln lc)).setCell ⟨U + 2, 1, none⟩ (.slice a' dn c')).heap[U + 2]? = some (.cells #[.slice la ln lc, .slice a' dn c'] 32 (0, 0)) ∧
      ∃ F', TW w ((w2.setCell ⟨U + 2, 0, none⟩ (.slice la ln lc)).setCell ⟨U + 2, 1, none⟩ (.slice a' dn c')) Q L' F' la ln l a' dn c' L' ∧ StepF W ((w2.setCell ⟨U + 2, 0, none⟩ (.slice la ln lc)).setCell ⟨U + 2, 1, none⟩ (.slice a' dn c')) F F' := by
  have hFU : ∀ g, F g → g < U := fun g hg => by have := (hP.lt g hg).2; omega
  have hwU : w.heap.size ≤ U := by have := hP.below.size; omega
  have z1 := hb1.size
  have z2 := hb2.size
  have hk : ∀ g, U ≤ g → g < X2.heap.size → w2.heap[g]? = X2.heap[g]? := fun g hg hl => s2.block g hl fun hf => by have := hFU g hf; omega
  have hbox : BoxDo w2 U la ln lc da dn dc x := (hB.under (below_then hb1 hb2)).keep fun g hg hl => hk g hg (by omega)
  have hg : ∀ g, F' g → F g ∨ X2.heap.size ≤ g := s2.grows
  refine ⟨hbox, hk, do_done hU hwU hby h2 ?_ ((StepF.below F (below_then (below_then hZb hb1) hb2)).trans s2) hbox.gx fun hf => ?_⟩
  · refine ((h1.mono (N' := fun q => ((¬ F q ∧ q < U) ∨ Z.heap.size ≤ q) ∧ q < w1.heap.size) fun g hg hl => ⟨hg, hl⟩).step h2.below hby (Nat.le_trans z2 s2.size) fun g hg hl => (s2.block g (by omega) fun hf => ?_).trans (hb2.block g hl)).mono fun g hg2 _ => ⟨fun hf => ?_, ?_⟩
    · have := hFU g hf
      rcases hg.1 with h3 | h3
      · exact h3.1 hf
      · omega
    · have h5 := hg2.2
      rcases hg g hf with h4 | h4
      · have := hFU g h4
        rcases hg2.1 with h3 | h3
        · exact h3.1 h4
        · omega
      · omega
    · rcases hg2.1 with h3 | h3
      · exact .inl h3.2
      · exact .inr (by omega)
  · rcases hg _ hf with h4 | h4
    · have := hFU _ h4
      omega
    · omega
end
set_option maxRecDepth 100000 in
set_option maxHeartbeats 8000000 in
theorem do_im {w W : World} {Q : Nat} {L : List Ln} {F : Nat → Prop} {la : Option Addr} {ln lc : Nat} {l : List By} {da : Option Addr} {dn dc : Nat} (x : Ac) (h : TW w W Q L F la ln l da dn dc L) (hby : ByAt w la l) :
    Calls Try.prog 13 #[ptr Q, bV la ln lc da dn dc, acV x] W fun e w' => ∃ a' c', e = .returned (.tuple #[bV la ln lc a' dn c', .bool true]) ∧ Hid (∃ F', TW w w' Q (actL L x) F' la ln l a' dn c' (actL L x) ∧ StepF W w' F F') := by
  obtain ⟨U, Y, X, Z, hU, hY, hX, hZ, hYU, hXU, HZ⟩ := open_do W la ln lc da dn dc x
  obtain ⟨hZb, hZs, hB⟩ := HZ.out
  have hD : DB Z (fun q => ¬ F q ∧ q < U) la ln l da dn dc L := (h.2.mono (N' := fun q => ¬ F q ∧ q < U) fun g hg hl => ⟨hg, by omega⟩).under hZb
  have hP : PS w Z Q L F := h.1.under hZb
  have HMID : Hid (∀ w1 X2 w2 a' c' L' F', DB w1 (fun q => (¬ F q ∧ q < U) ∨ Z.heap.size ≤ q) la ln l a' dn c' L' → Below Z.heap.size Z w1 → Below w1.heap.size w1 X2 → PS w w2 Q L' F' → StepF X2 w2 F F' → _) := Lib.hid (fun w1 X2 w2 a' c' L' F' m1 m2 m3 m4 m5 => do_mid (lc := lc) hU h.1 hZb hZs hB m1 m2 m3 m4 m5 hby)
  have hgood := h.1.good
  have hBB := hB
  obtain ⟨k, b, s, j⟩ := x
  obtain ⟨⟨b0, b1⟩, ⟨k0, k1, k2, k3⟩, ⟨g0, g1⟩, f0, f1⟩ := hB.cells
  dsimp only at k0 k1 k2 k3
  have HB := Lib.hid hBB
  by_cases hk1 : k = 1
  · subst hk1
    rw [show actL L ⟨1, b, s, j⟩ = (ask L b s j).1 by simp [actL]]
    obtain ⟨p, hp⟩ : ∃ p, ask L b s j = p := ⟨_, rfl⟩
    have hA := dask_im la ln lc l da dn dc L b s j Z hD hgood
    have hQ : ∀ X2, Below Z.heap.size Z X2 → _ := fun X2 hX2 => ps_ask b s j (hP.under hX2)
    rw [hp] at hA hQ ⊢
    obtain ⟨L', v, er⟩ := p
    dsimp only at hA hQ ⊢
    have HA := Lib.hid hA
    have HQ := Lib.hid hQ
    clear hA hQ hp hD hP hB hBB hgood h hby
    go_enter Try.func13, Try.ntmps13
    go_wp2_with fail
    refine HA.out.mono ?_
    rintro e w1 ⟨a', c', rfl, H⟩
    obtain ⟨V, X0, hV, hX0, HX0⟩ := zero_b w1
    have hz0 := HX0.out.2.2 X0 (Below.refl _ _)
    have x0 := cell_block (j := 0) hz0 rfl
    have x1 := cell_block (j := 1) hz0 rfl
    have xf0 := free_block 0 hz0
    have xf1 := free_block 1 hz0
    obtain ⟨X2, hXX⟩ : ∃ X2, (X0.setCell ⟨V, 0, none⟩ (.slice la ln lc)).setCell ⟨V, 1, none⟩ (.slice a' dn c') = X2 := ⟨_, rfl⟩
    have hXV : X2.heap[V]? = some (.cells #[.slice la ln lc, .slice a' dn c'] 32 (0, 0)) := by rw [← hXX]; exact heap_setCell_same _ V 1 _ _ _ (heap_setCell_same X0 V 0 _ _ _ hz0)
    have hX2 : Below w1.heap.size w1 X2 := by
      rw [← hXX]
      exact (HX0.out.1.setCell (p := ⟨V, 0, none⟩) (by show w1.heap.size ≤ V; omega) _).setCell (p := ⟨V, 1, none⟩) (by show w1.heap.size ≤ V; omega) _
    have hZ1 := H.out.2
    obtain ⟨_, ⟨_, m1, m2, m3⟩, _, _, _⟩ := (HB.out.under (below_then hZ1 hX2)).cells
    dsimp only at m1 m2 m3
    have HPC := Lib.hid (HQ.out X2 (below_then hZ1 hX2))
    have HMV : Hid (∀ w2, (∃ F', PS w w2 Q L' F' ∧ StepF X2 w2 F F') → _) := Lib.hid (fun w2 ⟨F', q1, q2⟩ => HMID.out w1 X2 w2 a' c' L' F' H.out.1 hZ1 hX2 q1 q2)
    have HVV : Hid (U ≤ V ∧ V < X2.heap.size ∧ X2.heap[V]? = some (.cells #[.slice la ln lc, .slice a' dn c'] 32 (0, 0))) := Lib.hid ⟨by have := hZ1.size; omega, (Array.getElem?_eq_some_iff.1 hXV).1, hXV⟩
    clear HA HQ HMID HB hXV hX2 hZ1 hz0 H HX0 
    clear k0 k1 k2 k3 g0 g1 f0 f1 b0 b1
    go_wp2_with fail
    refine HPC.out.mono ?_
    rintro e w2 ⟨rfl, H2⟩
    obtain ⟨hb3, hk3, hend⟩ := HMV.out w2 H2.out
    have hv3 := (hk3 V HVV.out.1 HVV.out.2.1).trans HVV.out.2.2
    have y0 := cell_block (j := 0) hv3 rfl
    have y1 := cell_block (j := 1) hv3 rfl
    obtain ⟨_, _, ⟨g0, g1⟩, f0, f1⟩ := hb3.cells
    have HE := Lib.hid hend
    clear hend hb3 hk3 hv3 HMV HVV HPC H2 x0 x1 xf0 xf1 hXX hX0 hV
    go_wp2_with fail
    exact ret_bays2 rfl rfl rfl rfl HE.out.1 ⟨a', c', rfl, Lib.hid HE.out.2⟩
  have e1 : (k == 1) = false := by simpa using hk1
  by_cases hk2 : k = 2
  · subst hk2
    rw [show actL L ⟨2, b, s, j⟩ = (leave L j).1 by simp [actL]]
    obtain ⟨p, hp⟩ : ∃ p, leave L j = p := ⟨_, rfl⟩
    have hA := dleave_im la ln lc l da dn dc L j Z hD hgood
    have hQ : ∀ X2, Below Z.heap.size Z X2 → _ := fun X2 hX2 => ps_leave j (hP.under hX2)
    rw [hp] at hA hQ ⊢
    obtain ⟨L', v, er⟩ := p
    dsimp only at hA hQ ⊢
    have HA := Lib.hid hA
    have HQ := Lib.hid hQ
    clear hA hQ hp hD hP hB hBB hgood h hby
    go_enter Try.func13, Try.ntmps13
    go_wp2_with fail
    refine HA.out.mono ?_
    rintro e w1 ⟨a', c', rfl, H⟩
    obtain ⟨V, X0, hV, hX0, HX0⟩ := zero_b w1
    have hz0 := HX0.out.2.2 X0 (Below.refl _ _)
    have x0 := cell_block (j := 0) hz0 rfl
    have x1 := cell_block (j := 1) hz0 rfl
    have xf0 := free_block 0 hz0
    have xf1 := free_block 1 hz0
    obtain ⟨X2, hXX⟩ : ∃ X2, (X0.setCell ⟨V, 0, none⟩ (.slice la ln lc)).setCell ⟨V, 1, none⟩ (.slice a' dn c') = X2 := ⟨_, rfl⟩
    have hXV : X2.heap[V]? = some (.cells #[.slice la ln lc, .slice a' dn c'] 32 (0, 0)) := by rw [← hXX]; exact heap_setCell_same _ V 1 _ _ _ (heap_setCell_same X0 V 0 _ _ _ hz0)
    have hX2 : Below w1.heap.size w1 X2 := by
      rw [← hXX]
      exact (HX0.out.1.setCell (p := ⟨V, 0, none⟩) (by show w1.heap.size ≤ V; omega) _).setCell (p := ⟨V, 1, none⟩) (by show w1.heap.size ≤ V; omega) _
    have hZ1 := H.out.2
    obtain ⟨_, ⟨_, m1, m2, m3⟩, _, _, _⟩ := (HB.out.under (below_then hZ1 hX2)).cells
    dsimp only at m1 m2 m3
    have HPC := Lib.hid (HQ.out X2 (below_then hZ1 hX2))
    have HMV : Hid (∀ w2, (∃ F', PS w w2 Q L' F' ∧ StepF X2 w2 F F') → _) := Lib.hid (fun w2 ⟨F', q1, q2⟩ => HMID.out w1 X2 w2 a' c' L' F' H.out.1 hZ1 hX2 q1 q2)
    have HVV : Hid (U ≤ V ∧ V < X2.heap.size ∧ X2.heap[V]? = some (.cells #[.slice la ln lc, .slice a' dn c'] 32 (0, 0))) := Lib.hid ⟨by have := hZ1.size; omega, (Array.getElem?_eq_some_iff.1 hXV).1, hXV⟩
    clear HA HQ HMID HB hXV hX2 hZ1 hz0 H HX0 m1 m2
    clear k0 k1 k2 k3 g0 g1 f0 f1 b0 b1
    go_wp2_with fail
    refine HPC.out.mono ?_
    rintro e w2 ⟨rfl, H2⟩
    obtain ⟨hb3, hk3, hend⟩ := HMV.out w2 H2.out
    have hv3 := (hk3 V HVV.out.1 HVV.out.2.1).trans HVV.out.2.2
    have y0 := cell_block (j := 0) hv3 rfl
    have y1 := cell_block (j := 1) hv3 rfl
    obtain ⟨_, _, ⟨g0, g1⟩, f0, f1⟩ := hb3.cells
    have HE := Lib.hid hend
    clear hend hb3 hk3 hv3 HMV HVV HPC H2 x0 x1 xf0 xf1 hXX hX0 hV
    go_wp2_with fail
    exact ret_bays2 rfl rfl rfl rfl HE.out.1 ⟨a', c', rfl, Lib.hid HE.out.2⟩
  have e2 : (k == 2) = false := by simpa using hk2
  rw [show actL L ⟨k, b, s, j⟩ = L by simp [actL, hk1, hk2]]
  obtain ⟨p, hp⟩ : ∃ p, wher L j = p := ⟨_, rfl⟩
  obtain ⟨q, hq⟩ : ∃ q, free L b s = q := ⟨_, rfl⟩
  have hA : ∀ X2, Below Z.heap.size Z X2 → _ := fun X2 hX2 => dwhere_im la ln lc l da dn dc L j X2 (hD.under hX2) hgood
  have hQ : ∀ X2, Below Z.heap.size Z X2 → _ := fun X2 hX2 => ps_where j (hP.under hX2)
  have hA2 : ∀ X2, Below Z.heap.size Z X2 → _ := fun X2 hX2 => dfree_im la ln lc l da dn dc L b s X2 (hD.under hX2) hgood
  have hQ2 : ∀ X2, Below Z.heap.size Z X2 → _ := fun X2 hX2 => ps_free b s (hP.under hX2)
  rw [hp] at hA hQ
  rw [hq] at hA2 hQ2
  obtain ⟨p1, p2, p3, p4⟩ := p
  obtain ⟨q1, q2⟩ := q
  dsimp only at hA hQ hA2 hQ2
  have HA := Lib.hid hA
  have HQ := Lib.hid hQ
  have HA2 := Lib.hid hA2
  have HQ2 := Lib.hid hQ2
  have HEN : Hid (∀ w2, Below Z.heap.size Z w2 → _) := Lib.hid (fun w2 hw2 => HMID.out w2 w2 w2 da dc L F ((hD.mono (N' := fun q => (¬ F q ∧ q < U) ∨ Z.heap.size ≤ q) fun g hg _ => .inl hg).under hw2) hw2 (Below.refl _ _) (hP.under hw2) (StepF.refl _ _))
  clear hA hQ hA2 hQ2 hp hq hD hP hB hBB hgood h hby HMID hk1 hk2
  go_enter Try.func13, Try.ntmps13
  go_wp2_with fail
  refine (HA.out Z (Below.refl _ _)).mono ?_
  rintro e w1 ⟨rfl, hw1⟩
  have HW1 := Lib.hid hw1
  obtain ⟨⟨b10, b11⟩, ⟨_, m11, m12, m13⟩, _, _, _⟩ := (HB.out.under hw1).cells
  dsimp only at m11 m12 m13
  have HQ' := Lib.hid (HQ.out w1 hw1)
  clear b0 b1 k0 k1 k2 k3 g0 g1 f0 f1 hw1 HQ HA
  go_wp2_with fail
  refine HQ'.out.mono ?_
  rintro e w2 ⟨rfl, hw2⟩
  have HW2 := Lib.hid (below_then HW1.out hw2.out)
  obtain ⟨⟨b20, b21⟩, ⟨_, m21, m22, m23⟩, _, _, _⟩ := (HB.out.under HW2.out).cells
  dsimp only at m21 m22 m23
  have HA' := Lib.hid (HA2.out w2 HW2.out)
  clear b10 b11 m11 m12 m13 hw2 HW1 HQ' HA2
  go_wp2_with fail
  refine HA'.out.mono ?_
  rintro e w3 ⟨rfl, hw3⟩
  have HW3 := Lib.hid (below_then HW2.out hw3)
  obtain ⟨⟨b30, b31⟩, ⟨_, m31, m32, m33⟩, _, _, _⟩ := (HB.out.under HW3.out).cells
  dsimp only at m31 m32 m33
  have HQ' := Lib.hid (HQ2.out w3 HW3.out)
  clear b20 b21 m21 m22 m23 hw3 HW2 HA' HQ2
  go_wp2_with fail
  refine HQ'.out.mono ?_
  rintro e w4 ⟨rfl, hw4⟩
  have HW4 := Lib.hid (below_then HW3.out hw4.out)
  obtain ⟨⟨b40, b41⟩, _, ⟨g0, g1⟩, f0, f1⟩ := (HB.out.under HW4.out).cells
  have HE := Lib.hid (HEN.out w4 HW4.out).2.2
  clear b30 b31 m31 m32 m33 hw4 HW3 HQ' HEN HB
  go_wp2_with fail
  exact ret_bays2 rfl rfl rfl rfl HE.out.1 ⟨da, dc, rfl, Lib.hid HE.out.2⟩
end Go.Proofs.Ytokkefokodcphaa.Bay
