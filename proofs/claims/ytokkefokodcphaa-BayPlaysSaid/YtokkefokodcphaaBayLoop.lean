/- The laws' loops: acts done in both bays, the document's in a block of their own. -/
import Derived.Test.YtokkefokodcphaaBayDoK
import Derived.Test.YtokkefokodcphaaBayNobody
import Derived.Test.YtokkefokodcphaaBayArgs
namespace Go.Proofs.Ytokkefokodcphaa.Bay
open Go.RowKit Go.Lib IRows

/-- Ahead of a round: both bays since w; block V holds the document's (ba, bc: what lies in it). -/
def JV (w W : World) (Q V : Nat) (la : Option Addr) (ln lc : Nat) (l : List By) (m : Nat) (L : List Ln) (ba : Option Addr) (bc : Nat) (da : Option Addr) (dc : Nat) : Prop :=
  ∃ F, TK w W Q L F (fun g => g ≠ V) la ln l da m dc L ∧ W.heap[V]? = some (.cells #[.slice la ln lc, .slice ba m bc] 32 (0, 0)) ∧ ¬ F V ∧ w.heap.size ≤ V
section
variable {w W X : World} {Q V : Nat} {la : Option Addr} {ln lc : Nat} {l : List By} {m : Nat} {L : List Ln} {ba : Option Addr} {bc : Nat} {da : Option Addr} {dc : Nat} {F N : Nat → Prop}
theorem jv_new (hP : PS w W Q L F) (hD : DB W N la ln l da m dc L) (hN : ∀ g, N g → g < W.heap.size → ¬ F g) (hX : Below W.heap.size W X) (hV : W.heap.size ≤ V) (hb : X.heap[V]? = some (.cells #[.slice la ln lc, .slice da m dc] 32 (0, 0))) : JV w X Q V la ln lc l m L da dc da dc :=
  ⟨F, ⟨hP.under hX, (hD.mono (N' := fun g => ¬ F g ∧ g ≠ V) fun g hg hl => ⟨hN g hg hl, by omega⟩).under hX⟩, hb, fun hf => by have := (hP.lt _ hf).2; omega, by have := hP.below.size; omega⟩
theorem JV.below (h : JV w W Q V la ln lc l m L ba bc da dc) : Below w.heap.size w W := by
  obtain ⟨F, h, _⟩ := h
  exact h.1.below
theorem JV.len (h : JV w W Q V la ln lc l m L ba bc da dc) : L.length = m := by
  obtain ⟨F, h, _⟩ := h
  exact h.2.2.2.2.2.1
theorem JV.few (h : JV w W Q V la ln lc l m L ba bc da dc) : m ≤ 16 := by
  have := h.len
  obtain ⟨F, h, _⟩ := h
  have := h.1.good.few
  omega
theorem JV.under (h : JV w W Q V la ln lc l m L ba bc da dc) (hX : Below W.heap.size W X) : JV w X Q V la ln lc l m L ba bc da dc := by
  obtain ⟨F, h1, h2, h3, h4⟩ := h
  exact ⟨F, ⟨h1.1.under hX, h1.2.under hX⟩, (hX.block V (Array.getElem?_eq_some_iff.1 h2).1).trans h2, h3, h4⟩
theorem JV.cells (h : JV w W Q V la ln lc l m L ba bc da dc) : (W.cell? ⟨V, 0, none⟩ = some (.slice la ln lc) ∧ W.cell? ⟨V, 1, none⟩ = some (.slice ba m bc)) ∧ W.frozen? ⟨V, 0, none⟩ = false ∧ W.frozen? ⟨V, 1, none⟩ = false := by
  obtain ⟨F, _, h2, _⟩ := h
  exact ⟨⟨cell_block (j := 0) h2 rfl, cell_block (j := 1) h2 rfl⟩, free_block 0 h2, free_block 1 h2⟩
/-- The document's answer stored over what there was. -/
theorem jv_over {u0 u1 : Value} (hP : PS w W Q L F) (hD : DB W N la ln l da m dc L) (hN : ∀ g, N g → g < W.heap.size → ¬ F g ∧ g ≠ V) (h3 : ¬ F V) (h4 : w.heap.size ≤ V) (h2 : W.heap[V]? = some (.cells #[u0, u1] 32 (0, 0))) (hby : ByAt w la l) : JV w ((W.setCell ⟨V, 0, none⟩ (.slice la ln lc)).setCell ⟨V, 1, none⟩ (.slice da m dc)) Q V la ln lc l m L da dc da dc := by
  have k1 := heap_setCell_same W V 0 _ _ (.slice la ln lc) h2
  have k2 := heap_setCell_same _ V 1 _ _ (.slice da m dc) k1
  have hne : ∀ q, q ≠ V → ((W.setCell ⟨V, 0, none⟩ (.slice la ln lc)).setCell ⟨V, 1, none⟩ (.slice da m dc)).heap[q]? = W.heap[q]? := fun q hq => (heap_setCell_other _ ⟨V, 1, none⟩ q _ (fun e => hq e)).trans (heap_setCell_other _ ⟨V, 0, none⟩ q _ (fun e => hq e))
  have hbw : Below w.heap.size w ((W.setCell ⟨V, 0, none⟩ (.slice la ln lc)).setCell ⟨V, 1, none⟩ (.slice da m dc)) := (hP.below.setCell (p := ⟨V, 0, none⟩) h4 _).setCell (p := ⟨V, 1, none⟩) h4 _
  have hD2 := hD.mono (N' := fun g => ¬ F g ∧ g ≠ V) hN
  exact ⟨F, ⟨hP.keep hbw fun g hg => hne g (fun e => h3 (e ▸ hg)), hD2.step hbw hby (by simp [World.setCell]) fun g hg _ => hne g hg.2⟩, k2, h3, h4⟩
theorem JV.store (h : JV w W Q V la ln lc l m L ba bc da dc) (hby : ByAt w la l) : JV w ((W.setCell ⟨V, 0, none⟩ (.slice la ln lc)).setCell ⟨V, 1, none⟩ (.slice da m dc)) Q V la ln lc l m L da dc da dc := by
  obtain ⟨F, h1, h2, h3, h4⟩ := h
  exact jv_over h1.1 h1.2 (fun g hg _ => hg) h3 h4 h2 hby
theorem PS.base (h : PS X W Q L F) (hb : Below w.heap.size w X) : PS w W Q L F := by
  obtain ⟨lv, xs, h1, h2, h3, h4⟩ := h
  exact ⟨lv, xs, ⟨h1.pb, below_then hb h1.below, fun g hg => Nat.le_trans hb.size (h1.new g hg)⟩, h2, h3, h4⟩
/-- An act. -/
theorem jv_do0 (x : Ac) (h : JV w X Q V la ln lc l m L ba bc da dc) (hby : ByAt w la l) (W : World) (hW : Below X.heap.size X W) :
    Calls Try.prog 13 #[ptr Q, bV la ln lc da m dc, acV x] W fun e w' => ∃ a' c', e = .returned (.tuple #[bV la ln lc a' m c', .bool true]) ∧ Hid (JV w w' Q V la ln lc l m (actL L x) ba bc a' c') := by
  obtain ⟨F, h1, h2, h3, h4⟩ := h
  have hVX : V < X.heap.size := (Array.getElem?_eq_some_iff.1 h2).1
  have hs := hW.size
  refine (do_imK (lc := lc) x (⟨h1.1.under hW, h1.2.under hW⟩ : TK w W Q L F (fun g => g ≠ V) la ln l da m dc L) hby).mono ?_
  rintro e w' ⟨a', c', rfl, H⟩
  obtain ⟨F', k1, k2⟩ := H.out
  refine ⟨a', c', rfl, Lib.hid ⟨F', ⟨k1.1, k1.2.mono fun g hg _ => ⟨hg.1, fun e => ?_⟩⟩, ?_, fun hf => ?_, h4⟩⟩
  · rcases hg.2 with h5 | h5
    · exact h5 e
    · omega
  · exact (k2.block V (by omega) h3).trans ((hW.block V hVX).trans h2)
  · rcases k2.grows V hf with h5 | h5
    · exact h3 h5
    · omega
/-- An act; its answer goes into box U, made ahead of the call. -/
theorem jv_do (x : Ac) (h : JV w X Q V la ln lc l m L ba bc da dc) (hby : ByAt w la l) (W : World) (hW : Below X.heap.size X W) (U : Nat) (hU : X.heap.size ≤ U) (hUb : W.heap[U]? = some (.cells #[.slice none 0 0, .slice none 0 0] 32 (0, 0))) :
    Calls Try.prog 13 #[ptr Q, bV la ln lc da m dc, acV x] W fun e w' => ∃ a' c', e = .returned (.tuple #[bV la ln lc a' m c', .bool true]) ∧ (w'.cell? ⟨U, 0, none⟩ = some (.slice none 0 0) ∧ w'.cell? ⟨U, 1, none⟩ = some (.slice none 0 0) ∧ w'.frozen? ⟨U, 0, none⟩ = false ∧ w'.frozen? ⟨U, 1, none⟩ = false) ∧
      Hid (∀ X', (w'.setCell ⟨U, 0, none⟩ (.slice la ln lc)).setCell ⟨U, 1, none⟩ (.slice a' m c') = X' → JV w X' Q V la ln lc l m (actL L x) ba bc a' c' ∧ X'.cell? ⟨U, 0, none⟩ = some (.slice la ln lc) ∧ X'.cell? ⟨U, 1, none⟩ = some (.slice a' m c')) := by
  obtain ⟨F, h1, h2, h3, h4⟩ := h
  have hVX : V < X.heap.size := (Array.getElem?_eq_some_iff.1 h2).1
  have hUW : U < W.heap.size := (Array.getElem?_eq_some_iff.1 hUb).1
  have hs := hW.size
  have hD : DB W (fun g => ¬ F g ∧ g ≠ V ∧ g ≠ U) la ln l da m dc L := (h1.2.mono (N' := fun g => ¬ F g ∧ g ≠ V ∧ g ≠ U) fun g hg hl => ⟨hg.1, hg.2, by omega⟩).under hW
  refine (do_imK (lc := lc) x (⟨h1.1.under hW, hD⟩ : TK w W Q L F (fun g => g ≠ V ∧ g ≠ U) la ln l da m dc L) hby).mono ?_
  rintro e w' ⟨a', c', rfl, H⟩
  obtain ⟨F', k1, k2⟩ := H.out
  have hFU : ¬ F U := fun hf => by have := (h1.1.lt U hf).2; omega
  have b1 : w'.heap[U]? = some (.cells #[.slice none 0 0, .slice none 0 0] 32 (0, 0)) := (k2.block U hUW hFU).trans hUb
  have b2 : w'.heap[V]? = some (.cells #[.slice la ln lc, .slice ba m bc] 32 (0, 0)) := (k2.block V (by omega) h3).trans ((hW.block V hVX).trans h2)
  refine ⟨a', c', rfl, ⟨cell_block (j := 0) b1 rfl, cell_block (j := 1) b1 rfl, free_block 0 b1, free_block 1 b1⟩, Lib.hid fun X' hX' => ?_⟩
  subst hX'
  have n1 : ¬ F' V := fun hf => by
    rcases k2.grows V hf with h5 | h5
    · exact h3 h5
    · omega
  have n2 : ¬ F' U := fun hf => by
    rcases k2.grows U hf with h5 | h5
    · exact hFU h5
    · omega
  have hwU : w.heap.size ≤ U := by have := h1.1.below.size; omega
  have e1 := heap_setCell_same w' U 0 _ _ (.slice la ln lc) b1
  have e2 := heap_setCell_same _ U 1 _ _ (.slice a' m c') e1
  have hne : ∀ q, q ≠ U → ((w'.setCell ⟨U, 0, none⟩ (.slice la ln lc)).setCell ⟨U, 1, none⟩ (.slice a' m c')).heap[q]? = w'.heap[q]? := fun q hq => (heap_setCell_other _ ⟨U, 1, none⟩ q _ (fun e => hq e)).trans (heap_setCell_other _ ⟨U, 0, none⟩ q _ (fun e => hq e))
  have hbw : Below w.heap.size w ((w'.setCell ⟨U, 0, none⟩ (.slice la ln lc)).setCell ⟨U, 1, none⟩ (.slice a' m c')) := (k1.1.below.setCell (p := ⟨U, 0, none⟩) hwU _).setCell (p := ⟨U, 1, none⟩) hwU _
  have hD2 := k1.2.mono (N' := fun g => ¬ F' g ∧ g ≠ V ∧ g ≠ U) fun g hg _ => ⟨hg.1, by
    rcases hg.2 with h5 | h5
    · exact h5
    · exact ⟨by omega, by omega⟩⟩
  have hD3 := (hD2.step hbw hby (by simp [World.setCell]) fun g hg _ => hne g hg.2.2).mono (N' := fun g => ¬ F' g ∧ g ≠ V) fun g hg _ => ⟨hg.1, hg.2.1⟩
  exact ⟨⟨F', ⟨k1.1.keep hbw fun g hg => hne g (fun e => n2 (e ▸ hg)), hD3⟩, (hne V (by omega)).trans b2, n1, h4⟩, cell_block (j := 0) e2 rfl, cell_block (j := 1) e2 rfl⟩
/-- The clone. -/
theorem jv_clone (h : JV w X Q V la ln lc l m L da dc da dc) (W : World) (hW : Below X.heap.size X W) :
    Calls Try.prog 20 #[ptr Q] W fun e w' => ∃ Q2, e = .returned (ptr Q2) ∧ Hid (Below X.heap.size X w' ∧ ∀ V2 Y, w'.heap.size ≤ V2 → Below w'.heap.size w' Y → Y.heap[V2]? = some (.cells #[.slice la ln lc, .slice da m dc] 32 (0, 0)) → JV X Y Q2 V2 la ln lc l m L da dc da dc) := by
  obtain ⟨F, h1, h2, h3, h4⟩ := h
  obtain ⟨lv, xs, g1, rfl, rfl, g4⟩ := h1.1.under hW
  refine (clone_pbx W g1.pb g4).mono ?_
  rintro e w' ⟨Q2, rfl, H⟩
  obtain ⟨lv2, ys, k1, k2⟩ := H.out
  have hb : Below X.heap.size X w' := below_then hW k1.below
  have hp : PS X w' Q2 (xs.map XL.pl) (foot Q2 lv2 ys) := ⟨lv2, ys, ⟨k1.pb, hb, fun g hg => Nat.le_trans hW.size (k1.new g hg)⟩, k2, rfl, g4⟩
  refine ⟨Q2, rfl, Lib.hid ⟨hb, fun V2 Y hV hY hbk => jv_new hp ((h1.2.mono (N' := fun g => g < X.heap.size) fun g _ hl => hl).under hb) (fun g hg _ hf => ?_) hY hV hbk⟩⟩
  have := (hp.lt g hf).1
  omega
theorem jv_lines (h : JV w X Q V la ln lc l m L ba bc da dc) (W : World) (hW : Below X.heap.size X W) : Calls Try.prog 15 #[ptr Q] W fun e w' => ∃ a c, e = .returned (.slice a m c) ∧ Hid (LT X w' a m L) := by
  have hl := h.len
  obtain ⟨F, h1, _⟩ := h
  exact lt_lines h1.1 hl W hW
theorem jv_same {a : Option Addr} {c : Nat} (h : JV w X Q V la ln lc l m L ba bc da dc) (h2 : LT X W a m L) : Calls Try.prog 14 #[.slice a m c, .slice da m dc] W fun e w' => e = .returned (.bool true) ∧ Hid (Below X.heap.size X w') := by
  have := h.few
  obtain ⟨F, h1, _⟩ := h
  exact lt_same h2 h1.2 (by omega)
end
/-- A box of the document's bays, filled. -/
theorem box_two2 (w : World) (la : Option Addr) (ln lc : Nat) (da : Option Addr) (m dc : Nat) : ∃ U X0 X, w.heap.size = U ∧ w.alloc (.cells #[.slice none 0 0, .slice none 0 0] 32) = X0 ∧ (X0.setCell ⟨U, 0, none⟩ (.slice la ln lc)).setCell ⟨U, 1, none⟩ (.slice da m dc) = X ∧ (X0.cell? ⟨U, 0, none⟩ = some (.slice none 0 0) ∧ X0.cell? ⟨U, 1, none⟩ = some (.slice none 0 0) ∧ X0.frozen? ⟨U, 0, none⟩ = false ∧ X0.frozen? ⟨U, 1, none⟩ = false) ∧ (X.cell? ⟨U, 0, none⟩ = some (.slice la ln lc) ∧ X.cell? ⟨U, 1, none⟩ = some (.slice da m dc)) ∧ Hid (w.heap.size ≤ U ∧ Below w.heap.size w X ∧ X.heap[U]? = some (.cells #[.slice la ln lc, .slice da m dc] 32 (0, 0))) := by
  obtain ⟨U, X0, hU, hX0, HX0⟩ := zero_b w
  have hz0 := HX0.out.2.2 X0 (Below.refl _ _)
  have hXV := heap_setCell_same _ U 1 _ _ (.slice da m dc) (heap_setCell_same X0 U 0 _ _ (.slice la ln lc) hz0)
  exact ⟨U, X0, _, hU, hX0, rfl, ⟨cell_block (j := 0) hz0 rfl, cell_block (j := 1) hz0 rfl, free_block 0 hz0, free_block 1 hz0⟩, ⟨cell_block (j := 0) hXV rfl, cell_block (j := 1) hXV rfl⟩, Lib.hid ⟨by omega, (HX0.out.1.setCell (p := ⟨U, 0, none⟩) (by show w.heap.size ≤ U; omega) _).setCell (p := ⟨U, 1, none⟩) (by show w.heap.size ≤ U; omega) _, hXV⟩⟩
theorem cell_under {w w' : World} (hb : Below w.heap.size w w') {g o : Nat} {v : Value} (h : w.cell? ⟨g, o, none⟩ = some v) : w'.cell? ⟨g, o, none⟩ = some v := ((bcell hb).1 g _ (law_lt h)).trans h
/-- An act's cells. -/
theorem act_at {w : World} {a : Option Addr} {n : Nat} {xs : List Ac} (hl : xs.length = n) (hs : Acs w a xs) (W : World) (i : Nat) (hW : Below w.heap.size w W) (hi : i < n) : ∃ (g off : Nat) (x : Ac), a = some ⟨g, off, none⟩ ∧ W.cell? ⟨g, off + i * 4, none⟩ = some (.int .i64 x.k) ∧ W.cell? ⟨g, off + i * 4 + 1, none⟩ = some (.int .i64 x.b) ∧ W.cell? ⟨g, off + i * 4 + 2, none⟩ = some (.int .i64 x.s) ∧ W.cell? ⟨g, off + i * 4 + 3, none⟩ = some (.int .i64 x.j) := by
  obtain ⟨g, off, e, hg, c0, c1, c2, c3⟩ := hs i _ (List.getElem?_eq_getElem (l := xs) (i := i) (by omega))
  exact ⟨g, off, _, e, ((bcell hW).1 g _ hg).trans c0, ((bcell hW).1 g _ hg).trans c1, ((bcell hW).1 g _ hg).trans c2, ((bcell hW).1 g _ hg).trans c3⟩
end Go.Proofs.Ytokkefokodcphaa.Bay
