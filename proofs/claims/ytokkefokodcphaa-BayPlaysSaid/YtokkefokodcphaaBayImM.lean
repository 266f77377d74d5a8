/- Bays of one's own that grow by lines; all lines, copied. -/
import Derived.Test.YtokkefokodcphaaBayImJ
import Derived.Test.YtokkefokodcphaaBayImL
import Derived.Test.YtokkefokodcphaaBayDn
namespace Go.Proofs.Ytokkefokodcphaa.Bay
open Go.RowKit Go.Lib IRows

/-- The program's bays, made since w. -/
structure PBN (w W : World) (Q : Nat) (lv : Value) (xs : List XL) : Prop where
  pb : PBX W Q lv xs xs
  below : Below w.heap.size w W
  new : ∀ g, foot Q lv xs g → w.heap.size ≤ g
theorem PBN.under {w W W' : World} {Q : Nat} {lv : Value} {xs : List XL} (h : PBN w W Q lv xs) (hb : Below W.heap.size W W') : PBN w W' Q lv xs := ⟨h.pb.under hb, below_then h.below hb, h.new⟩
theorem bk_append_left {xs ys : List XL} {i : Nat} (h : i < xs.length) (d : Bool) : bk (xs ++ ys) i d = bk xs i d := by unfold bk; rw [List.getElem?_append_left h]
theorem bk_append_right {xs ys : List XL} {i : Nat} (h : xs.length ≤ i) (d : Bool) : bk (xs ++ ys) i d = bk ys (i - xs.length) d := by unfold bk; rw [List.getElem?_append_right h]
theorem bk_lt {xs : List XL} {i : Nat} {d : Bool} {g : Nat} (h : bk xs i d = some g) : i < xs.length := by
  obtain ⟨x, hx, _⟩ := bk_some h
  exact (List.getElem?_eq_some_iff.1 hx).1
theorem PBN.add {w W W1 W2 : World} {Q : Nat} {lv lv' : Value} {xs ys : List XL} (h : PBN w W Q lv xs) (hb : Below W.heap.size W W1) (hy : RW W1 (fun g => g < W.heap.size) ys) (ho : OwnX W2 0 lv' (xs ++ ys)) (hg : W1.grownBy W2 lv.ownBlock) (hn : ∀ g, lv'.ownBlock = some g → lv.ownBlock = some g ∨ W1.heap.size ≤ g) :
    PBN w (W2.setCell ⟨Q, 1, none⟩ lv') Q lv' (xs ++ ys) := by
  have h1 := h.under hb
  have hQ1 : Q < W1.heap.size := h1.pb.mem.2.2
  have hQW := h.pb.mem.2.2
  have hQ2 : W2.heap[Q]? = some (.cells #[.bool true, lv] 58 (0, 0)) := (hg.block Q hQ1 (fun e => h.pb.far e.symm)).trans h1.pb.self
  have hQ3 := heap_setCell_same W2 Q 1 _ _ lv' hQ2
  have hoth : ∀ q, q ≠ Q → (W2.setCell ⟨Q, 1, none⟩ lv').heap[q]? = W2.heap[q]? := fun q hq => heap_setCell_other W2 ⟨Q, 1, none⟩ q lv' (fun e => hq e)
  have hfar : lv'.ownBlock ≠ some Q := fun e => by
    rcases hn Q e with h2 | h2
    · exact h.pb.far h2
    · omega
  have hWle := hb.size
  -- a row's block, old or new, is as it was
  have hold : ∀ g i d, bk xs i d = some g → (W2.setCell ⟨Q, 1, none⟩ lv').heap[g]? = W1.heap[g]? := fun g i d e => by
    have h2 := h1.pb.rows.out i d g e
    exact (hoth g (fun e2 => h2 (.inl e2))).trans (hg.block g (h1.pb.rows.lt e) (fun e2 => h2 (.inr e2.symm)))
  have hnew : ∀ g i d, bk ys i d = some g → (W2.setCell ⟨Q, 1, none⟩ lv').heap[g]? = W1.heap[g]? := fun g i d e => by
    have h2 := hy.out i d g e
    exact (hoth g (fun e2 => h2 (by omega))).trans (hg.block g (hy.lt e) (fun e2 => h2 (h.pb.fixed g (.inr e2.symm))))
  have hbk : ∀ i d g, bk (xs ++ ys) i d = some g → (i < xs.length ∧ bk xs i d = some g) ∨ (xs.length ≤ i ∧ bk ys (i - xs.length) d = some g) := fun i d g e => by
    rcases Nat.lt_or_ge i xs.length with h2 | h2
    · rw [bk_append_left h2] at e
      exact .inl ⟨h2, e⟩
    · rw [bk_append_right h2] at e
      exact .inr ⟨h2, e⟩
  have hRW : RW (W2.setCell ⟨Q, 1, none⟩ lv') (fun g => g = Q ∨ lv'.ownBlock = some g) (xs ++ ys) := by
    refine ⟨fun i x d hx => ?_, fun i d i' d' g e1 e2 => ?_, fun i d g e hG => ?_⟩
    · rcases Nat.lt_or_ge i xs.length with h2 | h2
      · rw [List.getElem?_append_left h2] at hx
        exact (h1.pb.rows.row i x d hx).same fun g hg2 => hold g i d (by rw [bk_of hx]; exact hg2)
      · rw [List.getElem?_append_right h2] at hx
        exact (hy.row _ x d hx).same fun g hg2 => hnew g _ d (by rw [bk_of hx]; exact hg2)
    · rcases hbk i d g e1 with ⟨h2, e1⟩ | ⟨h2, e1⟩
      · rcases hbk i' d' g e2 with ⟨h3, e2⟩ | ⟨h3, e2⟩
        · exact h1.pb.rows.ap i d i' d' g e1 e2
        · exact absurd (h.pb.rows.lt e1) (fun h4 => hy.out _ d' g e2 h4)
      · rcases hbk i' d' g e2 with ⟨h3, e2⟩ | ⟨h3, e2⟩
        · exact absurd (h.pb.rows.lt e2) (fun h4 => hy.out _ d g e1 h4)
        · have := hy.ap _ d _ d' g e1 e2
          exact ⟨by omega, this.2⟩
    · rcases hbk i d g e with ⟨h2, e⟩ | ⟨h2, e⟩
      · have h3 := h.pb.rows.lt e
        rcases hG with h4 | h4
        · exact h.pb.rows.out i d g e (.inl h4)
        · rcases hn g h4 with h5 | h5
          · exact h.pb.rows.out i d g e (.inr h5)
          · omega
      · have h3 := hy.out _ d g e
        have h3' := hy.lt e
        rcases hG with h4 | h4
        · exact h3 (by omega)
        · rcases hn g h4 with h5 | h5
          · exact h3 (h.pb.fixed g (.inr h5))
          · omega
  refine ⟨⟨hQ3, own_keep ho fun g hg2 => hoth g (fun e => hfar (by rw [← e]; exact hg2)), hfar, hRW⟩, ?_, fun g hf => ?_⟩
  · have hB : Below w.heap.size w W2 := (below_then h.below hb).grown hg (Nat.le_trans h.below.size hWle) (fun q hq => h.new q (.inr (.inl hq)))
    exact hB.setCell (p := ⟨Q, 1, none⟩) (h.new Q (.inl rfl)) _
  · rcases hf with hf | hf | ⟨i, d, hf⟩
    · exact h.new g (.inl hf)
    · rcases hn g hf with h5 | h5
      · exact h.new g (.inr (.inl h5))
      · have := h.below.size
        omega
    · rcases hbk i d g hf with ⟨h2, e⟩ | ⟨h2, e⟩
      · exact h.new g (.inr (.inr ⟨i, d, e⟩))
      · have := hy.out _ d g e
        have := h.below.size
        omega
/-- Fresh bays without lines. -/
theorem pbn_new (w : World) : PBN w (w.alloc (.cells #[.bool true, .slice none 0 0] 58)) w.heap.size (.slice none 0 0) [] :=
  ⟨⟨heap_alloc_new w _, World.ownsRow_nil _ _ _ _, by simp [Value.ownBlock], ⟨fun i x d hx => by simp at hx, fun i d i' d' g e => by unfold bk at e; simp at e, fun i d g e => by unfold bk at e; simp at e⟩⟩, (Below.refl _ w).alloc (Nat.le_refl _) _, fun g hg => by
    rcases hg with hg | hg | ⟨i, d, hg⟩
    · omega
    · simp [Value.ownBlock] at hg
    · unfold bk at hg; simp at hg⟩
/-- Lines without jobs have no memory. -/
theorem rw_empty (W : World) (G : Nat → Prop) (ys : List XL) (h : ∀ (i : Nat) (x : XL), ys[i]? = some x → x.r = [] ∧ x.rm.c = 0 ∧ x.q = [] ∧ x.qm.c = 0) : RW W G ys := by
  have hn : ∀ i d, bk ys i d = none := fun i d => by
    unfold bk
    cases hx : ys[i]? with
    | none => rfl
    | some x =>
      obtain ⟨_, h1, _, h2⟩ := h i x hx
      cases d
      · exact own_none h1
      · exact own_none h2
  refine ⟨fun i x d hx => ?_, fun i d i' d' g e => (by rw [hn] at e; cases e), fun i d g e => (by rw [hn] at e; cases e)⟩
  obtain ⟨h0, h1, h2, h3⟩ := h i x hx
  cases d
  · exact .inl ⟨h1, h0⟩
  · exact .inl ⟨h3, h2⟩
/-- One line, copied. -/
theorem rw_one {w W : World} {m1 m2 : Rm} {l1 l2 : List Int} (h : NewLine w W m1 l1 m2 l2) (s : Int) : RW W (fun g => g < w.heap.size) [⟨l1, m1, l2, m2, s⟩] := by
  have h0 : ∀ i x, ([⟨l1, m1, l2, m2, s⟩] : List XL)[i]? = some x → i = 0 ∧ x = ⟨l1, m1, l2, m2, s⟩ := fun i x hx => by
    have := (List.getElem?_eq_some_iff.1 hx).1
    obtain rfl : i = 0 := by simpa using this
    exact ⟨rfl, by simpa using hx.symm⟩
  have hb : ∀ i d g, bk [⟨l1, m1, l2, m2, s⟩] i d = some g → i = 0 ∧ ((d = false ∧ ownB m1 = some g) ∨ (d = true ∧ ownB m2 = some g)) := fun i d g e => by
    obtain ⟨x, hx, h1⟩ := bk_some e
    obtain ⟨rfl, rfl⟩ := h0 i x hx
    cases d
    · exact ⟨rfl, .inl ⟨rfl, h1⟩⟩
    · exact ⟨rfl, .inr ⟨rfl, h1⟩⟩
  refine ⟨fun i x d hx => ?_, fun i d i' d' g e1 e2 => ?_, fun i d g e hg => ?_⟩
  · obtain ⟨rfl, rfl⟩ := h0 i x hx
    cases d
    · exact h.one
    · exact h.two
  · obtain ⟨rfl, h1⟩ := hb i d g e1
    obtain ⟨rfl, h2⟩ := hb i' d' g e2
    rcases h1 with ⟨rfl, h1⟩ | ⟨rfl, h1⟩
    · rcases h2 with ⟨rfl, h2⟩ | ⟨rfl, h2⟩
      · exact ⟨rfl, rfl⟩
      · exact absurd h2 (h.apart g h1)
    · rcases h2 with ⟨rfl, h2⟩ | ⟨rfl, h2⟩
      · exact absurd h1 (h.apart g h2)
      · exact ⟨rfl, rfl⟩
  · obtain ⟨rfl, h1⟩ := hb i d g e
    rcases h1 with ⟨_, h1⟩ | ⟨_, h1⟩
    · have := h.new1 g h1
      omega
    · have := h.new2 g h1
      omega
/-- A line in a frame's block. -/
theorem box_x (w : World) (x : XL) : ∃ U Y, w.heap.size = U ∧ w.alloc (.cells #[.slice x.rm.a x.r.length x.rm.c, .slice x.qm.a x.q.length x.qm.c, .int .i64 x.s] 73) = Y ∧ Hid (Below w.heap.size w Y ∧ ∀ W, Below Y.heap.size Y W → U < W.heap.size ∧ W.cell? ⟨U, 0, none⟩ = some x.rv ∧ W.cell? ⟨U, 1, none⟩ = some x.qv ∧ W.cell? ⟨U, 2, none⟩ = some (.int .i64 x.s)) := by
  have hb := heap_alloc_new w (.cells #[.slice x.rm.a x.r.length x.rm.c, .slice x.qm.a x.q.length x.qm.c, .int .i64 x.s] 73)
  refine ⟨_, _, rfl, rfl, Lib.hid ⟨(Below.refl _ _).alloc (Nat.le_refl _) _, fun W hW => ?_⟩⟩
  have h2 := (hW.block _ (Array.getElem?_eq_some_iff.1 hb).1).trans hb
  exact ⟨(Array.getElem?_eq_some_iff.1 h2).1, cell_block (j := 0) h2 rfl, cell_block (j := 1) h2 rfl, cell_block (j := 2) h2 rfl⟩
/-- The copies of lines made so far. -/
def LnR (w wr : World) (a : Option Addr) (i c : Nat) (xs : List XL) : Prop := ∃ ds : List Dn, OwnD wr w.heap.size (.slice a i c) ds ∧ ds.length = i ∧ ds.map Dn.p = xs.map (fun x => x.pl.p) ∧ ∀ (t : Nat) (x : Dn), ds[t]? = some x → DnAt wr (fun g => w.heap.size ≤ g ∧ (Value.slice a i c).ownBlock ≠ some g) x
theorem ln_more {w wr Y w' : World} {a : Option Addr} {i c : Nat} {xs : List XL} {x : XL} {m1 m2 : Rm} (hi : i ≤ 1000) (hB : Below w.heap.size w wr) (hD : LnR w wr a i c (xs.take i)) (hx : xs[i]? = some x) (hY : Below wr.heap.size wr Y) (hN : NewLine Y w' m1 x.r m2 x.q) :
    ∃ a' c' W', (Builtin.append_ #[23, 23] 23 #[.slice a i c, .slice (some ⟨w'.heap.size, 0, none⟩) 1 1]).run Try.prog (w'.alloc (.cells #[.slice m1.a x.r.length m1.c, .slice m2.a x.q.length m2.c] 54)) = .ok (.slice a' (i + 1) c') W' ∧ Below w.heap.size w W' ∧ LnR w W' a' (i + 1) c' (xs.take (i + 1)) := by
  obtain ⟨ds, h1, h2, h3, h4⟩ := hD
  have hbw := below_then hY hN.below
  have hal : Below wr.heap.size wr (w'.alloc (.cells #[.slice m1.a x.r.length m1.c, .slice m2.a x.q.length m2.c] 54)) := below_then hbw ((Below.refl _ w').alloc (Nat.le_refl _) _)
  have ho : OwnD (w'.alloc (.cells #[.slice m1.a x.r.length m1.c, .slice m2.a x.q.length m2.c] 54)) w.heap.size (.slice a i c) ds := own_keep h1 fun q hq => hal.block q (h1.lt q hq).2
  obtain ⟨a', c', W', hr, o2, b2, g2, n2⟩ := app_d1 _ w.heap.size (.slice a i c) ds ⟨x.r, m1.a, m1.c, x.q, m2.a, m2.c⟩ ho w'.heap.size 54 (heap_alloc_new w' _) (by omega) (Nat.le_trans hB.size hal.size)
  rw [h2] at hr o2 n2
  have hsz := hbw.size
  have hlt : ∀ q, q < w'.heap.size → (Value.slice a i c).ownBlock ≠ some q → W'.heap[q]? = w'.heap[q]? := fun q hq hne => (g2.block q (by simp; omega) (fun e => hne e.symm)).trans (heap_alloc_old w' _ hq)
  have hW'sz : w'.heap.size ≤ W'.heap.size := by have := g2.size; simp at this; omega
  refine ⟨a', c', W', hr, (below_then hB hal).trans b2, ds ++ [⟨x.r, m1.a, m1.c, x.q, m2.a, m2.c⟩], o2, by simp [h2], ?_, fun t y hy => ?_⟩
  · rw [List.map_append, h3, List.take_add_one, hx, List.map_append]
    rfl
  · rcases Nat.lt_or_ge t ds.length with ht | ht
    · rw [List.getElem?_append_left ht] at hy
      have hk : ∀ g, (w.heap.size ≤ g ∧ (Value.slice a i c).ownBlock ≠ some g) → g < wr.heap.size → W'.heap[g]? = wr.heap[g]? := fun g hg hl => (hlt g (by omega) hg.2).trans (hbw.block g hl)
      have hm : ∀ g, (w.heap.size ≤ g ∧ (Value.slice a i c).ownBlock ≠ some g) → g < wr.heap.size → (w.heap.size ≤ g ∧ (Value.slice a' (i + 1) c').ownBlock ≠ some g) := fun g hg hl => ⟨hg.1, fun e => by
        rcases n2 g e with h5 | h5
        · exact hg.2 h5
        · simp at h5
          omega⟩
      exact ⟨((h4 t y hy).1.mono (N' := fun g => (w.heap.size ≤ g ∧ (Value.slice a i c).ownBlock ≠ some g) ∧ (w.heap.size ≤ g ∧ (Value.slice a' (i + 1) c').ownBlock ≠ some g)) fun g hg hl => ⟨hg, hm g hg hl⟩).keep (by omega) (fun g hg hl => hk g hg.1 hl) |>.mono fun g hg _ => hg.2,
        ((h4 t y hy).2.mono (N' := fun g => (w.heap.size ≤ g ∧ (Value.slice a i c).ownBlock ≠ some g) ∧ (w.heap.size ≤ g ∧ (Value.slice a' (i + 1) c').ownBlock ≠ some g)) fun g hg hl => ⟨hg, hm g hg hl⟩).keep (by omega) (fun g hg hl => hk g hg.1 hl) |>.mono fun g hg _ => hg.2⟩
    · rw [List.getElem?_append_right ht] at hy
      have e0 : t - ds.length = 0 := by have := (List.getElem?_eq_some_iff.1 hy).1; simpa using this
      rw [e0] at hy
      have hyy : (⟨x.r, m1.a, m1.c, x.q, m2.a, m2.c⟩ : Dn) = y := by simpa using hy
      subst hyy
      have hYs := hY.size
      have hBs := hB.size
      have hnew : ∀ g, Y.heap.size ≤ g → g < w'.heap.size → w.heap.size ≤ g ∧ (Value.slice a' (i + 1) c').ownBlock ≠ some g := fun g hg hl => ⟨by omega, fun e => by
        rcases n2 g e with h5 | h5
        · have := (h1.lt g h5).2
          omega
        · simp at h5
          omega⟩
      have hk : ∀ g, Y.heap.size ≤ g → g < w'.heap.size → W'.heap[g]? = w'.heap[g]? := fun g hg hl => hlt g hl (fun e => by
        have := (h1.lt g e).2
        omega)
      exact ⟨((hN.one.nrow (N := fun g => Y.heap.size ≤ g) hN.new1).mono (N' := fun g => Y.heap.size ≤ g ∧ g < w'.heap.size) fun g hg hl => ⟨hg, hl⟩).keep hW'sz (fun g hg hl => hk g hg.1 hl) |>.mono fun g hg _ => hnew g hg.1 hg.2,
        ((hN.two.nrow (N := fun g => Y.heap.size ≤ g) hN.new2).mono (N' := fun g => Y.heap.size ≤ g ∧ g < w'.heap.size) fun g hg hl => ⟨hg, hl⟩).keep hW'sz (fun g hg hl => hk g hg.1 hl) |>.mono fun g hg _ => hnew g hg.1 hg.2⟩
set_option maxRecDepth 100000 in
set_option maxHeartbeats 1000000 in
theorem lines_pbx {Q : Nat} {lv : Value} {xs : List XL} (w : World) (h : PBX w Q lv xs xs) (hg : Good (xs.map XL.pl)) :
    Calls Try.prog 15 #[ptr Q] w fun e w' => ∃ a n c, e = .returned (.slice a n c) ∧ Hid (∃ ds : List Dn, ds.length = n ∧ ds.map Dn.p = (xs.map XL.pl).map Ln.p ∧ LsAt w' (fun g => w.heap.size ≤ g) a ds ∧ Below w.heap.size w w') := by
  obtain ⟨la, lc, rfl, hln⟩ := h.line hg
  obtain ⟨k0, k1, hQ⟩ := h.mem
  have hfew := hg.few
  rw [len_pl] at hfew
  obtain ⟨n, hn⟩ : ∃ n, xs.length = n := ⟨_, rfl⟩
  rw [hn] at hfew k1
  have hn1 : (n : Int) ≤ 16 := by omega
  have HC : Hid (∀ W k, Below w.heap.size w W → k < n → ∃ g x, la = some ⟨g, 0, none⟩ ∧ Hid (xs[k]? = some x) ∧ Hid (LineAt W g k x)) := Lib.hid (fun W k hW hk => by
    have hx := List.getElem?_eq_getElem (l := xs) (i := k) (by omega)
    obtain ⟨g, e, h1⟩ := hln k _ hx
    exact ⟨g, _, e, Lib.hid hx, Lib.hid (h1.under hW)⟩)
  have HT : Hid (xs.take n = xs) := Lib.hid (List.take_of_length_le (by omega))
  clear h hg hln hQ hfew hn
  go_enter Try.func15, Try.ntmps15
  go_wp2_with fail
  go_loopw [3, 13] (fun sv s wr => ∃ (i : Nat) (a : Option Addr) (c : Nat), s = .int .i64 i ∧ i ≤ n ∧ sv = .slice a i c ∧ Hid (Below w.heap.size w wr) ∧ Hid (LnR w wr a i c (xs.take i))) (fun _ s _ => n - (RowKit.intOf s).toNat)
  case atStart => exact ⟨0, none, 0, rfl, by omega, rfl, Lib.hid (Below.refl _ _), Lib.hid ⟨[], World.ownsRow_nil _ _ _ _, rfl, rfl, fun t x hx => by simp at hx⟩⟩
  case round =>
    obtain ⟨i, a, c, rfl, hi, rfl, HB, HD⟩ := hrel
    by_cases hlt : i < n
    · have hlt2 : (i : Int) < (n : Int) := by omega
      obtain ⟨g, x, rfl, hx, HX⟩ := HC.out wr i HB.out hlt
      obtain ⟨q0, q1, q2⟩ := HX.out.cells
      obtain ⟨U, Y, hU, hY, HY⟩ := box_x wr x
      have H1 : Hid (Calls Try.prog 32 #[.pointer (some ⟨U, 0, none⟩)] Y fun e w' => ∃ a1 c1 a2 c2, e = .returned (.agg #[.slice a1 x.r.length c1, .slice a2 x.q.length c2]) ∧ ∃ a' c' W', Hid ((Builtin.append_ #[23, 23] 23 #[.slice a i c, .slice (some ⟨w'.heap.size, 0, none⟩) 1 1]).run Try.prog (w'.alloc (.cells #[.slice a1 x.r.length c1, .slice a2 x.q.length c2] 54)) = .ok (.slice a' (i + 1) c') W') ∧ Hid (Below w.heap.size w W') ∧ Hid (LnR w W' a' (i + 1) c' (xs.take (i + 1)))) := Lib.hid (by
        obtain ⟨hUl, y0, y1, _⟩ := HY.out.2 Y (Below.refl _ _)
        have hX := HX.out.under HY.out.1
        refine (copied_im U 0 x.rm.a x.r.length x.rm.c x.r x.qm.a x.q.length x.qm.c x.q Y y0 y1 hUl rfl hX.run (by have := hX.rl; omega) rfl hX.wait (by have := hX.ql; omega)).mono ?_
        rintro e w' ⟨m1, m2, rfl, HN⟩
        obtain ⟨a', c', W', hr, h1, h2⟩ := ln_more (by omega) HB.out HD.out hx.out HY.out.1 HN.out
        exact ⟨m1.a, m1.c, m2.a, m2.c, rfl, a', c', W', Lib.hid hr, Lib.hid h1, Lib.hid h2⟩)
      clear HX HY
      go_wp2_with fail
      clear hY hU
      refine H1.out.mono ?_
      rintro e w2 ⟨a1, c1, a2, c2, rfl, a', c', W', HR, HB2, HD2⟩
      clear H1
      go_wp2_with (at_builtin; refine walk_run rfl _ _ _ _ rfl _ _ rfl rfl HR.out ?_)
      go_roundw
      case rel => exact ⟨i + 1, a', c', by go_num, by omega, rfl, HB2, HD2⟩
      case measure => simp [RowKit.intOf]; omega
    · obtain rfl : i = n := by omega
      have HEND : Hid (∃ ds : List Dn, ds.length = i ∧ ds.map Dn.p = (xs.map XL.pl).map Ln.p ∧ LsAt wr (fun g => w.heap.size ≤ g) a ds ∧ Below w.heap.size w wr) := Lib.hid (by
        obtain ⟨ds, h1, h2, h3, h4⟩ := HD.out
        rw [HT.out] at h3
        obtain ⟨a2, c2, e, h5⟩ := ls_own (N := fun g => w.heap.size ≤ g) h1 (fun g hg => hg) (fun t x hx => ⟨(h4 t x hx).1.mono fun g hg _ => hg.1, (h4 t x hx).2.mono fun g hg _ => hg.1⟩)
        cases e
        exact ⟨ds, h2, by rw [h3, List.map_map]; rfl, h5, HB.out⟩)
      go_wp2_with fail
      go_ret
      exact ⟨a, i, c, rfl, HEND⟩
end Go.Proofs.Ytokkefokodcphaa.Bay
