/- The document's take; where its queue lies. -/
import Derived.Test.YtfbdkafpfminlaaHeapB
import Derived.Test.YtfbdkafpfminlaaHeapRes
namespace Go.Proofs.Ytfbdkafpfminlaa.Heap
open Go.RowKit Go.Lib

set_option maxRecDepth 100000 in
set_option maxHeartbeats 4000000 in
theorem rtake_any {Q : Nat} {q : QS} {lv : Value} (k : Nat) (w : World) (h : RQ w Q q lv) (hk : k < q.l.length) (hl : q.l.length ≤ 4096) :
    Calls Try.prog 38 #[ptr Q, .int .i64 (k : Nat)] w fun e w' => e = .returned (tV (nthT q.l k)) ∧ ∃ lv', RQ w' Q ⟨cut q.l k, q.most, q.next⟩ lv' ∧ w.grownBy w' (some Q) ∧ ∀ j, lv'.ownBlock = some j → w.heap.size ≤ j := by
  obtain ⟨i0, hi, hz0, hz1, hz2⟩ := info_parts info_tm
  obtain ⟨t, ht⟩ : ∃ t, nthT q.l k = t := ⟨_, rfl⟩
  obtain ⟨R, hR⟩ : ∃ R, w.heap.size = R := ⟨_, rfl⟩
  obtain ⟨Y, hY⟩ : ∃ Y, w.alloc (.cells #[.int .i64 0, .int .i64 0, .int .i64 0] 45) = Y := ⟨_, rfl⟩
  obtain ⟨X, hX⟩ : ∃ X, Y.alloc (.cells #[.int .i64 t.due, .int .i64 t.id, .int .i64 t.what] 45) = X := ⟨_, rfl⟩
  have hYs : Y.heap.size = R + 1 := by rw [← hY, ← hR]; simp
  have hXs : X.heap.size = R + 2 := by rw [← hX]; simp [hYs]
  have hbY : Below w.heap.size w Y := by rw [← hY]; exact (Below.refl _ w).alloc (Nat.le_refl _) _
  have hbX : Below w.heap.size w X := by rw [← hX]; exact hbY.alloc (by omega) _
  have hRX : X.heap[R]? = some (.cells zeroTm.cells 45 (0, 0)) := by
    rw [← hX, heap_alloc_old _ _ (by omega), ← hY, ← hR]
    exact heap_alloc_new w _
  have hTX : X.heap[R + 1]? = some (.cells t.cells 45 (0, 0)) := by
    have := heap_alloc_new Y (.cells #[.int .i64 t.due, .int .i64 t.id, .int .i64 t.what] 45)
    rw [hYs] at this
    rw [← hX]
    exact this
  have hqY := h.under hbY
  have hqX := h.under hbX
  obtain ⟨a, c, rfl, hlc, hcm, ha, _⟩ := rowT h.row
  obtain ⟨n, hn⟩ : ∃ n, q.l.length = n := ⟨_, rfl⟩
  have HY : Hid (∃ g, a = some ⟨g, 0, none⟩ ∧ Y.cell? ⟨Q, 0, none⟩ = some (.slice a n c) ∧ Y.cell? ⟨g, k * 3, none⟩ = some (.int .i64 t.due) ∧ Y.cell? ⟨g, k * 3 + 1, none⟩ = some (.int .i64 t.id) ∧ Y.cell? ⟨g, k * 3 + 2, none⟩ = some (.int .i64 t.what)) := Lib.hid (by
    obtain ⟨a', c', e, _, hat⟩ := row_tm hqY.row
    injection e with e1 _ e3
    subst e1; subst e3
    obtain ⟨g, e, _, k0, k1, k2⟩ := hat k t (by rw [← ht]; exact nthT_at hk)
    rw [← hn]
    exact ⟨g, e, hqY.c.1, k0, k1, k2⟩)
  have hs1 : ∀ W, (Instr.slice 37 (.slice a n c) none (some (.int .i64 (k : Nat))) none).run Try.prog W = .ok (.slice a k c) W := fun W => run_take (P := Try.prog) W elem_tm under_tm hi a n c k ha (by omega)
  have hs2 : ∀ W, (Instr.slice 37 (.slice a n c) (some (.int .i64 ((k : Int) + 1))) none none).run Try.prog W = .ok (.slice (atAddr a 3 (k + 1) c) (n - (k + 1)) (c - (k + 1))) W := fun W => run_rest (P := Try.prog) W elem_tm under_tm hi hz1 a n c (k + 1) (by omega)
  have HALL : Hid (∃ a1 n1 c1 W2 a2 n2 c2 W3 W4, Hid ((Builtin.append_ #[37, 37] 37 #[.slice none 0 0, .slice a k c]).run Try.prog X = .ok (.slice a1 n1 c1) W2) ∧
      Hid ((Builtin.append_ #[37, 37] 37 #[.slice a1 n1 c1, .slice (atAddr a 3 (k + 1) c) (n - (k + 1)) (c - (k + 1))]).run Try.prog W2 = .ok (.slice a2 n2 c2) W3) ∧
      X.cell? ⟨Q, 0, none⟩ = some (.slice a n c) ∧ W2.cell? ⟨Q, 0, none⟩ = some (.slice a n c) ∧ W3.cell? ⟨Q, 0, none⟩ = some (.slice a n c) ∧ W3.frozen? ⟨Q, 0, none⟩ = false ∧ W3.setCell ⟨Q, 0, none⟩ (.slice a2 n2 c2) = W4 ∧
      W4.heap[R]? = some (.cells zeroTm.cells 45 (0, 0)) ∧ W4.heap[R + 1]? = some (.cells t.cells 45 (0, 0)) ∧
      Hid (RQ W4 Q ⟨cut q.l k, q.most, q.next⟩ (.slice a2 n2 c2) ∧ w.grownBy W4 (some Q) ∧ (∀ j, (Value.slice a2 n2 c2).ownBlock = some j → X.heap.size ≤ j) ∧ Q < R)) := Lib.hid (by
    obtain ⟨v1, W2, r1, o1, b1⟩ := app_tm X X.heap.size (.slice none 0 0) [] (q.l.take k) (World.ownsRow_nil _ _ _ _) a k c (by rw [List.length_take]; omega) (src_take_tm hqX.row k) (by rw [List.length_take]; simp; omega) (Nat.le_refl _)
    rw [List.nil_append] at o1
    obtain ⟨a1, c1, rfl, _⟩ := rowT o1
    obtain ⟨v2, W3, r2, o2, b2⟩ := app_tm W2 X.heap.size _ (q.l.take k) (q.l.drop (k + 1)) o1 (atAddr a 3 (k + 1) c) (n - (k + 1)) (c - (k + 1)) (by rw [List.length_drop, hn]) (src_drop_tm (hqX.under b1).row (k + 1)) (by simp only [List.length_take, List.length_drop]; omega) b1.size
    obtain ⟨a2, c2, rfl, _⟩ := rowT o2
    have hb3 := below_cat b1 b2
    have hw3 := below_then hbX hb3
    have hh3 := (hw3.block Q h.lt).trans h.head
    have hh2 := (b1.block Q (Nat.lt_of_lt_of_le h.lt hbX.size)).trans hqX.head
    have hnew : ∀ j, (Value.slice a2 (q.l.take k ++ q.l.drop (k + 1)).length c2).ownBlock = some j → X.heap.size ≤ j := fun j hj => (o2.lt j hj).1
    obtain ⟨h5, h6⟩ := rturned h hw3 (World.ownsRow.mono o2 (Nat.zero_le _)) (fun j hj => .inr (Nat.le_trans hbX.size (hnew j hj)))
    have hQR := h.lt
    have s4 : W3.grownBy (W3.setCell ⟨Q, 0, none⟩ (.slice a2 (q.l.take k ++ q.l.drop (k + 1)).length c2)) (some Q) := only_setCell (only_refl W3 (some Q)) 0 _
    have hsz : X.heap.size ≤ W3.heap.size := hb3.size
    have hk4 : ∀ j, j < X.heap.size → j ≠ Q → (W3.setCell ⟨Q, 0, none⟩ (.slice a2 (q.l.take k ++ q.l.drop (k + 1)).length c2)).heap[j]? = X.heap[j]? := fun j hj hne => (s4.block j (by omega) (fun e => hne (Option.some.inj e))).trans (hb3.block j hj)
    rw [← hn]
    exact ⟨a1, _, c1, W2, a2, _, c2, W3, _, Lib.hid r1, Lib.hid (by rw [hn]; exact r2), hqX.c.1, cell_block (j := 0) hh2 rfl, cell_block (j := 0) hh3 rfl, free_block 0 hh3, rfl, (hk4 R (by omega) (by omega)).trans hRX, (hk4 (R + 1) (by omega) (by omega)).trans hTX, Lib.hid ⟨h5, h6, hnew, by omega⟩⟩)
  have HS : Hid (∀ W lv2, RQ W Q ⟨cut q.l k, q.most, q.next⟩ lv2 → w.grownBy W (some Q) → (∀ j, lv2.ownBlock = some j → X.heap.size ≤ j) → Q < R → ∀ x y z, ∃ lv', RQ (((W.setCell ⟨R, 0, none⟩ x).setCell ⟨R, 1, none⟩ y).setCell ⟨R, 2, none⟩ z) Q ⟨cut q.l k, q.most, q.next⟩ lv' ∧ w.grownBy (((W.setCell ⟨R, 0, none⟩ x).setCell ⟨R, 1, none⟩ y).setCell ⟨R, 2, none⟩ z) (some Q) ∧ ∀ j, lv'.ownBlock = some j → w.heap.size ≤ j) := Lib.hid (fun W lv2 h1 h2 h3 h4 x y z => by
    have hg : W.grownBy (((W.setCell ⟨R, 0, none⟩ x).setCell ⟨R, 1, none⟩ y).setCell ⟨R, 2, none⟩ z) (some R) := only_setCell (only_setCell (only_setCell (only_refl W (some R)) _ _) _ _) _ _
    refine ⟨lv2, ⟨(hg.block Q h1.lt (fun e => by have := Option.some.inj e; omega)).trans h1.head, own_same h1.row (fun j hj => hg.block j (h1.row.lt j hj).2 (fun e => by have := Option.some.inj e; have := h3 j hj; omega)), h1.apart⟩, ⟨hg.os.trans h2.os, hg.tape.trans h2.tape, hg.output.trans h2.output, Nat.le_trans h2.size hg.size, fun j hj hne => (hg.block j (Nat.lt_of_lt_of_le hj h2.size) (fun e => by have := Option.some.inj e; omega)).trans (h2.block j hj hne)⟩, fun j hj => by have := h3 j hj; omega⟩)
  have hk1 : (k : Int) < (n : Int) := by omega
  have hk0 : (0 : Int) ≤ (k : Int) := by omega
  have hn1 : (n : Int) ≤ 1048576 := by omega
  rw [ht]
  clear hi hz0 hz1 hz2 hXs hbY hbX hRX hTX hqY hqX h hk hl hn ht hlc hcm ha
  obtain ⟨g, rfl, y0, y1, y2, y3⟩ := HY.out
  obtain ⟨a1, n1, c1, W2, a2, n2, c2, W3, W4, HR1, HR2, x0, z0, l0, l1, hW4, hR4, hT4, HE⟩ := HALL.out
  obtain ⟨e0, e1, e2⟩ := tm_at hR4
  obtain ⟨u0, u1, u2⟩ := tm_at hT4
  have f0 := free_block 0 hR4; have f1 := free_block 1 hR4; have f2 := free_block 2 hR4
  have HR4 := Lib.hid hR4
  have s1 := hs1 X
  have s2 := hs2 W2
  clear hR4 hT4 hs1 hs2
  go_enter Try.func38, Try.ntmps38
  go_wp2_with (at_builtin; first | (refine walk_run (v' := .slice a1 n1 c1) (w' := W2) rfl _ _ _ _ rfl _ _ rfl rfl ?_ ?_; exact HR1.out) | (refine walk_run (v' := .slice a2 n2 c2) (w' := W3) rfl _ _ _ _ rfl _ _ rfl rfl ?_ ?_; exact HR2.out))
  exact ret_tm rfl rfl rfl (tm_set (k := zeroTm) (x := t) HR4.out) ⟨rfl, HS.out _ _ HE.out.1 HE.out.2.1 HE.out.2.2.1 HE.out.2.2.2 _ _ _⟩
/-- Where the document's queue lies. -/
def DQ (w : World) (Q : Nat) (G : Nat → Prop) (q : QS) : Prop := ∃ lv, RQ w Q q lv ∧ ∀ k, G k ↔ (k = Q ∨ lv.ownBlock = some k)
theorem DQ.lt {w : World} {Q : Nat} {G : Nat → Prop} {q : QS} (h : DQ w Q G q) : ∀ k, G k → k < w.heap.size := by
  obtain ⟨lv, h, hG⟩ := h
  intro k hk
  rcases (hG k).1 hk with rfl | e
  · exact h.lt
  · exact (h.row.lt k e).2
theorem DQ.keep {w w' : World} {Q : Nat} {G : Nat → Prop} {q : QS} (h : DQ w Q G q) (hk : ∀ k, G k → w'.heap[k]? = w.heap[k]?) : DQ w' Q G q := by
  obtain ⟨lv, h, hG⟩ := h
  exact ⟨lv, ⟨(hk Q ((hG Q).2 (.inl rfl))).trans h.head, own_same h.row (fun k e => hk k ((hG k).2 (.inr e))), h.apart⟩, hG⟩
theorem DQ.under {w w' : World} {Q : Nat} {G : Nat → Prop} {q : QS} (h : DQ w Q G q) (hb : Below w.heap.size w w') : DQ w' Q G q := h.keep fun k hk => hb.block k (h.lt k hk)
theorem DQ.of {w w' : World} {Q : Nat} {G : Nat → Prop} {q q' : QS} {lv' : Value} (h : DQ w Q G q) (h1 : RQ w' Q q' lv') (h2 : w.grownBy w' (some Q)) (h3 : ∀ k, lv'.ownBlock = some k → w.heap.size ≤ k) : ∃ G', DQ w' Q G' q' ∧ StepF w w' G G' := by
  obtain ⟨lv, h, hG⟩ := h
  refine ⟨fun k => k = Q ∨ lv'.ownBlock = some k, ⟨lv', h1, fun _ => Iff.rfl⟩, h2.os, h2.tape, h2.output, h2.size, fun k hk hne => h2.block k hk (fun e => hne ((hG k).2 (.inl (Option.some.inj e)))), fun k hk => ?_⟩
  rcases hk with rfl | e
  · exact .inl ((hG k).2 (.inl rfl))
  · exact .inr (h3 k e)
theorem DQ.bump {w : World} {Q : Nat} {G : Nat → Prop} {q : QS} (h : DQ w Q G q) (m : Int) : DQ (w.setCell ⟨Q, 2, none⟩ (.int .i64 m)) Q G ⟨q.l, q.most, m⟩ ∧ StepF w (w.setCell ⟨Q, 2, none⟩ (.int .i64 m)) G G := by
  obtain ⟨lv, h, hG⟩ := h
  have hg : w.grownBy (w.setCell ⟨Q, 2, none⟩ (.int .i64 m)) (some Q) := only_setCell (only_refl w (some Q)) 2 _
  exact ⟨⟨lv, ⟨heap_setCell_same w Q 2 _ _ _ h.head, own_same h.row (fun k e => hg.block k (h.row.lt k e).2 (fun e2 => h.apart (by rw [e, Option.some.inj e2]))), h.apart⟩, hG⟩, hg.os, hg.tape, hg.output, hg.size, fun k hk hne => hg.block k hk (fun e => hne ((hG k).2 (.inl (Option.some.inj e)))), fun _ hk => .inl hk⟩
theorem DQ.c {w : World} {Q : Nat} {G : Nat → Prop} {q : QS} (h : DQ w Q G q) : ∃ a c, w.cell? ⟨Q, 0, none⟩ = some (.slice a q.l.length c) ∧ w.cell? ⟨Q, 1, none⟩ = some (.int .i64 q.most) ∧ w.cell? ⟨Q, 2, none⟩ = some (.int .i64 q.next) ∧ w.frozen? ⟨Q, 2, none⟩ = false ∧
    ∀ (i : Nat) (t : Tm), q.l[i]? = some t → ∃ g, a = some ⟨g, 0, none⟩ ∧ w.cell? ⟨g, i * 3, none⟩ = some (.int .i64 t.due) ∧ w.cell? ⟨g, i * 3 + 1, none⟩ = some (.int .i64 t.id) ∧ w.cell? ⟨g, i * 3 + 2, none⟩ = some (.int .i64 t.what) := by
  obtain ⟨lv, h, _⟩ := h
  obtain ⟨a, c, rfl, _, hat⟩ := row_tm h.row
  exact ⟨a, c, h.c.1, h.c.2.1, h.c.2.2, free_block 2 h.head, fun i t hi => by
    obtain ⟨g, e, _, h1⟩ := hat i t hi
    exact ⟨g, e, h1⟩⟩
theorem dput {Q : Nat} {G : Nat → Prop} {q : QS} (t : Tm) (w : World) (h : DQ w Q G q) (hl : q.l.length ≤ 4096) :
    Calls Try.prog 32 #[ptr Q, tV t] w fun e w' => e = .returned (.tuple #[]) ∧ ∃ G', DQ w' Q G' ⟨put q.l t, q.most, q.next⟩ ∧ StepF w w' G G' := by
  have h0 := h
  obtain ⟨lv, h, _⟩ := h
  exact (rput_any t w h hl).mono fun _ _ ⟨e, lv', h1, h2, h3⟩ => ⟨e, h0.of h1 h2 h3⟩
theorem dtake {Q : Nat} {G : Nat → Prop} {q : QS} (k : Nat) (w : World) (h : DQ w Q G q) (hk : k < q.l.length) (hl : q.l.length ≤ 4096) :
    Calls Try.prog 38 #[ptr Q, .int .i64 (k : Nat)] w fun e w' => e = .returned (tV (nthT q.l k)) ∧ ∃ G', DQ w' Q G' ⟨cut q.l k, q.most, q.next⟩ ∧ StepF w w' G G' := by
  have h0 := h
  obtain ⟨lv, h, _⟩ := h
  exact (rtake_any k w h hk hl).mono fun _ _ ⟨e, lv', h1, h2, h3⟩ => ⟨e, h0.of h1 h2 h3⟩
theorem dfind {Q : Nat} {G : Nat → Prop} {q : QS} (id : Int) (w : World) (h : DQ w Q G q) (hl : q.l.length ≤ 1048576) :
    Calls Try.prog 31 #[ptr Q, .int .i64 id] w fun e w' => e = .returned (.int .i64 (findV q.l id)) ∧ w = w' := by
  obtain ⟨lv, h, _⟩ := h
  exact find_any id w h hl
end Go.Proofs.Ytfbdkafpfminlaa.Heap
