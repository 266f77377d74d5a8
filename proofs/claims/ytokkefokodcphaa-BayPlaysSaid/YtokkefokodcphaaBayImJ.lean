/- A line copied into new memory. -/
import Derived.Test.YtokkefokodcphaaBayImF
import Derived.Deep.RegionHeld3
import Derived.Laws.ResultCell
namespace Go.Proofs.Ytokkefokodcphaa.Bay
open Go.RowKit Go.Lib IRows

theorem ret_line {fn : Func} {R : Ending → World → Prop} {a : Act} {w : World} {p : Tmp} {g : Nat} {a1 a2 : Option Addr} {n1 c1 n2 c2 : Nat} {T : TypeId} (h : fn.results = #[.cell p 54]) (hd : a.defers = [])
    (ht : a.tmps.getD p undef = .pointer (some ⟨g, 0, none⟩)) (hb : w.heap[g]? = some (.cells #[.slice a1 n1 c1, .slice a2 n2 c2] T (0, 0))) (hR : R (.returned (.agg #[.slice a1 n1 c1, .slice a2 n2 c2])) w) : bodyPost Try.prog fn R .ret a w := by
  exact bodyPost_ret (v := .agg #[.slice a1 n1 c1, .slice a2 n2 c2]) (results_cell_row h _ w g T #[.slice a1 n1 c1, .slice a2 n2 c2] (0, 0) _ ht hb Try.underlying54 rfl (by kernel_rfl)) hd hR
/-- Two rows in new memory, apart. -/
structure NewLine (w w' : World) (m1 : Rm) (l1 : List Int) (m2 : Rm) (l2 : List Int) : Prop where
  one : RowAt w' m1 l1
  two : RowAt w' m2 l2
  below : Below w.heap.size w w'
  new1 : ∀ g, ownB m1 = some g → w.heap.size ≤ g
  new2 : ∀ g, ownB m2 = some g → w.heap.size ≤ g
  apart : ∀ g, ownB m1 = some g → ownB m2 ≠ some g
set_option maxRecDepth 100000 in
set_option maxHeartbeats 1000000 in
theorem copied_im (g o : Nat) (a1 : Option Addr) (n1 c1 : Nat) (l1 : List Int) (a2 : Option Addr) (n2 c2 : Nat) (l2 : List Int) (w : World) (h0 : w.cell? ⟨g, o, none⟩ = some (.slice a1 n1 c1)) (h1 : w.cell? ⟨g, o + 1, none⟩ = some (.slice a2 n2 c2)) (hg : g < w.heap.size)
    (hl1 : l1.length = n1) (hs1 : IRow w a1 l1) (hn1 : n1 ≤ 1000) (hl2 : l2.length = n2) (hs2 : IRow w a2 l2) (hn2 : n2 ≤ 1000) :
    Calls Try.prog 32 #[.pointer (some ⟨g, o, none⟩)] w fun e w' => ∃ m1 m2, e = .returned (.agg #[.slice m1.a n1 m1.c, .slice m2.a n2 m2.c]) ∧ Hid (NewLine w w' m1 l1 m2 l2) := by
  obtain ⟨G, hG⟩ : ∃ G, w.heap.size = G := ⟨_, rfl⟩
  obtain ⟨Z, hZ⟩ : ∃ Z, w.alloc (.cells #[.slice none 0 0, .slice none 0 0] 54) = Z := ⟨_, rfl⟩
  have hB : Below w.heap.size w Z := by rw [← hZ]; exact (Below.refl _ _).alloc (Nat.le_refl _) _
  have hGZ : Z.heap[G]? = some (.cells #[.slice none 0 0, .slice none 0 0] 54 (0, 0)) := by rw [← hZ, ← hG]; exact heap_alloc_new w _
  have hGlt := (Array.getElem?_eq_some_iff.1 hGZ).1
  have HC : Hid (∀ W, Below Z.heap.size Z W → (W.cell? ⟨g, o, none⟩ = some (.slice a1 n1 c1) ∧ W.cell? ⟨g, o + 1, none⟩ = some (.slice a2 n2 c2)) ∧ (W.cell? ⟨G, 0, none⟩ = some (.slice none 0 0) ∧ W.cell? ⟨G, 1, none⟩ = some (.slice none 0 0)) ∧ W.frozen? ⟨G, 0, none⟩ = false ∧ W.frozen? ⟨G, 1, none⟩ = false) := Lib.hid (fun W hW => by
    have hb := below_then hB hW
    have hG2 := (hW.block G hGlt).trans hGZ
    exact ⟨⟨((bcell hb).1 g _ hg).trans h0, ((bcell hb).1 g _ hg).trans h1⟩, ⟨cell_block (j := 0) hG2 rfl, cell_block (j := 1) hG2 rfl⟩, free_block 0 hG2, free_block 1 hG2⟩)
  have H1 : Hid (∀ W, Below Z.heap.size Z W → Calls Try.prog 45 #[.slice a1 n1 c1] W fun e w' => ∃ m, e = .returned (.slice m.a n1 m.c) ∧ Hid (Below Z.heap.size Z w') ∧ Hid (NewRow W w' m l1)) := Lib.hid (fun W hW => (clone_row a1 n1 c1 l1 W hl1 ((hs1.under hB).under hW) hn1).mono (by
    rintro e w' ⟨m, rfl, H⟩
    exact ⟨m, rfl, Lib.hid (below_then hW H.out.2.1), H⟩))
  have H2 : Hid (∀ W, Below Z.heap.size Z W → Calls Try.prog 45 #[.slice a2 n2 c2] W fun e w' => ∃ m, e = .returned (.slice m.a n2 m.c) ∧ Hid (Below Z.heap.size Z w') ∧ Hid (NewRow W w' m l2)) := Lib.hid (fun W hW => (clone_row a2 n2 c2 l2 W hl2 ((hs2.under hB).under hW) hn2).mono (by
    rintro e w' ⟨m, rfl, H⟩
    exact ⟨m, rfl, Lib.hid (below_then hW H.out.2.1), H⟩))
  have HZ : Hid (Below Z.heap.size Z Z.drew) := Lib.hid (Below.refl _ Z).drew
  have HS : Hid (∀ (W : World) (v1 v2 : Value), (W.cell? ⟨g, o, none⟩ = some (.slice a1 n1 c1) ∧ W.cell? ⟨g, o + 1, none⟩ = some (.slice a2 n2 c2)) → ((W.setCell ⟨G, 0, none⟩ v1).setCell ⟨G, 1, none⟩ v2).cell? ⟨g, o, none⟩ = some (.slice a1 n1 c1) ∧ ((W.setCell ⟨G, 0, none⟩ v1).setCell ⟨G, 1, none⟩ v2).cell? ⟨g, o + 1, none⟩ = some (.slice a2 n2 c2)) := Lib.hid (fun W v1 v2 hW => by
    have hne : g ≠ G := by omega
    have hb : ((W.setCell ⟨G, 0, none⟩ v1).setCell ⟨G, 1, none⟩ v2).heap[g]? = W.heap[g]? := (heap_setCell_other _ ⟨G, 1, none⟩ g v2 (fun e => hne e)).trans (heap_setCell_other _ ⟨G, 0, none⟩ g v1 (fun e => hne e))
    exact ⟨(World.cell?_of_block hb).trans hW.1, (World.cell?_of_block hb).trans hW.2⟩)
  have HE : Hid (∀ (w1 w2 : World) (m1 m2 : Rm), Below Z.heap.size Z w1 → NewRow Z.drew w1 m1 l1 → Below Z.heap.size Z w2 → NewRow w1 w2 m2 l2 → ((w2.setCell ⟨G, 0, none⟩ (.slice m1.a n1 m1.c)).setCell ⟨G, 1, none⟩ (.slice m2.a n2 m2.c)).heap[G]? = some (.cells #[.slice m1.a n1 m1.c, .slice m2.a n2 m2.c] 54 (0, 0)) ∧ NewLine w ((w2.setCell ⟨G, 0, none⟩ (.slice m1.a n1 m1.c)).setCell ⟨G, 1, none⟩ (.slice m2.a n2 m2.c)) m1 l1 m2 l2) := Lib.hid (fun w1 w2 m1 m2 b1 r1 b2 r2 => by
    have hG2 := (b2.block G hGlt).trans hGZ
    have k1 := heap_setCell_same w2 G 0 _ _ (.slice m1.a n1 m1.c) hG2
    have k2 := heap_setCell_same _ G 1 _ _ (.slice m2.a n2 m2.c) k1
    have hne : ∀ q, q ≠ G → ((w2.setCell ⟨G, 0, none⟩ (.slice m1.a n1 m1.c)).setCell ⟨G, 1, none⟩ (.slice m2.a n2 m2.c)).heap[q]? = w2.heap[q]? := fun q hq => (heap_setCell_other _ ⟨G, 1, none⟩ q _ (fun e => hq e)).trans (heap_setCell_other _ ⟨G, 0, none⟩ q _ (fun e => hq e))
    have n1' : ∀ q, ownB m1 = some q → Z.heap.size ≤ q := r1.2.2
    have n2' : ∀ q, ownB m2 = some q → Z.heap.size ≤ q := fun q hq => Nat.le_trans b1.size (r2.2.2 q hq)
    refine ⟨k2, ?_, ?_, ?_, fun q hq => ?_, fun q hq => ?_, fun q hq hq2 => ?_⟩
    · refine (r1.1.same (w' := w2) fun q hq => r2.2.1.block q (r1.1.lt hq)).same fun q hq => hne q ?_
      have := n1' q hq
      omega
    · refine r2.1.same fun q hq => hne q ?_
      have := n2' q hq
      omega
    · have hb := below_then hB b2
      exact (hb.setCell (p := ⟨G, 0, none⟩) (by show w.heap.size ≤ G; omega) _).setCell (p := ⟨G, 1, none⟩) (by show w.heap.size ≤ G; omega) _
    · have := n1' q hq
      have := hB.size
      omega
    · have := n2' q hq
      have := hB.size
      omega
    · have := r1.1.lt hq
      have := r2.2.2 q hq2
      omega)
  obtain ⟨⟨c0, c1'⟩, c2', f0, f1⟩ := HC.out Z (Below.refl _ _)
  clear h0 h1 hg hl1 hs1 hn1 hl2 hs2 hn2 hB hGZ hGlt
  go_enter Try.func32, Try.ntmps32
  go_wp2_with fail
  clear hZ
  rw [hG] at *
  go_region_held3 (fun W => W.cell? ⟨g, o, none⟩ = some (.slice a1 n1 c1) ∧ W.cell? ⟨g, o + 1, none⟩ = some (.slice a2 n2 c2))
    (first | with_reducible exact (HC.out _ B2.out).1 | with_reducible exact (HC.out _ B1.out).1 | with_reducible exact (HC.out _ HZ.out).1 | exact HS.out _ _ _ (HC.out _ B2.out).1)
    (first
      | (go_at_call 45; (with_reducible refine (H2.out _ B1.out).mono ?_); rintro e w2 ⟨m2, rfl, B2, G2⟩; obtain ⟨_, ⟨x0, x1⟩, x2, x3⟩ := HC.out _ B2.out)
      | (go_at_call 45; (with_reducible refine (H1.out _ HZ.out).mono ?_); rintro e w1 ⟨m1, rfl, B1, G1⟩))
  all_goals
    have HN := Lib.hid (HE.out _ _ _ _ B1.out G1.out B2.out G2.out)
    go_wp2_with fail
    exact ret_line rfl rfl rfl HN.out.1 ⟨m1, m2, rfl, Lib.hid HN.out.2⟩
end Go.Proofs.Ytokkefokodcphaa.Bay
