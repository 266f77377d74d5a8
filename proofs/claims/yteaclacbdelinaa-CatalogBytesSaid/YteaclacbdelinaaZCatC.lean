/- The document's Blue, Bay; its SameBlue and Same of what is the same. The document's SameBlue and Same, of what is the same. -/
import Derived.Test.YteaclacbdelinaaZCatA
import Derived.Test.YteaclacbdelinaaZGoodsMath
import Derived.Laws.ResultCell
import Derived.Laws.Rows
import Derived.Laws.StructEq
import Derived.BigQuiet
import Derived.RegionTactic
import Derived.Deep.RegionWith
namespace Go.Proofs.Yteaclacbdelinaa.Cat
open Go.RowKit Go.Lib
open Goods (St Sts OwnS)
open Recipe (Bl BlIn blV)

theorem ret_bl2 {fn : Func} {R : Ending → World → Prop} {a : Act} {w : World} {p u : Tmp} {g : Nat} {c0 c1 c2 c3 c4 c5 c6 x : Value} {T : TypeId} (h : fn.results = #[.cell p 35, .tmp u]) (hd : a.defers = [])
    (ht : a.tmps.getD p undef = .pointer (some ⟨g, 0, none⟩)) (hu : a.tmps.getD u undef = x) (hb : w.heap[g]? = some (.cells #[c0, c1, c2, c3, c4, c5, c6] T (0, 0))) (hR : R (.returned (.tuple #[.agg #[c0, c1, c2, c3, c4, c5, c6], x])) w) : bodyPost Try.prog fn R .ret a w := by
  refine bodyPost_ret (v := .tuple #[.agg #[c0, c1, c2, c3, c4, c5, c6], x]) ?_ hd hR
  rw [results_cell_tmp h, ht, hu]
  simp [asAddr, run_loadVar_row (P := Try.prog) w g T 35 #[c0, c1, c2, c3, c4, c5, c6] (0, 0) _ hb Try.underlying35 rfl (by kernel_rfl), Result.andThen]
theorem ret_ba2 {fn : Func} {R : Ending → World → Prop} {a : Act} {w : World} {p u : Tmp} {g : Nat} {c0 c1 c2 c3 x : Value} {T : TypeId} (h : fn.results = #[.cell p 40, .tmp u]) (hd : a.defers = [])
    (ht : a.tmps.getD p undef = .pointer (some ⟨g, 0, none⟩)) (hu : a.tmps.getD u undef = x) (hb : w.heap[g]? = some (.cells #[c0, c1, c2, c3] T (0, 0))) (hR : R (.returned (.tuple #[.agg #[c0, c1, c2, c3], x])) w) : bodyPost Try.prog fn R .ret a w := by
  refine bodyPost_ret (v := .tuple #[.agg #[c0, c1, c2, c3], x]) ?_ hd hR
  rw [results_cell_tmp h, ht, hu]
  simp [asAddr, run_loadVar_row (P := Try.prog) w g T 40 #[c0, c1, c2, c3] (0, 0) _ hb Try.underlying40 rfl (by kernel_rfl), Result.andThen]
theorem bl_set {w : World} {g : Nat} {a b c d e f h x0 x1 x2 x3 x4 x5 x6 : Value} {T : TypeId} (hb : w.heap[g]? = some (.cells #[a, b, c, d, e, f, h] T (0, 0))) :
    (((((((w.setCell ⟨g, 0, none⟩ x0).setCell ⟨g, 1, none⟩ x1).setCell ⟨g, 2, none⟩ x2).setCell ⟨g, 3, none⟩ x3).setCell ⟨g, 4, none⟩ x4).setCell ⟨g, 5, none⟩ x5).setCell ⟨g, 6, none⟩ x6).heap[g]? = some (.cells #[x0, x1, x2, x3, x4, x5, x6] T (0, 0)) := by
  obtain ⟨w0, e0⟩ : ∃ u, w.setCell ⟨g, 0, none⟩ x0 = u := ⟨_, rfl⟩
  have h0 : w0.heap[g]? = some (.cells #[x0, b, c, d, e, f, h] T (0, 0)) := by rw [← e0]; exact heap_setCell_same w g 0 _ _ x0 hb
  rw [e0]
  obtain ⟨w1, e1⟩ : ∃ u, w0.setCell ⟨g, 1, none⟩ x1 = u := ⟨_, rfl⟩
  have h1 : w1.heap[g]? = some (.cells #[x0, x1, c, d, e, f, h] T (0, 0)) := by rw [← e1]; exact heap_setCell_same w0 g 1 _ _ x1 h0
  rw [e1]
  obtain ⟨w2, e2⟩ : ∃ u, w1.setCell ⟨g, 2, none⟩ x2 = u := ⟨_, rfl⟩
  have h2 : w2.heap[g]? = some (.cells #[x0, x1, x2, d, e, f, h] T (0, 0)) := by rw [← e2]; exact heap_setCell_same w1 g 2 _ _ x2 h1
  rw [e2]
  obtain ⟨w3, e3⟩ : ∃ u, w2.setCell ⟨g, 3, none⟩ x3 = u := ⟨_, rfl⟩
  have h3 : w3.heap[g]? = some (.cells #[x0, x1, x2, x3, e, f, h] T (0, 0)) := by rw [← e3]; exact heap_setCell_same w2 g 3 _ _ x3 h2
  rw [e3]
  obtain ⟨w4, e4⟩ : ∃ u, w3.setCell ⟨g, 4, none⟩ x4 = u := ⟨_, rfl⟩
  have h4 : w4.heap[g]? = some (.cells #[x0, x1, x2, x3, x4, f, h] T (0, 0)) := by rw [← e4]; exact heap_setCell_same w3 g 4 _ _ x4 h3
  rw [e4]
  obtain ⟨w5, e5⟩ : ∃ u, w4.setCell ⟨g, 5, none⟩ x5 = u := ⟨_, rfl⟩
  have h5 : w5.heap[g]? = some (.cells #[x0, x1, x2, x3, x4, x5, h] T (0, 0)) := by rw [← e5]; exact heap_setCell_same w4 g 5 _ _ x5 h4
  rw [e5]
  obtain ⟨w6, e6⟩ : ∃ u, w5.setCell ⟨g, 6, none⟩ x6 = u := ⟨_, rfl⟩
  have h6 : w6.heap[g]? = some (.cells #[x0, x1, x2, x3, x4, x5, x6] T (0, 0)) := by rw [← e6]; exact heap_setCell_same w5 g 6 _ _ x6 h5
  rw [e6]
  exact h6
theorem ba_set {w : World} {g : Nat} {a b c d x0 x1 x2 x3 : Value} {T : TypeId} (hb : w.heap[g]? = some (.cells #[a, b, c, d] T (0, 0))) :
    ((((w.setCell ⟨g, 0, none⟩ x0).setCell ⟨g, 1, none⟩ x1).setCell ⟨g, 2, none⟩ x2).setCell ⟨g, 3, none⟩ x3).heap[g]? = some (.cells #[x0, x1, x2, x3] T (0, 0)) := by
  have h0 := heap_setCell_same w g 0 _ _ x0 hb
  have h1 := heap_setCell_same _ g 1 _ _ x1 h0
  have h2 := heap_setCell_same _ g 2 _ _ x2 h1
  exact heap_setCell_same _ g 3 _ _ x3 h2
def zBl : Bl := ⟨0, 0, 0, none, 0, 0, [], 0, 0, 0⟩
theorem blu_no {C : Cat} {n : Int} (h : ¬ (1 ≤ n ∧ n ≤ C.bs.length)) : bluE C n = 3 ∧ bluV C n = zPB := by
  unfold bluE bluV
  rw [if_neg h, if_neg h]
  exact ⟨rfl, rfl⟩
theorem blu_yes {C : Cat} {i : Nat} {b : PB} (h : C.bs[i]? = some b) : bluE C ((i : Int) + 1) = 0 ∧ bluV C ((i : Int) + 1) = b := by
  obtain ⟨hi, e⟩ := List.getElem?_eq_some_iff.1 h
  unfold bluE bluV
  rw [if_pos (by omega), if_pos (by omega), show ((i : Int) + 1 - 1).toNat = i by omega]
  exact ⟨rfl, by simp [h]⟩
theorem bay_no {C : Cat} {n : Int} (h : ¬ (1 ≤ n ∧ n ≤ C.ys.length)) : bayE C n = 3 ∧ bayV C n = zBa := by
  unfold bayE bayV
  rw [if_neg h, if_neg h]
  exact ⟨rfl, rfl⟩
theorem bay_yes {C : Cat} {i : Nat} {b : Ba} (h : C.ys[i]? = some b) : bayE C ((i : Int) + 1) = 0 ∧ bayV C ((i : Int) + 1) = b := by
  obtain ⟨hi, e⟩ := List.getElem?_eq_some_iff.1 h
  unfold bayE bayV
  rw [if_pos (by omega), if_pos (by omega), show ((i : Int) + 1 - 1).toNat = i by omega]
  exact ⟨rfl, by simp [h]⟩
set_option maxRecDepth 100000 in
set_option maxHeartbeats 4000000 in
theorem dblue (C : CM) (n : Int) (w : World) (h : CatAt w C) (hb : C.bn ≤ 4611686018427387904) :
    Calls Try.prog 11 #[C.v, .int .i64 n] w fun e w' => ∃ b : Bl, e = .returned (.tuple #[blV b, .int .i64 (bluE C.p n)]) ∧ Hid (pOf b = bluV C.p n ∧ b.s.length = b.sm ∧ Sts w' b.sa b.s ∧ Below w.heap.size w w') := by
  obtain ⟨V, X, hV, hX, HXB, HP⟩ := box_cat w C
  obtain ⟨G, hG⟩ : ∃ G, X.heap.size = G := ⟨_, rfl⟩
  obtain ⟨Z, hZ⟩ : ∃ Z, X.alloc (.cells #[.int .i64 0, .int .i64 0, .int .i64 0, .slice none 0 0, .int .i64 0, .int .i64 0, .int .i64 0] 35) = Z := ⟨_, rfl⟩
  have HZB : Hid (Below X.heap.size X Z) := Lib.hid (by rw [← hZ]; exact (Below.refl _ X).alloc (Nat.le_refl _) _)
  have hGZ : Z.heap[G]? = some (.cells #[.int .i64 0, .int .i64 0, .int .i64 0, .slice none 0 0, .int .i64 0, .int .i64 0, .int .i64 0] 35 (0, 0)) := by rw [← hZ, ← hG]; exact heap_alloc_new X _
  obtain ⟨k0, k1, k2, k3, k4, k5, k6, k7⟩ := HP.out Z HZB.out
  have c0 := cell_block (j := 0) hGZ rfl
  have c1 := cell_block (j := 1) hGZ rfl
  have c2 := cell_block (j := 2) hGZ rfl
  have c3 := cell_block (j := 3) hGZ rfl
  have c4 := cell_block (j := 4) hGZ rfl
  have c5 := cell_block (j := 5) hGZ rfl
  have c6 := cell_block (j := 6) hGZ rfl
  have f0 := free_block 0 hGZ
  have f1 := free_block 1 hGZ
  have f2 := free_block 2 hGZ
  have f3 := free_block 3 hGZ
  have f4 := free_block 4 hGZ
  have f5 := free_block 5 hGZ
  have f6 := free_block 6 hGZ
  have HGZ := Lib.hid hGZ
  have HWG : Hid (w.heap.size ≤ G) := Lib.hid (by rw [← hG]; exact HXB.out.size)
  have HEND : Hid (∀ (b : Bl) x0 x1 x2 x3 x4 x5 x6, pOf b = bluV C.p n → b.s.length = b.sm → Sts w b.sa b.s → pOf b = bluV C.p n ∧ b.s.length = b.sm ∧ Sts (((((((Z.setCell ⟨G, 0, none⟩ x0).setCell ⟨G, 1, none⟩ x1).setCell ⟨G, 2, none⟩ x2).setCell ⟨G, 3, none⟩ x3).setCell ⟨G, 4, none⟩ x4).setCell ⟨G, 5, none⟩ x5).setCell ⟨G, 6, none⟩ x6) b.sa b.s ∧ Below w.heap.size w (((((((Z.setCell ⟨G, 0, none⟩ x0).setCell ⟨G, 1, none⟩ x1).setCell ⟨G, 2, none⟩ x2).setCell ⟨G, 3, none⟩ x3).setCell ⟨G, 4, none⟩ x4).setCell ⟨G, 5, none⟩ x5).setCell ⟨G, 6, none⟩ x6)) := Lib.hid (fun b x0 x1 x2 x3 x4 x5 x6 hp hm hs => by
    have hbel := below_of_only (below_then HXB.out HZB.out) HWG.out (only_setCell (only_setCell (only_setCell (only_setCell (only_setCell (only_setCell (only_setCell (only_refl Z (some G)) 0 x0) 1 x1) 2 x2) 3 x3) 4 x4) 5 x5) 6 x6)
    exact ⟨hp, hm, hs.under hbel, hbel⟩)
  have hb1 : (C.bn : Int) ≤ 4611686018427387904 := by omega
  have hlen : C.p.bs.length = C.bn := by unfold CM.p; rw [List.length_map]; exact h.1.1
  by_cases hin : 1 ≤ n ∧ n ≤ (C.bn : Int)
  case neg =>
    obtain ⟨e1, e2⟩ := blu_no (C := C.p) (n := n) (by rw [hlen]; exact hin)
    have HN := Lib.hid (fun W => in_no n 1 (C.bn : Int) W (by omega))
    have HE2 := Lib.hid e2
    rw [e1]
    clear e1 e2 hb h hin hlen hGZ
    go_enter Try.func11, Try.ntmps11
    go_wp2_with fail
    clear hX hV hZ hG
    refine (HN.out _).mono ?_
    rintro e w' ⟨rfl, rfl⟩
    go_wp2_with fail
    exact ret_bl2 rfl rfl rfl rfl (bl_set HGZ.out) ⟨zBl, rfl, Lib.hid (HEND.out zBl _ _ _ _ _ _ _ (by rw [HE2.out]; rfl) rfl (fun i t hi => by simp [zBl] at hi))⟩
  obtain ⟨i, hi⟩ := Int.eq_ofNat_of_zero_le (show 0 ≤ n - 1 by omega)
  obtain rfl : n = (i : Int) + 1 := by omega
  have hilt : i < C.bn := by omega
  have HI := Lib.hid (fun W => in_yes ((i : Int) + 1) 1 (C.bn : Int) W hin.1 hin.2)
  obtain ⟨g, off, b, hba, ht, q⟩ := (blue_at h).out w i (Below.refl _ _) hilt
  obtain ⟨g2, off2, b2, hba2, ht2, q0, q1, q2, q3, q4, q5, q6⟩ := (blue_at ((h.under HXB.out).under HZB.out)).out Z i (Below.refl _ _) hilt
  rw [hba] at hba2
  injection hba2 with e
  cases e
  have e2 := ht2.out.1
  rw [ht.out.1] at e2
  cases e2
  obtain ⟨e1, e2⟩ := blu_yes (C := C.p) (i := i) (b := pOf b) (by unfold CM.p; simp [ht.out.1])
  have HE2 := Lib.hid e2
  rw [hba] at k1 hX
  have wi : IntKind.i64.wrap ((i : Int) + 1 - 1) = (i : Int) := by rw [show (i : Int) + 1 - 1 = (i : Int) by omega]; exact IntWalk.i64_in _ (by omega)
  have hi0 : (0 : Int) ≤ (i : Int) := by omega
  have hi1 : (i : Int) < (C.bn : Int) := by omega
  rw [e1]
  clear e1 e2 hb h hin hlen hGZ q hi ht2
  go_enter Try.func11, Try.ntmps11
  go_wp2_with fail
  clear hX hV hZ hG
  refine (HI.out _).mono ?_
  rintro e w' ⟨rfl, rfl⟩
  go_wp2_with fail
  exact ret_bl2 rfl rfl rfl rfl (bl_set HGZ.out) ⟨b, rfl, Lib.hid (HEND.out b _ _ _ _ _ _ _ HE2.out.symm ht.out.2.1 ht.out.2.2)⟩
set_option maxRecDepth 100000 in
set_option maxHeartbeats 4000000 in
theorem dbay (C : CM) (n : Int) (w : World) (h : CatAt w C) (hb : C.yn ≤ 4611686018427387904) :
    Calls Try.prog 13 #[C.v, .int .i64 n] w fun e w' => e = .returned (.tuple #[baV (bayV C.p n), .int .i64 (bayE C.p n)]) ∧ Below w.heap.size w w' := by
  obtain ⟨V, X, hV, hX, HXB, HP⟩ := box_cat w C
  obtain ⟨G, hG⟩ : ∃ G, X.heap.size = G := ⟨_, rfl⟩
  obtain ⟨Z, hZ⟩ : ∃ Z, X.alloc (.cells #[.int .i64 0, .int .i64 0, .int .i64 0, .int .i64 0] 40) = Z := ⟨_, rfl⟩
  have HZB : Hid (Below X.heap.size X Z) := Lib.hid (by rw [← hZ]; exact (Below.refl _ X).alloc (Nat.le_refl _) _)
  have hGZ : Z.heap[G]? = some (.cells #[.int .i64 0, .int .i64 0, .int .i64 0, .int .i64 0] 40 (0, 0)) := by rw [← hZ, ← hG]; exact heap_alloc_new X _
  obtain ⟨k0, k1, k2, k3, k4, k5, k6, k7⟩ := HP.out Z HZB.out
  have c0 := cell_block (j := 0) hGZ rfl
  have c1 := cell_block (j := 1) hGZ rfl
  have c2 := cell_block (j := 2) hGZ rfl
  have c3 := cell_block (j := 3) hGZ rfl
  have f0 := free_block 0 hGZ
  have f1 := free_block 1 hGZ
  have f2 := free_block 2 hGZ
  have f3 := free_block 3 hGZ
  have HGZ := Lib.hid hGZ
  have HWG : Hid (w.heap.size ≤ G) := Lib.hid (by rw [← hG]; exact HXB.out.size)
  have HEND : Hid (∀ x0 x1 x2 x3, Below w.heap.size w ((((Z.setCell ⟨G, 0, none⟩ x0).setCell ⟨G, 1, none⟩ x1).setCell ⟨G, 2, none⟩ x2).setCell ⟨G, 3, none⟩ x3)) := Lib.hid (fun x0 x1 x2 x3 =>
    below_of_only (below_then HXB.out HZB.out) HWG.out (only_setCell (only_setCell (only_setCell (only_setCell (only_refl Z (some G)) 0 x0) 1 x1) 2 x2) 3 x3))
  have hb1 : (C.yn : Int) ≤ 4611686018427387904 := by omega
  have hlen : C.p.ys.length = C.yn := h.2.1
  by_cases hin : 1 ≤ n ∧ n ≤ (C.yn : Int)
  case neg =>
    obtain ⟨e1, e2⟩ := bay_no (C := C.p) (n := n) (by rw [hlen]; exact hin)
    have HN := Lib.hid (fun W => in_no n 1 (C.yn : Int) W (by omega))
    rw [e1, e2]
    clear e1 e2 hb h hin hlen hGZ
    go_enter Try.func13, Try.ntmps13
    go_wp2_with fail
    clear hX hV hZ hG
    refine (HN.out _).mono ?_
    rintro e w' ⟨rfl, rfl⟩
    go_wp2_with fail
    exact ret_ba2 rfl rfl rfl rfl (ba_set HGZ.out) ⟨rfl, HEND.out _ _ _ _⟩
  obtain ⟨i, hi⟩ := Int.eq_ofNat_of_zero_le (show 0 ≤ n - 1 by omega)
  obtain rfl : n = (i : Int) + 1 := by omega
  have hilt : i < C.yn := by omega
  have HI := Lib.hid (fun W => in_yes ((i : Int) + 1) 1 (C.yn : Int) W hin.1 hin.2)
  obtain ⟨g, off, b, hba, ht, q0, q1, q2, q3⟩ := (bay_at ((h.under HXB.out).under HZB.out)).out Z i (Below.refl _ _) hilt
  obtain ⟨e1, e2⟩ := bay_yes (C := C.p) (i := i) (b := b) ht.out
  rw [hba] at k3 hX
  have wi : IntKind.i64.wrap ((i : Int) + 1 - 1) = (i : Int) := by rw [show (i : Int) + 1 - 1 = (i : Int) by omega]; exact IntWalk.i64_in _ (by omega)
  have hi0 : (0 : Int) ≤ (i : Int) := by omega
  have hi1 : (i : Int) < (C.yn : Int) := by omega
  rw [e1, e2]
  clear e1 e2 hb h hin hlen hGZ hi
  go_enter Try.func13, Try.ntmps13
  go_wp2_with fail
  clear hX hV hZ hG
  refine (HI.out _).mono ?_
  rintro e w' ⟨rfl, rfl⟩
  go_wp2_with fail
  exact ret_ba2 rfl rfl rfl rfl (ba_set HGZ.out) ⟨rfl, HEND.out _ _ _ _⟩
end Go.Proofs.Yteaclacbdelinaa.Cat
namespace Go.Proofs.Yteaclacbdelinaa.Cat
open Go.RowKit Go.Lib
open Goods (St Sts OwnS)
open Recipe (Bl BlIn blV)

theorem pOf_eq {a b : Bl} (h : pOf a = pOf b) : a.ot = b.ot ∧ a.per = b.per ∧ a.tm = b.tm ∧ a.s = b.s ∧ a.cp = b.cp ∧ a.st = b.st ∧ a.mo = b.mo := by
  unfold pOf at h
  injection h with h1 h2 h3 h4 h5 h6 h7
  exact ⟨h1, h2, h3, h4, h5, h6, h7⟩
open Classical in
set_option maxRecDepth 100000 in
set_option maxHeartbeats 4000000 in
theorem dsblue (a b : Bl) (w : World) (h1 : a.s.length = a.sm) (s1 : Sts w a.sa a.s) (m1 : a.sm ≤ 1048576) (h2 : b.s.length = b.sm) (s2 : Sts w b.sa b.s) (m2 : b.sm ≤ 1048576) (hp : pOf a = pOf b) :
    Calls Try.prog 18 #[blV a, blV b] w fun e w' => e = .returned (.bool true) ∧ Below w.heap.size w w' := by
  obtain ⟨V, X, hV, hX, HXB, HP⟩ := Recipe.box_blue w a
  obtain ⟨U, Y, hU, hY, HYB, HQ⟩ := Recipe.box_blue X b
  have HA : Hid (∀ W, Below Y.heap.size Y W → Recipe.CellsU W V a) := Lib.hid fun W hW => HP.out W (below_then HYB.out hW)
  have HW : Hid (∀ W, Below Y.heap.size Y W → Below w.heap.size w W) := Lib.hid fun W hW => below_then HXB.out (below_then HYB.out hW)
  obtain ⟨k0, k1, k2, k3, k4, k5, k6⟩ := HA.out Y (Below.refl _ _)
  obtain ⟨q0, q1, q2, q3, q4, q5, q6⟩ := HQ.out Y (Below.refl _ _)
  obtain ⟨e1, e2, e3, e4, e5, e6, e7⟩ := pOf_eq hp
  have HC : Hid (Calls Try.prog 38 #[.slice a.sa a.sm a.sc, .slice b.sa b.sm b.sc] Y fun e w' => e = .returned (.bool true) ∧ Hid (Below Y.heap.size Y w')) := Lib.hid (by
    have hb := HW.out Y (Below.refl _ _)
    have := Goods.dsame a.sa a.sm a.sc a.s b.sa b.sm b.sc b.s Y h1 (s1.under hb) m1 h2 (s2.under hb) m2
    rw [decide_eq_true e4] at this
    exact this.mono fun _ _ ⟨e, h⟩ => ⟨e, Lib.hid h⟩)
  have d1 : (a.ot == b.ot) = true := by simpa using e1
  have d2 : (a.per == b.per) = true := by simpa using e2
  have d3 : (a.tm == b.tm) = true := by simpa using e3
  have d5 : (a.cp == b.cp) = true := by simpa using e5
  have d6 : (a.st == b.st) = true := by simpa using e6
  have d7 : (a.mo == b.mo) = true := by simpa using e7
  clear e1 e2 e3 e4 e5 e6 e7 hp h1 s1 m1 h2 s2 m2
  go_enter Try.func18, Try.ntmps18
  go_wp2_with fail
  clear hX hV hY hU
  refine HC.out.mono ?_
  rintro e w1 ⟨rfl, H1⟩
  obtain ⟨x0, x1, x2, x3, x4, x5, x6⟩ := HA.out w1 H1.out
  obtain ⟨z0, z1, z2, z3, z4, z5, z6⟩ := HQ.out w1 H1.out
  clear k0 k1 k2 k3 k4 k5 k6 q0 q1 q2 q3 q4 q5 q6
  go_wp2_with fail
  go_ret
  exact ⟨rfl, HW.out _ H1.out⟩
theorem neq_fees (f : Fee.FS) (W : World) : (binOp .neq 25 (Fee.FS.v f) (Fee.FS.v f)).run Try.prog W = .ok (.bool false) W := by
  rw [run_neq_struct]
  go_simp
theorem neq_bays (y : Ba) (W : World) : (binOp .neq 40 (baV y) (baV y)).run Try.prog W = .ok (.bool false) W := by
  rw [run_neq_struct]
  go_simp
open Classical in
set_option maxRecDepth 100000 in
set_option maxHeartbeats 8000000 in
theorem dsame (C D : CM) (w : World) (h1 : CatAt w C) (h2 : CatAt w D) (l1 : Lim C) (l2 : Lim D) (hp : C.p = D.p) :
    Calls Try.prog 23 #[C.v, D.v] w fun e w' => e = .returned (.bool true) ∧ Below w.heap.size w w' := by
  have hbn : C.bn = D.bn := by
    rw [← h1.1.1, ← h2.1.1]
    have := congrArg (fun x : Cat => x.bs.length) hp
    simpa [CM.p] using this
  have hyn : C.yn = D.yn := by
    rw [← h1.2.1, ← h2.2.1]
    have := congrArg (fun x : Cat => x.ys.length) hp
    simpa [CM.p] using this
  have HPB : Hid (∀ (i : Nat) (a b : Bl), C.bs[i]? = some a → D.bs[i]? = some b → pOf a = pOf b) := Lib.hid fun i a b ha hb => by
    have := congrArg (fun x : Cat => x.bs[i]?) hp
    simp [CM.p, ha, hb] at this
    exact this
  have HPY : Hid (C.ys = D.ys) := Lib.hid (congrArg (fun x : Cat => x.ys) hp)
  obtain ⟨e1, e2, e3, e4⟩ : C.ty = D.ty ∧ C.pl = D.pl ∧ C.ch = D.ch ∧ C.f = D.f := ⟨congrArg (fun x : Cat => x.ty) hp, congrArg (fun x : Cat => x.pl) hp, congrArg (fun x : Cat => x.ch) hp, congrArg (fun x : Cat => x.f) hp⟩
  have e5 := HPY.out
  obtain ⟨ty, ba, bn, bc, bs, pl, ya, yn, yc, ys, ch, f⟩ := D
  dsimp only at e1 e2 e3 e4 e5 hbn hyn HPB
  obtain rfl : ty = C.ty := e1.symm
  obtain rfl : pl = C.pl := e2.symm
  obtain rfl : ch = C.ch := e3.symm
  obtain rfl : f = C.f := e4.symm
  obtain rfl : ys = C.ys := e5.symm
  obtain rfl : bn = C.bn := hbn.symm
  obtain rfl : yn = C.yn := hyn.symm
  show Calls Try.prog 23 #[C.v, .agg #[.int .i64 C.ty, .slice ba C.bn bc, .int .i64 C.pl, .slice ya C.yn yc, .int .i64 C.ch, .int .i64 C.f.broker, .int .i64 C.f.least, .int .i64 C.f.sales]] w fun e w' => e = .returned (.bool true) ∧ Below w.heap.size w w'
  obtain ⟨V, X, hV, hX, HXB, HP⟩ := box_cat w C
  obtain ⟨U, Y, hU, hY, HYB, HQ0⟩ := box_cat X ⟨C.ty, ba, C.bn, bc, bs, C.pl, ya, C.yn, yc, C.ys, C.ch, C.f⟩
  dsimp only at hY
  have HQ : Hid (∀ W, Below Y.heap.size Y W → W.cell? ⟨U, 0, none⟩ = some (.int .i64 C.ty) ∧ W.cell? ⟨U, 1, none⟩ = some (.slice ba C.bn bc) ∧ W.cell? ⟨U, 2, none⟩ = some (.int .i64 C.pl) ∧ W.cell? ⟨U, 3, none⟩ = some (.slice ya C.yn yc) ∧ W.cell? ⟨U, 4, none⟩ = some (.int .i64 C.ch) ∧ W.cell? ⟨U, 5, none⟩ = some (.int .i64 C.f.broker) ∧ W.cell? ⟨U, 6, none⟩ = some (.int .i64 C.f.least) ∧ W.cell? ⟨U, 7, none⟩ = some (.int .i64 C.f.sales)) := HQ0
  have HA : Hid (∀ W, Below Y.heap.size Y W → CellsC W V C) := Lib.hid fun W hW => HP.out W (below_then HYB.out hW)
  have HW : Hid (∀ W, Below Y.heap.size Y W → Below w.heap.size w W) := Lib.hid fun W hW => below_then HXB.out (below_then HYB.out hW)
  have HB1 := blue_at (h1.under (HW.out Y (Below.refl _ _)))
  have HB2 := blue_at (C := ⟨C.ty, ba, C.bn, bc, bs, C.pl, ya, C.yn, yc, C.ys, C.ch, C.f⟩) (h2.under (HW.out Y (Below.refl _ _)))
  have HY1 := bay_at (h1.under (HW.out Y (Below.refl _ _)))
  have HY2 := bay_at (C := ⟨C.ty, ba, C.bn, bc, bs, C.pl, ya, C.yn, yc, C.ys, C.ch, C.f⟩) (h2.under (HW.out Y (Below.refl _ _)))
  have HL1 : Hid (∀ b ∈ C.bs, b.sm ≤ 12) := Lib.hid l1.1
  have HL2 : Hid (∀ b ∈ bs, b.sm ≤ 12) := Lib.hid l2.1
  obtain ⟨k0, k1, k2, k3, k4, k5, k6, k7⟩ := HA.out Y (Below.refl _ _)
  obtain ⟨q0, q1, q2, q3, q4, q5, q6, q7⟩ := HQ.out Y (Below.refl _ _)
  have hb1 : C.bn ≤ 20 := l1.2.1
  have hy1 : C.yn ≤ 12 := l1.2.2
  have hb2 : (C.bn : Int) ≤ 20 := by omega
  have hy2 : (C.yn : Int) ≤ 12 := by omega
  have hf : ∀ W, (binOp .neq 25 (.agg #[.int .i64 C.f.broker, .int .i64 C.f.least, .int .i64 C.f.sales]) (.agg #[.int .i64 C.f.broker, .int .i64 C.f.least, .int .i64 C.f.sales])).run Try.prog W = .ok (.bool false) W := fun W => neq_fees C.f W
  clear h1 h2 l1 l2 hp e1 e2 e3 e4 e5 hbn hyn HQ0
  go_enter Try.func23, Try.ntmps23
  go_wp2_with fail
  clear hX hV hY hU
  go_loopw [5] (fun s wr => ∃ i : Nat, s = .int .i64 i ∧ i ≤ C.bn ∧ Hid (Below Y.heap.size Y wr)) (fun s _ => C.bn - (RowKit.intOf s).toNat)
  case atStart => exact ⟨0, rfl, by omega, Lib.hid (Below.refl _ _)⟩
  case round =>
    clear k0 k1 k2 k3 k4 k5 k6 k7 q0 q1 q2 q3 q4 q5 q6 q7
    obtain ⟨i, rfl, hi, HB⟩ := hrel
    obtain ⟨W0, rfl⟩ : ∃ W0, W0 = wr := ⟨_, rfl⟩
    obtain ⟨k0, k1, k2, k3, k4, k5, k6, k7⟩ := HA.out W0 HB.out
    obtain ⟨q0, q1, q2, q3, q4, q5, q6, q7⟩ := HQ.out W0 HB.out
    have hi0 : (0 : Int) ≤ (i : Int) := by omega
    by_cases hlt : i < C.bn
    · have hlt2 : (i : Int) < (C.bn : Int) := by omega
      obtain ⟨g, off, a, hba, ht, x0, x1, x2, x3, x4, x5, x6⟩ := HB1.out W0 i HB.out hlt
      obtain ⟨g2, off2, b, hbb, hu, z0, z1, z2, z3, z4, z5, z6⟩ := HB2.out W0 i HB.out hlt
      rw [hba] at k1
      rw [hbb] at q1
      clear hbb hba
      have HC : Hid (∀ W, Below W0.heap.size W0 W → Calls Try.prog 18 #[blV a, blV b] W fun e w' => e = .returned (.bool true) ∧ Hid (Below Y.heap.size Y w')) := Lib.hid fun W hW => by
        have h1 := ht.out
        have h2 := hu.out
        have := dsblue a b W h1.2.1 (h1.2.2.under hW) (by have := HL1.out a (List.mem_of_getElem? h1.1); omega) h2.2.1 (h2.2.2.under hW) (by have := HL2.out b (List.mem_of_getElem? h2.1); omega) (HPB.out i a b h1.1 h2.1)
        exact this.mono fun _ _ ⟨e, h⟩ => ⟨e, Lib.hid (below_then (below_then HB.out hW) h)⟩
      go_wp2_with fail
      go_region_with (go_at_call 18; refine (HC.out _ (Below.refl _ _).drew).mono ?_; rintro e w2 ⟨rfl, H2⟩)
      all_goals
        go_wp2_with fail
        go_roundw
        case rel => exact ⟨i + 1, by go_num, by omega, H2⟩
        case measure => simp [RowKit.intOf]; omega
    · obtain rfl : i = C.bn := by omega
      go_wp2_with fail
      go_loopw [6] (fun s wr => ∃ j : Nat, s = .int .i64 j ∧ j ≤ C.yn ∧ Hid (Below Y.heap.size Y wr)) (fun s _ => C.yn - (RowKit.intOf s).toNat)
      case atStart => exact ⟨0, rfl, by omega, HB⟩
      case round =>
        clear k0 k1 k2 k3 k4 k5 k6 k7 q0 q1 q2 q3 q4 q5 q6 q7 HB
        obtain ⟨j, rfl, hj, HB⟩ := hrel
        obtain ⟨k0, k1, k2, k3, k4, k5, k6, k7⟩ := HA.out wr HB.out
        obtain ⟨q0, q1, q2, q3, q4, q5, q6, q7⟩ := HQ.out wr HB.out
        have hj0 : (0 : Int) ≤ (j : Int) := by omega
        by_cases hlt : j < C.yn
        · have hlt2 : (j : Int) < (C.yn : Int) := by omega
          obtain ⟨g, off, y, hya, ht, x0, x1, x2, x3⟩ := HY1.out wr j HB.out hlt
          obtain ⟨g2, off2, y2, hyb, hu, z0, z1, z2, z3⟩ := HY2.out wr j HB.out hlt
          have e := ht.out
          rw [hu.out] at e
          cases e
          rw [hya] at k3
          rw [hyb] at q3
          clear hyb hya
          have hrun : ∀ W, (binOp .neq 40 (.agg #[.int .i64 y.pl, .int .i64 y.mf, .int .i64 y.lb, .int .i64 y.rt]) (.agg #[.int .i64 y.pl, .int .i64 y.mf, .int .i64 y.lb, .int .i64 y.rt])).run Try.prog W = .ok (.bool false) W := neq_bays y
          go_wp2_with fail
          go_quiet (fail)
          go_wp2_with fail
          go_roundw
          case rel => exact ⟨j + 1, by go_num, by omega, Lib.hid (Graph.below_drewN HB.out _)⟩
          case measure => simp [RowKit.intOf]; omega
        · obtain rfl : j = C.yn := by omega
          go_wp2_with fail
          go_ret
          exact ⟨rfl, HW.out _ HB.out⟩
end Go.Proofs.Yteaclacbdelinaa.Cat
