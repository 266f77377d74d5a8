/- The program's Maker, Bay, Blue of a catalogue; IndexFunc and Clone as they call them. -/
import Derived.Test.YteaclacbdelinaaZCatImA
import Derived.Test.YteaclacbdelinaaZCatH
namespace Go.Proofs.Yteaclacbdelinaa.Cat.Im
open Go.RowKit Go.Lib
open Goods (St Sts OwnS)
open Recipe (Bl BlIn blV)

set_option maxRecDepth 100000 in
set_option maxHeartbeats 4000000 in
theorem bay_im (C : CM) (n : Int) (w : World) (h : CatAt w C) (hb : C.yn ≤ 4611686018427387904) :
    Calls Try.prog 12 #[C.v, .int .i64 n] w fun e w' => e = .returned (.tuple #[baV (bayV C.p n), .int .i64 (bayE C.p n)]) ∧ Below w.heap.size w w' := by
  obtain ⟨V, X, hV, hX, HXB, HP⟩ := box_cat w C
  obtain ⟨G, hG⟩ : ∃ G, X.heap.size = G := ⟨_, rfl⟩
  obtain ⟨Z, hZ⟩ : ∃ Z, X.alloc (.cells #[.int .i64 0, .int .i64 0, .int .i64 0, .int .i64 0] 40) = Z := ⟨_, rfl⟩
  have HZB : Hid (Below X.heap.size X Z) := Lib.hid (by rw [← hZ]; exact (Below.refl _ X).alloc (Nat.le_refl _) _)
  have hGZ : Z.heap[G]? = some (.cells #[.int .i64 0, .int .i64 0, .int .i64 0, .int .i64 0] 40 (0, 0)) := by rw [← hZ, ← hG]; exact heap_alloc_new X _
  obtain ⟨k0, k1, k2, k3, k4, k5, k6, k7⟩ := HP.out Z HZB.out
  have c0 := cell_block (j := 0) hGZ rfl
  have c1 := cell_block (j := 1) hGZ rfl
  have c2 := cell_block (j := 2) hGZ rfl
  have c3 := cell_block (j := 3) hGZ rfl
  have f0 := free_block 0 hGZ
  have f1 := free_block 1 hGZ
  have f2 := free_block 2 hGZ
  have f3 := free_block 3 hGZ
  have HGZ := Lib.hid hGZ
  have HWG : Hid (w.heap.size ≤ G) := Lib.hid (by rw [← hG]; exact HXB.out.size)
  have HEND : Hid (∀ x0 x1 x2 x3, Below w.heap.size w ((((Z.setCell ⟨G, 0, none⟩ x0).setCell ⟨G, 1, none⟩ x1).setCell ⟨G, 2, none⟩ x2).setCell ⟨G, 3, none⟩ x3)) := Lib.hid (fun x0 x1 x2 x3 =>
    below_of_only (below_then HXB.out HZB.out) HWG.out (only_setCell (only_setCell (only_setCell (only_setCell (only_refl Z (some G)) 0 x0) 1 x1) 2 x2) 3 x3))
  have hb1 : (C.yn : Int) ≤ 4611686018427387904 := by omega
  have hlen : C.p.ys.length = C.yn := h.2.1
  by_cases hin : 1 ≤ n ∧ n ≤ (C.yn : Int)
  case neg =>
    obtain ⟨e1, e2⟩ := bay_no (C := C.p) (n := n) (by rw [hlen]; exact hin)
    have HN := Lib.hid (fun W => in_no n 1 (C.yn : Int) W (by omega))
    rw [e1, e2]
    clear e1 e2 hb h hin hlen hGZ
    go_enter Try.func12, Try.ntmps12
    go_wp2_with fail
    clear hX hV hZ hG
    refine (HN.out _).mono ?_
    rintro e w' ⟨rfl, rfl⟩
    go_wp2_with fail
    exact ret_ba2 rfl rfl rfl rfl (ba_set HGZ.out) ⟨rfl, HEND.out _ _ _ _⟩
  obtain ⟨i, hi⟩ := Int.eq_ofNat_of_zero_le (show 0 ≤ n - 1 by omega)
  obtain rfl : n = (i : Int) + 1 := by omega
  have hilt : i < C.yn := by omega
  have HI := Lib.hid (fun W => in_yes ((i : Int) + 1) 1 (C.yn : Int) W hin.1 hin.2)
  obtain ⟨g, off, b, hba, ht, q0, q1, q2, q3⟩ := (bay_at ((h.under HXB.out).under HZB.out)).out Z i (Below.refl _ _) hilt
  obtain ⟨e1, e2⟩ := bay_yes (C := C.p) (i := i) (b := b) ht.out
  rw [hba] at k3 hX
  have wi : IntKind.i64.wrap ((i : Int) + 1 - 1) = (i : Int) := by rw [show (i : Int) + 1 - 1 = (i : Int) by omega]; exact IntWalk.i64_in _ (by omega)
  have hi0 : (0 : Int) ≤ (i : Int) := by omega
  have hi1 : (i : Int) < (C.yn : Int) := by omega
  rw [e1, e2]
  clear e1 e2 hb h hin hlen hGZ hi
  go_enter Try.func12, Try.ntmps12
  go_wp2_with fail
  clear hX hV hZ hG
  refine (HI.out _).mono ?_
  rintro e w' ⟨rfl, rfl⟩
  go_wp2_with fail
  exact ret_ba2 rfl rfl rfl rfl (ba_set HGZ.out) ⟨rfl, HEND.out _ _ _ _⟩
/-! Maker -/
theorem mkr_bd (k : Int) : ∀ (l : List PB) (i : Int), 0 ≤ i → 0 ≤ mkr k l i ∧ mkr k l i ≤ i + l.length
  | [], i, h => by
    show 0 ≤ (0 : Int) ∧ (0 : Int) ≤ i + (0 : Nat)
    omega
  | b :: l, i, h => by
    have ih := mkr_bd k l (i + 1) (by omega)
    show 0 ≤ (if b.ot = k then i + 1 else mkr k l (i + 1)) ∧ (if b.ot = k then i + 1 else mkr k l (i + 1)) ≤ i + ((l.length + 1 : Nat) : Int)
    split <;> omega
set_option maxRecDepth 100000 in
set_option maxHeartbeats 2000000 in
theorem makes_im (b : Bl) (k : Int) (P : Nat) (w : World) (q : Bool) (hq : (b.ot == k) = q) (hP : w.cell? ⟨P, 0, none⟩ = some (.int .i64 k)) (hlt : P < w.heap.size) :
    Calls Try.prog 37 #[blV b, .pointer (some ⟨P, 0, none⟩)] w fun e w' => e = .returned (.bool q) ∧ Hid (Below w.heap.size w w') := by
  obtain ⟨U, Y, hU, hY, HY⟩ := box_bl w b
  obtain ⟨y0, y1, y2, y3, y4, y5, y6⟩ := cellsU HY.out.2
  have p0 := ((bcell HY.out.1).1 P 0 hlt).trans hP
  clear hP hlt
  go_enter Try.func37, Try.ntmps37
  go_wp2_with fail
  go_ret
  exact ⟨rfl, Lib.hid HY.out.1⟩
set_option maxRecDepth 100000 in
set_option maxHeartbeats 4000000 in
theorem index_im (C : CM) (k : Int) (P : Nat) (w : World) (h : CatAt w C) (hb : C.bn ≤ 4611686018427387904) (hP : w.cell? ⟨P, 0, none⟩ = some (.int .i64 k)) (hlt : P < w.heap.size) (z : Int) (hz : mkr k C.p.bs 0 - 1 = z) :
    Calls Try.prog 36 #[.slice C.ba C.bn C.bc, .func (.func 37) #[] #[.pointer (some ⟨P, 0, none⟩)]] w fun e w' => e = .returned (.int .i64 z) ∧ Hid (Below w.heap.size w w') := by
  have HB := blue_at h
  have HL := Lib.hid h.1.1
  have hb1 : (C.bn : Int) ≤ 4611686018427387904 := by omega
  have HPP : Hid (∀ W, Below w.heap.size w W → W.cell? ⟨P, 0, none⟩ = some (.int .i64 k) ∧ P < W.heap.size) := Lib.hid fun W hW => ⟨((bcell hW).1 P 0 hlt).trans hP, Nat.lt_of_lt_of_le hlt hW.size⟩
  have HZ := Lib.hid hz
  clear h hb hP hlt hz
  go_enter Try.func36, Try.ntmps36
  go_wp2_with fail
  go_loopw [8] (fun s wr => ∃ i : Nat, s = .int .i64 i ∧ i ≤ C.bn ∧ Hid (Below w.heap.size w wr) ∧ Hid (mkr k (C.p.bs.drop i) i = mkr k C.p.bs 0)) (fun s _ => C.bn - (RowKit.intOf s).toNat)
  case atStart => exact ⟨0, rfl, by omega, Lib.hid (Below.refl _ _), Lib.hid rfl⟩
  case round =>
    obtain ⟨i, rfl, hi, HW, HI⟩ := hrel
    have hi0 : (0 : Int) ≤ (i : Int) := by omega
    by_cases hlt : i < C.bn
    · have hlt2 : (i : Int) < (C.bn : Int) := by omega
      obtain ⟨g, off, b, hba, ht, q0, q1, q2, q3, q4, q5, q6⟩ := HB.out wr i HW.out hlt
      have hp : C.p.bs[i]? = some (pOf b) := by unfold CM.p; simp [ht.out.1]
      have HM := Lib.hid (mkr_drop (k := k) hp)
      clear hp
      have wi : IntKind.i64.wrap ((i : Int) + 1) = (i : Int) + 1 := IntWalk.i64_in _ (by omega)
      have HPW := Lib.hid (HPP.out wr HW.out)
      rw [hba]
      clear hba
      by_cases c1 : b.ot = k
      · have HC := Lib.hid (makes_im b k P wr true (by simpa using c1) HPW.out.1 HPW.out.2)
        have HF : Hid ((i : Int) = z) := Lib.hid (by
          have h1 := HM.out
          rw [HI.out, if_pos (by exact c1)] at h1
          rw [← HZ.out, h1]
          omega)
        clear c1
        go_wp2_with fail
        refine HC.out.mono ?_
        rintro e w2 ⟨rfl, H2⟩
        go_wp2_with fail
        go_ret
        exact ⟨ret_i64 HF.out, Lib.hid (below_then HW.out H2.out)⟩
      · have HC := Lib.hid (makes_im b k P wr false (by simpa using c1) HPW.out.1 HPW.out.2)
        have HF : Hid (mkr k (C.p.bs.drop (i + 1)) ((i + 1 : Nat) : Int) = mkr k C.p.bs 0) := Lib.hid (by rw [← HI.out, HM.out, if_neg (by exact c1)])
        clear c1
        go_wp2_with fail
        refine HC.out.mono ?_
        rintro e w2 ⟨rfl, H2⟩
        have HW2 := Lib.hid (below_then HW.out H2.out)
        go_wp2_with fail
        go_roundw
        case rel => exact ⟨i + 1, by go_num, by omega, HW2, HF⟩
        case measure => simp [RowKit.intOf]; omega
    · obtain rfl : i = C.bn := by omega
      have HF : Hid (-1 = z) := Lib.hid (by
        rw [← HZ.out, ← HI.out, List.drop_eq_nil_of_le (by unfold CM.p; rw [List.length_map, HL.out]; exact Nat.le_refl _)]
        rfl)
      go_wp2_with fail
      go_ret
      exact ⟨ret_i64 HF.out, HW⟩
set_option maxRecDepth 100000 in
set_option maxHeartbeats 2000000 in
theorem maker_im (C : CM) (k : Int) (w : World) (h : CatAt w C) (hb : C.bn ≤ 4611686018427387904) :
    Calls Try.prog 16 #[C.v, .int .i64 k] w fun e w' => e = .returned (.int .i64 (mkr k C.p.bs 0)) ∧ Below w.heap.size w w' := by
  obtain ⟨V, X, hV, hX, HXB, HP⟩ := box_cat w C
  obtain ⟨Q, Y, hQ, hY, HY⟩ : ∃ Q Y, X.heap.size = Q ∧ X.alloc (.cells #[.int .i64 k] 3) = Y ∧ Hid (Below X.heap.size X Y ∧ Y.cell? ⟨Q, 0, none⟩ = some (.int .i64 k) ∧ Q < Y.heap.size) := by
    have h0 := heap_alloc_new X (.cells #[.int .i64 k] 3)
    exact ⟨_, _, rfl, rfl, Lib.hid ⟨(Below.refl _ _).alloc (Nat.le_refl _) _, cell_block (j := 0) h0 rfl, (Array.getElem?_eq_some_iff.1 h0).1⟩⟩
  obtain ⟨k0, k1, k2, k3, k4, k5, k6, k7⟩ := HP.out Y HY.out.1
  obtain ⟨z, hz⟩ : ∃ z, mkr k C.p.bs 0 - 1 = z := ⟨_, rfl⟩
  have hbd := mkr_bd k C.p.bs 0 (by omega)
  have hlen : C.p.bs.length = C.bn := by unfold CM.p; rw [List.length_map]; exact h.1.1
  have wz : IntKind.i64.wrap (1 + z) = 1 + z := IntWalk.i64_in _ (by omega)
  have HE : Hid (1 + z = mkr k C.p.bs 0) := Lib.hid (by omega)
  have HC := Lib.hid (index_im C k Q Y ((h.under HXB.out).under HY.out.1) hb HY.out.2.1 HY.out.2.2 z hz)
  clear h hb hz hbd hlen
  go_enter Try.func16, Try.ntmps16
  go_wp2_with fail
  clear hX hV hQ hY
  refine HC.out.mono ?_
  rintro e w2 ⟨rfl, H2⟩
  go_wp2_with fail
  go_ret
  exact ⟨ret_i64 HE.out, below_then HXB.out (below_then HY.out.1 H2.out)⟩
/-! Clone -/
theorem src_st {w : World} {a : Option Addr} {l : List St} (h : Sts w a l) : ∀ j u, (Goods.scells l)[j]? = some u → ∃ ad, a = some ad ∧ w.cell? (ad.add j) = some u := fun j u hj => by
  have hlt := (List.getElem?_eq_some_iff.1 hj).1
  rw [Goods.scells_length] at hlt
  have hi : j / 2 < l.length := by omega
  obtain ⟨g, off, e, _, k0, k1⟩ := h (j / 2) l[j / 2] (List.getElem?_eq_getElem hi)
  refine ⟨_, e, ?_⟩
  rw [Goods.addr_add]
  have hc := Goods.scells_at l (j / 2) l[j / 2] (List.getElem?_eq_getElem hi)
  rcases Nat.mod_two_eq_zero_or_one j with h2 | h2
  · have e2 : j / 2 * 2 + 0 = j := by omega
    have := hc 0 _ rfl
    rw [e2, hj] at this
    injection this with this
    rw [this, show off + j = off + j / 2 * 2 by omega]
    exact k0
  · have e2 : j / 2 * 2 + 1 = j := by omega
    have := hc 1 _ rfl
    rw [e2, hj] at this
    injection this with this
    rw [this, show off + j = off + j / 2 * 2 + 1 by omega]
    exact k1
set_option maxRecDepth 100000 in
set_option maxHeartbeats 2000000 in
theorem clone_im (a : Option Addr) (n c : Nat) (l : List St) (w : World) (hl : l.length = n) (hs : Sts w a l) (hn : n ≤ 1048576) :
    Calls Try.prog 26 #[.slice a n c] w fun e w' => ∃ a' c', e = .returned (.slice a' n c') ∧ Hid (OwnS w' w.heap.size (.slice a' n c') l ∧ Below w.heap.size w w') := by
  cases a with
  | none =>
    have hl1 : l = [] := by
      cases l with
      | nil => rfl
      | cons t l =>
        obtain ⟨g, off, e, _⟩ := hs 0 t rfl
        cases e
    subst hl1
    have hn0 : n = 0 := by rw [← hl]; rfl
    subst hn0
    have hq : ∀ W, (binOp .eql 33 (.slice none 0 c) (.slice none 0 0)).run Try.prog W = .ok (.bool true) W := fun W => Lib.run_eql_slice_nil W _ _ none 0 c 0 0 Try.underlying33
    clear hs hl hn
    go_enter Try.func26, Try.ntmps26
    go_wp2_with fail
    go_ret
    exact ⟨none, 0, rfl, Lib.hid ⟨World.ownsRow_nil _ _ _ _, Below.refl _ _⟩⟩
  | some ad =>
    have hal := (Below.refl w.heap.size w).alloc (Nat.le_refl _) (.cells #[] 54)
    have h0 : OwnS (w.alloc (.cells #[] 54)) w.heap.size (.slice (some ⟨w.heap.size, 0, none⟩) 0 0) [] := World.ownsRow_lit w #[] 0 (Nat.le_refl _) (by unfold maxLen; omega) rfl
    obtain ⟨v', w', hr, h2, hb⟩ := Goods.app_st _ w.heap.size (.slice (some ⟨w.heap.size, 0, none⟩) 0 0) [] l h0 (some ad) l.length c rfl (src_st (hs.under hal)) (by simp; omega) hal.size
    rw [List.nil_append] at h2
    obtain ⟨a2, c2, rfl, hst⟩ := Goods.sts_own h2
    have HR := Lib.hid hr
    have HO : Hid (OwnS w' w.heap.size (.slice a2 l.length c2) l ∧ Below w.heap.size w w') := Lib.hid ⟨h2, hal.trans hb⟩
    have hq : ∀ W, (binOp .eql 33 (.slice (some ad) n c) (.slice none 0 0)).run Try.prog W = .ok (.bool false) W := fun W => Lib.run_eql_slice_nil W _ _ (some ad) n c 0 0 Try.underlying33
    rw [hl] at HR HO
    clear h0 hr h2 hb hal hn hl hs hst
    go_enter Try.func26, Try.ntmps26
    go_wp2_with (at_builtin; refine walk_run rfl _ _ _ _ rfl _ _ rfl rfl HR.out ?_)
    go_ret
    exact ⟨_, _, rfl, HO⟩
set_option maxRecDepth 100000 in
set_option maxHeartbeats 4000000 in
theorem blue_im (C : CM) (n : Int) (w : World) (h : CatAt w C) (hl : Lim C) :
    Calls Try.prog 10 #[C.v, .int .i64 n] w fun e w' => ∃ b : Bl, e = .returned (.tuple #[blV b, .int .i64 (bluE C.p n)]) ∧ Hid (pOf b = bluV C.p n ∧ b.s.length = b.sm ∧ Sts w' b.sa b.s ∧ Below w.heap.size w w') := by
  have hbn := hl.2.1
  obtain ⟨V, X, hV, hX, HXB, HP⟩ := box_cat w C
  obtain ⟨G, hG⟩ : ∃ G, X.heap.size = G := ⟨_, rfl⟩
  obtain ⟨Z, hZ⟩ : ∃ Z, X.alloc (.cells #[.int .i64 0, .int .i64 0, .int .i64 0, .slice none 0 0, .int .i64 0, .int .i64 0, .int .i64 0] 35) = Z := ⟨_, rfl⟩
  have HZB : Hid (Below X.heap.size X Z) := Lib.hid (by rw [← hZ]; exact (Below.refl _ X).alloc (Nat.le_refl _) _)
  have hGZ : Z.heap[G]? = some (.cells #[.int .i64 0, .int .i64 0, .int .i64 0, .slice none 0 0, .int .i64 0, .int .i64 0, .int .i64 0] 35 (0, 0)) := by rw [← hZ, ← hG]; exact heap_alloc_new X _
  obtain ⟨k0, k1, k2, k3, k4, k5, k6, k7⟩ := HP.out Z HZB.out
  have HGZ := Lib.hid hGZ
  have HWG : Hid (w.heap.size ≤ G) := Lib.hid (by rw [← hG]; exact HXB.out.size)
  have HWZ : Hid (Below w.heap.size w Z) := Lib.hid (below_then HXB.out HZB.out)
  have HEND : Hid (∀ (W : World) (b : Bl) x0 x1 x2 x3 x4 x5 x6, Below w.heap.size w W → pOf b = bluV C.p n → b.s.length = b.sm → (∀ W', W.grownBy W' (some G) → Sts W' b.sa b.s) → pOf b = bluV C.p n ∧ b.s.length = b.sm ∧ Sts (((((((W.setCell ⟨G, 0, none⟩ x0).setCell ⟨G, 1, none⟩ x1).setCell ⟨G, 2, none⟩ x2).setCell ⟨G, 3, none⟩ x3).setCell ⟨G, 4, none⟩ x4).setCell ⟨G, 5, none⟩ x5).setCell ⟨G, 6, none⟩ x6) b.sa b.s ∧ Below w.heap.size w (((((((W.setCell ⟨G, 0, none⟩ x0).setCell ⟨G, 1, none⟩ x1).setCell ⟨G, 2, none⟩ x2).setCell ⟨G, 3, none⟩ x3).setCell ⟨G, 4, none⟩ x4).setCell ⟨G, 5, none⟩ x5).setCell ⟨G, 6, none⟩ x6)) := Lib.hid (fun W b x0 x1 x2 x3 x4 x5 x6 hW hp hm hs => by
    have hg := only_setCell (only_setCell (only_setCell (only_setCell (only_setCell (only_setCell (only_setCell (only_refl W (some G)) 0 x0) 1 x1) 2 x2) 3 x3) 4 x4) 5 x5) 6 x6
    exact ⟨hp, hm, hs _ hg, below_of_only hW HWG.out hg⟩)
  have hb1 : (C.bn : Int) ≤ 20 := by omega
  have hlen : C.p.bs.length = C.bn := by unfold CM.p; rw [List.length_map]; exact h.1.1
  by_cases hin : 1 ≤ n ∧ n ≤ (C.bn : Int)
  case neg =>
    obtain ⟨e1, e2⟩ := blu_no (C := C.p) (n := n) (by rw [hlen]; exact hin)
    have HN := Lib.hid (fun W => in_no n 1 (C.bn : Int) W (by omega))
    have HE2 := Lib.hid e2
    obtain ⟨⟨c0, c1, c2, c3, c4, c5, c6⟩, f0, f1, f2, f3, f4, f5, f6⟩ := blk7 hGZ
    rw [e1]
    clear e1 e2 h hl hin hlen hGZ
    go_enter Try.func10, Try.ntmps10
    go_wp2_with fail
    clear hX hV hZ hG
    refine (HN.out _).mono ?_
    rintro e w' ⟨rfl, rfl⟩
    go_wp2_with fail
    exact ret_bl2 rfl rfl rfl rfl (bl_set HGZ.out) ⟨zBl, rfl, Lib.hid (HEND.out _ zBl _ _ _ _ _ _ _ HWZ.out (by rw [HE2.out]; rfl) rfl (fun _ _ i t hi => by simp [zBl] at hi))⟩
  obtain ⟨i, hi⟩ := Int.eq_ofNat_of_zero_le (show 0 ≤ n - 1 by omega)
  obtain rfl : n = (i : Int) + 1 := by omega
  have hilt : i < C.bn := by omega
  have HI := Lib.hid (fun W => in_yes ((i : Int) + 1) 1 (C.bn : Int) W hin.1 hin.2)
  obtain ⟨g, off, b, hba, ht, q0, q1, q2, q3, q4, q5, q6⟩ := (blue_at ((h.under HXB.out).under HZB.out)).out Z i (Below.refl _ _) hilt
  obtain ⟨e1, e2⟩ := blu_yes (C := C.p) (i := i) (b := pOf b) (by unfold CM.p; simp [ht.out.1])
  have HE2 := Lib.hid e2
  rw [hba] at k1 hX
  have wi : IntKind.i64.wrap ((i : Int) + 1 - 1) = (i : Int) := by rw [show (i : Int) + 1 - 1 = (i : Int) by omega]; exact IntWalk.i64_in _ (by omega)
  have hi0 : (0 : Int) ≤ (i : Int) := by omega
  have hi1 : (i : Int) < (C.bn : Int) := by omega
  obtain ⟨U, Y, hU, hY, HY⟩ := box_bl Z b
  obtain ⟨⟨y0, y1, y2, y3, y4, y5, y6⟩, _⟩ := blk7 HY.out.2
  have HU : Hid (G < U ∧ U < Y.heap.size) := Lib.hid ⟨by rw [← hU]; exact (Array.getElem?_eq_some_iff.1 hGZ).1, (Array.getElem?_eq_some_iff.1 HY.out.2).1⟩
  have HCL := Lib.hid (clone_im b.sa b.sm b.sc b.s Y ht.out.2.1 (ht.out.2.2.under HY.out.1) (by have := hl.1 b (List.mem_of_getElem? ht.out.1); omega))
  rw [e1]
  clear e1 e2 h hl hin hlen hGZ hi
  go_enter Try.func10, Try.ntmps10
  go_wp2_with fail
  clear hX hV hZ hG
  refine (HI.out _).mono ?_
  rintro e w' ⟨rfl, rfl⟩
  go_wp2_with fail
  clear hU hY q0 q1 q2 q3 q4 q5 q6 k0 k1 k2 k3 k4 k5 k6 k7 y0 y1 y2 y3 y4 y5 y6
  refine HCL.out.mono ?_
  rintro e w2 ⟨a2, c2, rfl, H2⟩
  have HU2 : Hid (w2.heap[U]? = some (.cells (bArr b) 35 (0, 0))) := Lib.hid (block_at HY.out.2 H2.out.2)
  obtain ⟨⟨y0, y1, y2, y3, y4, y5, y6⟩, e0, e1, e2, e3, e4, e5, e6⟩ := blk7 HU2.out
  obtain ⟨W3, hW3⟩ : ∃ W, w2.setCell ⟨U, 3, none⟩ (.slice a2 b.sm c2) = W := ⟨_, rfl⟩
  have hu3 : W3.heap[U]? = some (.cells #[.int .i64 b.ot, .int .i64 b.per, .int .i64 b.tm, .slice a2 b.sm c2, .int .i64 b.cp, .int .i64 b.st, .int .i64 b.mo] 35 (0, 0)) := by
    rw [← hW3]
    exact heap_setCell_same w2 U 3 _ _ _ HU2.out
  have HGR : Hid (w2.grownBy W3 (some U)) := Lib.hid (by rw [← hW3]; exact only_setCell (only_refl w2 (some U)) 3 _)
  have HUG : Hid (G < U ∧ U < Y.heap.size) := Lib.hid HU.out
  have HG3 : Hid (W3.heap[G]? = some (.cells #[.int .i64 0, .int .i64 0, .int .i64 0, .slice none 0 0, .int .i64 0, .int .i64 0, .int .i64 0] 35 (0, 0))) := Lib.hid (grown_block HGR.out (block_at (block_at HGZ.out HY.out.1) H2.out.2) (fun e => by injection e with e; have := HUG.out; omega))
  obtain ⟨⟨x0, x1, x2, x3, x4, x5, x6⟩, _⟩ := blk7 hu3
  obtain ⟨⟨c0, c1, c2', c3, c4, c5, c6⟩, f0, f1, f2, f3, f4, f5, f6⟩ := blk7 HG3.out
  clear hu3
  go_wp2_with fail
  clear hW3
  exact ret_bl2 rfl rfl rfl rfl (bl_set HG3.out) ⟨⟨b.ot, b.per, b.tm, a2, b.sm, c2, b.s, b.cp, b.st, b.mo⟩, rfl, Lib.hid (HEND.out W3 ⟨b.ot, b.per, b.tm, a2, b.sm, c2, b.s, b.cp, b.st, b.mo⟩ _ _ _ _ _ _ _ (below_of_only (below_then (below_then HWZ.out HY.out.1) H2.out.2) (by have := HUG.out; have := HWG.out; omega) HGR.out) HE2.out.symm ht.out.2.1 (fun W' hg => by
    have := HUG.out
    obtain ⟨a4, c4, e4, h4⟩ := Goods.sts_own (own_past (own_past H2.out.1 HGR.out (by omega)) hg (by omega))
    injection e4 with e4 _ _
    subst e4
    exact h4))⟩
end Go.Proofs.Yteaclacbdelinaa.Cat.Im
