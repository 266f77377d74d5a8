/- The document's Check. -/
import Derived.Test.YtdbhdlgoecpeaaaZGraphRows
import Derived.Test.YtdbhdlgoecpeaaaZGraphD
import Derived.BigRegion
import Derived.Deep.RegionWith
import Derived.Deep.RegionHeld3
namespace Go.Proofs.Ytdbhdlgoecpeaaa.Cat
open Go.RowKit Go.Lib IRows
open Goods (St Sts OwnS)
open Recipe (Bl BlIn blV)
open Graph (Nd Nds OwnN)

theorem stepD_length (x : Int) (D : List Int) (t : Nd) : (Graph.stepD x D t).length = D.length := by
  unfold Graph.stepD
  split <;> simp
theorem rowD_length (x : Int) : ∀ (l : List Nd) (D : List Int), (Graph.rowD x l D).length = D.length
  | [], _ => rfl
  | t :: l, D => by
    show (Graph.rowD x l (Graph.stepD x D t)).length = _
    rw [rowD_length x l, stepD_length]
theorem deepD_length (l : List Nd) : ∀ (o D : List Int), (Graph.deepD l o D).length = D.length
  | [], _ => rfl
  | x :: o, D => by
    show (Graph.deepD l o (Graph.rowD x l D)).length = _
    rw [deepD_length l o, rowD_length]
theorem degV_length {n : Int} {l : List Nd} : (Graph.degV n l).length ≤ n.toNat := by
  unfold Graph.degV
  split
  · rw [deepD_length]
    simp
  · simp
/-- A bay in a box of its own. -/
theorem box_bay (w : World) (y : Ba) : ∃ V X, w.heap.size = V ∧ w.alloc (.cells #[.int .i64 y.pl, .int .i64 y.mf, .int .i64 y.lb, .int .i64 y.rt] 48) = X ∧ Hid (Below w.heap.size w X) ∧ CellsY X V 0 y := by
  refine ⟨_, _, rfl, rfl, Lib.hid ((Below.refl _ w).alloc (Nat.le_refl _) _), ?_⟩
  have h1 := heap_alloc_new w (.cells #[.int .i64 y.pl, .int .i64 y.mf, .int .i64 y.lb, .int .i64 y.rt] 48)
  exact ⟨cell_block (j := 0) h1 rfl, cell_block (j := 1) h1 rfl, cell_block (j := 2) h1 rfl, cell_block (j := 3) h1 rfl⟩
open Classical in
set_option maxRecDepth 100000 in
set_option maxHeartbeats 16000000 in
theorem dcheck (C : CM) (w : World) (h : CatAt w C) (hl : Lim C) :
    Calls Try.prog 32 #[C.v] w fun e w' => e = .returned (.int .i64 (chkC C.p)) ∧ Below w.heap.size w w' := by
  have HPS : Hid (∀ b ∈ C.p.bs, ∃ x ∈ C.bs, b = pOf x) := Lib.hid fun b hb => by
    obtain ⟨x, hx, e⟩ := List.mem_map.1 hb
    exact ⟨x, hx, e.symm⟩
  have hlen : C.p.bs.length = C.bn := by unfold CM.p; rw [List.length_map]; exact h.1.1
  have hlen2 : C.p.ys.length = C.yn := h.2.1
  obtain ⟨V, X, hV, hX, HXB, HP⟩ := box_cat w C
  obtain ⟨k0, k1, k2, k3, k4, k5, k6, k7⟩ := HP.out X (Below.refl _ _)
  have HB := blue_at (h.under HXB.out)
  have HY := bay_at (h.under HXB.out)
  have HNE : Hid (∀ W, Below X.heap.size X W → Calls Try.prog 65 #[C.v] W fun e w' => ∃ a n c, e = .returned (.slice a n c) ∧ Hid (((ndL C.p.bs).length = n ∧ n ≤ 240 ∧ Nds w' a (ndL C.p.bs)) ∧ Below X.heap.size X w')) := Lib.hid fun W hW => by
    refine (dneeds C W ((h.under HXB.out).under hW) hl).mono ?_
    rintro e w' ⟨a, n, c, rfl, H⟩
    exact ⟨a, n, c, rfl, Lib.hid ⟨⟨H.out.1, H.out.2.1, (Graph.nds_own H.out.2.2.1).2⟩, below_then hW H.out.2.2.2⟩⟩
  have HSM : Hid (∀ b ∈ C.bs, b.sm ≤ 12) := Lib.hid hl.1
  have HL1 := Lib.hid h.1.1
  have HL2 := Lib.hid h.2.1
  have HNO : Hid (∀ W, Below X.heap.size X W → Below w.heap.size w W) := Lib.hid fun W hW => below_then HXB.out hW
  obtain ⟨t0, H0, E0⟩ := in_at C.ty 1 32
  obtain ⟨t1, H1, E1⟩ := in_at C.pl 1 8
  obtain ⟨t2, H2, E2⟩ := in_at C.ch 1 16
  have hb1 : C.bn ≤ 20 := hl.2.1
  have hy1 : C.yn ≤ 12 := hl.2.2
  clear h hl
  rcases t0 with _ | _
  · have hc : chkC C.p = 1 := chk_arg fun h => E0.out.2 rfl h.1.1
    rw [hc]
    clear hc
    go_enter Try.func32, Try.ntmps32
    go_wp2_with fail
    clear hX hV
    refine (H0.out _).mono ?_
    rintro e w' ⟨rfl, rfl⟩
    go_wp2_with fail
    go_ret
    exact ⟨rfl, HXB.out⟩
  rcases t1 with _ | _
  · have hc : chkC C.p = 1 := chk_arg fun h => E1.out.2 rfl h.1.2.1
    rw [hc]
    clear hc
    go_enter Try.func32, Try.ntmps32
    go_wp2_with fail
    clear hX hV
    refine (H0.out _).mono ?_
    rintro e w' ⟨rfl, rfl⟩
    go_wp2_with fail
    refine (H1.out _).mono ?_
    rintro e w' ⟨rfl, rfl⟩
    go_wp2_with fail
    go_ret
    exact ⟨rfl, HXB.out⟩
  rcases t2 with _ | _
  · have hc : chkC C.p = 1 := chk_arg fun h => E2.out.2 rfl h.1.2.2.1
    rw [hc]
    clear hc
    go_enter Try.func32, Try.ntmps32
    go_wp2_with fail
    clear hX hV
    refine (H0.out _).mono ?_
    rintro e w' ⟨rfl, rfl⟩
    go_wp2_with fail
    refine (H1.out _).mono ?_
    rintro e w' ⟨rfl, rfl⟩
    go_wp2_with fail
    refine (H2.out _).mono ?_
    rintro e w' ⟨rfl, rfl⟩
    go_wp2_with fail
    go_ret
    exact ⟨rfl, HXB.out⟩
  by_cases hb : 16 < C.bn
  · have hc : chkC C.p = 1 := chk_arg fun h => by have := h.1.2.2.2.1; rw [hlen] at this; omega
    have d1 : (16 : Int) < (C.bn : Int) := by omega
    have d2 : decide ((16 : Int) < (C.bn : Int)) = true := decide_eq_true d1
    rw [hc]
    clear hc
    go_enter Try.func32, Try.ntmps32
    go_wp2_with fail
    clear hX hV
    refine (H0.out _).mono ?_
    rintro e w' ⟨rfl, rfl⟩
    go_wp2_with fail
    refine (H1.out _).mono ?_
    rintro e w' ⟨rfl, rfl⟩
    go_wp2_with fail
    refine (H2.out _).mono ?_
    rintro e w' ⟨rfl, rfl⟩
    go_wp2_with fail
    go_ret
    exact ⟨rfl, HXB.out⟩
  have db : decide ((16 : Int) < (C.bn : Int)) = false := decide_eq_false (by omega)
  have db2 : ¬ 16 < C.bn := hb
  by_cases hy : 8 < C.yn
  · have hc : chkC C.p = 1 := chk_arg fun h => by have := h.1.2.2.2.2.1; rw [hlen2] at this; omega
    have d1 : (8 : Int) < (C.yn : Int) := by omega
    have d2 : decide ((8 : Int) < (C.yn : Int)) = true := decide_eq_true d1
    rw [hc]
    clear hc
    go_enter Try.func32, Try.ntmps32
    go_wp2_with fail
    clear hX hV
    refine (H0.out _).mono ?_
    rintro e w' ⟨rfl, rfl⟩
    go_wp2_with fail
    refine (H1.out _).mono ?_
    rintro e w' ⟨rfl, rfl⟩
    go_wp2_with fail
    refine (H2.out _).mono ?_
    rintro e w' ⟨rfl, rfl⟩
    go_wp2_with fail
    go_ret
    exact ⟨rfl, HXB.out⟩
  have dy : decide ((8 : Int) < (C.yn : Int)) = false := decide_eq_false (by omega)
  have dy2 : ¬ 8 < C.yn := hy
  by_cases hf : Fee.FeeOk C.f
  case neg =>
    have hc : chkC C.p = 1 := chk_arg fun h => hf h.1.2.2.2.2.2
    have HC : Hid (Calls Try.prog 62 #[.agg #[.int .i64 C.f.broker, .int .i64 C.f.least, .int .i64 C.f.sales]] X fun e w' => e = .returned (.int .i64 1) ∧ Hid (Below X.heap.size X w')) := Lib.hid (by
      have := Fee.dcheck C.f X
      rw [Fee.chkF_no hf] at this
      exact this.mono fun _ _ ⟨e, h⟩ => ⟨e, Lib.hid h⟩)
    rw [hc]
    clear hc hf
    go_enter Try.func32, Try.ntmps32
    go_wp2_with fail
    clear hX hV
    refine (H0.out _).mono ?_
    rintro e w' ⟨rfl, rfl⟩
    go_wp2_with fail
    refine (H1.out _).mono ?_
    rintro e w' ⟨rfl, rfl⟩
    go_wp2_with fail
    refine (H2.out _).mono ?_
    rintro e w' ⟨rfl, rfl⟩
    go_wp2_with fail
    refine HC.out.mono ?_
    rintro e w1 ⟨rfl, G1⟩
    go_wp2_with fail
    go_ret
    exact ⟨rfl, HNO.out _ G1.out⟩
  have HC : Hid (Calls Try.prog 62 #[.agg #[.int .i64 C.f.broker, .int .i64 C.f.least, .int .i64 C.f.sales]] X fun e w' => e = .returned (.int .i64 0) ∧ Hid (Below X.heap.size X w')) := Lib.hid (by
    have := Fee.dcheck C.f X
    rw [Fee.chkF_yes hf] at this
    exact this.mono fun _ _ ⟨e, h⟩ => ⟨e, Lib.hid h⟩)
  have HHEAD : Hid ((1 ≤ C.p.ty ∧ C.p.ty ≤ 32) ∧ (1 ≤ C.p.pl ∧ C.p.pl ≤ 8) ∧ (1 ≤ C.p.ch ∧ C.p.ch ≤ 16) ∧ C.p.bs.length ≤ 16 ∧ C.p.ys.length ≤ 8 ∧ Fee.FeeOk C.p.f) := Lib.hid ⟨E0.out.1 rfl, E1.out.1 rfl, E2.out.1 rfl, by rw [hlen]; omega, by rw [hlen2]; omega, hf⟩
  clear hlen hlen2
  have HCK : Hid (∀ (b : Bl) W z, Below X.heap.size X W → (b.s.length = b.sm ∧ Sts W b.sa b.s) → b.sm ≤ 12 → Recipe.chkB b C.ty = z → Calls Try.prog 63 #[.agg #[.int .i64 b.ot, .int .i64 b.per, .int .i64 b.tm, .slice b.sa b.sm b.sc, .int .i64 b.cp, .int .i64 b.st, .int .i64 b.mo], .int .i64 C.ty] W fun e w' => e = .returned (.int .i64 z) ∧ Hid (Below X.heap.size X w')) := Lib.hid fun b W z hW hs hm hz => by
    subst hz
    exact (Recipe.dcheck b C.ty W ⟨hs.1, hs.2, by omega⟩).mono fun _ _ ⟨e, h⟩ => ⟨e, Lib.hid (below_then hW h)⟩
  have hb2 : (C.bn : Int) ≤ 20 := by omega
  have hy2 : (C.yn : Int) ≤ 12 := by omega
  clear hf E0 E1 E2
  go_enter Try.func32, Try.ntmps32
  go_wp2_with fail
  clear hX hV
  refine (H0.out _).mono ?_
  rintro e w' ⟨rfl, rfl⟩
  go_wp2_with fail
  refine (H1.out _).mono ?_
  rintro e w' ⟨rfl, rfl⟩
  go_wp2_with fail
  refine (H2.out _).mono ?_
  rintro e w' ⟨rfl, rfl⟩
  go_wp2_with fail
  refine HC.out.mono ?_
  rintro e w1 ⟨rfl, G1⟩
  clear HC H0 H1 H2 k0 k1 k2 k3 k4 k5 k6 k7
  go_wp2_with fail
  go_loopw [3] (fun s wr => ∃ i : Nat, s = .int .i64 i ∧ i ≤ C.bn ∧ Hid (Below X.heap.size X wr) ∧ Hid (∀ b ∈ C.bs.take i, Recipe.BlOk b C.ty)) (fun s _ => C.bn - (RowKit.intOf s).toNat)
  case atStart => exact ⟨0, rfl, by omega, G1, Lib.hid (by simp)⟩
  case round =>
    obtain ⟨i, rfl, hi, HW, HI⟩ := hrel
    obtain ⟨W0, rfl⟩ : ∃ W0, W0 = wr := ⟨_, rfl⟩
    clear G1
    obtain ⟨k0, k1, k2, k3, k4, k5, k6, k7⟩ := HP.out W0 HW.out
    have hi0 : (0 : Int) ≤ (i : Int) := by omega
    by_cases hlt : i < C.bn
    · have hlt2 : (i : Int) < (C.bn : Int) := by omega
      obtain ⟨g, off, b, hba, ht, q0, q1, q2, q3, q4, q5, q6⟩ := HB.out W0 i HW.out hlt
      rw [hba] at k1
      clear hba
      have hsm := HSM.out b (List.mem_of_getElem? ht.out.1)
      have HCB : Hid (∀ z, Recipe.chkB b C.ty = z → Calls Try.prog 63 #[.agg #[.int .i64 b.ot, .int .i64 b.per, .int .i64 b.tm, .slice b.sa b.sm b.sc, .int .i64 b.cp, .int .i64 b.st, .int .i64 b.mo], .int .i64 C.ty] W0.drew fun e w' => e = .returned (.int .i64 z) ∧ Hid (Below X.heap.size X w')) := Lib.hid fun z hz => HCK.out b W0.drew z HW.out.drew ⟨ht.out.2.1, ht.out.2.2.under (Below.refl _ W0).drew⟩ hsm hz
      by_cases hbk : Recipe.BlOk b C.ty
      · have HC := Lib.hid (HCB.out 0 (Recipe.chkB_yes hbk))
        have HF : Hid (∀ x ∈ C.bs.take (i + 1), Recipe.BlOk x C.ty) := Lib.hid (fun x hx => by
          rcases (mem_take_succ ht.out.1).1 hx with hx | rfl
          · exact HI.out x hx
          · exact hbk)
        clear hbk hsm
        go_wp2_with fail
        go_region_with (go_at_call 63; refine HC.out.mono ?_; rintro e w2 ⟨rfl, G2⟩)
        all_goals
          go_wp2_with fail
          go_roundw
          case rel => exact ⟨i + 1, by go_num, by omega, G2, HF⟩
          case measure => simp [RowKit.intOf]; omega
      · have HC := Lib.hid (HCB.out 1 (Recipe.chkB_no hbk))
        have HF : Hid (chkC C.p = 1) := Lib.hid (chk_arg fun h => hbk ((ok_pOf b C.ty).1 (h.2.1 (pOf b) (List.mem_map.2 ⟨b, List.mem_of_getElem? ht.out.1, rfl⟩))))
        clear hbk hsm
        go_wp2_with fail
        go_region_with (go_at_call 63; refine HC.out.mono ?_; rintro e w2 ⟨rfl, G2⟩)
        all_goals
          go_wp2_with fail
          go_ret
          exact ⟨ret_i64 (by rw [HF.out]), HNO.out _ G2.out⟩
    · obtain rfl : i = C.bn := by omega
      have HBS : Hid (∀ b ∈ C.p.bs, Recipe.BlOk b.b C.p.ty) := Lib.hid (fun b hb => by
        obtain ⟨x, hx, rfl⟩ := HPS.out b hb
        have := HI.out
        rw [List.take_of_length_le (by rw [HL1.out]; exact Nat.le_refl _)] at this
        exact (ok_pOf x C.ty).2 (this x hx))
      clear HI
      go_wp2_with fail
      go_loopw [4] (fun s wr => ∃ j : Nat, s = .int .i64 j ∧ j ≤ C.yn ∧ Hid (Below X.heap.size X wr) ∧ Hid (∀ y ∈ C.ys.take j, BaOk C.pl y)) (fun s _ => C.yn - (RowKit.intOf s).toNat)
      case atStart => exact ⟨0, rfl, by omega, HW, Lib.hid (by simp)⟩
      case round =>
        clear HW k0 k1 k2 k3 k4 k5 k6 k7
        obtain ⟨j, rfl, hj, HW, HI⟩ := hrel
        obtain ⟨W1, rfl⟩ : ∃ W1, W1 = wr := ⟨_, rfl⟩
        obtain ⟨k0, k1, k2, k3, k4, k5, k6, k7⟩ := HP.out W1 HW.out
        have hj0 : (0 : Int) ≤ (j : Int) := by omega
        by_cases hlt : j < C.yn
        · have hlt2 : (j : Int) < (C.yn : Int) := by omega
          obtain ⟨g, off, y, hya, ht, q0, q1, q2, q3⟩ := HY.out W1 j HW.out hlt
          rw [hya] at k3
          clear hya
          obtain ⟨U, Z, hU, hZ, HZB, z0, z1, z2, z3⟩ := box_bay W1 y
          have HZX : Hid (Below X.heap.size X Z) := Lib.hid (below_then HW.out HZB.out)
          obtain ⟨y0, y1, y2, y3, y4, y5, y6, y7⟩ := HP.out Z HZX.out
          obtain ⟨t0, H0, E0⟩ := in_at y.pl 1 C.pl
          obtain ⟨t1, H1, E1⟩ := in_at y.mf 0 8
          obtain ⟨t2, H2, E2⟩ := in_at y.lb 0 8
          obtain ⟨t3, H3, E3⟩ := in_at y.rt 0 10000
          have HBAD : Hid (¬ BaOk C.pl y → chkC C.p = 1) := Lib.hid fun hn => chk_arg fun h => hn (h.2.2 y (List.mem_of_getElem? ht.out))
          rcases t0 with _ | _
          · have HF := Lib.hid (HBAD.out fun h => E0.out.2 rfl h.1)
            go_wp2_with fail
            clear hZ hU
            refine (H0.out _).mono ?_
            rintro e w' ⟨rfl, rfl⟩
            go_wp2_with fail
            go_ret
            exact ⟨ret_i64 (by rw [HF.out]), HNO.out _ HZX.out⟩
          rcases t1 with _ | _
          · have HF := Lib.hid (HBAD.out fun h => E1.out.2 rfl h.2.1)
            go_wp2_with fail
            clear hZ hU
            refine (H0.out _).mono ?_
            rintro e w' ⟨rfl, rfl⟩
            go_wp2_with fail
            refine (H1.out _).mono ?_
            rintro e w' ⟨rfl, rfl⟩
            go_wp2_with fail
            go_ret
            exact ⟨ret_i64 (by rw [HF.out]), HNO.out _ HZX.out⟩
          rcases t2 with _ | _
          · have HF := Lib.hid (HBAD.out fun h => E2.out.2 rfl h.2.2.1)
            go_wp2_with fail
            clear hZ hU
            refine (H0.out _).mono ?_
            rintro e w' ⟨rfl, rfl⟩
            go_wp2_with fail
            refine (H1.out _).mono ?_
            rintro e w' ⟨rfl, rfl⟩
            go_wp2_with fail
            refine (H2.out _).mono ?_
            rintro e w' ⟨rfl, rfl⟩
            go_wp2_with fail
            go_ret
            exact ⟨ret_i64 (by rw [HF.out]), HNO.out _ HZX.out⟩
          rcases t3 with _ | _
          · have HF := Lib.hid (HBAD.out fun h => E3.out.2 rfl h.2.2.2)
            go_wp2_with fail
            clear hZ hU
            refine (H0.out _).mono ?_
            rintro e w' ⟨rfl, rfl⟩
            go_wp2_with fail
            refine (H1.out _).mono ?_
            rintro e w' ⟨rfl, rfl⟩
            go_wp2_with fail
            refine (H2.out _).mono ?_
            rintro e w' ⟨rfl, rfl⟩
            go_wp2_with fail
            refine (H3.out _).mono ?_
            rintro e w' ⟨rfl, rfl⟩
            go_wp2_with fail
            go_ret
            exact ⟨ret_i64 (by rw [HF.out]), HNO.out _ HZX.out⟩
          have HF : Hid (∀ x ∈ C.ys.take (j + 1), BaOk C.pl x) := Lib.hid (fun x hx => by
            rcases (mem_take_succ ht.out).1 hx with hx | rfl
            · exact HI.out x hx
            · exact ⟨E0.out.1 rfl, E1.out.1 rfl, E2.out.1 rfl, E3.out.1 rfl⟩)
          go_wp2_with fail
          clear hZ hU
          refine (H0.out _).mono ?_
          rintro e w' ⟨rfl, rfl⟩
          go_wp2_with fail
          refine (H1.out _).mono ?_
          rintro e w' ⟨rfl, rfl⟩
          go_wp2_with fail
          refine (H2.out _).mono ?_
          rintro e w' ⟨rfl, rfl⟩
          go_wp2_with fail
          refine (H3.out _).mono ?_
          rintro e w' ⟨rfl, rfl⟩
          go_wp2_with fail
          go_roundw
          case rel => exact ⟨j + 1, by go_num, by omega, HZX, HF⟩
          case measure => simp [RowKit.intOf]; omega
        · obtain rfl : j = C.yn := by omega
          have HOK : Hid (CatOk C.p) := Lib.hid ⟨HHEAD.out, HBS.out, by
            have := HI.out
            rw [List.take_of_length_le (by rw [HL2.out]; exact Nat.le_refl _)] at this
            exact this⟩
          obtain ⟨NL, hNL⟩ : ∃ NL, ndL C.p.bs = NL := ⟨_, rfl⟩
          obtain ⟨er, her⟩ : ∃ er, Graph.ordE C.ty NL = er := ⟨_, rfl⟩
          obtain ⟨DL, hDL⟩ : ∃ DL, Graph.degV C.ty NL = DL := ⟨_, rfl⟩
          have HDE : Hid (∀ W a n c, Below X.heap.size X W → (NL.length = n ∧ n ≤ 240 ∧ Nds W a NL) → Calls Try.prog 64 #[.int .i64 C.ty, .slice a n c] W fun e w' => ∃ a' m' c', e = .returned (.tuple #[.slice a' m' c', .int .i64 er]) ∧ Hid ((DL.length = m' ∧ IRow w' a' DL) ∧ Below X.heap.size X w')) := Lib.hid fun W a n c hW hn => by
            have := Graph.ddeep C.ty a n c NL W hn.1 hn.2.2 (by omega)
            rw [her, hDL] at this
            refine this.mono ?_
            rintro e w' ⟨a', m', c', rfl, H⟩
            obtain ⟨a2, c2, e, hr⟩ := irow_own H.out.2.1
            injection e with e1 _ _
            subst e1
            exact ⟨_, m', c', rfl, Lib.hid ⟨⟨H.out.1, hr⟩, below_then hW H.out.2.2⟩⟩
          have HDLL : Hid (DL.length ≤ 32) := Lib.hid (by
            have h1 := degV_length (n := C.ty) (l := NL)
            have h2 : C.ty ≤ 32 := HHEAD.out.1.2
            rw [hDL] at h1
            omega)
          rw [hNL] at HNE
          have HER : Hid (¬ er = 0 → chkC C.p = er) := Lib.hid fun hn => by
            have := chk_err HOK.out (by rw [hNL]; show ¬ Graph.ordE C.ty NL = 0; rw [her]; exact hn)
            rw [hNL] at this
            rw [this]
            exact her
          have HEZ : Hid (er = 0 → ((∀ d ∈ DL, d ≤ 8) → chkC C.p = 0) ∧ (¬ (∀ d ∈ DL, d ≤ 8) → chkC C.p = 5)) := Lib.hid fun hz => by
            have e0 : Graph.ordE C.p.ty (ndL C.p.bs) = 0 := by rw [hNL]; show Graph.ordE C.ty NL = 0; rw [her]; exact hz
            have e1 : Graph.degV C.p.ty (ndL C.p.bs) = DL := by rw [hNL]; exact hDL
            exact ⟨fun ha => chk_fine HOK.out e0 (by rw [e1]; exact ha), fun ha => chk_over HOK.out e0 (by rw [e1]; exact ha)⟩
          clear HI hNL her hDL HBS HHEAD
          have HD0 : Hid (Below X.heap.size X W1.drew) := Lib.hid HW.out.drew
          by_cases he : er = 0
          case neg =>
            have n1 : (er == 0) = false := by simpa using he
            have n2 : (er != 0) = true := by simpa using he
            have HF := Lib.hid (HER.out he)
            go_wp2_with fail
            go_region_held3 (fun W => W.cell? ⟨V, 0, none⟩ = some (.int .i64 C.ty) ∧ W.cell? ⟨V, 1, none⟩ = some (.slice C.ba C.bn C.bc) ∧ W.cell? ⟨V, 2, none⟩ = some (.int .i64 C.pl) ∧ W.cell? ⟨V, 3, none⟩ = some (.slice C.ya C.yn C.yc) ∧ W.cell? ⟨V, 4, none⟩ = some (.int .i64 C.ch) ∧ W.cell? ⟨V, 5, none⟩ = some (.int .i64 C.f.broker) ∧ W.cell? ⟨V, 6, none⟩ = some (.int .i64 C.f.least) ∧ W.cell? ⟨V, 7, none⟩ = some (.int .i64 C.f.sales))
              (first | exact HP.out _ HD0.out | exact HP.out _ N6.out.2 | exact HP.out _ N7.out.2)
              (first
                | (go_at_call 65; refine (HNE.out _ HD0.out).mono ?_; rintro e w6 ⟨a6, n6, c6, rfl, N6⟩)
                | (go_at_call 64; refine (HDE.out _ _ _ _ N6.out.2 N6.out.1).mono ?_; rintro e w7 ⟨a7, n7, c7, rfl, N7⟩))
            all_goals
              go_wp2_with fail
              go_ret
              exact ⟨ret_i64 (by rw [HF.out]), HNO.out _ N7.out.2⟩
          subst he
          go_wp2_with fail
          go_region_held3 (fun W => W.cell? ⟨V, 0, none⟩ = some (.int .i64 C.ty) ∧ W.cell? ⟨V, 1, none⟩ = some (.slice C.ba C.bn C.bc) ∧ W.cell? ⟨V, 2, none⟩ = some (.int .i64 C.pl) ∧ W.cell? ⟨V, 3, none⟩ = some (.slice C.ya C.yn C.yc) ∧ W.cell? ⟨V, 4, none⟩ = some (.int .i64 C.ch) ∧ W.cell? ⟨V, 5, none⟩ = some (.int .i64 C.f.broker) ∧ W.cell? ⟨V, 6, none⟩ = some (.int .i64 C.f.least) ∧ W.cell? ⟨V, 7, none⟩ = some (.int .i64 C.f.sales))
            (first | exact HP.out _ HD0.out | exact HP.out _ N6.out.2 | exact HP.out _ N7.out.2)
            (first
              | (go_at_call 65; refine (HNE.out _ HD0.out).mono ?_; rintro e w6 ⟨a6, n6, c6, rfl, N6⟩)
              | (go_at_call 64; refine (HDE.out _ _ _ _ N6.out.2 N6.out.1).mono ?_; rintro e w7 ⟨a7, n7, c7, rfl, N7⟩))
          all_goals
            have hn7 : n7 ≤ 32 := by rw [← N7.out.1.1]; exact HDLL.out
            have hn7b : (n7 : Int) ≤ 32 := by omega
            have HT := irow_at N7.out.1.2
            go_wp2_with fail
            go_loopw [8] (fun s wr => ∃ i : Nat, s = .int .i64 i ∧ i ≤ n7 ∧ w7 = wr ∧ Hid (∀ d ∈ DL.take i, d ≤ 8)) (fun s _ => n7 - (RowKit.intOf s).toNat)
            case atStart => exact ⟨0, rfl, by omega, rfl, Lib.hid (by simp)⟩
            case round =>
              obtain ⟨i, rfl, hi, rfl, HI⟩ := hrel
              have hi0 : (0 : Int) ≤ (i : Int) := by omega
              by_cases hlt : i < n7
              · have hlt2 : (i : Int) < (n7 : Int) := by omega
                obtain ⟨g, off, d, rfl, ht, q0⟩ := HT.out w7 i (Below.refl _ _) (by rw [N7.out.1.1]; exact hlt)
                by_cases c1 : 8 < d
                · have d1 : decide (8 < d) = true := decide_eq_true c1
                  have HF := Lib.hid ((HEZ.out trivial).2 fun h => by have := h d (List.mem_of_getElem? ht.out); omega)
                  go_wp2_with fail
                  go_ret
                  exact ⟨ret_i64 (by rw [HF.out]), HNO.out _ N7.out.2⟩
                · have d1 : decide (8 < d) = false := decide_eq_false c1
                  have HF : Hid (∀ x ∈ DL.take (i + 1), x ≤ 8) := Lib.hid (fun x hx => by
                    rcases (mem_take_succ ht.out).1 hx with hx | rfl
                    · exact HI.out x hx
                    · omega)
                  go_wp2_with fail
                  go_roundw
                  case rel => exact ⟨i + 1, by go_num, by omega, by first | rfl | trivial, HF⟩
                  case measure => simp [RowKit.intOf]; omega
              · obtain rfl : i = n7 := by omega
                have HF := Lib.hid ((HEZ.out trivial).1 (by
                  have := HI.out
                  rw [List.take_of_length_le (by rw [N7.out.1.1]; exact Nat.le_refl _)] at this
                  exact this))
                go_wp2_with fail
                go_ret
                exact ⟨ret_i64 (by rw [HF.out]), HNO.out _ N7.out.2⟩
end Go.Proofs.Ytdbhdlgoecpeaaa.Cat
