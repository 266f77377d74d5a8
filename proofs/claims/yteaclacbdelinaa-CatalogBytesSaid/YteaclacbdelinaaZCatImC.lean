/- The program's Check of a catalogue: numbers, blueprints, bays, and how deep types stand. -/
import Derived.Test.YteaclacbdelinaaZCatImB
import Derived.Test.YteaclacbdelinaaZRecImCk
import Derived.Test.YteaclacbdelinaaZFeeImCk
import Derived.Test.YteaclacbdelinaaZGraphImG
namespace Go.Proofs.Yteaclacbdelinaa.Cat.Im
open Go.RowKit Go.Lib
open Goods (St Sts OwnS)
open Recipe (Bl BlIn blV)
open Graph (Nd Nds OwnN)

def NumOk (C : CM) : Prop := (1 ≤ C.ty ∧ C.ty ≤ 32) ∧ (1 ≤ C.pl ∧ C.pl ≤ 8) ∧ (1 ≤ C.ch ∧ C.ch ≤ 16) ∧ C.bn ≤ 16 ∧ C.yn ≤ 8
set_option maxRecDepth 100000 in
set_option maxHeartbeats 4000000 in
theorem nums_im (C : CM) (hb : C.bn ≤ 20) (hy : C.yn ≤ 12) : ∃ t : Bool, Hid (∀ w, Calls Try.prog 28 #[C.v] w fun e w' => e = .returned (.bool t) ∧ Hid (Below w.heap.size w w')) ∧ Hid ((t = true → NumOk C) ∧ (t = false → ¬ NumOk C)) := by
  obtain ⟨t0, H0, E0⟩ := in_at C.ty 1 32
  obtain ⟨t1, H1, E1⟩ := in_at C.pl 1 8
  obtain ⟨t2, H2, E2⟩ := in_at C.ch 1 16
  have hb1 : (C.bn : Int) ≤ 20 := by omega
  have hy1 : (C.yn : Int) ≤ 12 := by omega
  rcases t0 with _ | _
  · refine ⟨false, Lib.hid fun w => ?_, Lib.hid ⟨fun h => (by cases h), fun _ h => E0.out.2 rfl h.1⟩⟩
    obtain ⟨V, X, hV, hX, HXB, HP⟩ := box_cat w C
    obtain ⟨k0, k1, k2, k3, k4, k5, k6, k7⟩ := HP.out X (Below.refl _ _)
    go_enter Try.func28, Try.ntmps28
    go_wp2_with fail
    clear hX hV
    refine (H0.out _).mono ?_
    rintro e w' ⟨rfl, rfl⟩
    go_wp2_with fail
    go_ret
    exact ⟨rfl, HXB⟩
  rcases t1 with _ | _
  · refine ⟨false, Lib.hid fun w => ?_, Lib.hid ⟨fun h => (by cases h), fun _ h => E1.out.2 rfl h.2.1⟩⟩
    obtain ⟨V, X, hV, hX, HXB, HP⟩ := box_cat w C
    obtain ⟨k0, k1, k2, k3, k4, k5, k6, k7⟩ := HP.out X (Below.refl _ _)
    go_enter Try.func28, Try.ntmps28
    go_wp2_with fail
    clear hX hV
    refine (H0.out _).mono ?_
    rintro e w' ⟨rfl, rfl⟩
    go_wp2_with fail
    refine (H1.out _).mono ?_
    rintro e w' ⟨rfl, rfl⟩
    go_wp2_with fail
    go_ret
    exact ⟨rfl, HXB⟩
  rcases t2 with _ | _
  · refine ⟨false, Lib.hid fun w => ?_, Lib.hid ⟨fun h => (by cases h), fun _ h => E2.out.2 rfl h.2.2.1⟩⟩
    obtain ⟨V, X, hV, hX, HXB, HP⟩ := box_cat w C
    obtain ⟨k0, k1, k2, k3, k4, k5, k6, k7⟩ := HP.out X (Below.refl _ _)
    go_enter Try.func28, Try.ntmps28
    go_wp2_with fail
    clear hX hV
    refine (H0.out _).mono ?_
    rintro e w' ⟨rfl, rfl⟩
    go_wp2_with fail
    refine (H1.out _).mono ?_
    rintro e w' ⟨rfl, rfl⟩
    go_wp2_with fail
    refine (H2.out _).mono ?_
    rintro e w' ⟨rfl, rfl⟩
    go_wp2_with fail
    go_ret
    exact ⟨rfl, HXB⟩
  by_cases hb6 : C.bn ≤ 16
  case neg =>
    have HNO : Hid (¬ NumOk C) := Lib.hid fun h => hb6 h.2.2.2.1
    have d4 : decide ((C.bn : Int) ≤ 16) = false := decide_eq_false (by omega)
    have d5 : ¬ (C.bn : Int) ≤ 16 := by omega
    have d6 : decide (C.bn ≤ 16) = false := decide_eq_false hb6
    refine ⟨false, Lib.hid fun w => ?_, Lib.hid ⟨fun h => (by cases h), fun _ => HNO.out⟩⟩
    obtain ⟨V, X, hV, hX, HXB, HP⟩ := box_cat w C
    obtain ⟨k0, k1, k2, k3, k4, k5, k6, k7⟩ := HP.out X (Below.refl _ _)
    go_enter Try.func28, Try.ntmps28
    go_wp2_with fail
    clear hX hV
    refine (H0.out _).mono ?_
    rintro e w' ⟨rfl, rfl⟩
    go_wp2_with fail
    refine (H1.out _).mono ?_
    rintro e w' ⟨rfl, rfl⟩
    go_wp2_with fail
    refine (H2.out _).mono ?_
    rintro e w' ⟨rfl, rfl⟩
    go_wp2_with fail
    go_ret
    exact ⟨rfl, HXB⟩
  have d4 : decide ((C.bn : Int) ≤ 16) = true := decide_eq_true (by omega)
  have d5 : (C.bn : Int) ≤ 16 := by omega
  have d6 : decide (C.bn ≤ 16) = true := decide_eq_true hb6
  by_cases hy8 : C.yn ≤ 8
  case neg =>
    have HNO : Hid (¬ NumOk C) := Lib.hid fun h => hy8 h.2.2.2.2
    have e4 : decide ((C.yn : Int) ≤ 8) = false := decide_eq_false (by omega)
    have e5 : ¬ (C.yn : Int) ≤ 8 := by omega
    have e6 : decide (C.yn ≤ 8) = false := decide_eq_false hy8
    refine ⟨false, Lib.hid fun w => ?_, Lib.hid ⟨fun h => (by cases h), fun _ => HNO.out⟩⟩
    obtain ⟨V, X, hV, hX, HXB, HP⟩ := box_cat w C
    obtain ⟨k0, k1, k2, k3, k4, k5, k6, k7⟩ := HP.out X (Below.refl _ _)
    go_enter Try.func28, Try.ntmps28
    go_wp2_with fail
    clear hX hV
    refine (H0.out _).mono ?_
    rintro e w' ⟨rfl, rfl⟩
    go_wp2_with fail
    refine (H1.out _).mono ?_
    rintro e w' ⟨rfl, rfl⟩
    go_wp2_with fail
    refine (H2.out _).mono ?_
    rintro e w' ⟨rfl, rfl⟩
    go_wp2_with fail
    go_ret
    exact ⟨rfl, HXB⟩
  have e4 : decide ((C.yn : Int) ≤ 8) = true := decide_eq_true (by omega)
  have e5 : (C.yn : Int) ≤ 8 := by omega
  have e6 : decide (C.yn ≤ 8) = true := decide_eq_true hy8
  have HYES : Hid (NumOk C) := Lib.hid ⟨E0.out.1 rfl, E1.out.1 rfl, E2.out.1 rfl, hb6, hy8⟩
  refine ⟨true, Lib.hid fun w => ?_, Lib.hid ⟨fun _ => HYES.out, fun h => (by cases h)⟩⟩
  obtain ⟨V, X, hV, hX, HXB, HP⟩ := box_cat w C
  obtain ⟨k0, k1, k2, k3, k4, k5, k6, k7⟩ := HP.out X (Below.refl _ _)
  go_enter Try.func28, Try.ntmps28
  go_wp2_with fail
  clear hX hV
  refine (H0.out _).mono ?_
  rintro e w' ⟨rfl, rfl⟩
  go_wp2_with fail
  refine (H1.out _).mono ?_
  rintro e w' ⟨rfl, rfl⟩
  go_wp2_with fail
  refine (H2.out _).mono ?_
  rintro e w' ⟨rfl, rfl⟩
  go_wp2_with fail
  go_ret
  exact ⟨rfl, HXB⟩
/-! blueprints -/
set_option maxRecDepth 100000 in
set_option maxHeartbeats 4000000 in
theorem blues_im (C : CM) (w : World) (h : CatAt w C) (hl : Lim C) (t : Bool) (ht : t = true ↔ ∀ b ∈ C.p.bs, Recipe.BlOk b.b C.ty) :
    Calls Try.prog 29 #[C.v] w fun e w' => e = .returned (.bool t) ∧ Hid (Below w.heap.size w w') := by
  obtain ⟨V, X, hV, hX, HXB, HP⟩ := box_cat w C
  obtain ⟨k0, k1, k2, k3, k4, k5, k6, k7⟩ := HP.out X (Below.refl _ _)
  have HB := blue_at (h.under HXB.out)
  have HSM : Hid (∀ b ∈ C.bs, b.sm ≤ 12) := Lib.hid hl.1
  have HL := Lib.hid h.1.1
  have hb1 : C.bn ≤ 20 := hl.2.1
  have hb2 : (C.bn : Int) ≤ 20 := by omega
  have HNO : Hid (∀ i b, C.bs[i]? = some b → ¬ Recipe.BlOk b C.ty → false = t) := Lib.hid fun i b hi hk => by
    cases t with
    | false => rfl
    | true => exact absurd (ht.1 rfl (pOf b) (by unfold CM.p; exact List.mem_map.2 ⟨b, List.mem_of_getElem? hi, rfl⟩)) hk
  have HYES : Hid ((∀ b ∈ C.bs, Recipe.BlOk b C.ty) → true = t) := Lib.hid fun hk => (ht.2 fun b hb => by
    unfold CM.p at hb
    obtain ⟨b1, h1, rfl⟩ := List.mem_map.1 hb
    exact hk b1 h1).symm
  clear h hl ht
  go_enter Try.func29, Try.ntmps29
  go_wp2_with fail
  clear hX hV k0 k1 k2 k3 k4 k5 k6 k7
  go_loopw [8] (fun s wr => ∃ i : Nat, s = .int .i64 i ∧ i ≤ C.bn ∧ Hid (Below X.heap.size X wr) ∧ Hid (∀ b ∈ C.bs.take i, Recipe.BlOk b C.ty)) (fun s _ => C.bn - (RowKit.intOf s).toNat)
  case atStart => exact ⟨0, rfl, by omega, Lib.hid (Below.refl _ _), Lib.hid (by simp)⟩
  case round =>
    obtain ⟨i, rfl, hi, HW, HI⟩ := hrel
    have hi0 : (0 : Int) ≤ (i : Int) := by omega
    by_cases hlt : i < C.bn
    · have hlt2 : (i : Int) < (C.bn : Int) := by omega
      obtain ⟨g, off, b, hba, ht, q0, q1, q2, q3, q4, q5, q6⟩ := HB.out wr i HW.out hlt
      have wi : IntKind.i64.wrap ((i : Int) + 1) = (i : Int) + 1 := IntWalk.i64_in _ (by omega)
      obtain ⟨U, Y, hU, hY, HY⟩ := box_bl wr b
      obtain ⟨y0, y1, y2, y3, y4, y5, y6⟩ := cellsU HY.out.2
      have HWY := Lib.hid (below_then HW.out HY.out.1)
      obtain ⟨k0, k1, k2, k3, k4, k5, k6, k7⟩ := HP.out Y HWY.out
      have HC : Hid (∀ z, Recipe.chkB b C.ty = z → Calls Try.prog 49 #[blV b, .int .i64 C.ty] Y fun e w' => e = .returned (.int .i64 z) ∧ Hid (Below X.heap.size X w')) := Lib.hid fun z hz => by
        subst hz
        have hin : BlIn Y b := ⟨ht.out.2.1, ht.out.2.2.under HY.out.1, by have := HSM.out b (List.mem_of_getElem? ht.out.1); omega⟩
        exact (Recipe.Im.check_im b C.ty Y hin).mono fun _ _ ⟨e, h⟩ => ⟨e, Lib.hid (below_then HWY.out h)⟩
      rw [hba]
      clear hba
      by_cases hk : Recipe.BlOk b C.ty
      · have HC0 := Lib.hid (HC.out 0 (Recipe.chkB_yes hk))
        have HF : Hid (∀ x ∈ C.bs.take (i + 1), Recipe.BlOk x C.ty) := Lib.hid (fun x hx => by
          rcases (mem_take_succ ht.out.1).1 hx with hx | rfl
          · exact HI.out x hx
          · exact hk)
        clear hk HC
        go_wp2_with fail
        clear hY hU q0 q1 q2 q3 q4 q5 q6
        refine HC0.out.mono ?_
        rintro e w2 ⟨rfl, H2⟩
        clear k0 k1 k2 k3 k4 k5 k6 k7 y0 y1 y2 y3 y4 y5 y6
        go_wp2_with fail
        go_roundw
        case rel => exact ⟨i + 1, by go_num, by omega, H2, HF⟩
        case measure => simp [RowKit.intOf]; omega
      · have HC1 := Lib.hid (HC.out 1 (Recipe.chkB_no hk))
        have HF := Lib.hid (HNO.out i b ht.out.1 hk)
        clear hk HC
        go_wp2_with fail
        clear hY hU q0 q1 q2 q3 q4 q5 q6
        refine HC1.out.mono ?_
        rintro e w2 ⟨rfl, H2⟩
        clear k0 k1 k2 k3 k4 k5 k6 k7 y0 y1 y2 y3 y4 y5 y6
        go_wp2_with fail
        go_ret
        exact ⟨ret_bool HF.out, Lib.hid (below_then HXB.out H2.out)⟩
    · obtain rfl : i = C.bn := by omega
      have HF := Lib.hid (HYES.out (by
        have := HI.out
        rw [List.take_of_length_le (by rw [HL.out]; exact Nat.le_refl _)] at this
        exact this))
      go_wp2_with fail
      go_ret
      exact ⟨ret_bool HF.out, Lib.hid (below_then HXB.out HW.out)⟩
/-! bays -/
theorem box_ba (w : World) (y : Ba) : ∃ U Y, w.heap.size = U ∧ w.alloc (.cells #[.int .i64 y.pl, .int .i64 y.mf, .int .i64 y.lb, .int .i64 y.rt] 40) = Y ∧ Y.cell? ⟨U, 0, none⟩ = some (.int .i64 y.pl) ∧ Y.cell? ⟨U, 1, none⟩ = some (.int .i64 y.mf) ∧ Y.cell? ⟨U, 2, none⟩ = some (.int .i64 y.lb) ∧ Y.cell? ⟨U, 3, none⟩ = some (.int .i64 y.rt) ∧ Hid (Below w.heap.size w Y) := by
  have h := heap_alloc_new w (.cells #[.int .i64 y.pl, .int .i64 y.mf, .int .i64 y.lb, .int .i64 y.rt] 40)
  exact ⟨_, _, rfl, rfl, cell_block (j := 0) h rfl, cell_block (j := 1) h rfl, cell_block (j := 2) h rfl, cell_block (j := 3) h rfl, Lib.hid ((Below.refl _ w).alloc (Nat.le_refl _) _)⟩
set_option maxRecDepth 100000 in
set_option maxHeartbeats 8000000 in
theorem bays_im (C : CM) (w : World) (h : CatAt w C) (hl : Lim C) (t : Bool) (ht : t = true ↔ ∀ y ∈ C.ys, BaOk C.pl y) :
    Calls Try.prog 30 #[C.v] w fun e w' => e = .returned (.bool t) ∧ Hid (Below w.heap.size w w') := by
  obtain ⟨V, X, hV, hX, HXB, HP⟩ := box_cat w C
  obtain ⟨k0, k1, k2, k3, k4, k5, k6, k7⟩ := HP.out X (Below.refl _ _)
  have HB := bay_at (h.under HXB.out)
  have HL := Lib.hid h.2.1
  have hb1 : C.yn ≤ 12 := hl.2.2
  have hb2 : (C.yn : Int) ≤ 12 := by omega
  have HNO : Hid (∀ i y, C.ys[i]? = some y → ¬ BaOk C.pl y → false = t) := Lib.hid fun i y hi hk => by
    cases t with
    | false => rfl
    | true => exact absurd (ht.1 rfl y (List.mem_of_getElem? hi)) hk
  have HYES : Hid ((∀ y ∈ C.ys, BaOk C.pl y) → true = t) := Lib.hid fun hk => (ht.2 hk).symm
  clear h hl ht
  go_enter Try.func30, Try.ntmps30
  go_wp2_with fail
  clear hX hV k0 k1 k2 k3 k4 k5 k6 k7
  go_loopw [8] (fun s wr => ∃ i : Nat, s = .int .i64 i ∧ i ≤ C.yn ∧ Hid (Below X.heap.size X wr) ∧ Hid (∀ y ∈ C.ys.take i, BaOk C.pl y)) (fun s _ => C.yn - (RowKit.intOf s).toNat)
  case atStart => exact ⟨0, rfl, by omega, Lib.hid (Below.refl _ _), Lib.hid (by simp)⟩
  case round =>
    obtain ⟨i, rfl, hi, HW, HI⟩ := hrel
    have hi0 : (0 : Int) ≤ (i : Int) := by omega
    by_cases hlt : i < C.yn
    · have hlt2 : (i : Int) < (C.yn : Int) := by omega
      obtain ⟨g, off, y, hya, ht, q0, q1, q2, q3⟩ := HB.out wr i HW.out hlt
      have wi : IntKind.i64.wrap ((i : Int) + 1) = (i : Int) + 1 := IntWalk.i64_in _ (by omega)
      obtain ⟨U, Y, hU, hY, y0, y1, y2, y3, HY⟩ := box_ba wr y
      have HWY := Lib.hid (below_then HW.out HY.out)
      obtain ⟨k0, k1, k2, k3, k4, k5, k6, k7⟩ := HP.out Y HWY.out
      obtain ⟨t0, H0, E0⟩ := in_at y.pl 1 C.pl
      obtain ⟨t1, H1, E1⟩ := in_at y.mf 0 8
      obtain ⟨t2, H2, E2⟩ := in_at y.lb 0 8
      obtain ⟨t3, H3, E3⟩ := in_at y.rt 0 10000
      rw [hya]
      clear hya
      rcases t0 with _ | _
      · have HF := Lib.hid (HNO.out i y ht.out fun h => E0.out.2 rfl h.1)
        go_wp2_with fail
        clear hY hU
        refine (H0.out _).mono ?_
        rintro e w' ⟨rfl, rfl⟩
        go_wp2_with fail
        go_ret
        exact ⟨ret_bool HF.out, Lib.hid (below_then HXB.out HWY.out)⟩
      rcases t1 with _ | _
      · have HF := Lib.hid (HNO.out i y ht.out fun h => E1.out.2 rfl h.2.1)
        go_wp2_with fail
        clear hY hU
        refine (H0.out _).mono ?_
        rintro e w' ⟨rfl, rfl⟩
        go_wp2_with fail
        refine (H1.out _).mono ?_
        rintro e w' ⟨rfl, rfl⟩
        go_wp2_with fail
        go_ret
        exact ⟨ret_bool HF.out, Lib.hid (below_then HXB.out HWY.out)⟩
      rcases t2 with _ | _
      · have HF := Lib.hid (HNO.out i y ht.out fun h => E2.out.2 rfl h.2.2.1)
        go_wp2_with fail
        clear hY hU
        refine (H0.out _).mono ?_
        rintro e w' ⟨rfl, rfl⟩
        go_wp2_with fail
        refine (H1.out _).mono ?_
        rintro e w' ⟨rfl, rfl⟩
        go_wp2_with fail
        refine (H2.out _).mono ?_
        rintro e w' ⟨rfl, rfl⟩
        go_wp2_with fail
        go_ret
        exact ⟨ret_bool HF.out, Lib.hid (below_then HXB.out HWY.out)⟩
      rcases t3 with _ | _
      · have HF := Lib.hid (HNO.out i y ht.out fun h => E3.out.2 rfl h.2.2.2)
        go_wp2_with fail
        clear hY hU
        refine (H0.out _).mono ?_
        rintro e w' ⟨rfl, rfl⟩
        go_wp2_with fail
        refine (H1.out _).mono ?_
        rintro e w' ⟨rfl, rfl⟩
        go_wp2_with fail
        refine (H2.out _).mono ?_
        rintro e w' ⟨rfl, rfl⟩
        go_wp2_with fail
        refine (H3.out _).mono ?_
        rintro e w' ⟨rfl, rfl⟩
        go_wp2_with fail
        go_ret
        exact ⟨ret_bool HF.out, Lib.hid (below_then HXB.out HWY.out)⟩
      have HF : Hid (∀ x ∈ C.ys.take (i + 1), BaOk C.pl x) := Lib.hid (fun x hx => by
        rcases (mem_take_succ ht.out).1 hx with hx | rfl
        · exact HI.out x hx
        · exact ⟨E0.out.1 rfl, E1.out.1 rfl, E2.out.1 rfl, E3.out.1 rfl⟩)
      go_wp2_with fail
      clear hY hU
      refine (H0.out _).mono ?_
      rintro e w' ⟨rfl, rfl⟩
      go_wp2_with fail
      refine (H1.out _).mono ?_
      rintro e w' ⟨rfl, rfl⟩
      go_wp2_with fail
      refine (H2.out _).mono ?_
      rintro e w' ⟨rfl, rfl⟩
      go_wp2_with fail
      refine (H3.out _).mono ?_
      rintro e w' ⟨rfl, rfl⟩
      go_wp2_with fail
      clear y0 y1 y2 y3 k0 k1 k2 k3 k4 k5 k6 k7 q0 q1 q2 q3
      go_roundw
      case rel => exact ⟨i + 1, by go_num, by omega, HWY, HF⟩
      case measure => simp [RowKit.intOf]; omega
    · obtain rfl : i = C.yn := by omega
      have HF := Lib.hid (HYES.out (by
        have := HI.out
        rw [List.take_of_length_le (by rw [HL.out]; exact Nat.le_refl _)] at this
        exact this))
      go_wp2_with fail
      go_ret
      exact ⟨ret_bool HF.out, Lib.hid (below_then HXB.out HW.out)⟩
end Go.Proofs.Yteaclacbdelinaa.Cat.Im
