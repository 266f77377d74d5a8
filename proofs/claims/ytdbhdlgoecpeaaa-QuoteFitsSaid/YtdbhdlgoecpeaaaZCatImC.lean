/- The program's Check of a catalogue: numbers, blueprints, bays, and how deep types stand. The program's Check of a catalogue: the whole. -/
import Derived.Test.YtdbhdlgoecpeaaaZCatImA
import Derived.Test.YtdbhdlgoecpeaaaZRecImCk
import Derived.Test.YtdbhdlgoecpeaaaZFeeImCk
import Derived.Test.YtdbhdlgoecpeaaaZGraphImH
import Derived.Test.YtdbhdlgoecpeaaaZCatE
namespace Go.Proofs.Ytdbhdlgoecpeaaa.Cat.Im
open Go.RowKit Go.Lib
open Goods (St Sts OwnS)
open Recipe (Bl BlIn blV)
open Graph (Nd Nds OwnN)

def NumOk (C : CM) : Prop := (1 ≤ C.ty ∧ C.ty ≤ 32) ∧ (1 ≤ C.pl ∧ C.pl ≤ 8) ∧ (1 ≤ C.ch ∧ C.ch ≤ 16) ∧ C.bn ≤ 16 ∧ C.yn ≤ 8
set_option maxRecDepth 100000 in
set_option maxHeartbeats 4000000 in
theorem nums_im (C : CM) (hb : C.bn ≤ 20) (hy : C.yn ≤ 12) : ∃ t : Bool, Hid (∀ w, Calls Try.prog 52 #[C.v] w fun e w' => e = .returned (.bool t) ∧ Hid (Below w.heap.size w w')) ∧ Hid ((t = true → NumOk C) ∧ (t = false → ¬ NumOk C)) := by
  obtain ⟨t0, H0, E0⟩ := in_at C.ty 1 32
  obtain ⟨t1, H1, E1⟩ := in_at C.pl 1 8
  obtain ⟨t2, H2, E2⟩ := in_at C.ch 1 16
  have hb1 : (C.bn : Int) ≤ 20 := by omega
  have hy1 : (C.yn : Int) ≤ 12 := by omega
  rcases t0 with _ | _
  · refine ⟨false, Lib.hid fun w => ?_, Lib.hid ⟨fun h => (by cases h), fun _ h => E0.out.2 rfl h.1⟩⟩
    obtain ⟨V, X, hV, hX, HXB, HP⟩ := box_cat w C
    obtain ⟨k0, k1, k2, k3, k4, k5, k6, k7⟩ := HP.out X (Below.refl _ _)
    go_enter Try.func52, Try.ntmps52
    go_wp2_with fail
    clear hX hV
    refine (H0.out _).mono ?_
    rintro e w' ⟨rfl, rfl⟩
    go_wp2_with fail
    go_ret
    exact ⟨rfl, HXB⟩
  rcases t1 with _ | _
  · refine ⟨false, Lib.hid fun w => ?_, Lib.hid ⟨fun h => (by cases h), fun _ h => E1.out.2 rfl h.2.1⟩⟩
    obtain ⟨V, X, hV, hX, HXB, HP⟩ := box_cat w C
    obtain ⟨k0, k1, k2, k3, k4, k5, k6, k7⟩ := HP.out X (Below.refl _ _)
    go_enter Try.func52, Try.ntmps52
    go_wp2_with fail
    clear hX hV
    refine (H0.out _).mono ?_
    rintro e w' ⟨rfl, rfl⟩
    go_wp2_with fail
    refine (H1.out _).mono ?_
    rintro e w' ⟨rfl, rfl⟩
    go_wp2_with fail
    go_ret
    exact ⟨rfl, HXB⟩
  rcases t2 with _ | _
  · refine ⟨false, Lib.hid fun w => ?_, Lib.hid ⟨fun h => (by cases h), fun _ h => E2.out.2 rfl h.2.2.1⟩⟩
    obtain ⟨V, X, hV, hX, HXB, HP⟩ := box_cat w C
    obtain ⟨k0, k1, k2, k3, k4, k5, k6, k7⟩ := HP.out X (Below.refl _ _)
    go_enter Try.func52, Try.ntmps52
    go_wp2_with fail
    clear hX hV
    refine (H0.out _).mono ?_
    rintro e w' ⟨rfl, rfl⟩
    go_wp2_with fail
    refine (H1.out _).mono ?_
    rintro e w' ⟨rfl, rfl⟩
    go_wp2_with fail
    refine (H2.out _).mono ?_
    rintro e w' ⟨rfl, rfl⟩
    go_wp2_with fail
    go_ret
    exact ⟨rfl, HXB⟩
  by_cases hb6 : C.bn ≤ 16
  case neg =>
    have HNO : Hid (¬ NumOk C) := Lib.hid fun h => hb6 h.2.2.2.1
    have d4 : decide ((C.bn : Int) ≤ 16) = false := decide_eq_false (by omega)
    have d5 : ¬ (C.bn : Int) ≤ 16 := by omega
    have d6 : decide (C.bn ≤ 16) = false := decide_eq_false hb6
    refine ⟨false, Lib.hid fun w => ?_, Lib.hid ⟨fun h => (by cases h), fun _ => HNO.out⟩⟩
    obtain ⟨V, X, hV, hX, HXB, HP⟩ := box_cat w C
    obtain ⟨k0, k1, k2, k3, k4, k5, k6, k7⟩ := HP.out X (Below.refl _ _)
    go_enter Try.func52, Try.ntmps52
    go_wp2_with fail
    clear hX hV
    refine (H0.out _).mono ?_
    rintro e w' ⟨rfl, rfl⟩
    go_wp2_with fail
    refine (H1.out _).mono ?_
    rintro e w' ⟨rfl, rfl⟩
    go_wp2_with fail
    refine (H2.out _).mono ?_
    rintro e w' ⟨rfl, rfl⟩
    go_wp2_with fail
    go_ret
    exact ⟨rfl, HXB⟩
  have d4 : decide ((C.bn : Int) ≤ 16) = true := decide_eq_true (by omega)
  have d5 : (C.bn : Int) ≤ 16 := by omega
  have d6 : decide (C.bn ≤ 16) = true := decide_eq_true hb6
  by_cases hy8 : C.yn ≤ 8
  case neg =>
    have HNO : Hid (¬ NumOk C) := Lib.hid fun h => hy8 h.2.2.2.2
    have e4 : decide ((C.yn : Int) ≤ 8) = false := decide_eq_false (by omega)
    have e5 : ¬ (C.yn : Int) ≤ 8 := by omega
    have e6 : decide (C.yn ≤ 8) = false := decide_eq_false hy8
    refine ⟨false, Lib.hid fun w => ?_, Lib.hid ⟨fun h => (by cases h), fun _ => HNO.out⟩⟩
    obtain ⟨V, X, hV, hX, HXB, HP⟩ := box_cat w C
    obtain ⟨k0, k1, k2, k3, k4, k5, k6, k7⟩ := HP.out X (Below.refl _ _)
    go_enter Try.func52, Try.ntmps52
    go_wp2_with fail
    clear hX hV
    refine (H0.out _).mono ?_
    rintro e w' ⟨rfl, rfl⟩
    go_wp2_with fail
    refine (H1.out _).mono ?_
    rintro e w' ⟨rfl, rfl⟩
    go_wp2_with fail
    refine (H2.out _).mono ?_
    rintro e w' ⟨rfl, rfl⟩
    go_wp2_with fail
    go_ret
    exact ⟨rfl, HXB⟩
  have e4 : decide ((C.yn : Int) ≤ 8) = true := decide_eq_true (by omega)
  have e5 : (C.yn : Int) ≤ 8 := by omega
  have e6 : decide (C.yn ≤ 8) = true := decide_eq_true hy8
  have HYES : Hid (NumOk C) := Lib.hid ⟨E0.out.1 rfl, E1.out.1 rfl, E2.out.1 rfl, hb6, hy8⟩
  refine ⟨true, Lib.hid fun w => ?_, Lib.hid ⟨fun _ => HYES.out, fun h => (by cases h)⟩⟩
  obtain ⟨V, X, hV, hX, HXB, HP⟩ := box_cat w C
  obtain ⟨k0, k1, k2, k3, k4, k5, k6, k7⟩ := HP.out X (Below.refl _ _)
  go_enter Try.func52, Try.ntmps52
  go_wp2_with fail
  clear hX hV
  refine (H0.out _).mono ?_
  rintro e w' ⟨rfl, rfl⟩
  go_wp2_with fail
  refine (H1.out _).mono ?_
  rintro e w' ⟨rfl, rfl⟩
  go_wp2_with fail
  refine (H2.out _).mono ?_
  rintro e w' ⟨rfl, rfl⟩
  go_wp2_with fail
  go_ret
  exact ⟨rfl, HXB⟩
/-! blueprints -/
set_option maxRecDepth 100000 in
set_option maxHeartbeats 4000000 in
theorem blues_im (C : CM) (w : World) (h : CatAt w C) (hl : Lim C) (t : Bool) (ht : t = true ↔ ∀ b ∈ C.p.bs, Recipe.BlOk b.b C.ty) :
    Calls Try.prog 53 #[C.v] w fun e w' => e = .returned (.bool t) ∧ Hid (Below w.heap.size w w') := by
  obtain ⟨V, X, hV, hX, HXB, HP⟩ := box_cat w C
  obtain ⟨k0, k1, k2, k3, k4, k5, k6, k7⟩ := HP.out X (Below.refl _ _)
  have HB := blue_at (h.under HXB.out)
  have HSM : Hid (∀ b ∈ C.bs, b.sm ≤ 12) := Lib.hid hl.1
  have HL := Lib.hid h.1.1
  have hb1 : C.bn ≤ 20 := hl.2.1
  have hb2 : (C.bn : Int) ≤ 20 := by omega
  have HNO : Hid (∀ i b, C.bs[i]? = some b → ¬ Recipe.BlOk b C.ty → false = t) := Lib.hid fun i b hi hk => by
    cases t with
    | false => rfl
    | true => exact absurd (ht.1 rfl (pOf b) (by unfold CM.p; exact List.mem_map.2 ⟨b, List.mem_of_getElem? hi, rfl⟩)) hk
  have HYES : Hid ((∀ b ∈ C.bs, Recipe.BlOk b C.ty) → true = t) := Lib.hid fun hk => (ht.2 fun b hb => by
    unfold CM.p at hb
    obtain ⟨b1, h1, rfl⟩ := List.mem_map.1 hb
    exact hk b1 h1).symm
  clear h hl ht
  go_enter Try.func53, Try.ntmps53
  go_wp2_with fail
  clear hX hV k0 k1 k2 k3 k4 k5 k6 k7
  go_loopw [8] (fun s wr => ∃ i : Nat, s = .int .i64 i ∧ i ≤ C.bn ∧ Hid (Below X.heap.size X wr) ∧ Hid (∀ b ∈ C.bs.take i, Recipe.BlOk b C.ty)) (fun s _ => C.bn - (RowKit.intOf s).toNat)
  case atStart => exact ⟨0, rfl, by omega, Lib.hid (Below.refl _ _), Lib.hid (by simp)⟩
  case round =>
    obtain ⟨i, rfl, hi, HW, HI⟩ := hrel
    have hi0 : (0 : Int) ≤ (i : Int) := by omega
    by_cases hlt : i < C.bn
    · have hlt2 : (i : Int) < (C.bn : Int) := by omega
      obtain ⟨g, off, b, hba, ht, q0, q1, q2, q3, q4, q5, q6⟩ := HB.out wr i HW.out hlt
      have wi : IntKind.i64.wrap ((i : Int) + 1) = (i : Int) + 1 := IntWalk.i64_in _ (by omega)
      obtain ⟨U, Y, hU, hY, HY⟩ := box_bl wr b
      obtain ⟨y0, y1, y2, y3, y4, y5, y6⟩ := cellsU HY.out.2
      have HWY := Lib.hid (below_then HW.out HY.out.1)
      obtain ⟨k0, k1, k2, k3, k4, k5, k6, k7⟩ := HP.out Y HWY.out
      have HC : Hid (∀ z, Recipe.chkB b C.ty = z → Calls Try.prog 75 #[blV b, .int .i64 C.ty] Y fun e w' => e = .returned (.int .i64 z) ∧ Hid (Below X.heap.size X w')) := Lib.hid fun z hz => by
        subst hz
        have hin : BlIn Y b := ⟨ht.out.2.1, ht.out.2.2.under HY.out.1, by have := HSM.out b (List.mem_of_getElem? ht.out.1); omega⟩
        exact (Recipe.Im.check_im b C.ty Y hin).mono fun _ _ ⟨e, h⟩ => ⟨e, Lib.hid (below_then HWY.out h)⟩
      rw [hba]
      clear hba
      by_cases hk : Recipe.BlOk b C.ty
      · have HC0 := Lib.hid (HC.out 0 (Recipe.chkB_yes hk))
        have HF : Hid (∀ x ∈ C.bs.take (i + 1), Recipe.BlOk x C.ty) := Lib.hid (fun x hx => by
          rcases (mem_take_succ ht.out.1).1 hx with hx | rfl
          · exact HI.out x hx
          · exact hk)
        clear hk HC
        go_wp2_with fail
        clear hY hU q0 q1 q2 q3 q4 q5 q6
        refine HC0.out.mono ?_
        rintro e w2 ⟨rfl, H2⟩
        clear k0 k1 k2 k3 k4 k5 k6 k7 y0 y1 y2 y3 y4 y5 y6
        go_wp2_with fail
        go_roundw
        case rel => exact ⟨i + 1, by go_num, by omega, H2, HF⟩
        case measure => simp [RowKit.intOf]; omega
      · have HC1 := Lib.hid (HC.out 1 (Recipe.chkB_no hk))
        have HF := Lib.hid (HNO.out i b ht.out.1 hk)
        clear hk HC
        go_wp2_with fail
        clear hY hU q0 q1 q2 q3 q4 q5 q6
        refine HC1.out.mono ?_
        rintro e w2 ⟨rfl, H2⟩
        clear k0 k1 k2 k3 k4 k5 k6 k7 y0 y1 y2 y3 y4 y5 y6
        go_wp2_with fail
        go_ret
        exact ⟨ret_bool HF.out, Lib.hid (below_then HXB.out H2.out)⟩
    · obtain rfl : i = C.bn := by omega
      have HF := Lib.hid (HYES.out (by
        have := HI.out
        rw [List.take_of_length_le (by rw [HL.out]; exact Nat.le_refl _)] at this
        exact this))
      go_wp2_with fail
      go_ret
      exact ⟨ret_bool HF.out, Lib.hid (below_then HXB.out HW.out)⟩
/-! bays -/
theorem box_ba (w : World) (y : Ba) : ∃ U Y, w.heap.size = U ∧ w.alloc (.cells #[.int .i64 y.pl, .int .i64 y.mf, .int .i64 y.lb, .int .i64 y.rt] 48) = Y ∧ Y.cell? ⟨U, 0, none⟩ = some (.int .i64 y.pl) ∧ Y.cell? ⟨U, 1, none⟩ = some (.int .i64 y.mf) ∧ Y.cell? ⟨U, 2, none⟩ = some (.int .i64 y.lb) ∧ Y.cell? ⟨U, 3, none⟩ = some (.int .i64 y.rt) ∧ Hid (Below w.heap.size w Y) := by
  have h := heap_alloc_new w (.cells #[.int .i64 y.pl, .int .i64 y.mf, .int .i64 y.lb, .int .i64 y.rt] 48)
  exact ⟨_, _, rfl, rfl, cell_block (j := 0) h rfl, cell_block (j := 1) h rfl, cell_block (j := 2) h rfl, cell_block (j := 3) h rfl, Lib.hid ((Below.refl _ w).alloc (Nat.le_refl _) _)⟩
set_option maxRecDepth 100000 in
set_option maxHeartbeats 8000000 in
theorem bays_im (C : CM) (w : World) (h : CatAt w C) (hl : Lim C) (t : Bool) (ht : t = true ↔ ∀ y ∈ C.ys, BaOk C.pl y) :
    Calls Try.prog 54 #[C.v] w fun e w' => e = .returned (.bool t) ∧ Hid (Below w.heap.size w w') := by
  obtain ⟨V, X, hV, hX, HXB, HP⟩ := box_cat w C
  obtain ⟨k0, k1, k2, k3, k4, k5, k6, k7⟩ := HP.out X (Below.refl _ _)
  have HB := bay_at (h.under HXB.out)
  have HL := Lib.hid h.2.1
  have hb1 : C.yn ≤ 12 := hl.2.2
  have hb2 : (C.yn : Int) ≤ 12 := by omega
  have HNO : Hid (∀ i y, C.ys[i]? = some y → ¬ BaOk C.pl y → false = t) := Lib.hid fun i y hi hk => by
    cases t with
    | false => rfl
    | true => exact absurd (ht.1 rfl y (List.mem_of_getElem? hi)) hk
  have HYES : Hid ((∀ y ∈ C.ys, BaOk C.pl y) → true = t) := Lib.hid fun hk => (ht.2 hk).symm
  clear h hl ht
  go_enter Try.func54, Try.ntmps54
  go_wp2_with fail
  clear hX hV k0 k1 k2 k3 k4 k5 k6 k7
  go_loopw [8] (fun s wr => ∃ i : Nat, s = .int .i64 i ∧ i ≤ C.yn ∧ Hid (Below X.heap.size X wr) ∧ Hid (∀ y ∈ C.ys.take i, BaOk C.pl y)) (fun s _ => C.yn - (RowKit.intOf s).toNat)
  case atStart => exact ⟨0, rfl, by omega, Lib.hid (Below.refl _ _), Lib.hid (by simp)⟩
  case round =>
    obtain ⟨i, rfl, hi, HW, HI⟩ := hrel
    have hi0 : (0 : Int) ≤ (i : Int) := by omega
    by_cases hlt : i < C.yn
    · have hlt2 : (i : Int) < (C.yn : Int) := by omega
      obtain ⟨g, off, y, hya, ht, q0, q1, q2, q3⟩ := HB.out wr i HW.out hlt
      have wi : IntKind.i64.wrap ((i : Int) + 1) = (i : Int) + 1 := IntWalk.i64_in _ (by omega)
      obtain ⟨U, Y, hU, hY, y0, y1, y2, y3, HY⟩ := box_ba wr y
      have HWY := Lib.hid (below_then HW.out HY.out)
      obtain ⟨k0, k1, k2, k3, k4, k5, k6, k7⟩ := HP.out Y HWY.out
      obtain ⟨t0, H0, E0⟩ := in_at y.pl 1 C.pl
      obtain ⟨t1, H1, E1⟩ := in_at y.mf 0 8
      obtain ⟨t2, H2, E2⟩ := in_at y.lb 0 8
      obtain ⟨t3, H3, E3⟩ := in_at y.rt 0 10000
      rw [hya]
      clear hya
      rcases t0 with _ | _
      · have HF := Lib.hid (HNO.out i y ht.out fun h => E0.out.2 rfl h.1)
        go_wp2_with fail
        clear hY hU
        refine (H0.out _).mono ?_
        rintro e w' ⟨rfl, rfl⟩
        go_wp2_with fail
        go_ret
        exact ⟨ret_bool HF.out, Lib.hid (below_then HXB.out HWY.out)⟩
      rcases t1 with _ | _
      · have HF := Lib.hid (HNO.out i y ht.out fun h => E1.out.2 rfl h.2.1)
        go_wp2_with fail
        clear hY hU
        refine (H0.out _).mono ?_
        rintro e w' ⟨rfl, rfl⟩
        go_wp2_with fail
        refine (H1.out _).mono ?_
        rintro e w' ⟨rfl, rfl⟩
        go_wp2_with fail
        go_ret
        exact ⟨ret_bool HF.out, Lib.hid (below_then HXB.out HWY.out)⟩
      rcases t2 with _ | _
      · have HF := Lib.hid (HNO.out i y ht.out fun h => E2.out.2 rfl h.2.2.1)
        go_wp2_with fail
        clear hY hU
        refine (H0.out _).mono ?_
        rintro e w' ⟨rfl, rfl⟩
        go_wp2_with fail
        refine (H1.out _).mono ?_
        rintro e w' ⟨rfl, rfl⟩
        go_wp2_with fail
        refine (H2.out _).mono ?_
        rintro e w' ⟨rfl, rfl⟩
        go_wp2_with fail
        go_ret
        exact ⟨ret_bool HF.out, Lib.hid (below_then HXB.out HWY.out)⟩
      rcases t3 with _ | _
      · have HF := Lib.hid (HNO.out i y ht.out fun h => E3.out.2 rfl h.2.2.2)
        go_wp2_with fail
        clear hY hU
        refine (H0.out _).mono ?_
        rintro e w' ⟨rfl, rfl⟩
        go_wp2_with fail
        refine (H1.out _).mono ?_
        rintro e w' ⟨rfl, rfl⟩
        go_wp2_with fail
        refine (H2.out _).mono ?_
        rintro e w' ⟨rfl, rfl⟩
        go_wp2_with fail
        refine (H3.out _).mono ?_
        rintro e w' ⟨rfl, rfl⟩
        go_wp2_with fail
        go_ret
        exact ⟨ret_bool HF.out, Lib.hid (below_then HXB.out HWY.out)⟩
      have HF : Hid (∀ x ∈ C.ys.take (i + 1), BaOk C.pl x) := Lib.hid (fun x hx => by
        rcases (mem_take_succ ht.out).1 hx with hx | rfl
        · exact HI.out x hx
        · exact ⟨E0.out.1 rfl, E1.out.1 rfl, E2.out.1 rfl, E3.out.1 rfl⟩)
      go_wp2_with fail
      clear hY hU
      refine (H0.out _).mono ?_
      rintro e w' ⟨rfl, rfl⟩
      go_wp2_with fail
      refine (H1.out _).mono ?_
      rintro e w' ⟨rfl, rfl⟩
      go_wp2_with fail
      refine (H2.out _).mono ?_
      rintro e w' ⟨rfl, rfl⟩
      go_wp2_with fail
      refine (H3.out _).mono ?_
      rintro e w' ⟨rfl, rfl⟩
      go_wp2_with fail
      clear y0 y1 y2 y3 k0 k1 k2 k3 k4 k5 k6 k7 q0 q1 q2 q3
      go_roundw
      case rel => exact ⟨i + 1, by go_num, by omega, HWY, HF⟩
      case measure => simp [RowKit.intOf]; omega
    · obtain rfl : i = C.yn := by omega
      have HF := Lib.hid (HYES.out (by
        have := HI.out
        rw [List.take_of_length_le (by rw [HL.out]; exact Nat.le_refl _)] at this
        exact this))
      go_wp2_with fail
      go_ret
      exact ⟨ret_bool HF.out, Lib.hid (below_then HXB.out HW.out)⟩
end Go.Proofs.Ytdbhdlgoecpeaaa.Cat.Im
namespace Go.Proofs.Ytdbhdlgoecpeaaa.Cat.Im
open Go.RowKit Go.Lib IRows
open Goods (St Sts OwnS)
open Recipe (Bl BlIn blV)
open Graph (Nd Nds OwnN)

set_option maxRecDepth 100000 in
set_option maxHeartbeats 8000000 in
theorem check_im (C : CM) (w : World) (h : CatAt w C) (hl : Lim C) :
    Calls Try.prog 29 #[C.v] w fun e w' => e = .returned (.int .i64 (chkC C.p)) ∧ Below w.heap.size w w' := by
  obtain ⟨V, X, hV, hX, HXB, HP⟩ := box_cat w C
  obtain ⟨k0, k1, k2, k3, k4, k5, k6, k7⟩ := HP.out X (Below.refl _ _)
  have HNO : Hid (∀ W, Below X.heap.size X W → Below w.heap.size w W) := Lib.hid (fun W hW => below_then HXB.out hW)
  have hc := h.under HXB.out
  have HL1 : Hid (C.p.bs.length = C.bn ∧ C.ys.length = C.yn) := Lib.hid ⟨by unfold CM.p; rw [List.length_map]; exact h.1.1, h.2.1⟩
  obtain ⟨tn, HN0, EN⟩ := nums_im C hl.2.1 hl.2.2
  have HN : Hid (∀ W, Below X.heap.size X W → Calls Try.prog 52 #[C.v] W fun e w' => e = .returned (.bool tn) ∧ Hid (Below X.heap.size X w')) := Lib.hid fun W hW => (HN0.out W).mono fun _ _ ⟨e, h⟩ => ⟨e, Lib.hid (below_then hW h.out)⟩
  obtain ⟨tb, htb⟩ : ∃ t : Bool, t = true ↔ ∀ b ∈ C.p.bs, Recipe.BlOk b.b C.ty := by
    by_cases hk : ∀ b ∈ C.p.bs, Recipe.BlOk b.b C.ty
    · exact ⟨true, fun _ => hk, fun _ => rfl⟩
    · exact ⟨false, fun h => (by cases h), fun h => absurd h hk⟩
  have HBL : Hid (∀ W, Below X.heap.size X W → Calls Try.prog 53 #[C.v] W fun e w' => e = .returned (.bool tb) ∧ Hid (Below X.heap.size X w')) := Lib.hid fun W hW => (blues_im C W (hc.under hW) hl tb htb).mono fun _ _ ⟨e, h⟩ => ⟨e, Lib.hid (below_then hW h.out)⟩
  obtain ⟨ty, hty⟩ : ∃ t : Bool, t = true ↔ ∀ y ∈ C.ys, BaOk C.pl y := by
    by_cases hk : ∀ y ∈ C.ys, BaOk C.pl y
    · exact ⟨true, fun _ => hk, fun _ => rfl⟩
    · exact ⟨false, fun h => (by cases h), fun h => absurd h hk⟩
  have HBY : Hid (∀ W, Below X.heap.size X W → Calls Try.prog 54 #[C.v] W fun e w' => e = .returned (.bool ty) ∧ Hid (Below X.heap.size X w')) := Lib.hid fun W hW => (bays_im C W (hc.under hW) hl ty hty).mono fun _ _ ⟨e, h⟩ => ⟨e, Lib.hid (below_then hW h.out)⟩
  have HFE : Hid (∀ W z, Below X.heap.size X W → Fee.chkF C.f = z → Calls Try.prog 55 #[.agg #[.int .i64 C.f.broker, .int .i64 C.f.least, .int .i64 C.f.sales]] W fun e w' => e = .returned (.int .i64 z) ∧ Hid (Below X.heap.size X w')) := Lib.hid fun W z hW hz => by
    subst hz
    exact (Fee.check_im C.f W).mono fun _ _ ⟨e, h⟩ => ⟨e, Lib.hid (below_then hW h)⟩
  have HNE : Hid (∀ W, Below X.heap.size X W → Calls Try.prog 57 #[C.v] W fun e w' => ∃ a n c, e = .returned (.slice a n c) ∧ Hid (((ndL C.p.bs).length = n ∧ n ≤ 240 ∧ Nds w' a (ndL C.p.bs)) ∧ Below X.heap.size X w')) := Lib.hid fun W hW => (needs_im C W (hc.under hW) hl).mono fun e w' ⟨a, n, c, e1, h⟩ => ⟨a, n, c, e1, Lib.hid ⟨⟨h.out.1, h.out.2.1, (Graph.nds_own h.out.2.2.1).2⟩, below_then hW h.out.2.2.2⟩⟩
  have HTB := Lib.hid htb
  have HTY := Lib.hid hty
  have HX0 : Hid (Below X.heap.size X X) := Lib.hid (Below.refl _ _)
  clear h hl hc htb hty HN0
  rcases tn with _ | _
  · have HC : Hid (chkC C.p = 1) := Lib.hid (chk_arg fun h => EN.out.2 rfl ⟨h.1.1, h.1.2.1, h.1.2.2.1, by have := h.1.2.2.2.1; rw [HL1.out.1] at this; exact this, by have := h.1.2.2.2.2.1; have e : C.ys.length = C.yn := HL1.out.2; rw [← e]; exact this⟩)
    go_enter Try.func29, Try.ntmps29
    go_wp2_with fail
    clear hX hV
    refine (HN.out X HX0.out).mono ?_
    rintro e w1 ⟨rfl, H1⟩
    clear k0 k1 k2 k3 k4 k5 k6 k7
    go_wp2_with fail
    go_ret
    exact ⟨ret_i64 (by rw [HC.out]), HNO.out _ H1.out⟩
  rcases tb with _ | _
  · have HC : Hid (chkC C.p = 1) := Lib.hid (chk_arg fun h => (by have := HTB.out.2 h.2.1; cases this))
    go_enter Try.func29, Try.ntmps29
    go_wp2_with fail
    clear hX hV
    refine (HN.out X HX0.out).mono ?_
    rintro e w1 ⟨rfl, H1⟩
    clear k0 k1 k2 k3 k4 k5 k6 k7
    obtain ⟨k0, k1, k2, k3, k4, k5, k6, k7⟩ := HP.out w1 H1.out
    go_wp2_with fail
    refine (HBL.out w1 H1.out).mono ?_
    rintro e w2 ⟨rfl, H2⟩
    clear k0 k1 k2 k3 k4 k5 k6 k7
    go_wp2_with fail
    go_ret
    exact ⟨ret_i64 (by rw [HC.out]), HNO.out _ H2.out⟩
  rcases ty with _ | _
  · have HC : Hid (chkC C.p = 1) := Lib.hid (chk_arg fun h => (by have := HTY.out.2 h.2.2; cases this))
    go_enter Try.func29, Try.ntmps29
    go_wp2_with fail
    clear hX hV
    refine (HN.out X HX0.out).mono ?_
    rintro e w1 ⟨rfl, H1⟩
    clear k0 k1 k2 k3 k4 k5 k6 k7
    obtain ⟨k0, k1, k2, k3, k4, k5, k6, k7⟩ := HP.out w1 H1.out
    go_wp2_with fail
    refine (HBL.out w1 H1.out).mono ?_
    rintro e w2 ⟨rfl, H2⟩
    clear k0 k1 k2 k3 k4 k5 k6 k7
    obtain ⟨k0, k1, k2, k3, k4, k5, k6, k7⟩ := HP.out w2 H2.out
    go_wp2_with fail
    refine (HBY.out w2 H2.out).mono ?_
    rintro e w3 ⟨rfl, H3⟩
    clear k0 k1 k2 k3 k4 k5 k6 k7
    go_wp2_with fail
    go_ret
    exact ⟨ret_i64 (by rw [HC.out]), HNO.out _ H3.out⟩
  by_cases hf : Fee.FeeOk C.f
  case neg =>
    have HC : Hid (chkC C.p = 1) := Lib.hid (chk_arg fun h => hf h.1.2.2.2.2.2)
    have HE := Lib.hid (Fee.chkF_no hf)
    clear hf
    go_enter Try.func29, Try.ntmps29
    go_wp2_with fail
    clear hX hV
    refine (HN.out X HX0.out).mono ?_
    rintro e w1 ⟨rfl, H1⟩
    clear k0 k1 k2 k3 k4 k5 k6 k7
    obtain ⟨k0, k1, k2, k3, k4, k5, k6, k7⟩ := HP.out w1 H1.out
    go_wp2_with fail
    refine (HBL.out w1 H1.out).mono ?_
    rintro e w2 ⟨rfl, H2⟩
    clear k0 k1 k2 k3 k4 k5 k6 k7
    obtain ⟨k0, k1, k2, k3, k4, k5, k6, k7⟩ := HP.out w2 H2.out
    go_wp2_with fail
    refine (HBY.out w2 H2.out).mono ?_
    rintro e w3 ⟨rfl, H3⟩
    clear k0 k1 k2 k3 k4 k5 k6 k7
    obtain ⟨k0, k1, k2, k3, k4, k5, k6, k7⟩ := HP.out w3 H3.out
    go_wp2_with fail
    refine (HFE.out w3 1 H3.out HE.out).mono ?_
    rintro e w4 ⟨rfl, H4⟩
    clear k0 k1 k2 k3 k4 k5 k6 k7
    go_wp2_with fail
    go_ret
    exact ⟨ret_i64 (by rw [HC.out]), HNO.out _ H4.out⟩
  have HE := Lib.hid (Fee.chkF_yes hf)
  have HOK : Hid (CatOk C.p) := Lib.hid ⟨⟨(EN.out.1 rfl).1, (EN.out.1 rfl).2.1, (EN.out.1 rfl).2.2.1, by rw [HL1.out.1]; exact (EN.out.1 rfl).2.2.2.1, by have := (EN.out.1 rfl).2.2.2.2; have e : C.ys.length = C.yn := HL1.out.2; rw [← e] at this; exact this, hf⟩, HTB.out.1 rfl, HTY.out.1 rfl⟩
  have HTY32 : Hid (C.ty ≤ 32) := Lib.hid (EN.out.1 rfl).1.2
  clear hf
  obtain ⟨NL, hNL⟩ : ∃ NL, ndL C.p.bs = NL := ⟨_, rfl⟩
  obtain ⟨er, her⟩ : ∃ er, Graph.ordE C.ty NL = er := ⟨_, rfl⟩
  obtain ⟨DL, hDL⟩ : ∃ DL, Graph.degV C.ty NL = DL := ⟨_, rfl⟩
  have HDE : Hid (∀ W a n c, Below X.heap.size X W → (NL.length = n ∧ n ≤ 240 ∧ Nds W a NL) → Calls Try.prog 56 #[.int .i64 C.ty, .slice a n c] W fun e w' => ∃ a' m' c', e = .returned (.tuple #[.slice a' m' c', .int .i64 er]) ∧ Hid ((DL.length = m' ∧ IRow w' a' DL) ∧ Below X.heap.size X w')) := Lib.hid fun W a n c hW hn => by
    have := Graph.Im.deep_im C.ty a n c NL W hn.1 hn.2.2 (by omega)
    rw [her, hDL] at this
    refine this.mono ?_
    rintro e w' ⟨a', m', c', rfl, H⟩
    obtain ⟨a2, c2, e, hr⟩ := irow_own H.out.2.1
    injection e with e1 _ _
    subst e1
    exact ⟨_, m', c', rfl, Lib.hid ⟨⟨H.out.1, hr⟩, below_then hW H.out.2.2⟩⟩
  have HDLL : Hid (DL.length ≤ 32) := Lib.hid (by
    have h1 := degV_length (n := C.ty) (l := NL)
    have h2 : C.ty ≤ 32 := HTY32.out
    rw [hDL] at h1
    omega)
  rw [hNL] at HNE
  have HER : Hid (¬ er = 0 → chkC C.p = er) := Lib.hid fun hn => by
    have := chk_err HOK.out (by rw [hNL]; show ¬ Graph.ordE C.ty NL = 0; rw [her]; exact hn)
    rw [hNL] at this
    rw [this]
    exact her
  have HEZ : Hid (er = 0 → ((∀ d ∈ DL, d ≤ 8) → chkC C.p = 0) ∧ (¬ (∀ d ∈ DL, d ≤ 8) → chkC C.p = 5)) := Lib.hid fun hz => by
    have e0 : Graph.ordE C.p.ty (ndL C.p.bs) = 0 := by rw [hNL]; show Graph.ordE C.ty NL = 0; rw [her]; exact hz
    have e1 : Graph.degV C.p.ty (ndL C.p.bs) = DL := by rw [hNL]; exact hDL
    exact ⟨fun ha => chk_fine HOK.out e0 (by rw [e1]; exact ha), fun ha => chk_over HOK.out e0 (by rw [e1]; exact ha)⟩
  clear hNL her hDL
  by_cases he : er = 0
  case neg =>
    have n1 : (er == 0) = false := by simpa using he
    have n2 : (er != 0) = true := by simpa using he
    have HF := Lib.hid (HER.out he)
    go_enter Try.func29, Try.ntmps29
    go_wp2_with fail
    clear hX hV
    refine (HN.out X HX0.out).mono ?_
    rintro e w1 ⟨rfl, H1⟩
    clear k0 k1 k2 k3 k4 k5 k6 k7
    obtain ⟨k0, k1, k2, k3, k4, k5, k6, k7⟩ := HP.out w1 H1.out
    go_wp2_with fail
    refine (HBL.out w1 H1.out).mono ?_
    rintro e w2 ⟨rfl, H2⟩
    clear k0 k1 k2 k3 k4 k5 k6 k7
    obtain ⟨k0, k1, k2, k3, k4, k5, k6, k7⟩ := HP.out w2 H2.out
    go_wp2_with fail
    refine (HBY.out w2 H2.out).mono ?_
    rintro e w3 ⟨rfl, H3⟩
    clear k0 k1 k2 k3 k4 k5 k6 k7
    obtain ⟨k0, k1, k2, k3, k4, k5, k6, k7⟩ := HP.out w3 H3.out
    go_wp2_with fail
    refine (HFE.out w3 0 H3.out HE.out).mono ?_
    rintro e w4 ⟨rfl, H4⟩
    clear k0 k1 k2 k3 k4 k5 k6 k7
    have HD0 : Hid (Below X.heap.size X w4.drew) := Lib.hid H4.out.drew
    go_wp2_with fail
    go_region_held3 (fun W => W.cell? ⟨V, 0, none⟩ = some (.int .i64 C.ty) ∧ W.cell? ⟨V, 1, none⟩ = some (.slice C.ba C.bn C.bc) ∧ W.cell? ⟨V, 2, none⟩ = some (.int .i64 C.pl) ∧ W.cell? ⟨V, 3, none⟩ = some (.slice C.ya C.yn C.yc) ∧ W.cell? ⟨V, 4, none⟩ = some (.int .i64 C.ch) ∧ W.cell? ⟨V, 5, none⟩ = some (.int .i64 C.f.broker) ∧ W.cell? ⟨V, 6, none⟩ = some (.int .i64 C.f.least) ∧ W.cell? ⟨V, 7, none⟩ = some (.int .i64 C.f.sales))
      (first | exact HP.out _ HD0.out | exact HP.out _ N6.out.2 | exact HP.out _ N7.out.2)
        (first
          | (go_at_call 57; refine (HNE.out _ HD0.out).mono ?_; rintro e w6 ⟨a6, n6, c6, rfl, N6⟩)
          | (go_at_call 56; refine (HDE.out _ _ _ _ N6.out.2 N6.out.1).mono ?_; rintro e w7 ⟨a7, n7, c7, rfl, N7⟩))
    all_goals
      go_wp2_with fail
      go_ret
      exact ⟨ret_i64 (by rw [HF.out]), HNO.out _ N7.out.2⟩
  subst he
  go_enter Try.func29, Try.ntmps29
  go_wp2_with fail
  clear hX hV
  refine (HN.out X HX0.out).mono ?_
  rintro e w1 ⟨rfl, H1⟩
  clear k0 k1 k2 k3 k4 k5 k6 k7
  obtain ⟨k0, k1, k2, k3, k4, k5, k6, k7⟩ := HP.out w1 H1.out
  go_wp2_with fail
  refine (HBL.out w1 H1.out).mono ?_
  rintro e w2 ⟨rfl, H2⟩
  clear k0 k1 k2 k3 k4 k5 k6 k7
  obtain ⟨k0, k1, k2, k3, k4, k5, k6, k7⟩ := HP.out w2 H2.out
  go_wp2_with fail
  refine (HBY.out w2 H2.out).mono ?_
  rintro e w3 ⟨rfl, H3⟩
  clear k0 k1 k2 k3 k4 k5 k6 k7
  obtain ⟨k0, k1, k2, k3, k4, k5, k6, k7⟩ := HP.out w3 H3.out
  go_wp2_with fail
  refine (HFE.out w3 0 H3.out HE.out).mono ?_
  rintro e w4 ⟨rfl, H4⟩
  clear k0 k1 k2 k3 k4 k5 k6 k7
  have HD0 : Hid (Below X.heap.size X w4.drew) := Lib.hid H4.out.drew
  go_wp2_with fail
  go_region_held3 (fun W => W.cell? ⟨V, 0, none⟩ = some (.int .i64 C.ty) ∧ W.cell? ⟨V, 1, none⟩ = some (.slice C.ba C.bn C.bc) ∧ W.cell? ⟨V, 2, none⟩ = some (.int .i64 C.pl) ∧ W.cell? ⟨V, 3, none⟩ = some (.slice C.ya C.yn C.yc) ∧ W.cell? ⟨V, 4, none⟩ = some (.int .i64 C.ch) ∧ W.cell? ⟨V, 5, none⟩ = some (.int .i64 C.f.broker) ∧ W.cell? ⟨V, 6, none⟩ = some (.int .i64 C.f.least) ∧ W.cell? ⟨V, 7, none⟩ = some (.int .i64 C.f.sales))
    (first | exact HP.out _ HD0.out | exact HP.out _ N6.out.2 | exact HP.out _ N7.out.2)
      (first
        | (go_at_call 57; refine (HNE.out _ HD0.out).mono ?_; rintro e w6 ⟨a6, n6, c6, rfl, N6⟩)
        | (go_at_call 56; refine (HDE.out _ _ _ _ N6.out.2 N6.out.1).mono ?_; rintro e w7 ⟨a7, n7, c7, rfl, N7⟩))
  all_goals
    have hn7 : n7 ≤ 32 := by rw [← N7.out.1.1]; exact HDLL.out
    have hn7b : (n7 : Int) ≤ 32 := by omega
    have HT := irow_at N7.out.1.2
    go_wp2_with fail
    go_loopw [39] (fun s wr => ∃ i : Nat, s = .int .i64 i ∧ i ≤ n7 ∧ w7 = wr ∧ Hid (∀ d ∈ DL.take i, d ≤ 8)) (fun s _ => n7 - (RowKit.intOf s).toNat)
    case atStart => exact ⟨0, rfl, by omega, rfl, Lib.hid (by simp)⟩
    case round =>
      obtain ⟨i, rfl, hi, rfl, HI⟩ := hrel
      have hi0 : (0 : Int) ≤ (i : Int) := by omega
      by_cases hlt : i < n7
      · have hlt2 : (i : Int) < (n7 : Int) := by omega
        obtain ⟨g, off, d, rfl, ht, q0⟩ := HT.out w7 i (Below.refl _ _) (by rw [N7.out.1.1]; exact hlt)
        by_cases c1 : 8 < d
        · have d1 : decide (8 < d) = true := decide_eq_true c1
          have HF := Lib.hid ((HEZ.out trivial).2 fun h => by have := h d (List.mem_of_getElem? ht.out); omega)
          go_wp2_with fail
          go_ret
          exact ⟨ret_i64 (by rw [HF.out]), HNO.out _ N7.out.2⟩
        · have d1 : decide (8 < d) = false := decide_eq_false c1
          have HF : Hid (∀ x ∈ DL.take (i + 1), x ≤ 8) := Lib.hid (fun x hx => by
            rcases (mem_take_succ ht.out).1 hx with hx | rfl
            · exact HI.out x hx
            · omega)
          go_wp2_with fail
          go_roundw
          case rel => exact ⟨i + 1, by go_num, by omega, by first | rfl | trivial, HF⟩
          case measure => simp [RowKit.intOf]; omega
      · obtain rfl : i = n7 := by omega
        have HF := Lib.hid ((HEZ.out trivial).1 (by
          have := HI.out
          rw [List.take_of_length_le (by rw [N7.out.1.1]; exact Nat.le_refl _)] at this
          exact this))
        go_wp2_with fail
        go_ret
        exact ⟨ret_i64 (by rw [HF.out]), HNO.out _ N7.out.2⟩
end Go.Proofs.Ytdbhdlgoecpeaaa.Cat.Im
