/- The program's closures: what each does to a draft in a block of its own. -/
import Derived.Test.YtfebaiefoonncaaDraImA
import Derived.BigRegion
namespace Go.Proofs.Ytfebaiefoonncaa.Draft
open Go.RowKit Go.Lib

abbrev at0 (g : Nat) : Value := .pointer (some ⟨g, 0, none⟩)
/-- Block g holds a draft. -/
abbrev Has (w : World) (g : Nat) (d : Dr) : Prop := w.heap[g]? = some (.cells d.cells 36 (0, 0))
def rE (n : Int) (d : Dr) : Int := if d.runs = -1 then 0 else if 0 ≤ d.runs + n ∧ d.runs + n ≤ 1000 then 0 else 11
def rD (n : Int) (d : Dr) : Dr := if d.runs = -1 then d else { d with runs := d.runs + n }
theorem set_runs {w : World} {g : Nat} {d : Dr} (h : Has w g d) (x : Int) : Has (w.setCell ⟨g, 7, none⟩ (.int .i64 x)) g { d with runs := x } := heap_setCell_same w g 7 _ _ (.int .i64 x) h
theorem set_busy {w : World} {g : Nat} {d : Dr} (h : Has w g d) (x : Int) : Has (w.setCell ⟨g, 8, none⟩ (.int .i64 x)) g { d with busy := x } := heap_setCell_same w g 8 _ _ (.int .i64 x) h
theorem set_levels {w : World} {g : Nat} {d : Dr} (h : Has w g d) (x y : Int) : Has ((w.setCell ⟨g, 5, none⟩ (.int .i64 x)).setCell ⟨g, 6, none⟩ (.int .i64 y)) g { d with me := x, te := y } :=
  heap_setCell_same _ g 6 _ _ (.int .i64 y) (heap_setCell_same w g 5 _ _ (.int .i64 x) h : Has (w.setCell ⟨g, 5, none⟩ (.int .i64 x)) g { d with me := x })
theorem set_who {w : World} {g : Nat} {d : Dr} (h : Has w g d) (x y : Int) : Has ((w.setCell ⟨g, 1, none⟩ (.int .i64 x)).setCell ⟨g, 2, none⟩ (.int .i64 y)) g { d with owner := x, div := y } :=
  heap_setCell_same _ g 2 _ _ (.int .i64 y) (heap_setCell_same w g 1 _ _ (.int .i64 x) h : Has (w.setCell ⟨g, 1, none⟩ (.int .i64 x)) g { d with owner := x })
theorem only_self {w : World} {g : Nat} (o : Nat) (u : Value) : w.grownBy (w.setCell ⟨g, o, none⟩ u) (some g) := only_setCell (only_refl w _) _ _
set_option maxRecDepth 100000 in
theorem addRuns_is (g : Nat) (d : Dr) (n : Int) (w : World) (h : Has w g d) (hn : -1000 ≤ n ∧ n ≤ 1000) (hr : -1 ≤ d.runs ∧ d.runs ≤ 1000) :
    Calls Try.prog 32 #[at0 g, .int .i64 n] w fun e w' => e = .returned (.int .i64 (rE n d)) ∧ (∃ d', Has w' g d' ∧ (rE n d = 0 → d' = rD n d)) ∧ w.grownBy w' (some g) := by
  have c7 : w.cell? ⟨g, 7, none⟩ = some (.int .i64 d.runs) := cell_block (j := 7) h rfl
  have f7 := free_block 7 h
  obtain ⟨q, hq⟩ : ∃ q, rE n d = q := ⟨_, rfl⟩
  rw [hq]
  by_cases c1 : d.runs = -1
  · have HE : Hid (q = 0) := Lib.hid (by rw [← hq]; unfold rE; rw [if_pos c1])
    have HD : Hid (rD n d = d) := Lib.hid (by unfold rD; rw [if_pos c1])
    have H := Lib.hid h
    rw [c1] at c7
    clear hq hn hr h c1
    go_enter Try.func32, Try.ntmps32
    go_wp2_with fail
    go_ret
    exact ⟨ret_i64 HE.out.symm, ⟨d, H.out, fun _ => HD.out.symm⟩, only_refl _ _⟩
  · obtain ⟨s, hs⟩ : ∃ s, d.runs + n = s := ⟨_, rfl⟩
    obtain ⟨b, hb⟩ : ∃ b, decide (0 ≤ s ∧ s ≤ 1000) = b := ⟨_, rfl⟩
    have HI := in_as hb
    have e1 : (d.runs == -1) = false := by simpa using c1
    have w1 : IntKind.i64.wrap (d.runs + n) = s := by rw [hs]; exact IntWalk.i64_in _ (by omega)
    have H := Lib.hid h
    cases b with
    | false =>
      have HE : Hid (q = 11) := Lib.hid (by rw [← hq]; unfold rE; rw [if_neg c1, hs, if_neg (of_decide_eq_false hb)])
      clear hq hn hr h hs hb c1
      go_enter Try.func32, Try.ntmps32
      go_wp2_with fail
      refine (HI.out _).mono ?_
      rintro e w' ⟨rfl, rfl⟩
      go_wp2_with fail
      go_ret
      exact ⟨ret_i64 HE.out.symm, ⟨d, H.out, fun e => (by rw [HE.out] at e; cases e)⟩, only_refl _ _⟩
    | true =>
      have HE : Hid (q = 0) := Lib.hid (by rw [← hq]; unfold rE; rw [if_neg c1, hs, if_pos (of_decide_eq_true hb)])
      have HD : Hid (rD n d = { d with runs := s }) := Lib.hid (by unfold rD; rw [if_neg c1, hs])
      clear hq hn hr h hs hb c1
      go_enter Try.func32, Try.ntmps32
      go_wp2_with fail
      refine (HI.out _).mono ?_
      rintro e w' ⟨rfl, rfl⟩
      go_wp2_with fail
      go_ret
      exact ⟨ret_i64 HE.out.symm, ⟨_, set_runs H.out s, fun _ => HD.out.symm⟩, only_self _ _⟩
/-- What a closure does: over boxes b1, b2 that hold two numbers. -/
def Does (fn : Nat) (x y : Int) (E : Dr → Int) (D : Dr → Dr) : Prop := ∀ (w : World) (g b1 b2 : Nat) (d : Dr), w.cell? ⟨b1, 0, none⟩ = some (.int .i64 x) → w.cell? ⟨b2, 0, none⟩ = some (.int .i64 y) → b1 ≠ g → b2 ≠ g → Has w g d → Ok d →
  Calls Try.prog fn #[at0 g, at0 b1, at0 b2] w fun e w' => e = .returned (.int .i64 (E d)) ∧ (∃ d', Has w' g d' ∧ (E d = 0 → d' = D d)) ∧ w.grownBy w' (some g)
theorem ok_runs {d : Dr} (h : Ok d) : -1 ≤ d.runs ∧ d.runs ≤ 1000 := by have := h.runs; omega
set_option maxRecDepth 100000 in
theorem use_does (j r : Int) : Does 30 j r (useE j r) (useD j r) := fun w g b1 b2 d k1 k2 n1 n2 h ho => by
  obtain ⟨q, hq⟩ : ∃ q, useE j r d = q := ⟨_, rfl⟩
  rw [hq]
  have c8 : w.cell? ⟨g, 8, none⟩ = some (.int .i64 d.busy) := cell_block (j := 8) h rfl
  have f8 := free_block 8 h
  have H := Lib.hid h
  obtain ⟨b, hb⟩ : ∃ b, decide (MayUse j r) = b := ⟨_, rfl⟩
  have HM := mayUse_as hb
  cases b with
  | false =>
    have HE : Hid (q = 1) := Lib.hid (by rw [← hq]; unfold useE; rw [if_neg (of_decide_eq_false hb)])
    clear hq hb n1 n2 h ho
    go_enter Try.func30, Try.ntmps30
    go_wp2_with fail
    refine (HM.out _).mono ?_
    rintro e w' ⟨rfl, rfl⟩
    go_wp2_with fail
    go_ret
    exact ⟨ret_i64 HE.out.symm, ⟨d, H.out, fun e => (by rw [HE.out] at e; cases e)⟩, only_refl _ _⟩
  | true =>
    have hm : MayUse j r := of_decide_eq_true hb
    by_cases hbz : d.busy = 0
    · have hE : useE j r d = rE (-r) { d with busy := j } := by
        unfold useE rE
        rw [if_pos hm, if_pos hbz]
        show (if d.runs = -1 ∨ r ≤ d.runs then (0 : Int) else 11) = if d.runs = -1 then 0 else if 0 ≤ d.runs + -r ∧ d.runs + -r ≤ 1000 then 0 else 11
        have := ok_runs ho
        have := hm.2.1
        by_cases c1 : d.runs = -1
        · rw [if_pos (.inl c1), if_pos c1]
        · rw [if_neg c1]
          by_cases c2 : r ≤ d.runs
          · rw [if_pos (.inr c2), if_pos (by omega)]
          · rw [if_neg (by omega), if_neg (by omega)]
      have hDD : useD j r d = rD (-r) { d with busy := j } := by
        unfold useD rD
        show _ = if d.runs = -1 then ({ d with busy := j } : Dr) else { d with busy := j, runs := d.runs + -r }
        by_cases c1 : d.runs = -1
        · rw [if_pos c1, if_pos c1]
          simp [← c1]
        · rw [if_neg c1, if_neg c1, Int.sub_eq_add_neg]
      rw [hbz] at c8
      have hr1 := hm.2
      obtain ⟨m, hmn⟩ : ∃ m, -r = m := ⟨_, rfl⟩
      have hw : IntKind.i64.wrap (-r) = m := by rw [hmn]; exact IntWalk.i64_in _ (by omega)
      obtain ⟨Y, hY⟩ : ∃ Y, w.setCell ⟨g, 8, none⟩ (.int .i64 j) = Y := ⟨_, rfl⟩
      have hYh : Has Y g { d with busy := j } := by rw [← hY]; exact set_busy h j
      have y2 : Y.cell? ⟨b2, 0, none⟩ = some (.int .i64 r) := by rw [← hY]; exact (World.cell?_setCell_other w ⟨g, 8, none⟩ ⟨b2, 0, none⟩ _ (by intro e; cases e)).trans k2
      have HR := Lib.hid (addRuns_is g { d with busy := j } m Y hYh (by omega) (ok_runs (d := d) ho))
      rw [hE, hmn] at hq
      rw [hq] at HR
      rw [hmn] at hDD
      have HD := Lib.hid hDD
      have HG : Hid (w.grownBy Y (some g)) := Lib.hid (by rw [← hY]; exact only_self _ _)
      clear hq hb n1 n2 h ho hm hbz hE hDD hmn hYh hr1
      go_enter Try.func30, Try.ntmps30
      go_wp2_with fail
      refine (HM.out _).mono ?_
      rintro e w' ⟨rfl, rfl⟩
      go_wp2_with fail
      refine HR.out.mono ?_
      rintro e w2 ⟨rfl, h2, h3⟩
      have HZ := Lib.hid h2
      have HZ2 := Lib.hid (only_trans HG.out h3)
      clear h2 h3
      go_wp2_with fail
      go_ret
      obtain ⟨d', h1, h2⟩ := HZ.out
      exact ⟨rfl, ⟨d', h1, fun e => by rw [HD.out]; exact h2 e⟩, HZ2.out⟩
    · have HE : Hid (q = 12) := Lib.hid (by rw [← hq]; unfold useE; rw [if_pos hm, if_neg hbz])
      have e1 : (d.busy != 0) = true := by simpa using hbz
      have e2 : (d.busy == 0) = false := by simpa using hbz
      clear hq hb n1 n2 h ho hm
      go_enter Try.func30, Try.ntmps30
      go_wp2_with fail
      refine (HM.out _).mono ?_
      rintro e w' ⟨rfl, rfl⟩
      go_wp2_with fail
      go_ret
      exact ⟨ret_i64 HE.out.symm, ⟨d, H.out, fun e => (by rw [HE.out] at e; cases e)⟩, only_refl _ _⟩
set_option maxRecDepth 100000 in
theorem free_does (j r : Int) : Does 35 j r (freeE j r) (freeD j r) := fun w g b1 b2 d k1 k2 n1 n2 h ho => by
  obtain ⟨q, hq⟩ : ∃ q, freeE j r d = q := ⟨_, rfl⟩
  rw [hq]
  have c8 : w.cell? ⟨g, 8, none⟩ = some (.int .i64 d.busy) := cell_block (j := 8) h rfl
  have f8 := free_block 8 h
  have H := Lib.hid h
  obtain ⟨b, hb⟩ : ∃ b, decide (MayUse j r) = b := ⟨_, rfl⟩
  have HM := mayUse_as hb
  cases b with
  | false =>
    have HE : Hid (q = 1) := Lib.hid (by rw [← hq]; unfold freeE; rw [if_neg (of_decide_eq_false hb)])
    clear hq hb n1 n2 h ho
    go_enter Try.func35, Try.ntmps35
    go_wp2_with fail
    refine (HM.out _).mono ?_
    rintro e w' ⟨rfl, rfl⟩
    go_wp2_with fail
    go_ret
    exact ⟨ret_i64 HE.out.symm, ⟨d, H.out, fun e => (by rw [HE.out] at e; cases e)⟩, only_refl _ _⟩
  | true =>
    have hm : MayUse j r := of_decide_eq_true hb
    obtain ⟨u, hu⟩ : ∃ u, d.busy = u := ⟨_, rfl⟩
    rw [hu] at c8
    by_cases hbz : u = j
    · have hE : freeE j r d = rE r { d with busy := 0 } := by
        unfold freeE rE
        rw [if_pos hm, if_pos (hu.trans hbz)]
        show (if d.runs = -1 ∨ d.runs + r ≤ 1000 then (0 : Int) else 11) = if d.runs = -1 then 0 else if 0 ≤ d.runs + r ∧ d.runs + r ≤ 1000 then 0 else 11
        have := ok_runs ho
        have := hm.2.1
        by_cases c1 : d.runs = -1
        · rw [if_pos (.inl c1), if_pos c1]
        · rw [if_neg c1]
          by_cases c2 : d.runs + r ≤ 1000
          · rw [if_pos (.inr c2), if_pos (by omega)]
          · rw [if_neg (by omega), if_neg (by omega)]
      have hDD : freeD j r d = rD r { d with busy := 0 } := by
        unfold freeD rD
        show _ = if d.runs = -1 then ({ d with busy := 0 } : Dr) else { d with busy := 0, runs := d.runs + r }
        by_cases c1 : d.runs = -1
        · rw [if_pos c1, if_pos c1]
          simp [← c1]
        · rw [if_neg c1, if_neg c1]
      subst hbz
      have e1 : (u == u) = true := by simp
      have e2 : (u != u) = false := by simp
      have hr1 := hm.2
      have HR := Lib.hid (fun k => addRuns_is g { d with busy := 0 } r ((w.drewN k).setCell ⟨g, 8, none⟩ (.int .i64 0)) (set_busy (w := w.drewN k) h 0) (by omega) (ok_runs (d := d) ho))
      rw [hE] at hq
      rw [hq] at HR
      have HD := Lib.hid hDD
      have HG : Hid (∀ k, w.grownBy ((w.drewN k).setCell ⟨g, 8, none⟩ (.int .i64 0)) (some g)) := Lib.hid (fun k => only_setCell (only_drewN (only_refl w _) k) _ _)
      clear hq hb n1 n2 h ho hm hE hDD hr1 hu
      go_enter Try.func35, Try.ntmps35
      go_wp2_with fail
      refine (HM.out _).mono ?_
      rintro e w' ⟨rfl, rfl⟩
      go_wp2_with fail
      go_quiet (fail)
      go_wp2_with fail
      refine (HR.out _).mono ?_
      rintro e w2 ⟨rfl, h2, h3⟩
      have HZ := Lib.hid h2
      have HZ2 := Lib.hid (only_trans (HG.out _) h3)
      clear h2 h3
      go_wp2_with fail
      go_ret
      obtain ⟨d', h1, h2⟩ := HZ.out
      exact ⟨rfl, ⟨d', h1, fun e => by rw [HD.out]; exact h2 e⟩, HZ2.out⟩
    · have HE : Hid (q = 9) := Lib.hid (by rw [← hq]; unfold freeE; rw [if_pos hm, if_neg (fun e => hbz (hu.symm.trans e))])
      have e1 : (u != j) = true := by simpa using hbz
      have e2 : (u == j) = false := by simpa using hbz
      clear hq hb n1 n2 h ho hm hu
      go_enter Try.func35, Try.ntmps35
      go_wp2_with fail
      refine (HM.out _).mono ?_
      rintro e w' ⟨rfl, rfl⟩
      go_wp2_with fail
      go_quiet (fail)
      go_wp2_with fail
      go_ret
      exact ⟨ret_i64 HE.out.symm, ⟨d, H.out, fun e => (by rw [HE.out] at e; cases e)⟩, only_drewN (only_refl _ _) _⟩
end Go.Proofs.Ytfebaiefoonncaa.Draft
