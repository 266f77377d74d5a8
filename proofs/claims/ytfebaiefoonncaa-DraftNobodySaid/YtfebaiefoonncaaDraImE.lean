/- The program's closures of Learn and Give. -/
import Derived.Test.YtfebaiefoonncaaDraImD
namespace Go.Proofs.Ytfebaiefoonncaa.Draft
open Go.RowKit Go.Lib

set_option maxRecDepth 100000 in
set_option maxHeartbeats 2000000 in
theorem learn_does (m t : Int) (hm : m ≤ 9223372036854775807) (ht : t ≤ 9223372036854775807) : Does 39 m t (learnE m t) (learnD m t) := fun w g b1 b2 d k1 k2 n1 n2 h ho => by
  obtain ⟨q, hq⟩ : ∃ q, learnE m t d = q := ⟨_, rfl⟩
  rw [hq]
  have c5 : w.cell? ⟨g, 5, none⟩ = some (.int .i64 d.me) := cell_block (j := 5) h rfl
  have c6 : w.cell? ⟨g, 6, none⟩ = some (.int .i64 d.te) := cell_block (j := 6) h rfl
  have f5 := free_block 5 h; have f6 := free_block 6 h
  have H := Lib.hid h
  have h5 := ho.me; have h6 := ho.te
  obtain ⟨A, hA⟩ : ∃ A, d.me = A := ⟨_, rfl⟩
  obtain ⟨B, hB⟩ : ∃ B, d.te = B := ⟨_, rfl⟩
  rw [hA] at c5 h5
  rw [hB] at c6 h6
  obtain ⟨u, hu⟩ : ∃ u, 10 - A = u := ⟨_, rfl⟩
  obtain ⟨v, hv⟩ : ∃ v, 10 - B = v := ⟨_, rfl⟩
  have wu : IntKind.i64.wrap (10 - A) = u := by rw [hu]; exact IntWalk.i64_in _ (by omega)
  have wv : IntKind.i64.wrap (10 - B) = v := by rw [hv]; exact IntWalk.i64_in _ (by omega)
  by_cases c1 : m < 0
  · have HE : Hid (q = 1) := Lib.hid (by rw [← hq]; unfold learnE; rw [if_pos (.inl c1)])
    have d1 : decide (m < 0) = true := decide_eq_true c1
    clear hq n1 n2 h ho hu hv wu wv h5 h6 hA hB hm ht
    go_enter Try.func39, Try.ntmps39
    go_wp2_with fail
    go_ret
    exact ⟨ret_i64 HE.out.symm, ⟨d, H.out, fun e => (by rw [HE.out] at e; cases e)⟩, only_refl _ _⟩
  have d1 : decide (m < 0) = false := decide_eq_false c1
  by_cases c2 : t < 0
  · have HE : Hid (q = 1) := Lib.hid (by rw [← hq]; unfold learnE; rw [if_pos (.inr c2)])
    have d2 : decide (t < 0) = true := decide_eq_true c2
    clear hq n1 n2 h ho hu hv wu wv h5 h6 hA hB c1 hm ht
    go_enter Try.func39, Try.ntmps39
    go_wp2_with fail
    go_ret
    exact ⟨ret_i64 HE.out.symm, ⟨d, H.out, fun e => (by rw [HE.out] at e; cases e)⟩, only_refl _ _⟩
  have d2 : decide (t < 0) = false := decide_eq_false c2
  by_cases c3 : u < m
  · have HE : Hid (q = 11) := Lib.hid (by rw [← hq]; unfold learnE; rw [if_neg (by omega), if_pos (.inl (by omega))])
    have d3 : decide (u < m) = true := decide_eq_true c3
    clear hq n1 n2 h ho hu hv h5 h6 hA hB c1 c2 c3 hm ht
    go_enter Try.func39, Try.ntmps39
    go_wp2_with fail
    go_quiet (fail)
    go_wp2_with fail
    go_ret
    exact ⟨ret_i64 HE.out.symm, ⟨d, H.out, fun e => (by rw [HE.out] at e; cases e)⟩, only_drewN (only_refl _ _) _⟩
  have d3 : decide (u < m) = false := decide_eq_false c3
  by_cases c4 : v < t
  · have HE : Hid (q = 11) := Lib.hid (by rw [← hq]; unfold learnE; rw [if_neg (by omega), if_pos (.inr (by omega))])
    have d4 : decide (v < t) = true := decide_eq_true c4
    clear hq n1 n2 h ho hu hv h5 h6 hA hB c1 c2 c3 c4 hm ht
    go_enter Try.func39, Try.ntmps39
    go_wp2_with fail
    go_quiet (fail)
    go_wp2_with fail
    go_ret
    exact ⟨ret_i64 HE.out.symm, ⟨d, H.out, fun e => (by rw [HE.out] at e; cases e)⟩, only_drewN (only_refl _ _) _⟩
  have d4 : decide (v < t) = false := decide_eq_false c4
  have HE : Hid (q = 0) := Lib.hid (by rw [← hq]; unfold learnE; rw [if_neg (by omega), if_neg (by omega)])
  obtain ⟨x, hx⟩ : ∃ x, A + m = x := ⟨_, rfl⟩
  obtain ⟨y, hy⟩ : ∃ y, B + t = y := ⟨_, rfl⟩
  have wx : IntKind.i64.wrap (A + m) = x := by rw [hx]; exact IntWalk.i64_in _ (by omega)
  have wy : IntKind.i64.wrap (B + t) = y := by rw [hy]; exact IntWalk.i64_in _ (by omega)
  have HD : Hid ({ d with me := x, te := y } = learnD m t d) := Lib.hid (by unfold learnD; rw [hA, hB, hx, hy])
  clear hq n1 n2 h ho hu hv h5 h6 hA hB c1 c2 c3 c4 hx hy hm ht
  go_enter Try.func39, Try.ntmps39
  go_wp2_with fail
  go_quiet (fail)
  go_wp2_with fail
  go_region
  all_goals
    go_wp2_with fail
    go_ret
    exact ⟨ret_i64 HE.out.symm, ⟨_, set_levels (w := (w.drewN _).drew) H.out x y, fun _ => HD.out⟩, only_setCell (only_setCell (only_drewN (only_drewN (only_refl w _) _) 1) _ _) _ _⟩
set_option maxRecDepth 100000 in
set_option maxHeartbeats 2000000 in
theorem give_does (o v : Int) : Does 33 o v (giveE o v) (giveD o v) := fun w g b1 b2 d k1 k2 n1 n2 h ho => by
  obtain ⟨q, hq⟩ : ∃ q, giveE o v d = q := ⟨_, rfl⟩
  rw [hq]
  have c8 : w.cell? ⟨g, 8, none⟩ = some (.int .i64 d.busy) := cell_block (j := 8) h rfl
  have c1 : w.cell? ⟨g, 1, none⟩ = some (.int .i64 d.owner) := cell_block (j := 1) h rfl
  have c2 : w.cell? ⟨g, 2, none⟩ = some (.int .i64 d.div) := cell_block (j := 2) h rfl
  have f1 := free_block 1 h; have f2 := free_block 2 h
  have H := Lib.hid h
  obtain ⟨b, hb⟩ : ∃ b, decide ((0 ≤ o ∧ o ≤ mt) ∧ 0 ≤ v ∧ v ≤ 4) = b := ⟨_, rfl⟩
  have HM := mayHave_as hb
  cases b with
  | false =>
    have HE : Hid (q = 1) := Lib.hid (by rw [← hq]; unfold giveE; rw [if_neg (of_decide_eq_false hb)])
    clear hq hb n1 n2 h ho
    go_enter Try.func33, Try.ntmps33
    go_wp2_with fail
    refine (HM.out _).mono ?_
    rintro e w' ⟨rfl, rfl⟩
    go_wp2_with fail
    go_ret
    exact ⟨ret_i64 HE.out.symm, ⟨d, H.out, fun e => (by rw [HE.out] at e; cases e)⟩, only_refl _ _⟩
  | true =>
    have hm := of_decide_eq_true hb
    by_cases hbz : d.busy = 0
    · have HE : Hid (q = 0) := Lib.hid (by rw [← hq]; unfold giveE; rw [if_pos hm, if_pos hbz])
      have HD : Hid ({ d with owner := o, div := v } = giveD o v d) := Lib.hid rfl
      rw [hbz] at c8
      have hn1 : ¬ b1 = g := n1
      have hn2 : ¬ b2 = g := n2
      have hn3 : ¬ g = b1 := fun e => n1 e.symm
      have hn4 : ¬ g = b2 := fun e => n2 e.symm
      clear hq hb h ho hm hbz n1 n2
      go_enter Try.func33, Try.ntmps33
      go_wp2_with fail
      refine (HM.out _).mono ?_
      rintro e w' ⟨rfl, rfl⟩
      go_wp2_with fail
      go_region
      all_goals
        go_wp2_with fail
        go_ret
        exact ⟨ret_i64 HE.out.symm, ⟨_, set_who (w := w.drew) H.out o v, fun _ => HD.out⟩, only_setCell (only_setCell (only_drewN (only_refl w _) 1) _ _) _ _⟩
    · have HE : Hid (q = 12) := Lib.hid (by rw [← hq]; unfold giveE; rw [if_pos hm, if_neg hbz])
      have e1 : (d.busy != 0) = true := by simpa using hbz
      have e2 : (d.busy == 0) = false := by simpa using hbz
      clear hq hb n1 n2 h ho hm
      go_enter Try.func33, Try.ntmps33
      go_wp2_with fail
      refine (HM.out _).mono ?_
      rintro e w' ⟨rfl, rfl⟩
      go_wp2_with fail
      go_ret
      exact ⟨ret_i64 HE.out.symm, ⟨d, H.out, fun e => (by rw [HE.out] at e; cases e)⟩, only_refl _ _⟩
end Go.Proofs.Ytfebaiefoonncaa.Draft
