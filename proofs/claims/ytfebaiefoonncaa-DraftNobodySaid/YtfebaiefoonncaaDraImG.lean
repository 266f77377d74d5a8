/- The program's Add and Copies. -/
import Derived.Test.YtfebaiefoonncaaDraImC
import Derived.Test.YtfebaiefoonncaaIntRows
import Derived.StillTailTactics
namespace Go.Proofs.Ytfebaiefoonncaa.Draft
open Go.RowKit Go.Lib IRows

set_option maxRecDepth 100000 in
set_option maxHeartbeats 4000000 in
theorem add_im {Q : Nat} {F : Nat → Prop} {l : List Dr} {z : Int} (d : Dr) (w : World) (h : DP w Q F l z) (hg : Good l z) :
    Calls Try.prog 13 #[ptr Q, elV d] w fun e w' => e = .returned (.tuple #[.int .i64 (if addE l z d = 0 then z + 1 else 0), .int .i64 (addE l z d)]) ∧ ∃ F', DP w' Q F' (addL l z d) (addZ l z d) ∧ Up w w' Q F F' := by
  obtain ⟨X, hX⟩ : ∃ X, w.alloc (.cells #[.int .i64 d.id, .int .i64 d.owner, .int .i64 d.div, .int .i64 d.place, .int .i64 d.blue, .int .i64 d.me, .int .i64 d.te, .int .i64 d.runs, .int .i64 d.busy] 36) = X := ⟨_, rfl⟩
  have hbX : Below w.heap.size w X := by rw [← hX]; exact (Below.refl _ w).alloc (Nat.le_refl _) _
  have hvX : X.heap[w.heap.size]? = some (.cells d.cells 36 (0, 0)) := by rw [← hX]; exact heap_alloc_new w _
  have HK : Hid (∀ W, Below X.heap.size X W → W.cell? ⟨w.heap.size, 0, none⟩ = some (.int .i64 d.id) ∧ W.cell? ⟨w.heap.size, 1, none⟩ = some (.int .i64 d.owner) ∧ W.cell? ⟨w.heap.size, 2, none⟩ = some (.int .i64 d.div) ∧ W.cell? ⟨w.heap.size, 3, none⟩ = some (.int .i64 d.place) ∧ W.cell? ⟨w.heap.size, 4, none⟩ = some (.int .i64 d.blue) ∧ W.cell? ⟨w.heap.size, 5, none⟩ = some (.int .i64 d.me) ∧ W.cell? ⟨w.heap.size, 6, none⟩ = some (.int .i64 d.te) ∧ W.cell? ⟨w.heap.size, 7, none⟩ = some (.int .i64 d.runs) ∧ W.cell? ⟨w.heap.size, 8, none⟩ = some (.int .i64 d.busy)) := Lib.hid fun W hW => el_at ((hW.block _ (Array.getElem?_eq_some_iff.1 hvX).1).trans hvX)
  obtain ⟨k0, k1, k2, k3, k4, k5, k6, k7, k8⟩ := HK.out X (Below.refl _ _)
  have HB := Lib.hid hbX; have HP := Lib.hid (h.under hbX); have HGD := Lib.hid hg
  obtain ⟨b, hb⟩ : ∃ b, decide (Ok d) = b := ⟨_, rfl⟩
  have HM := mayBe_as hb
  cases b with
  | false =>
    have he : addE l z d = 1 := by unfold addE; rw [if_neg fun e => of_decide_eq_false hb e.1]
    have e1 : addL l z d = l := by unfold addL; rw [he]; rfl
    have e2 : addZ l z d = z := by unfold addZ; rw [he]; rfl
    rw [he, e1, e2]
    clear h hg hbX hvX hb he e1 e2
    go_enter Try.func13, Try.ntmps13
    go_wp2_with fail
    clear hX
    refine (HM.out _).mono ?_
    rintro e w1 ⟨rfl, hb1⟩
    have HE : Hid (DP w1 Q F l z ∧ Up w w1 Q F F) := Lib.hid ⟨HP.out.under hb1, Up.of_below (below_then HB.out hb1)⟩
    clear hb1
    go_wp2_with fail
    go_ret2
    exact ⟨rfl, F, HE.out⟩
  | true =>
    have hok := of_decide_eq_true hb
    by_cases hu : d.busy = 0
    · have hn1 : (d.busy != 0) = false := by simp [hu]
      have hn2 : (d.busy == 0) = true := by simp [hu]
      have HR : Hid (∀ W, Below X.heap.size X W → Calls Try.prog 26 #[ptr Q, .int .i64 1] W fun e w' => e = .returned (.bool (decide ((l.length : Int) + 1 ≤ 64 ∧ z + 1 < mt))) ∧ Hid (Below X.heap.size X w')) := Lib.hid fun W hW =>
        (room_is 1 W (HP.out.under hW) HGD.out (by omega)).mono fun _ _ ⟨e, hb⟩ => ⟨e, Lib.hid (below_then hW hb)⟩
      obtain ⟨r, hr⟩ : ∃ r, decide ((l.length : Int) + 1 ≤ 64 ∧ z + 1 < mt) = r := ⟨_, rfl⟩
      rw [hr] at HR
      cases r with
      | false =>
        have he : addE l z d = 4 := by
          unfold addE
          rw [if_pos ⟨hok, hu⟩, if_neg fun e => of_decide_eq_false hr ⟨by omega, e.2⟩]
        have e1 : addL l z d = l := by unfold addL; rw [he]; rfl
        have e2 : addZ l z d = z := by unfold addZ; rw [he]; rfl
        rw [he, e1, e2]
        clear h hg hbX hvX hb he e1 e2 hr hok hu
        go_enter Try.func13, Try.ntmps13
        go_wp2_with fail
        clear hX
        refine (HM.out _).mono ?_
        rintro e w1 ⟨rfl, hb1⟩
        obtain ⟨y0, y1, y2, y3, y4, y5, y6, y7, y8⟩ := HK.out w1 hb1
        have HR1 := Lib.hid (HR.out w1 hb1)
        clear hb1 k0 k1 k2 k3 k4 k5 k6 k7 k8
        go_wp2_with fail
        refine HR1.out.mono ?_
        rintro e w2 ⟨rfl, hb2⟩
        have HE : Hid (DP w2 Q F l z ∧ Up w w2 Q F F) := Lib.hid ⟨HP.out.under hb2.out, Up.of_below (below_then HB.out hb2.out)⟩
        clear y0 y1 y2 y3 y4 y5 y6 y7 y8
        go_wp2_with fail
        go_ret2
        exact ⟨rfl, F, HE.out⟩
      | true =>
        have hrr := of_decide_eq_true hr
        have he : addE l z d = 0 := by
          unfold addE
          rw [if_pos ⟨hok, hu⟩, if_pos ⟨by omega, hrr.2⟩]
        have e1 : addL l z d = l ++ [{ d with id := z + 1 }] := by unfold addL; rw [he]; rfl
        have e2 : addZ l z d = z + 1 := by unfold addZ; rw [he]; rfl
        rw [he, if_pos rfl, e1, e2]
        obtain ⟨y, hy⟩ : ∃ y, z + 1 = y := ⟨_, rfl⟩
        have HA : Hid (∀ W, Below X.heap.size X W → Calls Try.prog 27 #[ptr Q, elV d] W fun e w' => e = .returned (.int .i64 y) ∧ Hid (∃ F', DP w' Q F' (l ++ [{ d with id := y }]) y ∧ Up w w' Q F F')) := Lib.hid fun W hW => by
          rw [← hy]
          refine (add_is d W (HP.out.under hW) HGD.out hok (by omega) hrr.2).mono ?_
          rintro e w' ⟨rfl, F', h1, h2⟩
          exact ⟨rfl, Lib.hid ⟨F', h1, (Up.of_below (below_then HB.out hW)).trans h2⟩⟩
        rw [hy]
        clear h hg hbX hvX hb he e1 e2 hr hok hu hy hrr
        go_enter Try.func13, Try.ntmps13
        go_wp2_with fail
        clear hX
        refine (HM.out _).mono ?_
        rintro e w1 ⟨rfl, hb1⟩
        obtain ⟨y0, y1, y2, y3, y4, y5, y6, y7, y8⟩ := HK.out w1 hb1
        have HR1 := Lib.hid (HR.out w1 hb1)
        clear hb1 k0 k1 k2 k3 k4 k5 k6 k7 k8
        go_wp2_with fail
        refine HR1.out.mono ?_
        rintro e w2 ⟨rfl, hb2⟩
        obtain ⟨x0, x1, x2, x3, x4, x5, x6, x7, x8⟩ := HK.out w2 hb2.out
        have HA2 := Lib.hid (HA.out w2.drew hb2.out.drew)
        clear y0 y1 y2 y3 y4 y5 y6 y7 y8
        go_wp2_with fail
        go_region_with (go_at_call 27; refine HA2.out.mono ?_; rintro e w3 ⟨rfl, H3⟩)
        all_goals
          go_wp2_with fail
          go_ret2
          exact ⟨rfl, H3.out⟩
    · have he : addE l z d = 1 := by unfold addE; rw [if_neg fun e => hu e.2]
      have e1 : addL l z d = l := by unfold addL; rw [he]; rfl
      have e2 : addZ l z d = z := by unfold addZ; rw [he]; rfl
      rw [he, e1, e2]
      have hn1 : (d.busy != 0) = true := by simpa using hu
      have hn2 : (d.busy == 0) = false := by simpa using hu
      clear h hg hbX hvX hb he e1 e2 hok hu
      go_enter Try.func13, Try.ntmps13
      go_wp2_with fail
      clear hX
      refine (HM.out _).mono ?_
      rintro e w1 ⟨rfl, hb1⟩
      have HE : Hid (DP w1 Q F l z ∧ Up w w1 Q F F) := Lib.hid ⟨HP.out.under hb1, Up.of_below (below_then HB.out hb1)⟩
      obtain ⟨y0, y1, y2, y3, y4, y5, y6, y7, y8⟩ := HK.out w1 hb1
      clear hb1 k0 k1 k2 k3 k4 k5 k6 k7 k8
      go_wp2_with fail
      go_ret2
      exact ⟨rfl, F, HE.out⟩
end Go.Proofs.Ytfebaiefoonncaa.Draft
