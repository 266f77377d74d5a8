/- RecipeStudies. -/
import Derived.Test.YtbibkonlhghplaaRecE
namespace Go.Proofs.Ytbibkonlhghplaa.Recipe
open Go.RowKit Go.Lib
open Goods (St Sts OwnS)

/-- Each of the two-result functions as walks want it. -/
theorem study_at (I : Impl) (b : Bl) (x y : Int) (X : World) (hf : Fit X b) (hx : I64 x) (hy : I64 y) : Hid (∀ W z f, Below X.heap.size X W → studyV b x y = z → studyE b x y = f → Calls Try.prog 17 #[blV b, .int .i64 x, .int .i64 y] W fun e w' => e = .returned (.tuple #[.int .i64 z, .int .i64 f]) ∧ Hid (Below X.heap.size X w')) := Lib.hid (fun W z f hW hz hff => by
  subst hz hff
  exact (I.study b x y W (hf.under hW) hx hy).mono fun _ _ ⟨e, h⟩ => ⟨e, Lib.hid (below_then hW h)⟩)
theorem dstudy_at (b : Bl) (x y : Int) (X : World) (hf : Fit X b) : Hid (∀ W z f, Below X.heap.size X W → studyV b x y = z → studyE b x y = f → Calls Try.prog 18 #[blV b, .int .i64 x, .int .i64 y] W fun e w' => e = .returned (.tuple #[.int .i64 z, .int .i64 f]) ∧ Hid (Below X.heap.size X w')) := Lib.hid (fun W z f hW hz hff => by
  subst hz hff
  exact (dstudy b x y W (hf.under hW).1).mono fun _ _ ⟨e, h⟩ => ⟨e, Lib.hid (below_then hW h)⟩)
theorem copy_at (I : Impl) (b : Bl) (x y : Int) (X : World) (hf : Fit X b) (hx : I64 x) (hy : I64 y) : Hid (∀ W z f, Below X.heap.size X W → copyV b x y = z → copyE b x y = f → Calls Try.prog 19 #[blV b, .int .i64 x, .int .i64 y] W fun e w' => e = .returned (.tuple #[.int .i64 z, .int .i64 f]) ∧ Hid (Below X.heap.size X w')) := Lib.hid (fun W z f hW hz hff => by
  subst hz hff
  exact (I.copy b x y W (hf.under hW) hx hy).mono fun _ _ ⟨e, h⟩ => ⟨e, Lib.hid (below_then hW h)⟩)
theorem dcopy_at (b : Bl) (x y : Int) (X : World) (hf : Fit X b) : Hid (∀ W z f, Below X.heap.size X W → copyV b x y = z → copyE b x y = f → Calls Try.prog 20 #[blV b, .int .i64 x, .int .i64 y] W fun e w' => e = .returned (.tuple #[.int .i64 z, .int .i64 f]) ∧ Hid (Below X.heap.size X w')) := Lib.hid (fun W z f hW hz hff => by
  subst hz hff
  exact (dcopy b x y W (hf.under hW).1).mono fun _ _ ⟨e, h⟩ => ⟨e, Lib.hid (below_then hW h)⟩)
theorem runs_at (I : Impl) (b : Bl) (x : Int) (X : World) (hf : Fit X b) (hx : I64 x) : Hid (∀ W z f, Below X.heap.size X W → runsV b x = z → runsE b x = f → Calls Try.prog 21 #[blV b, .int .i64 x] W fun e w' => e = .returned (.tuple #[.int .i64 z, .int .i64 f]) ∧ Hid (Below X.heap.size X w')) := Lib.hid (fun W z f hW hz hff => by
  subst hz hff
  exact (I.runs b x W (hf.under hW) hx).mono fun _ _ ⟨e, h⟩ => ⟨e, Lib.hid (below_then hW h)⟩)
theorem druns_at (b : Bl) (x : Int) (X : World) (hf : Fit X b) : Hid (∀ W z f, Below X.heap.size X W → runsV b x = z → runsE b x = f → Calls Try.prog 22 #[blV b, .int .i64 x] W fun e w' => e = .returned (.tuple #[.int .i64 z, .int .i64 f]) ∧ Hid (Below X.heap.size X w')) := Lib.hid (fun W z f hW hz hff => by
  subst hz hff
  exact (druns b x W (hf.under hW).1).mono fun _ _ ⟨e, h⟩ => ⟨e, Lib.hid (below_then hW h)⟩)
set_option maxRecDepth 100000 in
set_option maxHeartbeats 8000000 in
theorem recipeStudies_in (I : Impl) (b : Bl) (x y : Int) (w : World) (hl : b.s.length = b.sm) (hs : Sts w b.sa b.s) (hi : InBl b) (hx : I64 x) (hy : I64 y) :
    Calls Try.prog 4 #[blV b, .int .i64 x, .int .i64 y] w fun e w' => e = .returned (.bool true) ∧ Below w.heap.size w w' := by
  obtain ⟨V, X, hV, hX, HXB, HP⟩ := box_blue w b
  obtain ⟨k0, k1, k2, k3, k4, k5, k6⟩ := HP.out X (Below.refl _ _)
  have HAW := awake_at I X
  by_cases h12 : b.sm ≤ 12
  case neg =>
    have d1 : decide (12 < (b.sm : Int)) = true := decide_eq_true (by omega)
    clear hl hs hi hx hy h12
    go_enter Try.func4, Try.ntmps4
    go_wp2_with fail
    clear hX hV
    refine (HAW.out X (Below.refl _ _)).mono ?_
    rintro e w1 ⟨rfl, H1⟩
    go_wp2_with fail
    go_ret
    exact ⟨rfl, below_then HXB.out H1.out⟩
  have d1 : decide (12 < (b.sm : Int)) = false := decide_eq_false (by omega)
  have hf : Fit X b := ⟨⟨hl, hs.under HXB.out, by omega⟩, hi, h12⟩
  obtain ⟨z0, hz0⟩ : ∃ z, studyV b x y = z := ⟨_, rfl⟩
  obtain ⟨f0, hf0⟩ : ∃ z, studyE b x y = z := ⟨_, rfl⟩
  obtain ⟨z1, hz1⟩ : ∃ z, copyV b x y = z := ⟨_, rfl⟩
  obtain ⟨f1, hf1⟩ : ∃ z, copyE b x y = z := ⟨_, rfl⟩
  obtain ⟨z2, hz2⟩ : ∃ z, runsV b x = z := ⟨_, rfl⟩
  obtain ⟨f2, hf2⟩ : ∃ z, runsE b x = z := ⟨_, rfl⟩
  have C0 := Lib.hid (fun W hW => (study_at I b x y X hf hx hy).out W z0 f0 hW hz0 hf0)
  have C1 := Lib.hid (fun W hW => (dstudy_at b x y X hf ).out W z0 f0 hW hz0 hf0)
  have C2 := Lib.hid (fun W hW => (copy_at I b x y X hf hx hy).out W z1 f1 hW hz1 hf1)
  have C3 := Lib.hid (fun W hW => (dcopy_at b x y X hf ).out W z1 f1 hW hz1 hf1)
  have C4 := Lib.hid (fun W hW => (runs_at I b x X hf hx).out W z2 f2 hW hz2 hf2)
  have C5 := Lib.hid (fun W hW => (druns_at b x X hf ).out W z2 f2 hW hz2 hf2)
  clear hz0 hz1 hz2 hf0 hf1 hf2 hf hl hs hi hx hy h12
  go_enter Try.func4, Try.ntmps4
  go_wp2_with fail
  clear hX hV
  refine (C0.out X (Below.refl _ _)).mono ?_
  rintro e w0 ⟨rfl, H0⟩
  clear k0 k1 k2 k3 k4 k5 k6
  obtain ⟨k0, k1, k2, k3, k4, k5, k6⟩ := HP.out w0 H0.out
  go_wp2_with fail
  refine (C1.out w0 H0.out).mono ?_
  rintro e w1 ⟨rfl, H1⟩
  clear k0 k1 k2 k3 k4 k5 k6
  obtain ⟨k0, k1, k2, k3, k4, k5, k6⟩ := HP.out w1 H1.out
  go_wp2_with fail
  refine (C2.out w1 H1.out).mono ?_
  rintro e w2 ⟨rfl, H2⟩
  clear k0 k1 k2 k3 k4 k5 k6
  obtain ⟨k0, k1, k2, k3, k4, k5, k6⟩ := HP.out w2 H2.out
  go_wp2_with fail
  refine (C3.out w2 H2.out).mono ?_
  rintro e w3 ⟨rfl, H3⟩
  clear k0 k1 k2 k3 k4 k5 k6
  obtain ⟨k0, k1, k2, k3, k4, k5, k6⟩ := HP.out w3 H3.out
  go_wp2_with fail
  refine (C4.out w3 H3.out).mono ?_
  rintro e w4 ⟨rfl, H4⟩
  clear k0 k1 k2 k3 k4 k5 k6
  obtain ⟨k0, k1, k2, k3, k4, k5, k6⟩ := HP.out w4 H4.out
  go_wp2_with fail
  refine (C5.out w4 H4.out).mono ?_
  rintro e w5 ⟨rfl, H5⟩
  clear k0 k1 k2 k3 k4 k5 k6
  go_wp2_with fail
  refine (HAW.out w5 H5.out).mono ?_
  rintro e w6 ⟨rfl, H6⟩
  go_wp2_with fail
  go_ret
  exact ⟨rfl, below_then HXB.out H6.out⟩
end Go.Proofs.Ytbibkonlhghplaa.Recipe
