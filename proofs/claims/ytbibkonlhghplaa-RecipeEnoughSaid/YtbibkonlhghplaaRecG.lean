/- RecipeNeeds. -/
import Derived.Test.YtbibkonlhghplaaRecF
import Derived.Deep.RegionHeld3
namespace Go.Proofs.Ytbibkonlhghplaa.Recipe
open Go.RowKit Go.Lib
open Goods (St Sts OwnS)

theorem makes_at (I : Impl) (b : Bl) (r : Int) (X : World) (hf : Fit X b) (hr : I64 r) : Hid (∀ W s f, Below X.heap.size X W → makesV b r = s → makesE b r = f → Calls Try.prog 10 #[blV b, .int .i64 r] W fun e w' => e = .returned (.tuple #[.agg #[.int .i64 s.kind, .int .i64 s.qty], .int .i64 f]) ∧ Hid (Below X.heap.size X w')) := Lib.hid (fun W s f hW hz hff => by
  subst hz hff
  exact (I.makes b r W (hf.under hW) hr).mono fun _ _ ⟨e, h⟩ => ⟨e, Lib.hid (below_then hW h)⟩)
theorem dmakes_at (b : Bl) (r : Int) (X : World) (hf : Fit X b) : Hid (∀ W s f, Below X.heap.size X W → makesV b r = s → makesE b r = f → Calls Try.prog 11 #[blV b, .int .i64 r] W fun e w' => e = .returned (.tuple #[.agg #[.int .i64 s.kind, .int .i64 s.qty], .int .i64 f]) ∧ Hid (Below X.heap.size X w')) := Lib.hid (fun W s f hW hz hff => by
  subst hz hff
  exact (dmakes b r W (hf.under hW).1).mono fun _ _ ⟨e, h⟩ => ⟨e, Lib.hid (below_then hW h)⟩)
theorem time_at (I : Impl) (b : Bl) (lv r : Int) (X : World) (hf : Fit X b) (hlv : I64 lv) (hr : I64 r) : Hid (∀ W z f, Below X.heap.size X W → timeV b lv r = z → timeE b lv r = f → Calls Try.prog 12 #[blV b, .int .i64 lv, .int .i64 r] W fun e w' => e = .returned (.tuple #[.int .i64 z, .int .i64 f]) ∧ Hid (Below X.heap.size X w')) := Lib.hid (fun W z f hW hz hff => by
  subst hz hff
  exact (I.time b lv r W (hf.under hW) hlv hr).mono fun _ _ ⟨e, h⟩ => ⟨e, Lib.hid (below_then hW h)⟩)
theorem dtime_at (b : Bl) (lv r : Int) (X : World) (hf : Fit X b) : Hid (∀ W z f, Below X.heap.size X W → timeV b lv r = z → timeE b lv r = f → Calls Try.prog 13 #[blV b, .int .i64 lv, .int .i64 r] W fun e w' => e = .returned (.tuple #[.int .i64 z, .int .i64 f]) ∧ Hid (Below X.heap.size X w')) := Lib.hid (fun W z f hW hz hff => by
  subst hz hff
  exact (dtime b lv r W (hf.under hW).1).mono fun _ _ ⟨e, h⟩ => ⟨e, Lib.hid (below_then hW h)⟩)
theorem check_any (I : Impl) (b : Bl) (ty : Int) (X : World) (hf : Fit X b) (ht : I64 ty) : Hid (∀ W z, Below X.heap.size X W → chkB b ty = z → Calls Try.prog 15 #[blV b, .int .i64 ty] W fun e w' => e = .returned (.int .i64 z) ∧ Hid (Below X.heap.size X w')) := Lib.hid (fun W z hW hz => by
  subst hz
  exact (I.check b ty W (hf.under hW) ht).mono fun _ _ ⟨e, h⟩ => ⟨e, Lib.hid (below_then hW h)⟩)
theorem dcheck_any (b : Bl) (ty : Int) (X : World) (hf : Fit X b) : Hid (∀ W z, Below X.heap.size X W → chkB b ty = z → Calls Try.prog 16 #[blV b, .int .i64 ty] W fun e w' => e = .returned (.int .i64 z) ∧ Hid (Below X.heap.size X w')) := Lib.hid (fun W z hW hz => by
  subst hz
  exact (dcheck b ty W (hf.under hW).1).mono fun _ _ ⟨e, h⟩ => ⟨e, Lib.hid (below_then hW h)⟩)
theorem needs_at (I : Impl) (b : Bl) (lv r : Int) (X : World) (hf : Fit X b) (hlv : I64 lv) (hr : I64 r) : Hid (∀ W l f, Below X.heap.size X W → needsL b lv r = l → needsE b lv r = f → Calls Try.prog 8 #[blV b, .int .i64 lv, .int .i64 r] W fun e w' => ∃ a n c, e = .returned (.tuple #[.slice a n c, .int .i64 f]) ∧ Hid (Below X.heap.size X w' ∧ Below W.heap.size W w' ∧ l.length = n ∧ Sts w' a l)) := Lib.hid (fun W l f hW hz hff => by
  subst hz hff
  exact (I.needs b lv r W (hf.under hW) hlv hr).mono fun _ _ ⟨a, n, c, e, h⟩ => ⟨a, n, c, e, Lib.hid ⟨below_then hW h.out.2, h.out.2, own_sts h.out.1⟩⟩)
theorem dneeds_at (b : Bl) (lv r : Int) (X : World) (hf : Fit X b) : Hid (∀ W l f, Below X.heap.size X W → needsL b lv r = l → needsE b lv r = f → Calls Try.prog 9 #[blV b, .int .i64 lv, .int .i64 r] W fun e w' => ∃ a n c, e = .returned (.tuple #[.slice a n c, .int .i64 f]) ∧ Hid (Below X.heap.size X w' ∧ Below W.heap.size W w' ∧ l.length = n ∧ Sts w' a l)) := Lib.hid (fun W l f hW hz hff => by
  subst hz hff
  exact (dneeds b lv r W (hf.under hW).1).mono fun _ _ ⟨a, n, c, e, h⟩ => ⟨a, n, c, e, Lib.hid ⟨below_then hW h.out.2, h.out.2, own_sts h.out.1⟩⟩)
theorem needs_length {b : Bl} {lv r : Int} {w : World} (hf : Fit w b) : (needsL b lv r).length ≤ 12 := by
  unfold needsL
  split
  · rw [needL_length, hf.1.1]; exact hf.2.2
  · simp
/-- A stack in a box. -/
theorem box_st (w : World) (s : St) : ∃ V X, w.heap.size = V ∧ w.alloc (.cells #[.int .i64 s.kind, .int .i64 s.qty] 30) = X ∧ Hid (Below w.heap.size w X) ∧ Hid (∀ W, Below X.heap.size X W → W.cell? ⟨V, 0, none⟩ = some (.int .i64 s.kind) ∧ W.cell? ⟨V, 1, none⟩ = some (.int .i64 s.qty)) := by
  refine ⟨_, _, rfl, rfl, Lib.hid ((Below.refl _ w).alloc (Nat.le_refl _) _), Lib.hid (fun W hW => ?_)⟩
  have h0 := heap_alloc_new w (.cells #[.int .i64 s.kind, .int .i64 s.qty] 30)
  have h1 := (hW.block _ (Array.getElem?_eq_some_iff.1 h0).1).trans h0
  exact ⟨cell_block (j := 0) h1 rfl, cell_block (j := 1) h1 rfl⟩
set_option maxRecDepth 100000 in
set_option maxHeartbeats 8000000 in
theorem recipeNeeds_in (I : Impl) (b : Bl) (lv r : Int) (w : World) (hl : b.s.length = b.sm) (hs : Sts w b.sa b.s) (hi : InBl b) (hx : I64 lv) (hy : I64 r) :
    Calls Try.prog 3 #[blV b, .int .i64 lv, .int .i64 r] w fun e w' => e = .returned (.bool true) ∧ Below w.heap.size w w' := by
  obtain ⟨V, X, hV, hX, HXB, HP⟩ := box_blue w b
  obtain ⟨k0, k1, k2, k3, k4, k5, k6⟩ := HP.out X (Below.refl _ _)
  by_cases h12 : b.sm ≤ 12
  case neg =>
    have HAW := awake_at I X
    have d1 : decide (12 < (b.sm : Int)) = true := decide_eq_true (by omega)
    clear hl hs hi hx hy h12
    go_enter Try.func3, Try.ntmps3
    go_wp2_with fail
    clear hX hV
    refine (HAW.out X (Below.refl _ _)).mono ?_
    rintro e w1 ⟨rfl, H1⟩
    go_wp2_with fail
    go_ret
    exact ⟨rfl, below_then HXB.out H1.out⟩
  have d1 : decide (12 < (b.sm : Int)) = false := decide_eq_false (by omega)
  have hf : Fit X b := ⟨⟨hl, hs.under HXB.out, by omega⟩, hi, h12⟩
  have HF := Lib.hid hf
  have HLEN := Lib.hid (needs_length (lv := lv) (r := r) hf)
  obtain ⟨l, hl0⟩ : ∃ z, needsL b lv r = z := ⟨_, rfl⟩
  obtain ⟨f0, hf0⟩ : ∃ z, needsE b lv r = z := ⟨_, rfl⟩
  obtain ⟨s, hs1⟩ : ∃ z, makesV b r = z := ⟨_, rfl⟩
  obtain ⟨f1, hf1⟩ : ∃ z, makesE b r = z := ⟨_, rfl⟩
  obtain ⟨z2, hz2⟩ : ∃ z, timeV b lv r = z := ⟨_, rfl⟩
  obtain ⟨f2, hf2⟩ : ∃ z, timeE b lv r = z := ⟨_, rfl⟩
  obtain ⟨q1, hq1⟩ : ∃ z, chkB b lv = z := ⟨_, rfl⟩
  obtain ⟨q2, hq2⟩ : ∃ z, chkB b 32 = z := ⟨_, rfl⟩
  have h32 : I64 32 := by simp [I64]
  rw [hl0] at HLEN
  have C0 := Lib.hid (fun W hW => (needs_at I b lv r X hf hx hy).out W l f0 hW hl0 hf0)
  have C1 := Lib.hid (fun W hW => (dneeds_at b lv r X hf).out W l f0 hW hl0 hf0)
  have C2 := Lib.hid (fun Y hY W hW => (makes_at I b r Y (HF.out.under hY) hy).out W s f1 hW hs1 hf1)
  have C3 := Lib.hid (fun Y hY W hW => (dmakes_at b r Y (HF.out.under hY)).out W s f1 hW hs1 hf1)
  have C4 := Lib.hid (fun Y hY W hW => (time_at I b lv r Y (HF.out.under hY) hx hy).out W z2 f2 hW hz2 hf2)
  have C5 := Lib.hid (fun Y hY W hW => (dtime_at b lv r Y (HF.out.under hY)).out W z2 f2 hW hz2 hf2)
  have C6 := Lib.hid (fun Y hY W hW => (check_any I b lv Y (HF.out.under hY) hx).out W q1 hW hq1)
  have C7 := Lib.hid (fun Y hY W hW => (dcheck_any b lv Y (HF.out.under hY)).out W q1 hW hq1)
  have C8 := Lib.hid (fun Y hY W hW => (check_any I b 32 Y (HF.out.under hY) h32).out W q2 hW hq2)
  have C9 := Lib.hid (fun Y hY W hW => (dcheck_any b 32 Y (HF.out.under hY)).out W q2 hW hq2)
  clear hz2 hf0 hf1 hf2 hf hl hs hi hx hy h12 hl0 hs1 hq1 hq2 h32
  go_enter Try.func3, Try.ntmps3
  go_wp2_with fail
  clear hX hV
  refine (C0.out X (Below.refl _ _)).mono ?_
  rintro e w0 ⟨a, n, c, rfl, H0⟩
  clear k0 k1 k2 k3 k4 k5 k6
  obtain ⟨k0, k1, k2, k3, k4, k5, k6⟩ := HP.out w0 H0.out.1
  go_wp2_with fail
  refine (C1.out w0 H0.out.1).mono ?_
  rintro e w1 ⟨a2, n2, c2, rfl, H1⟩
  clear k0 k1 k2 k3 k4 k5 k6
  obtain ⟨k0, k1, k2, k3, k4, k5, k6⟩ := HP.out w1 H1.out.1
  have HST1 : Hid (Sts w1 a l) := Lib.hid (H0.out.2.2.2.under H1.out.2.1)
  go_wp2_with fail
  refine (C2.out w1 H1.out.1 w1 (Below.refl _ _)).mono ?_
  rintro e w2 ⟨rfl, H2⟩
  clear k0 k1 k2 k3 k4 k5 k6
  obtain ⟨V1, X1, hV1, hX1, HXB1, HP1⟩ := box_st w2 s
  have H2X : Hid (Below w1.heap.size w1 X1) := Lib.hid (below_then H2.out HXB1.out)
  have H2Y : Hid (Below X.heap.size X X1) := Lib.hid (below_then H1.out.1 H2X.out)
  obtain ⟨k0, k1, k2, k3, k4, k5, k6⟩ := HP.out X1 H2Y.out
  go_wp2_with fail
  clear hX1 hV1
  refine (C3.out X1 H2Y.out X1 (Below.refl _ _)).mono ?_
  rintro e w3 ⟨rfl, H3⟩
  clear k0 k1 k2 k3 k4 k5 k6
  obtain ⟨V2, Y, hV2, hY, HYB, HP2⟩ := box_st w3 s
  have H3X : Hid (Below X1.heap.size X1 Y) := Lib.hid (below_then H3.out HYB.out)
  have HXY : Hid (Below X.heap.size X Y) := Lib.hid (below_then H2Y.out H3X.out)
  have HSY : Hid (l.length = n ∧ Sts Y a l ∧ l.length = n2 ∧ Sts Y a2 l) := Lib.hid ⟨H0.out.2.2.1, HST1.out.under (below_then H2X.out H3X.out), H1.out.2.2.1, H1.out.2.2.2.under (below_then H2X.out H3X.out)⟩
  have HC : Hid (∀ W, Below Y.heap.size Y W → CellsU W V b ∧ (W.cell? ⟨V1, 0, none⟩ = some (.int .i64 s.kind) ∧ W.cell? ⟨V1, 1, none⟩ = some (.int .i64 s.qty)) ∧ W.cell? ⟨V2, 0, none⟩ = some (.int .i64 s.kind) ∧ W.cell? ⟨V2, 1, none⟩ = some (.int .i64 s.qty)) := Lib.hid (fun W hW => ⟨HP.out W (below_then HXY.out hW), HP1.out W (below_then H3X.out hW), HP2.out W hW⟩)
  have HSA : Hid (∀ W, Below Y.heap.size Y W → Calls Try.prog 14 #[.slice a n c, .slice a2 n2 c2] W fun e w' => e = .returned (.bool true) ∧ Hid (Below Y.heap.size Y w')) := Lib.hid (fun W hW => by
    obtain ⟨h1, h2, h3, h4⟩ := HSY.out
    exact (same_at h1 (h2.under hW) h3 (h4.under hW) (by have := HLEN.out; omega)).mono fun _ _ ⟨e, h⟩ => ⟨e, Lib.hid (below_then hW h.out)⟩)
  have T4 := Lib.hid (C4.out Y HXY.out)
  have T5 := Lib.hid (C5.out Y HXY.out)
  have T6 := Lib.hid (C6.out Y HXY.out)
  have T7 := Lib.hid (C7.out Y HXY.out)
  have T8 := Lib.hid (C8.out Y HXY.out)
  have T9 := Lib.hid (C9.out Y HXY.out)
  have TA := awake_at I Y
  have HFIN : Hid (∀ W, Below Y.heap.size Y W → Below w.heap.size w W) := Lib.hid (fun W hW => below_then HXB.out (below_then HXY.out hW))
  obtain ⟨⟨k0, k1, k2, k3, k4, k5, k6⟩, ⟨j0, j1⟩, i0, i1⟩ := HC.out Y (Below.refl _ _)
  clear C0 C1 C2 C3 C4 C5 C6 C7 C8 C9
  go_wp2_with fail
  clear hY hV2
  refine (T4.out Y (Below.refl _ _)).mono ?_
  rintro e w4 ⟨rfl, H4⟩
  clear k0 k1 k2 k3 k4 k5 k6 j0 j1 i0 i1
  obtain ⟨⟨k0, k1, k2, k3, k4, k5, k6⟩, ⟨j0, j1⟩, i0, i1⟩ := HC.out w4 H4.out
  go_wp2_with fail
  refine (T5.out w4 H4.out).mono ?_
  rintro e w5 ⟨rfl, H5⟩
  clear k0 k1 k2 k3 k4 k5 k6 j0 j1 i0 i1
  obtain ⟨⟨k0, k1, k2, k3, k4, k5, k6⟩, ⟨j0, j1⟩, i0, i1⟩ := HC.out w5 H5.out
  have H5D : Hid (Below Y.heap.size Y w5.drew) := Lib.hid (H5.out.drew)
  have HCC : Hid (∀ W, Below Y.heap.size Y W → (W.cell? ⟨V, 0, none⟩ = some (.int .i64 b.ot) ∧ W.cell? ⟨V, 1, none⟩ = some (.int .i64 b.per) ∧ W.cell? ⟨V, 2, none⟩ = some (.int .i64 b.tm) ∧ W.cell? ⟨V, 3, none⟩ = some (.slice b.sa b.sm b.sc) ∧ W.cell? ⟨V, 4, none⟩ = some (.int .i64 b.cp) ∧ W.cell? ⟨V, 5, none⟩ = some (.int .i64 b.st) ∧ W.cell? ⟨V, 6, none⟩ = some (.int .i64 b.mo)) ∧ (W.cell? ⟨V1, 0, none⟩ = some (.int .i64 s.kind) ∧ W.cell? ⟨V1, 1, none⟩ = some (.int .i64 s.qty)) ∧ W.cell? ⟨V2, 0, none⟩ = some (.int .i64 s.kind) ∧ W.cell? ⟨V2, 1, none⟩ = some (.int .i64 s.qty)) := Lib.hid (fun W hW => HC.out W hW)
  go_wp2_with fail
  go_region_held3 (fun W => (W.cell? ⟨V, 0, none⟩ = some (.int .i64 b.ot) ∧ W.cell? ⟨V, 1, none⟩ = some (.int .i64 b.per) ∧ W.cell? ⟨V, 2, none⟩ = some (.int .i64 b.tm) ∧ W.cell? ⟨V, 3, none⟩ = some (.slice b.sa b.sm b.sc) ∧ W.cell? ⟨V, 4, none⟩ = some (.int .i64 b.cp) ∧ W.cell? ⟨V, 5, none⟩ = some (.int .i64 b.st) ∧ W.cell? ⟨V, 6, none⟩ = some (.int .i64 b.mo)) ∧ (W.cell? ⟨V1, 0, none⟩ = some (.int .i64 s.kind) ∧ W.cell? ⟨V1, 1, none⟩ = some (.int .i64 s.qty)) ∧ W.cell? ⟨V2, 0, none⟩ = some (.int .i64 s.kind) ∧ W.cell? ⟨V2, 1, none⟩ = some (.int .i64 s.qty))
    (first | exact HCC.out _ H5D.out | exact HCC.out _ H6.out | exact HCC.out _ H7.out | exact HCC.out _ H8.out | exact HCC.out _ H9.out | exact HCC.out _ H10.out | exact HCC.out _ H11.out)
    (first
      | (go_at_call 14; refine (HSA.out _ H5D.out).mono ?_; rintro e w6 ⟨rfl, H6⟩)
      | (go_at_call 15; with_reducible (refine (T6.out _ H6.out).mono ?_); rintro e w7 ⟨rfl, H7⟩)
      | (go_at_call 16; with_reducible (refine (T7.out _ H7.out).mono ?_); rintro e w8 ⟨rfl, H8⟩)
      | (go_at_call 15; with_reducible (refine (T8.out _ H8.out).mono ?_); rintro e w9 ⟨rfl, H9⟩)
      | (go_at_call 16; with_reducible (refine (T9.out _ H9.out).mono ?_); rintro e w10 ⟨rfl, H10⟩)
      | (go_at_call 7; refine (TA.out _ H10.out).mono ?_; rintro e w11 ⟨rfl, H11⟩))
  all_goals
    go_wp2_with fail
    go_ret
    exact ⟨rfl, HFIN.out _ H11.out⟩
end Go.Proofs.Ytbibkonlhghplaa.Recipe
