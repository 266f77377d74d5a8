/- RecipeEnough. -/
import Derived.Test.YtbibkonlhghplaaRecG
import Derived.Laws.BitsAllLaws
namespace Go.Proofs.Ytbibkonlhghplaa.Recipe
open Go.RowKit Go.Lib
open Goods (St Sts OwnS)

theorem up_zero {n k : Int} (hk : 0 < k) (h : up n k = 0) : n ≤ 0 := by
  have := (up_enough (n := n) hk).1
  rw [h, Int.mul_zero] at this
  exact this
set_option maxRecDepth 100000 in
set_option maxHeartbeats 8000000 in
theorem recipeEnough_in (I : Impl) (b : Bl) (n : Nat) (w : World) (hl : b.s.length = b.sm) (hs : Sts w b.sa b.s) (hi : InBl b) (hn : n ≤ 65535) :
    Calls Try.prog 6 #[blV b, .int .u16 n] w fun e w' => e = .returned (.bool true) ∧ Below w.heap.size w w' := by
  obtain ⟨V, X, hV, hX, HXB, HP⟩ := box_blue w b
  obtain ⟨k0, k1, k2, k3, k4, k5, k6⟩ := HP.out X (Below.refl _ _)
  have HAW := awake_at I X
  by_cases h12 : b.sm ≤ 12
  case neg =>
    have d1 : decide (12 < (b.sm : Int)) = true := decide_eq_true (by omega)
    clear hl hs hi hn h12
    go_enter Try.func6, Try.ntmps6
    go_wp2_with fail
    clear hX hV
    refine (HAW.out X (Below.refl _ _)).mono ?_
    rintro e w1 ⟨rfl, H1⟩
    go_wp2_with fail
    go_ret
    exact ⟨rfl, below_then HXB.out H1.out⟩
  have d1 : decide (12 < (b.sm : Int)) = false := decide_eq_false (by omega)
  have hf : Fit X b := ⟨⟨hl, hs.under HXB.out, by omega⟩, hi, h12⟩
  obtain ⟨m, hm⟩ : ∃ m, n &&& 1023 = m := ⟨_, rfl⟩
  have hm1 : m ≤ 1023 := by rw [← hm]; exact Nat.and_le_right
  have hmany := u16_and_nat n 1023 (by omega) (by omega)
  rw [hm] at hmany
  replace hmany : bits .and .u16 (n : Int) 1023 = (m : Int) := hmany
  have wm : IntKind.i64.wrap (m : Int) = (m : Int) := IntWalk.i64_in _ (by omega)
  have hmI : I64 (m : Int) := by unfold I64; omega
  have HE : Hid (∀ W, Below X.heap.size X W → Below w.heap.size w W) := Lib.hid (fun W hW => below_then HXB.out hW)
  clear hm hn
  by_cases hok : BlOk b 32
  case neg =>
    obtain ⟨e1, e2⟩ := runs_arg (b := b) (n := (m : Int)) (fun h => hok h.1)
    have C0 := Lib.hid ((runs_at I b m X hf hmI).out X 0 1 (Below.refl _ _) e2 e1)
    clear hf hl hs hi h12 hok e1 e2 hmI
    go_enter Try.func6, Try.ntmps6
    go_wp2_with fail
    clear hX hV
    refine C0.out.mono ?_
    rintro e w0 ⟨rfl, H0⟩
    go_wp2_with fail
    refine (HAW.out w0 H0.out).mono ?_
    rintro e w1 ⟨rfl, H1⟩
    go_wp2_with fail
    go_ret
    exact ⟨rfl, HE.out _ H1.out⟩
  obtain ⟨e1, e2⟩ := runs_ok (b := b) (n := (m : Int)) hok (by unfold QtyOk mq; omega)
  obtain ⟨k, hk⟩ : ∃ k, up (m : Int) b.per = k := ⟨_, rfl⟩
  have hper : 0 < b.per := by have := hok.2.2.1.1; omega
  have kge : 0 ≤ k := by rw [← hk]; exact up_nonneg (by omega) hper
  have kle : k ≤ m := by rw [← hk]; exact up_le (by omega) hper
  have ken := up_enough (n := (m : Int)) hper
  have kz := up_zero (n := (m : Int)) hper
  rw [hk] at e2 ken kz
  have C0 := Lib.hid ((runs_at I b m X hf hmI).out X k 0 (Below.refl _ _) e2 e1)
  clear hk e1 e2 hmI
  by_cases hk0 : k = 0
  case pos =>
    subst hk0
    obtain rfl : m = 0 := by have := kz rfl; omega
    clear hf hl hs hi h12 hok kge kle ken kz hper hm1
    go_enter Try.func6, Try.ntmps6
    go_wp2_with fail
    clear hX hV
    refine C0.out.mono ?_
    rintro e w0 ⟨rfl, H0⟩
    go_wp2_with fail
    refine (HAW.out w0 H0.out).mono ?_
    rintro e w1 ⟨rfl, H1⟩
    go_wp2_with fail
    go_ret
    exact ⟨rfl, HE.out _ H1.out⟩
  have dk0 : (k == 0) = false := by simpa using hk0
  by_cases hk1 : 1000 < k
  case pos =>
    have d2 : decide (1000 < k) = true := decide_eq_true hk1
    have d3 : decide (1 < k) = true := decide_eq_true (by omega)
    have d4 : ((m : Int) == 0) = false := by simp; omega
    clear hf hl hs hi h12 hok kge kle ken kz hper hm1 hk1 hk0
    go_enter Try.func6, Try.ntmps6
    go_wp2_with fail
    clear hX hV
    refine C0.out.mono ?_
    rintro e w0 ⟨rfl, H0⟩
    go_wp2_with fail
    refine (HAW.out w0 H0.out).mono ?_
    rintro e w1 ⟨rfl, H1⟩
    go_wp2_with fail
    go_ret
    exact ⟨rfl, HE.out _ H1.out⟩
  have d2 : decide (1000 < k) = false := decide_eq_false hk1
  obtain ⟨e1, e2⟩ := makes_ok (b := b) (r := k) hok (by unfold RunOk; omega)
  have C1 := Lib.hid (fun W hW => (makes_at I b k X hf (by unfold I64; omega)).out W _ 0 hW e2 e1)
  obtain ⟨p, hp⟩ : ∃ p, b.per * k = p := ⟨_, rfl⟩
  rw [hp] at C1 ken
  have d3 : decide (p < (m : Int)) = false := decide_eq_false (by omega)
  have wk : IntKind.i64.wrap (k - 1) = k - 1 := IntWalk.i64_in _ (by omega)
  have HKI : Hid (I64 (k - 1)) := Lib.hid (by unfold I64; omega)
  by_cases hk2 : k = 1
  case pos =>
    subst hk2
    obtain ⟨e3, e4⟩ := makes_arg (b := b) (r := 1 - 1) (fun h => by have := h.2.1; omega)
    obtain ⟨s0, hs0⟩ : ∃ s0, makesV b (1 - 1) = s0 := ⟨_, rfl⟩
    have C2 := Lib.hid (fun W hW => (makes_at I b (1 - 1) X hf HKI.out).out W s0 1 hW hs0 e3)
    have wk0 : IntKind.i64.wrap 0 = 0 := IntWalk.i64_in _ (by omega)
    replace C2 : Hid (∀ W, Below X.heap.size X W → Calls Try.prog 10 #[blV b, .int .i64 0] W fun e w' => e = .returned (.tuple #[.agg #[.int .i64 s0.kind, .int .i64 s0.qty], .int .i64 1]) ∧ Hid (Below X.heap.size X w')) := Lib.hid C2.out
    clear hf hl hs hi h12 hok kge kle ken kz hper hm1 hk1 hk0 e1 e2 e3 e4 hs0 hp wk HKI
    go_enter Try.func6, Try.ntmps6
    go_wp2_with fail
    clear hX hV
    refine C0.out.mono ?_
    rintro e w0 ⟨rfl, H0⟩
    clear k0 k1 k2 k3 k4 k5 k6
    obtain ⟨k0, k1, k2, k3, k4, k5, k6⟩ := HP.out w0 H0.out
    go_wp2_with fail
    refine (C1.out w0 H0.out).mono ?_
    rintro e w1 ⟨rfl, H1⟩
    clear k0 k1 k2 k3 k4 k5 k6
    obtain ⟨V1, X1, hV1, hX1, HXB1, HP1⟩ := box_st w1 ⟨b.ot, p⟩
    have H1X : Hid (Below X.heap.size X X1) := Lib.hid (below_then H1.out HXB1.out)
    obtain ⟨k0, k1, k2, k3, k4, k5, k6⟩ := HP.out X1 H1X.out
    obtain ⟨j0, j1⟩ := HP1.out X1 (Below.refl _ _)
    simp only at hX1 j0 j1
    go_wp2_with fail
    clear hX1 hV1
    refine (C2.out X1 H1X.out).mono ?_
    rintro e w2 ⟨rfl, H2⟩
    clear k0 k1 k2 k3 k4 k5 k6 j0 j1
    obtain ⟨V2, X2, hV2, hX2, HXB2, HP2⟩ := box_st w2 s0
    have H2X : Hid (Below X.heap.size X X2) := Lib.hid (below_then H2.out HXB2.out)
    go_wp2_with fail
    clear hX2 hV2
    refine (HAW.out _ H2X.out).mono ?_
    rintro e w3 ⟨rfl, H3⟩
    go_wp2_with fail
    go_ret
    exact ⟨rfl, HE.out _ H3.out⟩
  have dk1 : (k == 1) = false := by simpa using hk2
  have dk2 : decide (1 < k) = true := decide_eq_true (by omega)
  obtain ⟨e3, e4⟩ := makes_ok (b := b) (r := k - 1) hok (by unfold RunOk; omega)
  have C2 := Lib.hid (fun W hW => (makes_at I b (k - 1) X hf HKI.out).out W _ 0 hW e4 e3)
  obtain ⟨q, hq⟩ : ∃ q, b.per * (k - 1) = q := ⟨_, rfl⟩
  rw [hq] at C2 ken
  have d4 : decide (q < (m : Int)) = true := decide_eq_true ken.2
  clear hf hl hs hi h12 hok kge kle ken kz hper hm1 hk1 hk0 e1 e2 e3 e4 hp hq HKI hk2
  go_enter Try.func6, Try.ntmps6
  go_wp2_with fail
  clear hX hV
  refine C0.out.mono ?_
  rintro e w0 ⟨rfl, H0⟩
  clear k0 k1 k2 k3 k4 k5 k6
  obtain ⟨k0, k1, k2, k3, k4, k5, k6⟩ := HP.out w0 H0.out
  go_wp2_with fail
  refine (C1.out w0 H0.out).mono ?_
  rintro e w1 ⟨rfl, H1⟩
  clear k0 k1 k2 k3 k4 k5 k6
  obtain ⟨V1, X1, hV1, hX1, HXB1, HP1⟩ := box_st w1 ⟨b.ot, p⟩
  have H1X : Hid (Below X.heap.size X X1) := Lib.hid (below_then H1.out HXB1.out)
  obtain ⟨k0, k1, k2, k3, k4, k5, k6⟩ := HP.out X1 H1X.out
  obtain ⟨j0, j1⟩ := HP1.out X1 (Below.refl _ _)
  simp only at hX1 j0 j1
  go_wp2_with fail
  clear hX1 hV1
  refine (C2.out X1 H1X.out).mono ?_
  rintro e w2 ⟨rfl, H2⟩
  clear k0 k1 k2 k3 k4 k5 k6 j0 j1
  obtain ⟨V2, X2, hV2, hX2, HXB2, HP2⟩ := box_st w2 ⟨b.ot, q⟩
  have H2X : Hid (Below X.heap.size X X2) := Lib.hid (below_then H2.out HXB2.out)
  obtain ⟨i0, i1⟩ := HP2.out X2 (Below.refl _ _)
  simp only at hX2 i0 i1
  go_wp2_with fail
  clear hX2 hV2
  refine (HAW.out _ H2X.out).mono ?_
  rintro e w3 ⟨rfl, H3⟩
  go_wp2_with fail
  go_ret
  exact ⟨rfl, HE.out _ H3.out⟩
end Go.Proofs.Ytbibkonlhghplaa.Recipe
