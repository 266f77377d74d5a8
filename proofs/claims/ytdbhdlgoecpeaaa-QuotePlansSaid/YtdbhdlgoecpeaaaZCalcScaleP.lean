/- Package calc's Scale, as later layers call it (behind the shelf). The program's less. A struct of two numbers as the result, beside one more. The program's Time. -/
import Derived.Test.YtdbhdlgoecpeaaaZCalcDivP
import Derived.Test.YtdbhdlgoecpeaaaZCatOrd
import Derived.Test.YtdbhdlgoecpeaaaZRecImCk
import Derived.Test.YtdbhdlgoecpeaaaZRecA
import Derived.Laws.ResultCell
import Derived.Laws.Rows
namespace Go.Proofs.Ytdbhdlgoecpeaaa.Calc
open Go.RowKit Go.Lib

/-- What Scale is to give, before it is looked whether it is a number of 64 bits. -/
def scaleQ (a b c : Int) (up : Bool) : Int := if up = true ∧ a * b % c ≠ 0 then a * b / c + 1 else a * b / c
theorem scaleQ_down (a b c : Int) : scaleQ a b c false = a * b / c := by simp [scaleQ]
theorem scaleQ_even {a b c : Int} (up : Bool) (h : a * b % c = 0) : scaleQ a b c up = a * b / c := by simp [scaleQ, h]
theorem scaleQ_up {a b c : Int} (h : a * b % c ≠ 0) : scaleQ a b c true = a * b / c + 1 := by simp [scaleQ, h]
theorem scaleQ_le (a b c : Int) (up : Bool) : a * b / c ≤ scaleQ a b c up := by unfold scaleQ; split <;> omega
theorem hi_split (a b : Int) : hiW a b * 18446744073709551616 + loW a b = a * b := by unfold hiW loW; omega
theorem hi_nonneg {a b : Int} (h : 0 ≤ a * b) : 0 ≤ hiW a b := by unfold hiW; omega
theorem div64_prod (a b c : Int) (w : World) (hp : 0 ≤ a * b) (hc : hiW a b < c) (c1 : c < 18446744073709551616) :
    Calls Try.prog 88 #[.int .u64 (hiW a b), .int .u64 (loW a b), .int .u64 c] w fun e w' => e = .returned (.tuple #[.int .u64 (a * b / c), .int .u64 (a * b % c)]) ∧ ∃ n, w' = w.drewN n := by
  have h := div64_any (hiW a b) (loW a b) c w (hi_nonneg hp) hc (lo_in a b).1 (lo_in a b).2 c1
  rwa [hi_split] at h
theorem above_in (n : Int) (w : World) (a0 : 0 ≤ n) (a1 : n ≤ 9223372036854775807) :
    Calls Try.prog 89 #[.int .u64 n] w fun e w' => e = .returned (.tuple #[.int .i64 n, .int .i64 0]) ∧ w = w' := by
  have h := above_any n w a0 (by omega)
  rwa [valN_in (by omega) a1, valE_in (by omega) a1] at h
theorem above_out (n : Int) (w : World) (a0 : 9223372036854775807 < n) (a1 : n < 18446744073709551616) :
    Calls Try.prog 89 #[.int .u64 n] w fun e w' => e = .returned (.tuple #[.int .i64 0, .int .i64 5]) ∧ w = w' := by
  have h := above_any n w (by omega) a1
  rwa [valN_out (Or.inr a0), valE_out (Or.inr a0)] at h
theorem hi_big {a b c : Int} (hc : 0 < c) (h : c ≤ hiW a b) : 18446744073709551616 ≤ a * b / c := by
  have h1 := hi_split a b
  have h2 := lo_in a b
  apply (Int.le_ediv_iff_mul_le hc).2
  have : c * 18446744073709551616 ≤ hiW a b * 18446744073709551616 := by omega
  omega
theorem hi_small {a b c : Int} (hc : 0 < c) (h : hiW a b < c) : a * b / c < 18446744073709551616 := by
  have h1 := hi_split a b
  have h2 := lo_in a b
  apply (Int.ediv_lt_iff_lt_mul hc).2
  omega
/-- What comes of Scale, at numbers that may be. -/
def ScaleGives (a b c : Int) (up : Bool) (w : World) (e : Ending) (w' : World) : Prop :=
  e = .returned (.tuple #[.int .i64 (valN (scaleQ a b c up)), .int .i64 (valE (scaleQ a b c up))]) ∧ ∃ n, w' = w.drewN n

set_option maxHeartbeats 1000000 in
theorem scale_any (a b c : Int) (up : Bool) (w : World) (a1 : 0 ≤ a) (a2 : a ≤ 9223372036854775807) (b1 : 0 ≤ b) (b2 : b ≤ 9223372036854775807) (c1 : 1 ≤ c) (c2 : c ≤ 9223372036854775807) :
    Calls Try.prog 74 #[.int .i64 a, .int .i64 b, .int .i64 c, .bool up] w (ScaleGives a b c up w) := by
  have hp : 0 ≤ a * b := Int.mul_nonneg a1 b1
  have HP := Lib.hid hp
  have h0 := hi_nonneg hp
  have g1 : decide (a < 0) = false := by simp; omega
  have g2 : decide (b < 0) = false := by simp; omega
  have g3 : decide (c < 1) = false := by simp; omega
  by_cases hb : c ≤ hiW a b
  · have big := hi_big (by omega) hb
    have out : scaleQ a b c up < -9223372036854775808 ∨ 9223372036854775807 < scaleQ a b c up := by
      have := scaleQ_le a b c up
      right; omega
    have OUT := Lib.hid out
    clear out big hp
    go_enter Try.func74, Try.ntmps74
    go_wp2_with fail
    refine (mul64_any a b _ a1 (by omega) b1 (by omega)).mono ?_
    rintro e w' ⟨rfl, rfl⟩
    go_wp2_with fail
    go_ret2
    exact ⟨pair_out OUT.out, 0, rfl⟩
  · have hs : hiW a b < c := by omega
    have small := hi_small (by omega) hs
    have q0 : 0 ≤ a * b / c := Int.ediv_nonneg hp (by omega)
    clear hb hp
    by_cases hbig : 9223372036854775807 < a * b / c
    · have out : scaleQ a b c up < -9223372036854775808 ∨ 9223372036854775807 < scaleQ a b c up := by
        have := scaleQ_le a b c up
        right; omega
      have OUT := Lib.hid out
      clear out
      go_enter Try.func74, Try.ntmps74
      go_wp2_with fail
      refine (mul64_any a b _ a1 (by omega) b1 (by omega)).mono ?_
      rintro e w' ⟨rfl, rfl⟩
      go_wp2_with fail
      refine (div64_prod a b c _ HP.out hs (by omega)).mono ?_
      rintro e w' ⟨rfl, n, rfl⟩
      go_wp2_with fail
      refine (above_out (a * b / c) _ hbig small).mono ?_
      rintro e w' ⟨rfl, rfl⟩
      go_wp2_with fail
      go_ret2
      exact ⟨pair_out OUT.out, n, rfl⟩
    · have q1 : a * b / c ≤ 9223372036854775807 := by omega
      clear hbig small
      cases up
      · go_enter Try.func74, Try.ntmps74
        go_wp2_with fail
        refine (mul64_any a b _ a1 (by omega) b1 (by omega)).mono ?_
        rintro e w' ⟨rfl, rfl⟩
        go_wp2_with fail
        refine (div64_prod a b c _ HP.out hs (by omega)).mono ?_
        rintro e w' ⟨rfl, n, rfl⟩
        go_wp2_with fail
        refine (above_in (a * b / c) _ q0 q1).mono ?_
        rintro e w' ⟨rfl, rfl⟩
        go_wp2_with fail
        go_ret2
        exact ⟨by rw [scaleQ_down]; exact pair_in (by omega) q1, n, rfl⟩
      · by_cases hr : a * b % c = 0
        · have g4 : (a * b % c == 0) = true := by simp [hr]
          have HR := Lib.hid hr
          clear hr
          go_enter Try.func74, Try.ntmps74
          go_wp2_with fail
          refine (mul64_any a b _ a1 (by omega) b1 (by omega)).mono ?_
          rintro e w' ⟨rfl, rfl⟩
          go_wp2_with fail
          refine (div64_prod a b c _ HP.out hs (by omega)).mono ?_
          rintro e w' ⟨rfl, n, rfl⟩
          go_wp2_with fail
          refine (above_in (a * b / c) _ q0 q1).mono ?_
          rintro e w' ⟨rfl, rfl⟩
          go_wp2_with fail
          go_ret2
          exact ⟨by rw [scaleQ_even _ HR.out]; exact pair_in (by omega) q1, n, rfl⟩
        · have g4 : (a * b % c == 0) = false := by simp [hr]
          have HR := Lib.hid hr
          clear hr
          go_enter Try.func74, Try.ntmps74
          go_wp2_with fail
          refine (mul64_any a b _ a1 (by omega) b1 (by omega)).mono ?_
          rintro e w' ⟨rfl, rfl⟩
          go_wp2_with fail
          refine (div64_prod a b c _ HP.out hs (by omega)).mono ?_
          rintro e w' ⟨rfl, n, rfl⟩
          go_wp2_with fail
          refine (above_in (a * b / c) _ q0 q1).mono ?_
          rintro e w' ⟨rfl, rfl⟩
          go_wp2_with fail
          refine (add_any (a * b / c) 1 _ (by omega) q1 (by omega) (by omega)).mono ?_
          rintro e w' ⟨rfl, rfl⟩
          go_wp2_with fail
          go_ret2
          exact ⟨by rw [scaleQ_up HR.out]; rfl, n, rfl⟩
set_option maxHeartbeats 1000000 in
theorem scale_arg (a b c : Int) (up : Bool) (w : World) (h : a < 0 ∨ b < 0 ∨ c < 1) :
    Calls Try.prog 74 #[.int .i64 a, .int .i64 b, .int .i64 c, .bool up] w fun e w' => e = .returned (.tuple #[.int .i64 0, .int .i64 1]) ∧ w = w' := by
  have H := Lib.hid h
  clear h
  by_cases h1 : a < 0
  · have g1 : decide (a < 0) = true := by simp; omega
    go_enter Try.func74, Try.ntmps74
    go_wp2_with fail
    go_ret2
    exact ⟨rfl, rfl⟩
  · have g1 : decide (a < 0) = false := by simp; omega
    by_cases h2 : b < 0
    · have g2 : decide (b < 0) = true := by simp; omega
      go_enter Try.func74, Try.ntmps74
      go_wp2_with fail
      go_ret2
      exact ⟨rfl, rfl⟩
    · have g2 : decide (b < 0) = false := by simp; omega
      have g3 : decide (c < 1) = true := by have := H.out; simp; omega
      go_enter Try.func74, Try.ntmps74
      go_wp2_with fail
      go_ret2
      exact ⟨rfl, rfl⟩
end Go.Proofs.Ytdbhdlgoecpeaaa.Calc
namespace Go.Proofs.Ytdbhdlgoecpeaaa.Recipe.Im
open Go.RowKit Go.Lib
open Goods (St Sts OwnS)

theorem pmul (x m : Int) (x0 : 0 ≤ x) (x1 : x ≤ 9223372036854775807) (m0 : 0 ≤ m) (m1 : m ≤ 9223372036854775807) (h : x * m ≤ 9223372036854775807) (W : World) :
    Calls Try.prog 94 #[.int .i64 x, .int .i64 m] W fun e w' => e = .returned (.tuple #[.int .i64 (x * m), .int .i64 0]) ∧ W = w' := by
  have h0 : 0 ≤ x * m := Int.mul_nonneg x0 m0
  have := Calc.mul_any x m W (by omega) x1 (by omega) m1
  rw [Calc.valN_in (by omega) h, Calc.valE_in (by omega) h] at this
  exact this
theorem up_cases {n k : Int} (hk : 1 ≤ k) : (if n % k ≠ 0 then n / k + 1 else n / k) = up n k := by
  have h := Int.mul_ediv_add_emod n k
  have h0 := Int.emod_nonneg n (show k ≠ 0 by omega)
  have h1 := Int.emod_lt_of_pos n (show 0 < k by omega)
  unfold up
  generalize n / k = q at *
  generalize n % k = r at *
  by_cases e : r = 0
  · rw [if_neg (by simpa using e)]
    have e2 : n + k - 1 = (k - 1) + k * q := by omega
    rw [e2, Int.add_mul_ediv_left _ _ (by omega), Int.ediv_eq_zero_of_lt (by omega) (by omega)]
    omega
  · rw [if_pos e]
    have e2 : n + k - 1 = (r - 1) + k * (q + 1) := by rw [Int.mul_add]; omega
    rw [e2, Int.add_mul_ediv_left _ _ (by omega), Int.ediv_eq_zero_of_lt (by omega) (by omega)]
    omega
theorem pscale (a b c : Int) (w : World) (a0 : 0 ≤ a) (a1 : a ≤ 9223372036854775807) (b0 : 0 ≤ b) (b1 : b ≤ 9223372036854775807) (c0 : 1 ≤ c) (c1 : c ≤ 9223372036854775807) (hu : up (a * b) c ≤ 9223372036854775807) :
    Calls Try.prog 74 #[.int .i64 a, .int .i64 b, .int .i64 c, .bool true] w fun e w' => e = .returned (.tuple #[.int .i64 (up (a * b) c), .int .i64 0]) ∧ Hid (Below w.heap.size w w') := by
  have h0 : 0 ≤ a * b := Int.mul_nonneg a0 b0
  have h1 := up_nonneg h0 (show 0 < c by omega)
  refine (Calc.scale_any a b c true w a0 a1 b0 b1 c0 c1).mono ?_
  rintro e w' ⟨he, n, rfl⟩
  have e1 : Calc.scaleQ a b c true = up (a * b) c := by
    rw [← up_cases c0]
    by_cases hm : a * b % c = 0
    · rw [Calc.scaleQ_even true hm, if_neg (by simpa using hm)]
    · rw [Calc.scaleQ_up hm, if_pos hm]
  rw [e1, Calc.valN_in (by omega) hu, Calc.valE_in (by omega) hu] at he
  exact ⟨he, Lib.hid (below_drewN (Below.refl _ _) n)⟩
theorem less_any (n r p : Int) (w : World) (n0 : 0 ≤ n) (n1 : n ≤ mq) (r0 : 0 ≤ r) (r1 : r ≤ 1000) (p0 : 0 ≤ p) (p1 : p ≤ 100) :
    Calls Try.prog 81 #[.int .i64 n, .int .i64 r, .int .i64 p] w fun e w' => e = .returned (.tuple #[.int .i64 (up (n * r * (100 - p)) 100), .int .i64 0]) ∧ Hid (Below w.heap.size w w') := by
  unfold mq at n1
  obtain ⟨h1, h2, h3, h4⟩ := prod3 (a := n) (b := r) (c := 100 - p) n0 r0 (by omega) n1 r1 (show 100 - p ≤ 100 by omega)
  have hu := up_nonneg (k := 100) h3 (by omega)
  have hv : up (n * r * (100 - p)) 100 ≤ 9223372036854775807 := by unfold up; omega
  have HM := Lib.hid (fun W => pmul n r n0 (by omega) r0 (by omega) (by omega) W)
  obtain ⟨m, hm⟩ : ∃ m, n * r = m := ⟨_, rfl⟩
  obtain ⟨q, hq⟩ : ∃ q, 100 - p = q := ⟨_, rfl⟩
  rw [hm] at HM h1 h2 h3 h4 hu hv
  rw [hm]
  have wp : IntKind.i64.wrap (100 - p) = q := by rw [IntWalk.i64_in _ (by omega)]; exact hq
  rw [hq] at h3 h4 hu hv
  rw [hq]
  have HS := Lib.hid (fun W => pscale m q 100 W h1 (by omega) (by omega) (by omega) (by omega) (by omega) hv)
  obtain ⟨u, hu'⟩ : ∃ u, up (m * q) 100 = u := ⟨_, rfl⟩
  rw [hu'] at HS
  rw [hu']
  clear hm hq h1 h2 h3 h4 hu hv hu' n0 n1 r0 r1 p0 p1
  go_enter Try.func81, Try.ntmps81
  go_wp2_with fail
  refine (HM.out _).mono ?_
  rintro e w' ⟨rfl, rfl⟩
  go_wp2_with fail
  refine (HS.out _).mono ?_
  rintro e w1 ⟨rfl, H1⟩
  go_wp2_with fail
  go_ret2
  exact ⟨rfl, H1⟩
end Go.Proofs.Ytdbhdlgoecpeaaa.Recipe.Im
namespace Go.Proofs.Ytdbhdlgoecpeaaa.Recipe
open Go.RowKit Go.Lib
open Goods (St Sts OwnS)

theorem ret_st2 {fn : Func} {R : Ending → World → Prop} {a : Act} {w : World} {p u : Tmp} {g : Nat} {k q : Int} {x : Value} {T : TypeId} (h : fn.results = #[.cell p 79, .tmp u]) (hd : a.defers = [])
    (ht : a.tmps.getD p undef = .pointer (some ⟨g, 0, none⟩)) (hu : a.tmps.getD u undef = x) (hb : w.heap[g]? = some (.cells #[.int .i64 k, .int .i64 q] T (0, 0))) (hR : R (.returned (.tuple #[.agg #[.int .i64 k, .int .i64 q], x])) w) : bodyPost Try.prog fn R .ret a w := by
  refine bodyPost_ret (v := .tuple #[.agg #[.int .i64 k, .int .i64 q], x]) ?_ hd hR
  rw [results_cell_tmp h, ht, hu]
  simp [asAddr, run_loadVar_row (P := Try.prog) w g T 79 #[.int .i64 k, .int .i64 q] (0, 0) _ hb Try.underlying79 rfl (by kernel_rfl), Result.andThen]
theorem st_set {w : World} {g : Nat} {a b x y : Value} {T : TypeId} (h : w.heap[g]? = some (.cells #[a, b] T (0, 0))) : ((w.setCell ⟨g, 0, none⟩ x).setCell ⟨g, 1, none⟩ y).heap[g]? = some (.cells #[x, y] T (0, 0)) := by
  have h0 := heap_setCell_same w g 0 _ _ x h
  have h1 := heap_setCell_same _ g 1 _ _ y h0
  exact h1
end Go.Proofs.Ytdbhdlgoecpeaaa.Recipe
namespace Go.Proofs.Ytdbhdlgoecpeaaa.Recipe.Im
open Go.RowKit Go.Lib
open Goods (St Sts OwnS)

set_option maxRecDepth 100000 in
set_option maxHeartbeats 8000000 in
theorem time_im (b : Bl) (lv r : Int) (w : World) (hb : BlIn w b) :
    Calls Try.prog 59 #[blV b, .int .i64 lv, .int .i64 r] w fun e w' => e = .returned (.tuple #[.int .i64 (timeV b lv r), .int .i64 (timeE b lv r)]) ∧ Below w.heap.size w w' := by
  obtain ⟨V, X, hV, hX, HXB, HP⟩ := box_blue w b
  obtain ⟨k0, k1, k2, k3, k4, k5, k6⟩ := HP.out X (Below.refl _ _)
  have HNO : Hid (∀ W, Below X.heap.size X W → Below w.heap.size w W) := Lib.hid (fun W hW => below_then HXB.out hW)
  obtain ⟨tm, HM, EM⟩ := may_at b X (hb.under HXB.out)
  have HC := Lib.hid (HM.out X (Below.refl _ _))
  clear hb HM
  obtain ⟨t0, H0, E0⟩ := level_at lv
  obtain ⟨t1, H1, E1⟩ := runs_at r
  rcases tm with _ | _
  · obtain ⟨e1, e2⟩ := time_arg (b := b) (lv := lv) (r := r) (fun h => EM.out.2 rfl h.1)
    rw [e1, e2]
    clear e1 e2
    go_enter Try.func59, Try.ntmps59
    go_wp2_with fail
    clear hX hV
    refine HC.out.mono ?_
    rintro e w1 ⟨rfl, G1⟩
    go_wp2_with fail
    go_ret2
    exact ⟨rfl, HNO.out _ G1.out⟩
  rcases t0 with _ | _
  · obtain ⟨e1, e2⟩ := time_arg (b := b) (lv := lv) (r := r) (fun h => E0.out.2 rfl (h.2.1))
    rw [e1, e2]
    clear e1 e2
    go_enter Try.func59, Try.ntmps59
    go_wp2_with fail
    clear hX hV
    refine HC.out.mono ?_
    rintro e w1 ⟨rfl, G1⟩
    obtain ⟨y0, y1, y2, y3, y4, y5, y6⟩ := HP.out w1 G1.out
    clear k0 k1 k2 k3 k4 k5 k6
    go_wp2_with fail
    refine (H0.out _).mono ?_
    rintro e w' ⟨rfl, rfl⟩
    go_wp2_with fail
    go_ret2
    exact ⟨rfl, HNO.out _ G1.out⟩
  rcases t1 with _ | _
  · obtain ⟨e1, e2⟩ := time_arg (b := b) (lv := lv) (r := r) (fun h => E1.out.2 rfl (h.2.2))
    rw [e1, e2]
    clear e1 e2
    go_enter Try.func59, Try.ntmps59
    go_wp2_with fail
    clear hX hV
    refine HC.out.mono ?_
    rintro e w1 ⟨rfl, G1⟩
    obtain ⟨y0, y1, y2, y3, y4, y5, y6⟩ := HP.out w1 G1.out
    clear k0 k1 k2 k3 k4 k5 k6
    go_wp2_with fail
    refine (H0.out _).mono ?_
    rintro e w' ⟨rfl, rfl⟩
    go_wp2_with fail
    refine (H1.out _).mono ?_
    rintro e w' ⟨rfl, rfl⟩
    go_wp2_with fail
    go_ret2
    exact ⟨rfl, HNO.out _ G1.out⟩
  have hok := EM.out.1 rfl
  have hl := E0.out.1 rfl
  have hr := E1.out.1 rfl
  have hp := hok.2.2.2.1
  obtain ⟨e1, e2⟩ := time_ok (b := b) (lv := lv) (r := r) hok ⟨hl, hr⟩
  have w2 : IntKind.i64.wrap (2 * lv) = 2 * lv := IntWalk.i64_in _ (by omega)
  have HF := Lib.hid (fun W => less_any b.tm r (2 * lv) W (by omega) (by unfold mq; omega) (by omega) hr.2 (by omega) (by omega))
  have e3 : tmv b.tm lv r = up (b.tm * r * (100 - 2 * lv)) 100 := rfl
  rw [e1, e2, e3]
  clear e1 e2 e3 hok hl hr hp
  go_enter Try.func59, Try.ntmps59
  go_wp2_with fail
  clear hX hV
  refine HC.out.mono ?_
  rintro e w1 ⟨rfl, G1⟩
  obtain ⟨y0, y1, y2, y3, y4, y5, y6⟩ := HP.out w1 G1.out
  clear k0 k1 k2 k3 k4 k5 k6
  go_wp2_with fail
  refine (H0.out _).mono ?_
  rintro e w' ⟨rfl, rfl⟩
  go_wp2_with fail
  refine (H1.out _).mono ?_
  rintro e w' ⟨rfl, rfl⟩
  go_wp2_with fail
  refine (HF.out _).mono ?_
  rintro e w2 ⟨rfl, G2⟩
  go_wp2_with fail
  go_ret2
  exact ⟨rfl, HNO.out _ (below_then G1.out G2.out)⟩
end Go.Proofs.Ytdbhdlgoecpeaaa.Recipe.Im
