/- Package calc's Scale, as later layers call it (behind the shelf). The program's less; what a stack comes to, as Needs' closure tells it. A struct of two numbers as the result, beside one more. The program's Runs, Time, Makes. The program's longer: a time, and that of runs behind it. -/
import Derived.Test.YtohlkaoophbinaaZCalcDivP
import Derived.Test.YtohlkaoophbinaaZBomImC
import Derived.Test.YtohlkaoophbinaaZBomImJ
import Derived.Test.YtohlkaoophbinaaZCalcMulP
import Derived.Test.YtohlkaoophbinaaZCatMath
import Derived.Laws.ResultCell
import Derived.Laws.Rows
import Derived.Test.YtohlkaoophbinaaZBomImA
namespace Go.Proofs.Ytohlkaoophbinaa.Calc
open Go.RowKit Go.Lib

/-- What Scale is to give, before it is looked whether it is a number of 64 bits. -/
def scaleQ (a b c : Int) (up : Bool) : Int := if up = true ∧ a * b % c ≠ 0 then a * b / c + 1 else a * b / c
theorem scaleQ_down (a b c : Int) : scaleQ a b c false = a * b / c := by simp [scaleQ]
theorem scaleQ_even {a b c : Int} (up : Bool) (h : a * b % c = 0) : scaleQ a b c up = a * b / c := by simp [scaleQ, h]
theorem scaleQ_up {a b c : Int} (h : a * b % c ≠ 0) : scaleQ a b c true = a * b / c + 1 := by simp [scaleQ, h]
theorem scaleQ_le (a b c : Int) (up : Bool) : a * b / c ≤ scaleQ a b c up := by unfold scaleQ; split <;> omega
theorem hi_split (a b : Int) : hiW a b * 18446744073709551616 + loW a b = a * b := by unfold hiW loW; omega
theorem hi_nonneg {a b : Int} (h : 0 ≤ a * b) : 0 ≤ hiW a b := by unfold hiW; omega
theorem div64_prod (a b c : Int) (w : World) (hp : 0 ≤ a * b) (hc : hiW a b < c) (c1 : c < 18446744073709551616) :
    Calls Try.prog 98 #[.int .u64 (hiW a b), .int .u64 (loW a b), .int .u64 c] w fun e w' => e = .returned (.tuple #[.int .u64 (a * b / c), .int .u64 (a * b % c)]) ∧ ∃ n, w' = w.drewN n := by
  have h := div64_any (hiW a b) (loW a b) c w (hi_nonneg hp) hc (lo_in a b).1 (lo_in a b).2 c1
  rwa [hi_split] at h
theorem above_in (n : Int) (w : World) (a0 : 0 ≤ n) (a1 : n ≤ 9223372036854775807) :
    Calls Try.prog 96 #[.int .u64 n] w fun e w' => e = .returned (.tuple #[.int .i64 n, .int .i64 0]) ∧ w = w' := by
  have h := above_any n w a0 (by omega)
  rwa [valN_in (by omega) a1, valE_in (by omega) a1] at h
theorem above_out (n : Int) (w : World) (a0 : 9223372036854775807 < n) (a1 : n < 18446744073709551616) :
    Calls Try.prog 96 #[.int .u64 n] w fun e w' => e = .returned (.tuple #[.int .i64 0, .int .i64 5]) ∧ w = w' := by
  have h := above_any n w (by omega) a1
  rwa [valN_out (Or.inr a0), valE_out (Or.inr a0)] at h
theorem hi_big {a b c : Int} (hc : 0 < c) (h : c ≤ hiW a b) : 18446744073709551616 ≤ a * b / c := by
  have h1 := hi_split a b
  have h2 := lo_in a b
  apply (Int.le_ediv_iff_mul_le hc).2
  have : c * 18446744073709551616 ≤ hiW a b * 18446744073709551616 := by omega
  omega
theorem hi_small {a b c : Int} (hc : 0 < c) (h : hiW a b < c) : a * b / c < 18446744073709551616 := by
  have h1 := hi_split a b
  have h2 := lo_in a b
  apply (Int.ediv_lt_iff_lt_mul hc).2
  omega
/-- What comes of Scale, at numbers that may be. -/
def ScaleGives (a b c : Int) (up : Bool) (w : World) (e : Ending) (w' : World) : Prop :=
  e = .returned (.tuple #[.int .i64 (valN (scaleQ a b c up)), .int .i64 (valE (scaleQ a b c up))]) ∧ ∃ n, w' = w.drewN n

set_option maxHeartbeats 1000000 in
theorem scale_any (a b c : Int) (up : Bool) (w : World) (a1 : 0 ≤ a) (a2 : a ≤ 9223372036854775807) (b1 : 0 ≤ b) (b2 : b ≤ 9223372036854775807) (c1 : 1 ≤ c) (c2 : c ≤ 9223372036854775807) :
    Calls Try.prog 83 #[.int .i64 a, .int .i64 b, .int .i64 c, .bool up] w (ScaleGives a b c up w) := by
  have hp : 0 ≤ a * b := Int.mul_nonneg a1 b1
  have HP := Lib.hid hp
  have h0 := hi_nonneg hp
  have g1 : decide (a < 0) = false := by simp; omega
  have g2 : decide (b < 0) = false := by simp; omega
  have g3 : decide (c < 1) = false := by simp; omega
  by_cases hb : c ≤ hiW a b
  · have big := hi_big (by omega) hb
    have out : scaleQ a b c up < -9223372036854775808 ∨ 9223372036854775807 < scaleQ a b c up := by
      have := scaleQ_le a b c up
      right; omega
    have OUT := Lib.hid out
    clear out big hp
    go_enter Try.func83, Try.ntmps83
    go_wp2_with fail
    refine (mul64_any a b _ a1 (by omega) b1 (by omega)).mono ?_
    rintro e w' ⟨rfl, rfl⟩
    go_wp2_with fail
    go_ret2
    exact ⟨pair_out OUT.out, 0, rfl⟩
  · have hs : hiW a b < c := by omega
    have small := hi_small (by omega) hs
    have q0 : 0 ≤ a * b / c := Int.ediv_nonneg hp (by omega)
    clear hb hp
    by_cases hbig : 9223372036854775807 < a * b / c
    · have out : scaleQ a b c up < -9223372036854775808 ∨ 9223372036854775807 < scaleQ a b c up := by
        have := scaleQ_le a b c up
        right; omega
      have OUT := Lib.hid out
      clear out
      go_enter Try.func83, Try.ntmps83
      go_wp2_with fail
      refine (mul64_any a b _ a1 (by omega) b1 (by omega)).mono ?_
      rintro e w' ⟨rfl, rfl⟩
      go_wp2_with fail
      refine (div64_prod a b c _ HP.out hs (by omega)).mono ?_
      rintro e w' ⟨rfl, n, rfl⟩
      go_wp2_with fail
      refine (above_out (a * b / c) _ hbig small).mono ?_
      rintro e w' ⟨rfl, rfl⟩
      go_wp2_with fail
      go_ret2
      exact ⟨pair_out OUT.out, n, rfl⟩
    · have q1 : a * b / c ≤ 9223372036854775807 := by omega
      clear hbig small
      cases up
      · go_enter Try.func83, Try.ntmps83
        go_wp2_with fail
        refine (mul64_any a b _ a1 (by omega) b1 (by omega)).mono ?_
        rintro e w' ⟨rfl, rfl⟩
        go_wp2_with fail
        refine (div64_prod a b c _ HP.out hs (by omega)).mono ?_
        rintro e w' ⟨rfl, n, rfl⟩
        go_wp2_with fail
        refine (above_in (a * b / c) _ q0 q1).mono ?_
        rintro e w' ⟨rfl, rfl⟩
        go_wp2_with fail
        go_ret2
        exact ⟨by rw [scaleQ_down]; exact pair_in (by omega) q1, n, rfl⟩
      · by_cases hr : a * b % c = 0
        · have g4 : (a * b % c == 0) = true := by simp [hr]
          have HR := Lib.hid hr
          clear hr
          go_enter Try.func83, Try.ntmps83
          go_wp2_with fail
          refine (mul64_any a b _ a1 (by omega) b1 (by omega)).mono ?_
          rintro e w' ⟨rfl, rfl⟩
          go_wp2_with fail
          refine (div64_prod a b c _ HP.out hs (by omega)).mono ?_
          rintro e w' ⟨rfl, n, rfl⟩
          go_wp2_with fail
          refine (above_in (a * b / c) _ q0 q1).mono ?_
          rintro e w' ⟨rfl, rfl⟩
          go_wp2_with fail
          go_ret2
          exact ⟨by rw [scaleQ_even _ HR.out]; exact pair_in (by omega) q1, n, rfl⟩
        · have g4 : (a * b % c == 0) = false := by simp [hr]
          have HR := Lib.hid hr
          clear hr
          go_enter Try.func83, Try.ntmps83
          go_wp2_with fail
          refine (mul64_any a b _ a1 (by omega) b1 (by omega)).mono ?_
          rintro e w' ⟨rfl, rfl⟩
          go_wp2_with fail
          refine (div64_prod a b c _ HP.out hs (by omega)).mono ?_
          rintro e w' ⟨rfl, n, rfl⟩
          go_wp2_with fail
          refine (above_in (a * b / c) _ q0 q1).mono ?_
          rintro e w' ⟨rfl, rfl⟩
          go_wp2_with fail
          refine (add_any (a * b / c) 1 _ (by omega) q1 (by omega) (by omega)).mono ?_
          rintro e w' ⟨rfl, rfl⟩
          go_wp2_with fail
          go_ret2
          exact ⟨by rw [scaleQ_up HR.out]; rfl, n, rfl⟩
set_option maxHeartbeats 1000000 in
theorem scale_arg (a b c : Int) (up : Bool) (w : World) (h : a < 0 ∨ b < 0 ∨ c < 1) :
    Calls Try.prog 83 #[.int .i64 a, .int .i64 b, .int .i64 c, .bool up] w fun e w' => e = .returned (.tuple #[.int .i64 0, .int .i64 1]) ∧ w = w' := by
  have H := Lib.hid h
  clear h
  by_cases h1 : a < 0
  · have g1 : decide (a < 0) = true := by simp; omega
    go_enter Try.func83, Try.ntmps83
    go_wp2_with fail
    go_ret2
    exact ⟨rfl, rfl⟩
  · have g1 : decide (a < 0) = false := by simp; omega
    by_cases h2 : b < 0
    · have g2 : decide (b < 0) = true := by simp; omega
      go_enter Try.func83, Try.ntmps83
      go_wp2_with fail
      go_ret2
      exact ⟨rfl, rfl⟩
    · have g2 : decide (b < 0) = false := by simp; omega
      have g3 : decide (c < 1) = true := by have := H.out; simp; omega
      go_enter Try.func83, Try.ntmps83
      go_wp2_with fail
      go_ret2
      exact ⟨rfl, rfl⟩
end Go.Proofs.Ytohlkaoophbinaa.Calc
namespace Go.Proofs.Ytohlkaoophbinaa.Recipe.Im
open Go.RowKit Go.Lib
open Goods (St Sts OwnS)

theorem pmul (x m : Int) (x0 : 0 ≤ x) (x1 : x ≤ 9223372036854775807) (m0 : 0 ≤ m) (m1 : m ≤ 9223372036854775807) (h : x * m ≤ 9223372036854775807) (W : World) :
    Calls Try.prog 79 #[.int .i64 x, .int .i64 m] W fun e w' => e = .returned (.tuple #[.int .i64 (x * m), .int .i64 0]) ∧ W = w' := by
  have h0 : 0 ≤ x * m := Int.mul_nonneg x0 m0
  have := Calc.mul_any x m W (by omega) x1 (by omega) m1
  rw [Calc.valN_in (by omega) h, Calc.valE_in (by omega) h] at this
  exact this
theorem up_cases {n k : Int} (hk : 1 ≤ k) : (if n % k ≠ 0 then n / k + 1 else n / k) = up n k := by
  have h := Int.mul_ediv_add_emod n k
  have h0 := Int.emod_nonneg n (show k ≠ 0 by omega)
  have h1 := Int.emod_lt_of_pos n (show 0 < k by omega)
  unfold up
  generalize n / k = q at *
  generalize n % k = r at *
  by_cases e : r = 0
  · rw [if_neg (by simpa using e)]
    have e2 : n + k - 1 = (k - 1) + k * q := by omega
    rw [e2, Int.add_mul_ediv_left _ _ (by omega), Int.ediv_eq_zero_of_lt (by omega) (by omega)]
    omega
  · rw [if_pos e]
    have e2 : n + k - 1 = (r - 1) + k * (q + 1) := by rw [Int.mul_add]; omega
    rw [e2, Int.add_mul_ediv_left _ _ (by omega), Int.ediv_eq_zero_of_lt (by omega) (by omega)]
    omega
theorem pscale (a b c : Int) (w : World) (a0 : 0 ≤ a) (a1 : a ≤ 9223372036854775807) (b0 : 0 ≤ b) (b1 : b ≤ 9223372036854775807) (c0 : 1 ≤ c) (c1 : c ≤ 9223372036854775807) (hu : up (a * b) c ≤ 9223372036854775807) :
    Calls Try.prog 83 #[.int .i64 a, .int .i64 b, .int .i64 c, .bool true] w fun e w' => e = .returned (.tuple #[.int .i64 (up (a * b) c), .int .i64 0]) ∧ Hid (Below w.heap.size w w') := by
  have h0 : 0 ≤ a * b := Int.mul_nonneg a0 b0
  have h1 := up_nonneg h0 (show 0 < c by omega)
  refine (Calc.scale_any a b c true w a0 a1 b0 b1 c0 c1).mono ?_
  rintro e w' ⟨he, n, rfl⟩
  have e1 : Calc.scaleQ a b c true = up (a * b) c := by
    rw [← up_cases c0]
    by_cases hm : a * b % c = 0
    · rw [Calc.scaleQ_even true hm, if_neg (by simpa using hm)]
    · rw [Calc.scaleQ_up hm, if_pos hm]
  rw [e1, Calc.valN_in (by omega) hu, Calc.valE_in (by omega) hu] at he
  exact ⟨he, Lib.hid (below_drewN (Below.refl _ _) n)⟩
theorem less_any (n r p : Int) (w : World) (n0 : 0 ≤ n) (n1 : n ≤ mq) (r0 : 0 ≤ r) (r1 : r ≤ 1000) (p0 : 0 ≤ p) (p1 : p ≤ 100) :
    Calls Try.prog 78 #[.int .i64 n, .int .i64 r, .int .i64 p] w fun e w' => e = .returned (.tuple #[.int .i64 (up (n * r * (100 - p)) 100), .int .i64 0]) ∧ Hid (Below w.heap.size w w') := by
  unfold mq at n1
  obtain ⟨h1, h2, h3, h4⟩ := prod3 (a := n) (b := r) (c := 100 - p) n0 r0 (by omega) n1 r1 (show 100 - p ≤ 100 by omega)
  have hu := up_nonneg (k := 100) h3 (by omega)
  have hv : up (n * r * (100 - p)) 100 ≤ 9223372036854775807 := by unfold up; omega
  have HM := Lib.hid (fun W => pmul n r n0 (by omega) r0 (by omega) (by omega) W)
  obtain ⟨m, hm⟩ : ∃ m, n * r = m := ⟨_, rfl⟩
  obtain ⟨q, hq⟩ : ∃ q, 100 - p = q := ⟨_, rfl⟩
  rw [hm] at HM h1 h2 h3 h4 hu hv
  rw [hm]
  have wp : IntKind.i64.wrap (100 - p) = q := by rw [IntWalk.i64_in _ (by omega)]; exact hq
  rw [hq] at h3 h4 hu hv
  rw [hq]
  have HS := Lib.hid (fun W => pscale m q 100 W h1 (by omega) (by omega) (by omega) (by omega) (by omega) hv)
  obtain ⟨u, hu'⟩ : ∃ u, up (m * q) 100 = u := ⟨_, rfl⟩
  rw [hu'] at HS
  rw [hu']
  clear hm hq h1 h2 h3 h4 hu hv hu' n0 n1 r0 r1 p0 p1
  go_enter Try.func78, Try.ntmps78
  go_wp2_with fail
  refine (HM.out _).mono ?_
  rintro e w' ⟨rfl, rfl⟩
  go_wp2_with fail
  refine (HS.out _).mono ?_
  rintro e w1 ⟨rfl, H1⟩
  go_wp2_with fail
  go_ret2
  exact ⟨rfl, H1⟩
/-- What Needs' closure tells of so many of a type. -/
def tellV (q lv r : Int) : Int := if nd q lv r ≤ mq then nd q lv r else 0
def tellE (q lv r : Int) : Int := if nd q lv r ≤ mq then 0 else 5
set_option maxRecDepth 100000 in
set_option maxHeartbeats 4000000 in
theorem tell_im (q lv r : Int) (g h : Nat) (w : World) (q0 : 0 ≤ q) (q1 : q ≤ mq) (hl : LvOk lv r) (c1 : w.cell? ⟨g, 0, none⟩ = some (.int .i64 r)) (c2 : w.cell? ⟨h, 0, none⟩ = some (.int .i64 lv))
    (c3 : ∀ W, Below w.heap.size w W → W.cell? ⟨g, 0, none⟩ = some (.int .i64 r)) :
    Calls Try.prog 77 #[.int .i64 q, .pointer (some ⟨g, 0, none⟩), .pointer (some ⟨h, 0, none⟩)] w fun e w' => e = .returned (.tuple #[.int .i64 (tellV q lv r), .int .i64 (tellE q lv r)]) ∧ Hid (Below w.heap.size w w') := by
  have hni := nd_in q0 q1 hl
  have HL := Lib.hid (fun W => less_any q r lv W q0 q1 (by have := hl.2; omega) hl.2.2 hl.1.1 (by have := hl.1.2; omega))
  have hn : nd q lv r = max r (up (q * r * (100 - lv)) 100) := rfl
  unfold tellV tellE
  obtain ⟨u, hu⟩ : ∃ u, up (q * r * (100 - lv)) 100 = u := ⟨_, rfl⟩
  rw [hu] at HL hn
  obtain ⟨M, hM⟩ : ∃ M, nd q lv r = M := ⟨_, rfl⟩
  have hx : max u r = M := by rw [← hM, hn]; omega
  rw [hM] at hni ⊢
  have C3 := Lib.hid c3
  clear c3 hn hM hu hl q0 q1
  by_cases k : M ≤ mq
  · rw [if_pos k, if_pos k]
    unfold mq at k
    have d1 : decide (1125899906842624 < M) = false := decide_eq_false (by omega)
    clear k hni
    go_enter Try.func77, Try.ntmps77
    go_wp2_with fail
    refine (HL.out _).mono ?_
    rintro e w1 ⟨rfl, H1⟩
    have y1 := C3.out w1 H1.out
    go_wp2_with fail
    go_ret2
    exact ⟨rfl, H1⟩
  · rw [if_neg k, if_neg k]
    unfold mq at k
    have d1 : decide (1125899906842624 < M) = true := decide_eq_true (by omega)
    clear k hni
    go_enter Try.func77, Try.ntmps77
    go_wp2_with fail
    refine (HL.out _).mono ?_
    rintro e w1 ⟨rfl, H1⟩
    have y1 := C3.out w1 H1.out
    go_wp2_with fail
    go_ret2
    exact ⟨rfl, H1⟩
end Go.Proofs.Ytohlkaoophbinaa.Recipe.Im
namespace Go.Proofs.Ytohlkaoophbinaa.Recipe
open Go.RowKit Go.Lib
open Goods (St Sts OwnS)

theorem ret_st2 {fn : Func} {R : Ending → World → Prop} {a : Act} {w : World} {p u : Tmp} {g : Nat} {k q : Int} {x : Value} {T : TypeId} (h : fn.results = #[.cell p 51, .tmp u]) (hd : a.defers = [])
    (ht : a.tmps.getD p undef = .pointer (some ⟨g, 0, none⟩)) (hu : a.tmps.getD u undef = x) (hb : w.heap[g]? = some (.cells #[.int .i64 k, .int .i64 q] T (0, 0))) (hR : R (.returned (.tuple #[.agg #[.int .i64 k, .int .i64 q], x])) w) : bodyPost Try.prog fn R .ret a w := by
  refine bodyPost_ret (v := .tuple #[.agg #[.int .i64 k, .int .i64 q], x]) ?_ hd hR
  rw [results_cell_tmp h, ht, hu]
  simp [asAddr, run_loadVar_row (P := Try.prog) w g T 51 #[.int .i64 k, .int .i64 q] (0, 0) _ hb Try.underlying51 rfl (by kernel_rfl), Result.andThen]
theorem st_set {w : World} {g : Nat} {a b x y : Value} {T : TypeId} (h : w.heap[g]? = some (.cells #[a, b] T (0, 0))) : ((w.setCell ⟨g, 0, none⟩ x).setCell ⟨g, 1, none⟩ y).heap[g]? = some (.cells #[x, y] T (0, 0)) := by
  have h0 := heap_setCell_same w g 0 _ _ x h
  have h1 := heap_setCell_same _ g 1 _ _ y h0
  exact h1
end Go.Proofs.Ytohlkaoophbinaa.Recipe
namespace Go.Proofs.Ytohlkaoophbinaa.Recipe.Im
open Go.RowKit Go.Lib
open Goods (St Sts OwnS)

set_option maxRecDepth 100000 in
set_option maxHeartbeats 8000000 in
theorem runs_im (b : Bl) (n : Int) (w : World) (hb : BlIn w b) :
    Calls Try.prog 55 #[blV b, .int .i64 n] w fun e w' => e = .returned (.tuple #[.int .i64 (runsV b n), .int .i64 (runsE b n)]) ∧ Below w.heap.size w w' := by
  obtain ⟨V, X, hV, hX, HXB, HP⟩ := box_blue w b
  obtain ⟨k0, k1, k2, k3, k4, k5, k6⟩ := HP.out X (Below.refl _ _)
  have HNO : Hid (∀ W, Below X.heap.size X W → Below w.heap.size w W) := Lib.hid (fun W hW => below_then HXB.out hW)
  obtain ⟨tm, HM, EM⟩ := may_at b X (hb.under HXB.out)
  have HC := Lib.hid (HM.out X (Below.refl _ _))
  clear hb HM
  obtain ⟨t0, H0, E0⟩ := in_at n 0 1125899906842624
  rcases tm with _ | _
  · obtain ⟨e1, e2⟩ := runs_arg (b := b) (n := n) (fun h => EM.out.2 rfl h.1)
    rw [e1, e2]
    clear e1 e2
    go_enter Try.func55, Try.ntmps55
    go_wp2_with fail
    clear hX hV
    refine HC.out.mono ?_
    rintro e w1 ⟨rfl, G1⟩
    go_wp2_with fail
    go_ret2
    exact ⟨rfl, HNO.out _ G1.out⟩
  rcases t0 with _ | _
  · obtain ⟨e1, e2⟩ := runs_arg (b := b) (n := n) (fun h => E0.out.2 rfl (by have := h.2; unfold QtyOk mq at this; exact this))
    rw [e1, e2]
    clear e1 e2
    go_enter Try.func55, Try.ntmps55
    go_wp2_with fail
    clear hX hV
    refine HC.out.mono ?_
    rintro e w1 ⟨rfl, G1⟩
    obtain ⟨y0, y1, y2, y3, y4, y5, y6⟩ := HP.out w1 G1.out
    clear k0 k1 k2 k3 k4 k5 k6
    go_wp2_with fail
    refine (H0.out _).mono ?_
    rintro e w' ⟨rfl, rfl⟩
    go_wp2_with fail
    go_ret2
    exact ⟨rfl, HNO.out _ G1.out⟩
  have hok := EM.out.1 rfl
  have hn := E0.out.1 rfl
  have hp := hok.2.2.1
  obtain ⟨e1, e2⟩ := runs_ok (b := b) (n := n) hok (by unfold QtyOk mq; exact hn)
  have hu := up_le (k := b.per) hn.1 (by omega)
  have HF := Lib.hid (fun W => pscale n 1 b.per W hn.1 (by omega) (by omega) (by omega) hp.1 (by omega) (by rw [Int.mul_one]; omega))
  rw [Int.mul_one] at HF
  rw [e1, e2]
  clear e1 e2 hok hn hp hu
  go_enter Try.func55, Try.ntmps55
  go_wp2_with fail
  clear hX hV
  refine HC.out.mono ?_
  rintro e w1 ⟨rfl, G1⟩
  obtain ⟨y0, y1, y2, y3, y4, y5, y6⟩ := HP.out w1 G1.out
  clear k0 k1 k2 k3 k4 k5 k6
  go_wp2_with fail
  refine (H0.out _).mono ?_
  rintro e w' ⟨rfl, rfl⟩
  go_wp2_with fail
  refine (HF.out _).mono ?_
  rintro e w2 ⟨rfl, G2⟩
  go_wp2_with fail
  go_ret2
  exact ⟨rfl, HNO.out _ (below_then G1.out G2.out)⟩
set_option maxRecDepth 100000 in
set_option maxHeartbeats 8000000 in
theorem time_im (b : Bl) (lv r : Int) (w : World) (hb : BlIn w b) :
    Calls Try.prog 66 #[blV b, .int .i64 lv, .int .i64 r] w fun e w' => e = .returned (.tuple #[.int .i64 (timeV b lv r), .int .i64 (timeE b lv r)]) ∧ Below w.heap.size w w' := by
  obtain ⟨V, X, hV, hX, HXB, HP⟩ := box_blue w b
  obtain ⟨k0, k1, k2, k3, k4, k5, k6⟩ := HP.out X (Below.refl _ _)
  have HNO : Hid (∀ W, Below X.heap.size X W → Below w.heap.size w W) := Lib.hid (fun W hW => below_then HXB.out hW)
  obtain ⟨tm, HM, EM⟩ := may_at b X (hb.under HXB.out)
  have HC := Lib.hid (HM.out X (Below.refl _ _))
  clear hb HM
  obtain ⟨t0, H0, E0⟩ := level_at lv
  obtain ⟨t1, H1, E1⟩ := runs_at r
  rcases tm with _ | _
  · obtain ⟨e1, e2⟩ := time_arg (b := b) (lv := lv) (r := r) (fun h => EM.out.2 rfl h.1)
    rw [e1, e2]
    clear e1 e2
    go_enter Try.func66, Try.ntmps66
    go_wp2_with fail
    clear hX hV
    refine HC.out.mono ?_
    rintro e w1 ⟨rfl, G1⟩
    go_wp2_with fail
    go_ret2
    exact ⟨rfl, HNO.out _ G1.out⟩
  rcases t0 with _ | _
  · obtain ⟨e1, e2⟩ := time_arg (b := b) (lv := lv) (r := r) (fun h => E0.out.2 rfl (h.2.1))
    rw [e1, e2]
    clear e1 e2
    go_enter Try.func66, Try.ntmps66
    go_wp2_with fail
    clear hX hV
    refine HC.out.mono ?_
    rintro e w1 ⟨rfl, G1⟩
    obtain ⟨y0, y1, y2, y3, y4, y5, y6⟩ := HP.out w1 G1.out
    clear k0 k1 k2 k3 k4 k5 k6
    go_wp2_with fail
    refine (H0.out _).mono ?_
    rintro e w' ⟨rfl, rfl⟩
    go_wp2_with fail
    go_ret2
    exact ⟨rfl, HNO.out _ G1.out⟩
  rcases t1 with _ | _
  · obtain ⟨e1, e2⟩ := time_arg (b := b) (lv := lv) (r := r) (fun h => E1.out.2 rfl (h.2.2))
    rw [e1, e2]
    clear e1 e2
    go_enter Try.func66, Try.ntmps66
    go_wp2_with fail
    clear hX hV
    refine HC.out.mono ?_
    rintro e w1 ⟨rfl, G1⟩
    obtain ⟨y0, y1, y2, y3, y4, y5, y6⟩ := HP.out w1 G1.out
    clear k0 k1 k2 k3 k4 k5 k6
    go_wp2_with fail
    refine (H0.out _).mono ?_
    rintro e w' ⟨rfl, rfl⟩
    go_wp2_with fail
    refine (H1.out _).mono ?_
    rintro e w' ⟨rfl, rfl⟩
    go_wp2_with fail
    go_ret2
    exact ⟨rfl, HNO.out _ G1.out⟩
  have hok := EM.out.1 rfl
  have hl := E0.out.1 rfl
  have hr := E1.out.1 rfl
  have hp := hok.2.2.2.1
  obtain ⟨e1, e2⟩ := time_ok (b := b) (lv := lv) (r := r) hok ⟨hl, hr⟩
  have w2 : IntKind.i64.wrap (2 * lv) = 2 * lv := IntWalk.i64_in _ (by omega)
  have HF := Lib.hid (fun W => less_any b.tm r (2 * lv) W (by omega) (by unfold mq; omega) (by omega) hr.2 (by omega) (by omega))
  have e3 : tmv b.tm lv r = up (b.tm * r * (100 - 2 * lv)) 100 := rfl
  rw [e1, e2, e3]
  clear e1 e2 e3 hok hl hr hp
  go_enter Try.func66, Try.ntmps66
  go_wp2_with fail
  clear hX hV
  refine HC.out.mono ?_
  rintro e w1 ⟨rfl, G1⟩
  obtain ⟨y0, y1, y2, y3, y4, y5, y6⟩ := HP.out w1 G1.out
  clear k0 k1 k2 k3 k4 k5 k6
  go_wp2_with fail
  refine (H0.out _).mono ?_
  rintro e w' ⟨rfl, rfl⟩
  go_wp2_with fail
  refine (H1.out _).mono ?_
  rintro e w' ⟨rfl, rfl⟩
  go_wp2_with fail
  refine (HF.out _).mono ?_
  rintro e w2 ⟨rfl, G2⟩
  go_wp2_with fail
  go_ret2
  exact ⟨rfl, HNO.out _ (below_then G1.out G2.out)⟩
set_option maxRecDepth 100000 in
set_option maxHeartbeats 8000000 in
theorem makes_im (b : Bl) (r : Int) (w : World) (hb : BlIn w b) :
    Calls Try.prog 46 #[blV b, .int .i64 r] w fun e w' => e = .returned (.tuple #[.agg #[.int .i64 (makesV b r).kind, .int .i64 (makesV b r).qty], .int .i64 (makesE b r)]) ∧ Below w.heap.size w w' := by
  obtain ⟨V, X, hV, hX, HXB, HP⟩ := box_blue w b
  obtain ⟨G, hG⟩ : ∃ G, X.heap.size = G := ⟨_, rfl⟩
  obtain ⟨Z, hZ⟩ : ∃ Z, X.alloc (.cells #[.int .i64 0, .int .i64 0] 51) = Z := ⟨_, rfl⟩
  have HZB : Hid (Below X.heap.size X Z) := Lib.hid (by rw [← hZ]; exact (Below.refl _ X).alloc (Nat.le_refl _) _)
  have hGZ : Z.heap[G]? = some (.cells #[.int .i64 0, .int .i64 0] 51 (0, 0)) := by rw [← hZ, ← hG]; exact heap_alloc_new X _
  have HK : Hid (∀ W, Below Z.heap.size Z W → W.heap[G]? = some (.cells #[.int .i64 0, .int .i64 0] 51 (0, 0)) ∧ CellsU W V b) := Lib.hid (fun W hW => ⟨(hW.block G (Array.getElem?_eq_some_iff.1 hGZ).1).trans hGZ, HP.out W (below_then HZB.out hW)⟩)
  have HWG : Hid (w.heap.size ≤ G) := Lib.hid (by rw [← hG]; exact HXB.out.size)
  obtain ⟨hg0, k0, k1, k2, k3, k4, k5, k6⟩ := HK.out Z (Below.refl _ _)
  have HNO : Hid (∀ W x y, Below Z.heap.size Z W → Below w.heap.size w ((W.setCell ⟨G, 0, none⟩ x).setCell ⟨G, 1, none⟩ y)) := Lib.hid (fun W x y hW => below_of_only (below_then HXB.out (below_then HZB.out hW)) HWG.out (only_setCell (only_setCell (only_refl W (some G)) 0 x) 1 y))
  clear hGZ hg0
  have HGC : Hid (∀ W, Below Z.heap.size Z W → W.cell? ⟨G, 0, none⟩ = some (.int .i64 0) ∧ W.cell? ⟨G, 1, none⟩ = some (.int .i64 0) ∧ W.frozen? ⟨G, 0, none⟩ = false ∧ W.frozen? ⟨G, 1, none⟩ = false) := Lib.hid (fun W hW => by
    have h1 := (HK.out W hW).1
    exact ⟨cell_block (j := 0) h1 rfl, cell_block (j := 1) h1 rfl, free_block 0 h1, free_block 1 h1⟩)
  obtain ⟨tm, HM, EM⟩ := may_at b Z ((hb.under HXB.out).under HZB.out)
  have HC := Lib.hid (HM.out Z (Below.refl _ _))
  clear hb HM
  obtain ⟨t0, H0, E0⟩ := runs_at r
  rcases tm with _ | _
  · obtain ⟨e1, e2⟩ := makes_arg (b := b) (r := r) (fun h => EM.out.2 rfl h.1)
    rw [e1, e2]
    clear e1 e2
    go_enter Try.func46, Try.ntmps46
    go_wp2_with fail
    clear hX hV hZ hG
    refine HC.out.mono ?_
    rintro e w1 ⟨rfl, G1⟩
    obtain ⟨c0, c1, f0, f1⟩ := HGC.out w1 G1.out
    clear k0 k1 k2 k3 k4 k5 k6
    go_wp2_with fail
    exact ret_st2 rfl rfl rfl rfl (st_set (HK.out w1 G1.out).1) ⟨rfl, HNO.out w1 _ _ G1.out⟩
  rcases t0 with _ | _
  · obtain ⟨e1, e2⟩ := makes_arg (b := b) (r := r) (fun h => E0.out.2 rfl h.2)
    rw [e1, e2]
    clear e1 e2
    go_enter Try.func46, Try.ntmps46
    go_wp2_with fail
    clear hX hV hZ hG
    refine HC.out.mono ?_
    rintro e w1 ⟨rfl, G1⟩
    obtain ⟨c0, c1, f0, f1⟩ := HGC.out w1 G1.out
    clear k0 k1 k2 k3 k4 k5 k6
    go_wp2_with fail
    refine (H0.out _).mono ?_
    rintro e w' ⟨rfl, rfl⟩
    go_wp2_with fail
    exact ret_st2 rfl rfl rfl rfl (st_set (HK.out w1 G1.out).1) ⟨rfl, HNO.out w1 _ _ G1.out⟩
  have hok := EM.out.1 rfl
  have hr := E0.out.1 rfl
  have hp := hok.2.2.1
  obtain ⟨e1, e2⟩ := makes_ok (b := b) (r := r) hok hr
  obtain ⟨h1, h2, _, _⟩ := prod3 (a := b.per) (b := r) (c := 1) (by omega) (by omega) (by omega) hp.2 hr.2 (Int.le_refl 1)
  have HF := Lib.hid (fun W => pmul b.per r (by omega) (by omega) (by omega) (by omega) (by omega) W)
  obtain ⟨q, hq⟩ : ∃ q, b.per * r = q := ⟨_, rfl⟩
  rw [hq] at HF e2
  rw [e1, e2]
  clear e1 e2 hok hr hp h1 h2 hq
  go_enter Try.func46, Try.ntmps46
  go_wp2_with fail
  clear hX hV hZ hG
  refine HC.out.mono ?_
  rintro e w1 ⟨rfl, G1⟩
  obtain ⟨c0, c1, f0, f1⟩ := HGC.out w1 G1.out
  obtain ⟨_, y0, y1, y2, y3, y4, y5, y6⟩ := HK.out w1 G1.out
  clear k0 k1 k2 k3 k4 k5 k6
  go_wp2_with fail
  refine (H0.out _).mono ?_
  rintro e w' ⟨rfl, rfl⟩
  go_wp2_with fail
  refine (HF.out _).mono ?_
  rintro e w' ⟨rfl, rfl⟩
  go_wp2_with fail
  exact ret_st2 rfl rfl rfl rfl (st_set (HK.out w1 G1.out).1) ⟨rfl, HNO.out w1 _ _ G1.out⟩
end Go.Proofs.Ytohlkaoophbinaa.Recipe.Im
namespace Go.Proofs.Ytohlkaoophbinaa.Bom.Im
open Go.RowKit Go.Lib IRows
open Goods (St Sts OwnS cnt)
open Recipe (BlIn)

set_option maxRecDepth 100000 in
set_option maxHeartbeats 8000000 in
theorem longer_im (b : Recipe.Bl) (t lv r : Int) (w : World) (hb : BlIn w b) (he : Recipe.timeE b lv r = 0) (t0 : 0 ≤ t) (t1 : t + Recipe.timeV b lv r ≤ 1125899906842624) (v0 : 0 ≤ Recipe.timeV b lv r) :
    Calls Try.prog 40 #[.int .i64 t, .agg #[.int .i64 b.ot, .int .i64 b.per, .int .i64 b.tm, .slice b.sa b.sm b.sc, .int .i64 b.cp, .int .i64 b.st, .int .i64 b.mo], .int .i64 lv, .int .i64 r] w fun e w' => e = .returned (.tuple #[.int .i64 (t + Recipe.timeV b lv r), .int .i64 0]) ∧ Below w.heap.size w w' := by
  obtain ⟨V, X, hV, hX, HXB, HP⟩ := Recipe.box_blue w b
  obtain ⟨k0, k1, k2, k3, k4, k5, k6⟩ := HP.out X (Below.refl _ _)
  obtain ⟨tv, htv⟩ : ∃ tv, Recipe.timeV b lv r = tv := ⟨_, rfl⟩
  rw [htv] at t1 v0 ⊢
  have HTI : Hid (Calls Try.prog 66 #[.agg #[.int .i64 b.ot, .int .i64 b.per, .int .i64 b.tm, .slice b.sa b.sm b.sc, .int .i64 b.cp, .int .i64 b.st, .int .i64 b.mo], .int .i64 lv, .int .i64 r] X fun e w' => e = .returned (.tuple #[.int .i64 tv, .int .i64 0]) ∧ Hid (Below X.heap.size X w')) := Lib.hid (by
    rw [← htv, ← he]
    exact (Recipe.Im.time_im b lv r X (hb.under HXB.out)).mono fun _ _ ⟨e, h⟩ => ⟨e, Lib.hid h⟩)
  have HAD : Hid (∀ W, Calls Try.prog 67 #[.int .i64 t, .int .i64 tv] W fun e w' => e = .returned (.tuple #[.int .i64 (t + tv), .int .i64 0]) ∧ W = w') := Lib.hid fun W => by
    have := Calc.add_any t tv W (by omega) (by omega) (by omega) (by omega)
    rw [Calc.valN_in (by omega) (by omega), Calc.valE_in (by omega) (by omega)] at this
    exact this
  clear hb he htv t0 t1 v0
  go_enter Try.func40, Try.ntmps40
  go_wp2_with fail
  clear hX hV
  refine HTI.out.mono ?_
  rintro e w1 ⟨rfl, H1⟩
  go_wp2_with fail
  refine (HAD.out _).mono ?_
  rintro e w2 ⟨rfl, rfl⟩
  go_wp2_with fail
  go_ret2
  exact ⟨rfl, below_then HXB.out H1.out⟩
end Go.Proofs.Ytohlkaoophbinaa.Bom.Im
