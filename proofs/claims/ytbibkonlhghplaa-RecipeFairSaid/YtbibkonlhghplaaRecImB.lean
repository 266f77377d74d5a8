/- The program's less; what a stack comes to, as Needs' closure tells it. -/
import Derived.Test.YtbibkonlhghplaaRecImA
import Derived.Test.YtbibkonlhghplaaCalcMulP
import Derived.Test.YtbibkonlhghplaaCalcScaleP
namespace Go.Proofs.Ytbibkonlhghplaa.Recipe.Im
open Go.RowKit Go.Lib
open Goods (St Sts OwnS)

theorem pmul (x m : Int) (x0 : 0 ≤ x) (x1 : x ≤ 9223372036854775807) (m0 : 0 ≤ m) (m1 : m ≤ 9223372036854775807) (h : x * m ≤ 9223372036854775807) (W : World) :
    Calls Try.prog 32 #[.int .i64 x, .int .i64 m] W fun e w' => e = .returned (.tuple #[.int .i64 (x * m), .int .i64 0]) ∧ W = w' := by
  have h0 : 0 ≤ x * m := Int.mul_nonneg x0 m0
  have := Calc.mul_any x m W (by omega) x1 (by omega) m1
  rw [Calc.valN_in (by omega) h, Calc.valE_in (by omega) h] at this
  exact this
theorem up_cases {n k : Int} (hk : 1 ≤ k) : (if n % k ≠ 0 then n / k + 1 else n / k) = up n k := by
  have h := Int.mul_ediv_add_emod n k
  have h0 := Int.emod_nonneg n (show k ≠ 0 by omega)
  have h1 := Int.emod_lt_of_pos n (show 0 < k by omega)
  unfold up
  generalize n / k = q at *
  generalize n % k = r at *
  by_cases e : r = 0
  · rw [if_neg (by simpa using e)]
    have e2 : n + k - 1 = (k - 1) + k * q := by omega
    rw [e2, Int.add_mul_ediv_left _ _ (by omega), Int.ediv_eq_zero_of_lt (by omega) (by omega)]
    omega
  · rw [if_pos e]
    have e2 : n + k - 1 = (r - 1) + k * (q + 1) := by rw [Int.mul_add]; omega
    rw [e2, Int.add_mul_ediv_left _ _ (by omega), Int.ediv_eq_zero_of_lt (by omega) (by omega)]
    omega
theorem pscale (a b c : Int) (w : World) (a0 : 0 ≤ a) (a1 : a ≤ 9223372036854775807) (b0 : 0 ≤ b) (b1 : b ≤ 9223372036854775807) (c0 : 1 ≤ c) (c1 : c ≤ 9223372036854775807) (hu : up (a * b) c ≤ 9223372036854775807) :
    Calls Try.prog 37 #[.int .i64 a, .int .i64 b, .int .i64 c, .bool true] w fun e w' => e = .returned (.tuple #[.int .i64 (up (a * b) c), .int .i64 0]) ∧ Hid (Below w.heap.size w w') := by
  have h0 : 0 ≤ a * b := Int.mul_nonneg a0 b0
  have h1 := up_nonneg h0 (show 0 < c by omega)
  refine (Calc.scale_any a b c true w a0 a1 b0 b1 c0 c1).mono ?_
  rintro e w' ⟨he, n, rfl⟩
  have e1 : Calc.scaleQ a b c true = up (a * b) c := by
    rw [← up_cases c0]
    by_cases hm : a * b % c = 0
    · rw [Calc.scaleQ_even true hm, if_neg (by simpa using hm)]
    · rw [Calc.scaleQ_up hm, if_pos hm]
  rw [e1, Calc.valN_in (by omega) hu, Calc.valE_in (by omega) hu] at he
  exact ⟨he, Lib.hid (below_drewN (Below.refl _ _) n)⟩
theorem less_any (n r p : Int) (w : World) (n0 : 0 ≤ n) (n1 : n ≤ mq) (r0 : 0 ≤ r) (r1 : r ≤ 1000) (p0 : 0 ≤ p) (p1 : p ≤ 100) :
    Calls Try.prog 29 #[.int .i64 n, .int .i64 r, .int .i64 p] w fun e w' => e = .returned (.tuple #[.int .i64 (up (n * r * (100 - p)) 100), .int .i64 0]) ∧ Hid (Below w.heap.size w w') := by
  unfold mq at n1
  obtain ⟨h1, h2, h3, h4⟩ := prod3 (a := n) (b := r) (c := 100 - p) n0 r0 (by omega) n1 r1 (show 100 - p ≤ 100 by omega)
  have hu := up_nonneg (k := 100) h3 (by omega)
  have hv : up (n * r * (100 - p)) 100 ≤ 9223372036854775807 := by unfold up; omega
  have HM := Lib.hid (fun W => pmul n r n0 (by omega) r0 (by omega) (by omega) W)
  obtain ⟨m, hm⟩ : ∃ m, n * r = m := ⟨_, rfl⟩
  obtain ⟨q, hq⟩ : ∃ q, 100 - p = q := ⟨_, rfl⟩
  rw [hm] at HM h1 h2 h3 h4 hu hv
  rw [hm]
  have wp : IntKind.i64.wrap (100 - p) = q := by rw [IntWalk.i64_in _ (by omega)]; exact hq
  rw [hq] at h3 h4 hu hv
  rw [hq]
  have HS := Lib.hid (fun W => pscale m q 100 W h1 (by omega) (by omega) (by omega) (by omega) (by omega) hv)
  obtain ⟨u, hu'⟩ : ∃ u, up (m * q) 100 = u := ⟨_, rfl⟩
  rw [hu'] at HS
  rw [hu']
  clear hm hq h1 h2 h3 h4 hu hv hu' n0 n1 r0 r1 p0 p1
  go_enter Try.func29, Try.ntmps29
  go_wp2_with fail
  refine (HM.out _).mono ?_
  rintro e w' ⟨rfl, rfl⟩
  go_wp2_with fail
  refine (HS.out _).mono ?_
  rintro e w1 ⟨rfl, H1⟩
  go_wp2_with fail
  go_ret2
  exact ⟨rfl, H1⟩
/-- What Needs' closure tells of so many of a type. -/
def tellV (q lv r : Int) : Int := if nd q lv r ≤ mq then nd q lv r else 0
def tellE (q lv r : Int) : Int := if nd q lv r ≤ mq then 0 else 5
set_option maxRecDepth 100000 in
set_option maxHeartbeats 4000000 in
theorem tell_im (q lv r : Int) (g h : Nat) (w : World) (q0 : 0 ≤ q) (q1 : q ≤ mq) (hl : LvOk lv r) (c1 : w.cell? ⟨g, 0, none⟩ = some (.int .i64 r)) (c2 : w.cell? ⟨h, 0, none⟩ = some (.int .i64 lv))
    (c3 : ∀ W, Below w.heap.size w W → W.cell? ⟨g, 0, none⟩ = some (.int .i64 r)) :
    Calls Try.prog 28 #[.int .i64 q, .pointer (some ⟨g, 0, none⟩), .pointer (some ⟨h, 0, none⟩)] w fun e w' => e = .returned (.tuple #[.int .i64 (tellV q lv r), .int .i64 (tellE q lv r)]) ∧ Hid (Below w.heap.size w w') := by
  have hni := nd_in q0 q1 hl
  have HL := Lib.hid (fun W => less_any q r lv W q0 q1 (by have := hl.2; omega) hl.2.2 hl.1.1 (by have := hl.1.2; omega))
  have hn : nd q lv r = max r (up (q * r * (100 - lv)) 100) := rfl
  unfold tellV tellE
  obtain ⟨u, hu⟩ : ∃ u, up (q * r * (100 - lv)) 100 = u := ⟨_, rfl⟩
  rw [hu] at HL hn
  obtain ⟨M, hM⟩ : ∃ M, nd q lv r = M := ⟨_, rfl⟩
  have hx : max u r = M := by rw [← hM, hn]; omega
  rw [hM] at hni ⊢
  have C3 := Lib.hid c3
  clear c3 hn hM hu hl q0 q1
  by_cases k : M ≤ mq
  · rw [if_pos k, if_pos k]
    unfold mq at k
    have d1 : decide (1125899906842624 < M) = false := decide_eq_false (by omega)
    clear k hni
    go_enter Try.func28, Try.ntmps28
    go_wp2_with fail
    refine (HL.out _).mono ?_
    rintro e w1 ⟨rfl, H1⟩
    have y1 := C3.out w1 H1.out
    go_wp2_with fail
    go_ret2
    exact ⟨rfl, H1⟩
  · rw [if_neg k, if_neg k]
    unfold mq at k
    have d1 : decide (1125899906842624 < M) = true := decide_eq_true (by omega)
    clear k hni
    go_enter Try.func28, Try.ntmps28
    go_wp2_with fail
    refine (HL.out _).mono ?_
    rintro e w1 ⟨rfl, H1⟩
    have y1 := C3.out w1 H1.out
    go_wp2_with fail
    go_ret2
    exact ⟨rfl, H1⟩
end Go.Proofs.Ytbibkonlhghplaa.Recipe.Im
