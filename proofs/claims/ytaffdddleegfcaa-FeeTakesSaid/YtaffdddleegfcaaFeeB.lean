/- The document's left; its Check, Broker, Sale, Bay. -/
import Derived.Test.YtaffdddleegfcaaFeeA
namespace Go.Proofs.Ytaffdddleegfcaa.Fee
open Go.RowKit Go.Lib

theorem two_mod (P s : Int) : 2 * P % s = 2 * (P % s) % s := by
  have h := Int.mul_ediv_add_emod P s
  obtain ⟨q, hq⟩ : ∃ q, P / s = q := ⟨_, rfl⟩
  obtain ⟨r, hr⟩ : ∃ r, P % s = r := ⟨_, rfl⟩
  rw [hq, hr] at h
  rw [hr, ← h, show 2 * (s * q + r) = 2 * r + s * (2 * q) by rw [Int.mul_add, Int.mul_left_comm, Int.add_comm], Int.add_mul_emod_self_left]
set_option maxRecDepth 100000 in
set_option maxHeartbeats 4000000 in
theorem dleft (n v s : Int) (w : World) (n0 : 0 ≤ n) (n1 : n ≤ 1152921504606846976) (v0 : 0 ≤ v) (v1 : v ≤ 1152921504606846976) (s0 : 1 ≤ s) (s1 : s ≤ 1152921504606846976) :
    Calls Try.prog 24 #[.int .i64 n, .int .i64 v, .int .i64 s] w fun e w' => e = .returned (.int .i64 (n * v % s)) ∧ w = w' := by
  have HT : Hid (n / 2 ^ 61 * v % s = 0) := Lib.hid (by rw [bit_top n0 (by omega)]; simp)
  have HX : Hid (∀ j : Nat, 0 ≤ n / 2 ^ j ∧ n / 2 ^ j ≤ 9223372036854775807) := Lib.hid (fun j => by have := bit_le n0 j; omega)
  have HR : Hid (∀ P : Int, 0 ≤ P % s ∧ P % s < s) := Lib.hid (fun P => ⟨Int.emod_nonneg _ (by omega), Int.emod_lt_of_pos _ (by omega)⟩)
  obtain ⟨y, hy⟩ : ∃ y, v % s = y := ⟨_, rfl⟩
  have y0 : 0 ≤ y ∧ y < s := by rw [← hy]; exact HR.out v
  obtain ⟨y0, y1⟩ := y0
  have ty : v.tmod s = y := by rw [← hy]; exact Int.tmod_eq_emod_of_nonneg v0
  have wy : IntKind.i64.wrap y = y := IntWalk.i64_in _ (by omega)
  have wy2 : wrap64 y = y := IntWalk.wrap64_in _ (by omega)
  have z2 : ¬ s = 0 := by omega
  have z3 : (s == 0) = false := by simpa using z2
  have HY := Lib.hid hy
  clear hy
  go_enter Try.func24, Try.ntmps24
  go_wp2_with fail
  go_loopw [7, 8] (fun x t wr => ∃ (r z : Int) (j : Nat), x = .int .i64 r ∧ t = .int .i64 z ∧ z + 1 = j ∧ z ≤ 60 ∧ w = wr ∧ Hid (n / 2 ^ j * v % s = r)) (fun _ t _ => (RowKit.intOf t + 1).toNat)
  case atStart => exact ⟨0, 60, 61, rfl, rfl, rfl, by omega, rfl, HT⟩
  case round =>
    obtain ⟨r, z, j, rfl, rfl, hzj, hz, rfl, HI⟩ := hrel
    obtain ⟨r0, r1⟩ := HR.out (n / 2 ^ j * v)
    rw [HI.out] at r0 r1
    rcases j with _ | k
    · obtain rfl : z = -1 := by omega
      have HE : Hid (n * v % s = r) := Lib.hid (by have := HI.out; rw [bit_end] at this; exact this)
      go_wp2_with fail
      go_ret
      exact ⟨by rw [HE.out]; rfl, by first | rfl | trivial⟩
    · obtain rfl : z = (k : Int) := by omega
      obtain ⟨x, hx⟩ : ∃ x, n / 2 ^ k = x := ⟨_, rfl⟩
      obtain ⟨x0, x1⟩ := HX.out k
      have hst := bit_step n k
      rw [hx] at x0 x1 hst
      have hand := i64_and_one x x0 x1
      have HP : Hid (x % 2 = 0 → x * v = 2 * (n / 2 ^ (k + 1) * v)) := Lib.hid (fun h => by rw [h, Int.add_zero] at hst; rw [hst, Int.mul_assoc])
      have HP1 : Hid (x % 2 = 1 → x * v = 2 * (n / 2 ^ (k + 1) * v) + v) := Lib.hid (fun h => by rw [h] at hst; rw [hst, Int.add_mul, Int.mul_assoc, Int.one_mul])
      have HXX := Lib.hid hx
      clear hst
      obtain ⟨m, hm⟩ : ∃ m, x % 2 = m := ⟨_, rfl⟩
      rw [hm] at hand HP HP1
      have hm2 : m = 0 ∨ m = 1 := by omega
      clear hm
      obtain ⟨r2, hr2⟩ : ∃ r2, 2 * r % s = r2 := ⟨_, rfl⟩
      have hb2 := HR.out (2 * r)
      rw [hr2] at hb2
      obtain ⟨b0, b1⟩ := hb2
      have t2 : (2 * r).tmod s = r2 := by rw [← hr2]; exact Int.tmod_eq_emod_of_nonneg (by omega)
      have w2 : IntKind.i64.wrap (2 * r) = 2 * r := IntWalk.i64_in _ (by omega)
      have w3 : wrap64 r2 = r2 := IntWalk.wrap64_in _ (by omega)
      have w4 : IntKind.i64.wrap r2 = r2 := IntWalk.i64_in _ (by omega)
      have H2 : Hid (2 * (n / 2 ^ (k + 1) * v) % s = r2) := Lib.hid (by rw [two_mod, HI.out, hr2])
      rcases hm2 with rfl | rfl
      · have HE : Hid (n / 2 ^ k * v % s = r2) := Lib.hid (by rw [HXX.out, HP.out rfl]; exact H2.out)
        clear hr2
        go_wp2_with fail
        go_roundw
        case rel => exact ⟨_, _, k, rfl, rfl, by omega, by omega, by first | rfl | trivial, HE⟩
        case measure => simp [RowKit.intOf] <;> omega
      · obtain ⟨r3, hr3⟩ : ∃ r3, (r2 + y) % s = r3 := ⟨_, rfl⟩
        have hb3 := HR.out (r2 + y)
        rw [hr3] at hb3
        obtain ⟨d0, d1⟩ := hb3
        have t3 : (r2 + y).tmod s = r3 := by rw [← hr3]; exact Int.tmod_eq_emod_of_nonneg (by omega)
        have w5 : IntKind.i64.wrap (r2 + y) = r2 + y := IntWalk.i64_in _ (by omega)
        have w6 : wrap64 r3 = r3 := IntWalk.wrap64_in _ (by omega)
        have w7 : IntKind.i64.wrap r3 = r3 := IntWalk.i64_in _ (by omega)
        have HE : Hid (n / 2 ^ k * v % s = r3) := Lib.hid (by rw [HXX.out, HP1.out rfl, Int.add_emod, H2.out, HY.out, hr3])
        clear hr2 hr3
        go_wp2_with fail
        go_roundw
        case rel => exact ⟨_, _, k, rfl, rfl, by omega, by omega, by first | rfl | trivial, HE⟩
        case measure => simp [RowKit.intOf] <;> omega
/-- Fees. -/
structure FS where
  broker : Int
  least : Int
  sales : Int
abbrev FS.v (f : FS) : Value := .agg #[.int .i64 f.broker, .int .i64 f.least, .int .i64 f.sales]
def FeeOk (f : FS) : Prop := (0 ≤ f.broker ∧ f.broker ≤ 10000) ∧ (0 ≤ f.sales ∧ f.sales ≤ 10000) ∧ 0 ≤ f.least ∧ f.least ≤ 1152921504606846976
instance (f : FS) : Decidable (FeeOk f) := by unfold FeeOk; infer_instance
def chkF (f : FS) : Int := if FeeOk f then 0 else 1
theorem chkF_yes {f : FS} (h : FeeOk f) : chkF f = 0 := by unfold chkF; rw [if_pos h]
theorem chkF_no {f : FS} (h : ¬ FeeOk f) : chkF f = 1 := by unfold chkF; rw [if_neg h]
def MoneyOk (n : Int) : Prop := 0 ≤ n ∧ n ≤ 1152921504606846976
instance (n : Int) : Decidable (MoneyOk n) := by unfold MoneyOk; infer_instance
def brokV (f : FS) (x : Int) : Int := if FeeOk f ∧ MoneyOk x then max (sc x f.broker 10000 true) f.least else 0
def saleV (f : FS) (x : Int) : Int := if FeeOk f ∧ MoneyOk x then sc x f.sales 10000 false else 0
def feeE (f : FS) (x : Int) : Int := if FeeOk f ∧ MoneyOk x then 0 else 1
def BayOk (r t : Int) : Prop := (0 ≤ r ∧ r ≤ 10000) ∧ 0 ≤ t ∧ t ≤ 1099511627776
instance (r t : Int) : Decidable (BayOk r t) := by unfold BayOk; infer_instance
def bayV (r t : Int) : Int := if BayOk r t then sc t r 10000 true else 0
def bayE (r t : Int) : Int := if BayOk r t then 0 else 1
set_option maxRecDepth 100000 in
theorem dcheck (f : FS) (w : World) :
    Calls Try.prog 13 #[f.v] w fun e w' => e = .returned (.int .i64 (chkF f)) ∧ Below w.heap.size w w' := by
  obtain ⟨b, l, s⟩ := f
  go_enter Try.func13, Try.ntmps13
  go_wp2_with fail
  all_goals
    go_ret
    refine ⟨ret_i64 ?_, (Below.refl _ w).alloc (Nat.le_refl _) _⟩
    first
    | exact (chkF_yes (by unfold FeeOk; dsimp only; omega)).symm
    | exact (chkF_no (by unfold FeeOk; dsimp only; omega)).symm
/-- Fees that a frame keeps, behind a call. -/
theorem fee_kept {w w1 : World} {b l s : Int} (h : Below (w.alloc (.cells #[.int .i64 b, .int .i64 l, .int .i64 s] 23)).heap.size (w.alloc (.cells #[.int .i64 b, .int .i64 l, .int .i64 s] 23)) w1) :
    w1.cell? ⟨w.heap.size, 0, none⟩ = some (.int .i64 b) ∧ w1.cell? ⟨w.heap.size, 1, none⟩ = some (.int .i64 l) ∧ w1.cell? ⟨w.heap.size, 2, none⟩ = some (.int .i64 s) ∧ Hid (Below w.heap.size w w1) := by
  have h0 := heap_alloc_new w (.cells #[.int .i64 b, .int .i64 l, .int .i64 s] 23)
  have h1 := (h.block w.heap.size (Array.getElem?_eq_some_iff.1 h0).1).trans h0
  exact ⟨cell_block (j := 0) h1 rfl, cell_block (j := 1) h1 rfl, cell_block (j := 2) h1 rfl, Lib.hid (below_then ((Below.refl _ w).alloc (Nat.le_refl _) _) h)⟩
theorem sc_in {a b c : Int} (up : Bool) (h0 : 0 ≤ a * b) (hc : 0 < c) (h : a * b ≤ c * 1152921504606846976) : 0 ≤ sc a b c up ∧ sc a b c up ≤ 1152921504606846977 := by
  have h1 : 0 ≤ a * b / c := Int.ediv_nonneg h0 (by omega)
  have h2 : a * b / c ≤ 1152921504606846976 := Int.ediv_le_of_le_mul hc (by omega)
  unfold sc
  split <;> omega
theorem brokV_yes {f : FS} {x : Int} (h : FeeOk f) (h2 : MoneyOk x) : brokV f x = max (sc x f.broker 10000 true) f.least := by unfold brokV; rw [if_pos ⟨h, h2⟩]
theorem brokV_no {f : FS} {x : Int} (h : ¬ (FeeOk f ∧ MoneyOk x)) : brokV f x = 0 := by unfold brokV; rw [if_neg h]
theorem saleV_yes {f : FS} {x : Int} (h : FeeOk f) (h2 : MoneyOk x) : saleV f x = sc x f.sales 10000 false := by unfold saleV; rw [if_pos ⟨h, h2⟩]
theorem saleV_no {f : FS} {x : Int} (h : ¬ (FeeOk f ∧ MoneyOk x)) : saleV f x = 0 := by unfold saleV; rw [if_neg h]
theorem feeE_yes {f : FS} {x : Int} (h : FeeOk f) (h2 : MoneyOk x) : feeE f x = 0 := by unfold feeE; rw [if_pos ⟨h, h2⟩]
theorem feeE_no {f : FS} {x : Int} (h : ¬ (FeeOk f ∧ MoneyOk x)) : feeE f x = 1 := by unfold feeE; rw [if_neg h]
/-- What is taken at one rate. -/
theorem rate_at {x r : Int} (up : Bool) (x0 : 0 ≤ x) (x1 : x ≤ 1152921504606846976) (r0 : 0 ≤ r) (r1 : r ≤ 10000) :
    Hid (∀ W, Calls Try.prog 18 #[.int .i64 x, .int .i64 r, .int .i64 10000, .bool up] W fun e w' => e = .returned (.tuple #[.int .i64 (sc x r 10000 up), .int .i64 0]) ∧ W = w') ∧ 0 ≤ sc x r 10000 up ∧ sc x r 10000 up ≤ 1152921504606846977 := by
  have hp := Int.mul_nonneg x0 r0
  have hq : x * r ≤ 1152921504606846976 * 10000 := Int.mul_le_mul x1 r1 r0 (by omega)
  exact ⟨Lib.hid (fun W => rscale x r 10000 up W x0 (by omega) r0 (by omega) (by omega) (by omega) (by omega)), sc_in up hp (by omega) (by omega)⟩
theorem check_at (f : FS) : Hid (∀ W, Calls Try.prog 13 #[f.v] W fun e w' => e = .returned (.int .i64 (chkF f)) ∧ Below W.heap.size W w') := Lib.hid (dcheck f)
set_option maxRecDepth 100000 in
set_option maxHeartbeats 4000000 in
theorem dbroker (f : FS) (x : Int) (w : World) :
    Calls Try.prog 7 #[f.v, .int .i64 x] w fun e w' => e = .returned (.tuple #[.int .i64 (brokV f x), .int .i64 (feeE f x)]) ∧ Below w.heap.size w w' := by
  have HC := check_at f
  by_cases hf : FeeOk f
  · rw [chkF_yes hf] at HC
    by_cases hx : MoneyOk x
    · rw [brokV_yes hf hx, feeE_yes hf hx]
      obtain ⟨b, l, s⟩ := f
      obtain ⟨x0, x1⟩ := hx
      obtain ⟨HS, i0, i1⟩ := rate_at true x0 x1 hf.1.1 hf.1.2
      obtain ⟨z, hz⟩ : ∃ z, sc x b 10000 true = z := ⟨_, rfl⟩
      obtain ⟨m, hm⟩ : ∃ m, max z l = m := ⟨_, rfl⟩
      change Calls Try.prog 7 _ _ fun e w' => e = .returned (.tuple #[.int .i64 (max (sc x b 10000 true) l), .int .i64 0]) ∧ Below w.heap.size w w'
      change Hid (∀ W, Calls Try.prog 18 #[.int .i64 x, .int .i64 b, .int .i64 10000, .bool true] W fun e w' => e = .returned (.tuple #[.int .i64 (sc x b 10000 true), .int .i64 0]) ∧ W = w') at HS
      rw [hz] at HS ⊢
      rw [hm]
      have hmm : (z = l ∧ m = l) ∨ (z < l ∧ m = l) ∨ (l < z ∧ m = z) := by omega
      clear i0 i1 hz hm hf
      rcases hmm with ⟨rfl, rfl⟩ | ⟨h1, rfl⟩ | ⟨h1, rfl⟩
      all_goals
        go_enter Try.func7, Try.ntmps7
        go_wp2_with fail
        refine (HC.out _).mono ?_
        rintro e w1 ⟨rfl, hb⟩
        obtain ⟨k0, k1, k2, HB⟩ := fee_kept hb
        clear hb
        go_wp2_with fail
        refine (HS.out w1).mono ?_
        rintro e w2 ⟨rfl, rfl⟩
        go_wp2_with fail
        go_ret2
        exact ⟨rfl, HB.out⟩
    · have hno : ¬ (FeeOk f ∧ MoneyOk x) := fun h => hx h.2
      rw [brokV_no hno, feeE_no hno]
      obtain ⟨b, l, s⟩ := f
      have hx2 : x < 0 ∨ (¬ x < 0 ∧ 1152921504606846976 < x) := by unfold MoneyOk at hx; omega
      clear hf hno hx
      rcases hx2 with h1 | ⟨h1, h2⟩
      all_goals
        go_enter Try.func7, Try.ntmps7
        go_wp2_with fail
        refine (HC.out _).mono ?_
        rintro e w1 ⟨rfl, hb⟩
        obtain ⟨k0, k1, k2, HB⟩ := fee_kept hb
        clear hb
        go_wp2_with fail
        go_ret2
        exact ⟨rfl, HB.out⟩
  · rw [chkF_no hf] at HC
    have hno : ¬ (FeeOk f ∧ MoneyOk x) := fun h => hf h.1
    rw [brokV_no hno, feeE_no hno]
    obtain ⟨b, l, s⟩ := f
    clear hf hno
    go_enter Try.func7, Try.ntmps7
    go_wp2_with fail
    refine (HC.out _).mono ?_
    rintro e w1 ⟨rfl, hb⟩
    obtain ⟨k0, k1, k2, HB⟩ := fee_kept hb
    clear hb
    go_wp2_with fail
    go_ret2
    exact ⟨rfl, HB.out⟩
end Go.Proofs.Ytaffdddleegfcaa.Fee
