/- The program's rest and weigh; calc.Sum as it reaches it. -/
import Derived.Test.YtaffdddleegfcaaFeeImA
import Derived.Test.YtaffdddleegfcaaCalcSumP
namespace Go.Proofs.Ytaffdddleegfcaa.Fee
open Go.RowKit Go.Lib IRows

theorem mod_mod_mul (hi lo y : Int) : (hi % y * 18446744073709551616 + lo) % y = (hi * 18446744073709551616 + lo) % y := by
  rw [Int.add_emod, Int.mul_emod, Int.emod_emod, ← Int.mul_emod, ← Int.add_emod]
theorem rem64_any (hi lo y : Int) (w : World) (h0 : 0 ≤ hi) (_ : hi < 18446744073709551616) (l0 : 0 ≤ lo) (l1 : lo < 18446744073709551616) (y0 : 1 ≤ y) (y1 : y < 18446744073709551616) :
    Calls Try.prog 30 #[.int .u64 hi, .int .u64 lo, .int .u64 y] w fun e w' => e = .returned (.int .u64 ((hi * 18446744073709551616 + lo) % y)) ∧ Below w.heap.size w w' := by
  have hp := Int.emod_nonneg hi (show y ≠ 0 by omega)
  have hq := Int.emod_lt_of_pos hi (show 0 < y by omega)
  have HD := Lib.hid (Calc.div64_any (hi % y) lo y w hp hq l0 l1 y1)
  rw [mod_mod_mul] at HD
  obtain ⟨m, hm⟩ : ∃ m, hi % y = m := ⟨_, rfl⟩
  have ht : hi.tmod y = m := by rw [← hm]; exact Int.tmod_eq_emod_of_nonneg h0
  have wm : IntKind.u64.wrap m = m := by rw [IntKind.wrap_u64]; omega
  have yn : (y == 0) = false := by simp; omega
  have yn2 : ¬ y = 0 := by omega
  obtain ⟨q, hq⟩ : ∃ q, (m * 18446744073709551616 + lo) / y = q := ⟨_, rfl⟩
  obtain ⟨t, htt⟩ : ∃ t, (hi * 18446744073709551616 + lo) % y = t := ⟨_, rfl⟩
  rw [hm, hq, htt] at HD
  rw [htt]
  clear hp hm hq htt
  go_enter Try.func30, Try.ntmps30
  go_wp2_with fail
  refine HD.out.mono ?_
  rintro e w' ⟨rfl, n, rfl⟩
  go_wp2_with fail
  go_ret
  exact ⟨rfl, below_drewN (Below.refl _ _) n⟩
theorem rest_im (n v s : Int) (w : World) (n0 : 0 ≤ n) (n1 : n ≤ 9223372036854775807) (v0 : 0 ≤ v) (v1 : v ≤ 9223372036854775807) (s0 : 1 ≤ s) (s1 : s ≤ 9223372036854775807) :
    Calls Try.prog 22 #[.int .i64 n, .int .i64 v, .int .i64 s] w fun e w' => e = .returned (.int .i64 (n * v % s)) ∧ Below w.heap.size w w' := by
  have wn : IntKind.u64.wrap n = n := by rw [IntKind.wrap_u64]; omega
  have wv : IntKind.u64.wrap v = v := by rw [IntKind.wrap_u64]; omega
  have ws : IntKind.u64.wrap s = s := by rw [IntKind.wrap_u64]; omega
  have hp : 0 ≤ n * v := Int.mul_nonneg n0 v0
  have HM := Lib.hid (fun W => Calc.mul64_any n v W n0 (by omega) v0 (by omega))
  have hle : n * v ≤ 9223372036854775807 * 9223372036854775807 := Int.mul_le_mul n1 v1 v0 (by omega)
  have hs := Calc.hi_split n v
  have hl := Calc.lo_in n v
  have HR := Lib.hid (fun W => rem64_any (Calc.hiW n v) (Calc.loW n v) s W (Calc.hi_nonneg hp) (by omega) hl.1 hl.2 s0 (by omega))
  rw [hs] at HR
  obtain ⟨a, ha⟩ : ∃ a, Calc.hiW n v = a := ⟨_, rfl⟩
  obtain ⟨b, hb⟩ : ∃ b, Calc.loW n v = b := ⟨_, rfl⟩
  have t0 := Int.emod_nonneg (n * v) (show s ≠ 0 by omega)
  have t1 := Int.emod_lt_of_pos (n * v) (show 0 < s by omega)
  obtain ⟨t, ht⟩ : ∃ t, n * v % s = t := ⟨_, rfl⟩
  rw [ha, hb] at HM HR
  rw [ht] at HR t0 t1 ⊢
  have wt : IntKind.i64.wrap t = t := IntWalk.i64_in _ (by omega)
  clear hp hle hs hl ha hb ht
  go_enter Try.func22, Try.ntmps22
  go_wp2_with fail
  refine (HM.out w).mono ?_
  rintro e w' ⟨rfl, rfl⟩
  go_wp2_with fail
  refine (HR.out w).mono ?_
  rintro e w' ⟨rfl, hb⟩
  go_wp2_with fail
  go_ret
  exact ⟨rfl, hb⟩
/-! Sum -/
theorem acc_yes {ws : List Int} (h0 : ∀ v ∈ ws, 0 ≤ v) (h1 : sumL ws ≤ 9223372036854775807) : ∀ k, k ≤ ws.length → Calc.accAt (nth ws) k = some (sumL (ws.take k))
  | 0, _ => rfl
  | k + 1, hk => by
    have ih := acc_yes h0 h1 k (by omega)
    have h2 := sumL_take_succ (nth_some (l := ws) (i := k) (by omega))
    have h3 := sumL_take_le h0 (k + 1)
    have h4 := sumL_nonneg (l := ws.take (k + 1)) fun v hv => h0 v (List.mem_of_mem_take hv)
    rw [h2]
    exact Calc.accAt_next ih (by omega) (by omega)
theorem acc_no {ws : List Int} (h1 : 9223372036854775807 < sumL ws) : Calc.accAt (nth ws) ws.length = none := by
  cases e : Calc.accAt (nth ws) ws.length with
  | none => rfl
  | some s =>
    exfalso
    have key : ∀ k s, k ≤ ws.length → Calc.accAt (nth ws) k = some s → s = sumL (ws.take k) := fun k => by
      induction k with
      | zero => intro s _ h; simp [Calc.accAt] at h; rw [← h]; rfl
      | succ k ih =>
        intro s hk h
        cases e2 : Calc.accAt (nth ws) k with
        | none => simp [Calc.accAt, e2] at h
        | some t =>
          have h2 := ih t (by omega) e2
          simp only [Calc.accAt, e2] at h
          split at h
          · have := Option.some.inj h
            rw [sumL_take_succ (nth_some (l := ws) (i := k) (by omega)), ← h2, ← this]
          · cases h
    have h3 := key _ s (Nat.le_refl _) e
    rw [List.take_length] at h3
    have := Calc.accAt_fits e
    omega
theorem psum (ws : List Int) (a : Option Addr) (m c : Nat) (w : World) (hl : ws.length = m) (hs : IRow w a ws) (hm : m ≤ 1048576) (h0 : ∀ v ∈ ws, 0 ≤ v ∧ v ≤ 9223372036854775807) :
    Calls Try.prog 29 #[.slice a m c] w fun e w' => e = .returned (.tuple #[.int .i64 (if sumL ws ≤ 9223372036854775807 then sumL ws else 0), .int .i64 (if sumL ws ≤ 9223372036854775807 then 0 else 5)]) ∧ w = w' := by
  have key : Calls Try.prog 29 #[.slice a m c] w fun e w' => e = .returned (.tuple #[.int .i64 (Calc.sumN (nth ws) m), .int .i64 (Calc.sumE (nth ws) m)]) ∧ w = w' := by
    rcases m with _ | m
    · exact Calc.sum_empty a c (nth ws) w
    · obtain ⟨g, off, rfl, _, _⟩ := hs 0 _ (nth_some (by omega))
      refine Calc.sum_cells g off (m + 1) c (nth ws) w (by omega) (fun j hj => ?_) (fun j hj => ?_)
      · obtain ⟨g', off', e, _, k⟩ := hs j _ (nth_some (by omega))
        cases e
        exact k
      · have := h0 _ (List.mem_of_getElem? (nth_some (l := ws) (i := j) (by omega)))
        omega
  refine key.mono ?_
  rintro e w' ⟨rfl, rfl⟩
  refine ⟨?_, rfl⟩
  by_cases h : sumL ws ≤ 9223372036854775807
  · have h1 := acc_yes (fun v hv => (h0 v hv).1) h m (by omega)
    rw [← hl, List.take_length] at h1
    rw [if_pos h, if_pos h]
    unfold Calc.sumN Calc.sumE
    rw [← hl, h1]
    rfl
  · have h1 := acc_no (ws := ws) (by omega)
    rw [if_neg h, if_neg h]
    unfold Calc.sumN Calc.sumE
    rw [← hl, h1]
    rfl
/-! What all weights come to, where they are to be split by -/
open Classical in
noncomputable def allW (n : Int) (ws : List Int) : Int := if errSp n ws = 0 then sumL ws else 0
theorem allW_no {n : Int} {ws : List Int} (h : errSp n ws ≠ 0) : allW n ws = 0 := by unfold allW; rw [if_neg h]
theorem allW_yes {n : Int} {ws : List Int} (h : errSp n ws = 0) : allW n ws = sumL ws := by unfold allW; rw [if_pos h]
set_option maxRecDepth 100000 in
set_option maxHeartbeats 8000000 in
theorem weigh_im (n : Int) (a : Option Addr) (m c : Nat) (ws : List Int) (w : World) (hl : ws.length = m) (hs : IRow w a ws) (hm : m ≤ 1048576) :
    Calls Try.prog 21 #[.int .i64 n, .slice a m c] w fun e w' => e = .returned (.tuple #[.int .i64 (allW n ws), .int .i64 (errSp n ws)]) ∧ w = w' := by
  by_cases hn : 0 ≤ n ∧ n ≤ 1152921504606846976
  case neg =>
    have he := (sp_bad (n := n) (ws := ws) fun hk => hn hk.1).1
    rw [allW_no (by omega), he]
    have HU := Lib.hid (fun W => upto_no n 1152921504606846976 W (by omega))
    clear hn he hs hl hm
    go_enter Try.func21, Try.ntmps21
    go_wp2_with fail
    refine (HU.out w).mono ?_
    rintro e w' ⟨rfl, rfl⟩
    go_wp2_with fail
    go_ret2
    exact ⟨rfl, rfl⟩
  have HU := Lib.hid (fun W => upto_yes n 1152921504606846976 W hn.1 hn.2)
  by_cases hm16 : m ≤ 16
  case neg =>
    have he := (sp_bad (n := n) (ws := ws) fun hk => hm16 (by have := hk.2.2.1; omega)).1
    rw [allW_no (by omega), he]
    have d4 : decide (16 < (m : Int)) = true := decide_eq_true (by omega)
    have d5 : decide (16 < m) = true := decide_eq_true (by omega)
    clear hn he hs hl hm hm16
    go_enter Try.func21, Try.ntmps21
    go_wp2_with fail
    refine (HU.out w).mono ?_
    rintro e w' ⟨rfl, rfl⟩
    go_wp2_with fail
    go_ret2
    exact ⟨rfl, rfl⟩
  have HT := irow_all hs
  have HL := Lib.hid hl
  have d4 : decide (16 < (m : Int)) = false := decide_eq_false (by omega)
  have d5 : decide (16 < m) = false := decide_eq_false (by omega)
  have hm1 : (m : Int) ≤ 1048576 := by omega
  have HOK : Hid ((∀ v ∈ ws, 0 ≤ v ∧ v ≤ 1152921504606846976) → 1 ≤ m → SplitOk n ws) := Lib.hid (fun h h1 => ⟨hn, by omega, by omega, h⟩)
  have HBAD : Hid (∀ v ∈ ws, ¬ (0 ≤ v ∧ v ≤ 1152921504606846976) → errSp n ws = 1 ∧ allW n ws = 0) := Lib.hid (fun v hv h => by
    have := (sp_bad (n := n) (ws := ws) fun hk => h (hk.2.2.2 v hv)).1
    exact ⟨this, allW_no (by omega)⟩)
  have HNO : Hid (m = 0 → errSp n ws = 1 ∧ allW n ws = 0) := Lib.hid (fun h => by
    have := (sp_bad (n := n) (ws := ws) fun hk => by have := hk.2.1; omega).1
    exact ⟨this, allW_no (by omega)⟩)
  have HSUM : Hid ((∀ v ∈ ws, 0 ≤ v ∧ v ≤ 1152921504606846976) → _) := Lib.hid (fun h => psum ws a m c w hl hs hm (fun v hv => by have := h v hv; omega))
  clear hs hl hm hm16 hn
  go_enter Try.func21, Try.ntmps21
  go_wp2_with fail
  refine (HU.out w).mono ?_
  rintro e w' ⟨rfl, rfl⟩
  clear HU
  go_wp2_with fail
  go_loopw [20] (fun t wr => ∃ i : Nat, t = .int .i64 i ∧ i ≤ m ∧ w = wr ∧ Hid (∀ v ∈ ws.take i, 0 ≤ v ∧ v ≤ 1152921504606846976)) (fun t _ => m - (RowKit.intOf t).toNat)
  case atStart => exact ⟨0, rfl, by omega, rfl, Lib.hid (fun v hv => by simp at hv)⟩
  case round =>
    obtain ⟨i, rfl, hi, rfl, HI⟩ := hrel
    have hi0 : (0 : Int) ≤ (i : Int) := by omega
    by_cases hlt : i < m
    · have hlt2 : (i : Int) < (m : Int) := by omega
      obtain ⟨g, off, x, rfl, hx, HC⟩ := HT.out i (by rw [HL.out]; exact hlt)
      have k0 := HC.out w (Below.refl _ _)
      by_cases c1 : 0 ≤ x ∧ x ≤ 1152921504606846976
      · have HU := Lib.hid (fun W => upto_yes x 1152921504606846976 W c1.1 c1.2)
        have HI2 : Hid (∀ v ∈ ws.take (i + 1), 0 ≤ v ∧ v ≤ 1152921504606846976) := Lib.hid (fun v hv => by
          rcases (mem_take_succ hx.out).1 hv with hv | rfl
          · exact HI.out v hv
          · exact c1)
        clear c1
        go_wp2_with fail
        refine (HU.out w).mono ?_
        rintro e w' ⟨rfl, rfl⟩
        go_wp2_with fail
        go_roundw
        case rel => exact ⟨i + 1, by go_num, by omega, by first | rfl | trivial, HI2⟩
        case measure => simp [RowKit.intOf]; omega
      · have HU := Lib.hid (fun W => upto_no x 1152921504606846976 W (by omega))
        have HE := Lib.hid (HBAD.out x (List.mem_of_getElem? hx.out) c1)
        clear c1
        go_wp2_with fail
        refine (HU.out w).mono ?_
        rintro e w' ⟨rfl, rfl⟩
        go_wp2_with fail
        go_ret2
        exact ⟨by rw [HE.out.1, HE.out.2]; rfl, by first | rfl | trivial⟩
    · obtain rfl : i = m := by omega
      have hall : ∀ v ∈ ws, 0 ≤ v ∧ v ≤ 1152921504606846976 := fun v hv => HI.out v (by rw [List.take_of_length_le (by rw [HL.out]; exact Nat.le_refl _)]; exact hv)
      have HS := Lib.hid (HSUM.out hall)
      have HSN : Hid (0 ≤ sumL ws) := Lib.hid (sumL_nonneg fun v hv => (hall v hv).1)
      by_cases hi1 : i = 0
      · have HE := Lib.hid (HNO.out hi1)
        have hz : sumL ws = 0 := by
          have h1 := HL.out
          rw [hi1] at h1
          rw [List.length_eq_zero_iff.1 h1]
          rfl
        rw [hz, if_pos (by omega), if_pos (by omega)] at HS
        clear hall HI HOK HBAD HSUM hz hi1
        go_wp2_with fail
        refine HS.out.mono ?_
        rintro e w' ⟨rfl, rfl⟩
        go_wp2_with fail
        go_ret2
        exact ⟨by rw [HE.out.1, HE.out.2]; rfl, by first | rfl | trivial⟩
      · have hok := HOK.out hall (by omega)
        by_cases h1 : sumL ws ≤ 9223372036854775807
        · rw [if_pos h1, if_pos h1] at HS
          by_cases h2 : 1152921504606846976 < sumL ws
          · have HE := Lib.hid (sp_over hok h2).1
            obtain ⟨z, hz⟩ : ∃ z, sumL ws = z := ⟨_, rfl⟩
            rw [hz] at HS h1 h2
            have d1 : decide (1152921504606846976 < z) = true := decide_eq_true h2
            clear hall HI HOK HBAD HSUM hz hi1 hok HSN
            go_wp2_with fail
            refine HS.out.mono ?_
            rintro e w' ⟨rfl, rfl⟩
            go_wp2_with fail
            go_ret2
            exact ⟨by rw [allW_no (by rw [HE.out]; decide), HE.out]; rfl, by first | rfl | trivial⟩
          · by_cases h3 : sumL ws = 0
            · have HE := Lib.hid (sp_none hok h3).1
              rw [h3] at HS
              clear hall HI HOK HBAD HSUM hi1 hok HSN h1 h2 h3
              go_wp2_with fail
              refine HS.out.mono ?_
              rintro e w' ⟨rfl, rfl⟩
              go_wp2_with fail
              go_ret2
              exact ⟨by rw [allW_no (by rw [HE.out]; decide), HE.out]; rfl, by first | rfl | trivial⟩
            · have HE := Lib.hid (sp_ok hok (by omega) h3).1
              obtain ⟨z, hz⟩ : ∃ z, sumL ws = z := ⟨_, rfl⟩
              have HZ := Lib.hid hz
              rw [hz] at HS h1 h2 h3
              have d1 : decide (1152921504606846976 < z) = false := decide_eq_false h2
              have d2 : (z == 0) = false := by simpa using h3
              clear hall HI HOK HBAD HSUM hz hi1 hok HSN
              go_wp2_with fail
              refine HS.out.mono ?_
              rintro e w' ⟨rfl, rfl⟩
              go_wp2_with fail
              go_ret2
              exact ⟨by rw [allW_yes HE.out, HE.out, HZ.out]; rfl, by first | rfl | trivial⟩
        · rw [if_neg h1, if_neg h1] at HS
          have HE := Lib.hid (sp_over hok (by omega)).1
          clear hall HI HOK HBAD HSUM hi1 hok HSN h1
          go_wp2_with fail
          refine HS.out.mono ?_
          rintro e w' ⟨rfl, rfl⟩
          go_wp2_with fail
          go_ret2
          exact ⟨by rw [allW_no (by rw [HE.out]; decide), HE.out]; rfl, by first | rfl | trivial⟩
end Go.Proofs.Ytaffdddleegfcaa.Fee
