/- The program's Times. -/
import Derived.Test.YtbhhofeflajpoaaGoodsImD
import Derived.Test.YtbhhofeflajpoaaGoodsM
import Derived.Test.YtbhhofeflajpoaaCalcMulP
namespace Go.Proofs.Ytbhhofeflajpoaa.Goods.Im
open Go.RowKit Go.Lib

/-- So often, of what the range has handed out. -/
structure Often (w wr : World) (b b1 R n1 N : Nat) (q : Int → Option Int) (m : Int) (left : Int → Bool) (cnt : Nat) : Prop where
  below : Below w.heap.size w wr
  going : Ints.Going Try.prog 3 wr b1 R n1 (mV q) left cnt
  ex : ∃ nc qc, CM wr b nc qc ∧ nc + cnt ≤ N ∧ ∀ k, at0 qc k = if left k = true then 0 else m * at0 q k
theorem often_step {w wr w1 : World} {b b1 R n1 N : Nat} {q : Int → Option Int} {m : Int} {left : Int → Bool} {cnt cnt1 : Nat} {s x : Int} (h : Often w wr b b1 R n1 N q m left cnt) (hg1 : Good q) (hN : N ≤ 4096) (hx : q s = some x) (hl : left s = true) (hlt : cnt1 < cnt) (hwb : w.heap.size ≤ b) (hwR : w.heap.size ≤ R) (hbR : b ≠ R) (hb1 : b ≠ b1) (hm : 0 ≤ m)
    (hG1 : Ints.Going Try.prog 3 w1 b1 R n1 (mV q) (fun z => left z && !decide (z = s)) cnt1) (hgr : wr.grownBy w1 (some R)) :
    Below w.heap.size w w1 ∧
    (x * m ≤ mq → Calls Try.prog 27 #[.map (some b), .int .i64 s, .int .i64 (x * m)] w1 fun e w' => e = .returned (.int .i64 0) ∧ Hid (Often w w' b b1 R n1 N q m (fun z => left z && !decide (z = s)) cnt1)) ∧
    (mq < x * m → x * m ≤ 9223372036854775807 → Calls Try.prog 27 #[.map (some b), .int .i64 s, .int .i64 (x * m)] w1 fun e w' => e = .returned (.int .i64 5) ∧ Hid (Below w.heap.size w w')) := by
  obtain ⟨nc, qc, hc, hn, hq⟩ := h.ex
  have hbw : Below w.heap.size w w1 := below_of_only h.below hwR hgr
  have hc1 : CM w1 b nc qc := hc.of_block (hgr.block b hc.map.lt (fun e => hbR (Option.some.inj e)))
  have hqs : at0 qc s = 0 := by
    rw [hq, hl]
    simp
  have hk := hg1.kind s x hx
  have hv := hg1.qty s x hx
  have h0 : 0 ≤ x * m := Int.mul_nonneg hv.1 hm
  refine ⟨hbw, fun hle => ?_, fun hlt2 hle2 => ?_⟩
  · refine (add_im b nc qc s (x * m) w1 hc1 (by omega) hk.1 hk.2 h0 (by unfold mq at hle; omega) (by rw [hqs]; omega)).mono ?_
    rintro e w' ⟨rfl, n', hn', hc', hg', _⟩
    refine ⟨rfl, Lib.hid ⟨below_of_only hbw hwb hg', hG1.of_blocks (hg'.block b1 hG1.map.lt (fun e => hb1 (Option.some.inj e).symm)) (hg'.block R hG1.lt.1 (fun e => hbR (Option.some.inj e).symm)), n', _, hc', by omega, fun k => ?_⟩⟩
    rw [at0_put, hqs]
    by_cases e : k = s
    · subst e
      have h2 : at0 q k = x := by unfold at0; rw [hx]; rfl
      simp [h2, Int.mul_comm]
    · rw [if_neg e, hq]
      simp [e]
  · refine (add_no b nc qc s (x * m) w1 hc1 hk.2 h0 hle2 (by rw [hqs]; omega)).mono ?_
    rintro e w' ⟨rfl, hb⟩
    exact ⟨rfl, Lib.hid (below_then hbw hb)⟩
/-- What calc.Mul tells. -/
theorem mul_yes (x m : Int) (x0 : 0 ≤ x) (x1 : x ≤ 9223372036854775807) (m0 : 0 ≤ m) (m1 : m ≤ 9223372036854775807) (h : x * m ≤ 9223372036854775807) (W : World) :
    Calls Try.prog 29 #[.int .i64 x, .int .i64 m] W fun e w' => e = .returned (.tuple #[.int .i64 (x * m), .int .i64 0]) ∧ W = w' := by
  have h0 : 0 ≤ x * m := Int.mul_nonneg x0 m0
  have := Calc.mul_any x m W (by omega) x1 (by omega) m1
  rw [Calc.valN_in (by omega) h, Calc.valE_in (by omega) h] at this
  exact this
theorem mul_no (x m : Int) (x0 : 0 ≤ x) (x1 : x ≤ 9223372036854775807) (m0 : 0 ≤ m) (m1 : m ≤ 9223372036854775807) (h : 9223372036854775807 < x * m) (W : World) :
    Calls Try.prog 29 #[.int .i64 x, .int .i64 m] W fun e w' => e = .returned (.tuple #[.int .i64 0, .int .i64 5]) ∧ W = w' := by
  have := Calc.mul_any x m W (by omega) x1 (by omega) m1
  rw [Calc.valN_out (.inr h), Calc.valE_out (.inr h)] at this
  exact this
set_option maxRecDepth 100000 in
set_option maxHeartbeats 4000000 in
theorem times_im (a : Option Addr) (n c : Nat) (l : List St) (m : Int) (w : World) (hl : l.length = n) (hs : Sts w a l) (hn : n ≤ 1024) (hI : In64 l) (hm : Ints.I64 m) :
    Calls Try.prog 21 #[.slice a n c, .int .i64 m] w fun e w' => ∃ v, e = .returned (.tuple #[v, .int .i64 (errT l m)]) ∧ OwnS w' w.heap.size v (valT l m) ∧ Below w.heap.size w w' := by
  have HC := Lib.hid (count_im a n c l w hl hs hn hI)
  by_cases h0 : errN l = 0
  · by_cases hm0 : m < 0
    · have hE : errT l m = 1 := by unfold errT; rw [if_pos h0, if_pos hm0]
      have hV : valT l m = [] := by unfold valT; rw [hE]; rfl
      have hd : decide (m < 0) = true := decide_eq_true hm0
      rw [h0] at HC
      rw [hE, hV]
      clear hl hs hn hI hm h0 hE hV hm0
      go_enter Try.func21, Try.ntmps21
      go_wp2_with fail
      refine HC.out.mono ?_
      rintro e w1 ⟨m1, rfl, H1⟩
      go_wp2_with fail
      go_ret2
      exact ⟨_, rfl, World.ownsRow_nil _ _ _ _, H1.out.1⟩
    · have hF := norm_nl (errN_zero h0).1
      have hm1 : 0 ≤ m := by omega
      have hm2 : m ≤ 9223372036854775807 := hm.2
      have HL : Hid (l.length ≤ 1024) := Lib.hid (by omega)
      have HOK : Hid (∀ q qc, Good qc → (∀ x, at0 q x = cnt l x) → (∀ x, at0 qc x = m * at0 q x) → errT l m = 0 ∧ Of (valT l m) qc) := Lib.hid (fun q qc hg h1 h2 => by
        have hE : errT l m = 0 := by
          unfold errT
          rw [if_pos h0, if_neg hm0, if_neg]
          rintro ⟨s, hs, hlt⟩
          have h3 := (hg.bound s.kind).2
          have h4 := cnt_at hF.rise hs
          rw [cnt_nl] at h4
          rw [h2, h1, h4] at h3
          have h5 := (Int.le_ediv_iff_mul_le (by have := hF.qty s hs; omega)).2 h3
          omega
        refine ⟨hE, ?_⟩
        rw [valT_yes hE]
        exact ⟨(errN_times hE).2, fun x => by rw [cnt_times, cnt_nl, h2, h1]⟩)
      have HNO : Hid (∀ q s x, Good q → (∀ x, at0 q x = cnt l x) → q s = some x → mq < x * m → errT l m = 5 ∧ valT l m = []) := Lib.hid (fun q s x hg h1 hx hlt => by
        have hx0 := (hg.qty s x hx).1
        have hxp : 0 < x := by
          rcases Int.lt_trichotomy x 0 with h | h | h
          · omega
          · rw [h, Int.zero_mul] at hlt
            unfold mq at hlt
            omega
          · exact h
        have h3 : (⟨s, x⟩ : St) ∈ nl l := Of.mem ⟨hF, fun y => by rw [cnt_nl, h1]⟩ hx hxp
        have hE : errT l m = 5 := by
          unfold errT
          rw [if_pos h0, if_neg hm0, if_pos ⟨_, h3, Int.ediv_lt_of_lt_mul hxp (by rw [Int.mul_comm]; exact hlt)⟩]
        refine ⟨hE, ?_⟩
        unfold valT
        rw [hE]
        rfl)
      have HLA : Hid ((valT l m).length ≤ 4096) := Lib.hid (by
        have h1 := len_timesL (nl l) m
        have h2 := len_nl l
        unfold valT
        by_cases h3 : errT l m = 0
        · rw [if_pos h3]
          omega
        · rw [if_neg h3]
          exact Nat.zero_le _)
      have hd : decide (m < 0) = false := decide_eq_false hm0
      have HB0 := Lib.hid h0
      rw [h0] at HC
      have hmk := fun W : World => run_makeMap (P := Try.prog) 41 W
      clear hl hs hn hI hm h0 hF hm0
      go_enter Try.func21, Try.ntmps21
      go_wp2_with fail
      refine HC.out.mono ?_
      rintro e w1 ⟨m1, rfl, H1⟩
      obtain ⟨B1, n1, q, rfl, hwB, hn1, hc1, hq1⟩ := H1.out.2.2 HB0.out
      obtain ⟨B, hB⟩ : ∃ B, w1.heap.size = B := ⟨_, rfl⟩
      obtain ⟨X, hX⟩ : ∃ X, w1.alloc (.map #[] 0) = X := ⟨_, rfl⟩
      have hcX : CM X B 0 fun _ => none := by rw [← hX, ← hB]; exact made_counts w1
      have hbX : Below w.heap.size w X := by rw [← hX]; exact H1.out.1.alloc H1.out.1.size _
      have hM : Ints.MapIs Try.prog 3 X B1 n1 (mV q) := by rw [← hX]; exact hc1.map.of_block (heap_alloc_old _ _ hc1.map.lt)
      have HG1 := Lib.hid hc1.good
      have HQ := Lib.hid hq1
      have HW : Hid (w.heap.size ≤ B ∧ B ≠ B1 ∧ B ≠ X.heap.size ∧ w.heap.size ≤ X.heap.size ∧ n1 ≤ 4096) := Lib.hid ⟨by rw [← hB]; exact H1.out.1.size, by have := hc1.map.lt; omega, by have := hcX.map.lt; omega, hbX.size, by have := HL.out; omega⟩
      have HST : Hid (∀ w0, Ints.Going Try.prog 3 w0 B1 X.heap.size n1 (mV q) (fun s => (mV q s).isSome) n1 → X.grownBy w0 none → Often w w0 B B1 X.heap.size n1 n1 q m (fun s => (mV q s).isSome) n1) := Lib.hid (fun w0 hG hg => by
        refine ⟨below_of_only hbX hbX.size (World.grownBy.but hg (some X.heap.size)), hG, 0, fun _ => none, hcX.of_block (hg.block B hcX.map.lt (fun e => by cases e)), by omega, fun x => ?_⟩
        cases hx : q x with
        | none => simp [mV, at0, hx]
        | some y => simp [mV, at0, hx])
      clear hwB hn1 hc1 hq1 HC hcX hbX
      go_wp2_with (first | (at_range; refine Ints.wpList_range_int _ rfl _ 41 rfl 3 3 Try.underlying3 Try.underlying41 B1 n1 _ rfl hM ?_; intro w0 hG0 hg0 hs0) | fail)
      go_frame
      have HA0 := Lib.hid (HST.out w0 hG0 hg0)
      clear hG0 hg0 hs0 hM HST hX hB
      go_loopw [9] (fun _ wr => ∃ (cnt : Nat) (left : Int → Bool), Hid (Often w wr B B1 X.heap.size n1 n1 q m left cnt)) (fun _ wr => wr.rangeLeft B1 X.heap.size)
      case atStart => exact ⟨_, _, HA0⟩
      case round =>
        clear HA0
        obtain ⟨cnt, left, HA⟩ := hrel
        have hG := HA.out.going
        go_wp2_with (first | (at_next; refine Ints.wpList_next_int _ rfl _ rfl 3 Try.underlying3 B1 X.heap.size _ _ left cnt rfl hG ?_ ?_) | fail)
        · intro hc0 hl0
          have HE : Hid (errT l m = 0 ∧ Calls Try.prog 24 #[.map (some B)] wr fun e w' => ∃ v, e = .returned v ∧ Hid (OwnS w' w.heap.size v (valT l m) ∧ Below w.heap.size w w')) := Lib.hid (by
            obtain ⟨nc, qc, hc, _, hq⟩ := HA.out.ex
            obtain ⟨h1, h2⟩ := HOK.out q qc hc.good HQ.out (fun x => by rw [hq, hl0]; rfl)
            refine ⟨h1, (stacks_im B nc qc _ wr hc h2 HLA.out).mono ?_⟩
            rintro e2 w2 ⟨v, rfl, ho, hb⟩
            exact ⟨v, rfl, Lib.hid ⟨World.ownsRow.mono ho HA.out.below.size, below_then HA.out.below hb⟩⟩)
          clear hc0 hl0 hG
          go_wp2_with fail
          refine HE.out.2.mono ?_
          rintro e w2 ⟨v, rfl, H2⟩
          go_wp2_with fail
          go_ret2
          exact ⟨v, by rw [HE.out.1]; rfl, H2.out.1, H2.out.2⟩
        · intro s v w2 cnt1 hi1 hi2 hlk x hx hv hG1 hlt hg1 hs1 hen
          subst hv
          obtain ⟨hw1, hw2, hw3, hw4, hw5⟩ := HW.out
          obtain ⟨hbw, hyes, hno⟩ := often_step HA.out HG1.out hw5 hx hlk hlt hw1 hw4 hw3 hw2 hm1 hG1 hg1
          have hxb := HG1.out.qty s x hx
          have hx1 : x ≤ 9223372036854775807 := by have := hxb.2; unfold mq at this; omega
          have HLO := Lib.hid hG.left_eq
          have HLT := Lib.hid hlt
          have HBW := Lib.hid hbw
          by_cases hover : x * m ≤ 9223372036854775807
          · have HMU := Lib.hid (mul_yes x m hxb.1 hx1 hm1 hm2 hover w2)
            by_cases hle : x * m ≤ mq
            · have HS2 := Lib.hid (hyes hle)
              obtain ⟨z, hz⟩ : ∃ z, x * m = z := ⟨_, rfl⟩
              rw [hz] at HMU HS2
              clear hi1 hi2 hlk hx hG1 hlt hg1 hs1 hG hle hw1 hw2 hw3 hw4 hw5 hbw hyes hno hxb hx1 hover hz
              go_wp2_with fail
              refine HMU.out.mono ?_
              rintro e w3 ⟨rfl, rfl⟩
              go_wp2_with fail
              refine HS2.out.mono ?_
              rintro e w3 ⟨rfl, H3⟩
              go_wp2_with fail
              go_roundw
              case rel => exact ⟨cnt1, _, H3⟩
              case measure =>
                rw [H3.out.going.left_eq, HLO.out]
                exact HLT.out
            · have HS2 := Lib.hid (hno (by omega) hover)
              have HE := Lib.hid (HNO.out q s x HG1.out HQ.out hx (by omega))
              obtain ⟨z, hz⟩ : ∃ z, x * m = z := ⟨_, rfl⟩
              rw [hz] at HMU HS2
              clear hi1 hi2 hlk hx hG1 hlt hg1 hs1 hG hle hw1 hw2 hw3 hw4 hw5 hbw hyes hno hxb hx1 hover hz
              go_wp2_with fail
              refine HMU.out.mono ?_
              rintro e w3 ⟨rfl, rfl⟩
              go_wp2_with fail
              refine HS2.out.mono ?_
              rintro e w3 ⟨rfl, H3⟩
              go_wp2_with fail
              go_ret2
              exact ⟨_, by rw [HE.out.1]; rfl, by rw [HE.out.2]; exact World.ownsRow_nil _ _ _ _, H3.out⟩
          · have HMU := Lib.hid (mul_no x m hxb.1 hx1 hm1 hm2 (by omega) w2)
            have HE := Lib.hid (HNO.out q s x HG1.out HQ.out hx (by unfold mq; omega))
            clear hi1 hi2 hlk hx hG1 hlt hg1 hs1 hG hw1 hw2 hw3 hw4 hw5 hbw hyes hno hxb hx1 hover
            go_wp2_with fail
            refine HMU.out.mono ?_
            rintro e w3 ⟨rfl, rfl⟩
            go_wp2_with fail
            go_ret2
            exact ⟨_, by rw [HE.out.1]; rfl, by rw [HE.out.2]; exact World.ownsRow_nil _ _ _ _, HBW.out⟩
  · have hA : errT l m = errN l := by unfold errT; rw [if_neg h0]
    have hV : valT l m = [] := by unfold valT; rw [hA, if_neg h0]
    rw [hA, hV]
    obtain ⟨er, her⟩ : ∃ er, errN l = er := ⟨_, rfl⟩
    rw [her] at h0 HC ⊢
    have hne : (er == 0) = false := by simpa using h0
    clear hl hs hn hI hm h0 her hA hV
    go_enter Try.func21, Try.ntmps21
    go_wp2_with fail
    refine HC.out.mono ?_
    rintro e w1 ⟨m1, rfl, H1⟩
    go_wp2_with fail
    go_ret2
    exact ⟨_, rfl, World.ownsRow_nil _ _ _ _, H1.out.1⟩
end Go.Proofs.Ytbhhofeflajpoaa.Goods.Im
