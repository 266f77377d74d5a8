/- The program's Norm, Add. -/
import Derived.Test.YtbhhofeflajpoaaGoodsImD
namespace Go.Proofs.Ytbhhofeflajpoaa.Goods.Im
open Go.RowKit Go.Lib

set_option maxRecDepth 100000 in
set_option maxHeartbeats 2000000 in
theorem norm_im (a : Option Addr) (n c : Nat) (l : List St) (w : World) (hl : l.length = n) (hs : Sts w a l) (hn : n ≤ 1024) (hI : In64 l) :
    Calls Try.prog 8 #[.slice a n c] w fun e w' => ∃ v, e = .returned (.tuple #[v, .int .i64 (errN l)]) ∧ OwnS w' w.heap.size v (valN l) ∧ Below w.heap.size w w' := by
  have HC := Lib.hid (count_im a n c l w hl hs hn hI)
  by_cases h0 : errN l = 0
  · have HM : Hid (∀ w1 mp, CountIs w w1 l mp → ∃ b, mp = some b ∧ Calls Try.prog 24 #[.map (some b)] w1 fun e w' => ∃ v, e = .returned v ∧ Hid (OwnS w' w.heap.size v (valN l) ∧ Below w.heap.size w w')) := Lib.hid (fun w1 mp h => by
      obtain ⟨b, n', q, e, _, _, h2, h3⟩ := h.2.2 h0
      refine ⟨b, e, (stacks_im b n' q (valN l) w1 h2 ⟨norm_valN l, fun k => by rw [valN_ok h0, cnt_nl, h3]⟩ (by have := len_valN l; omega)).mono ?_⟩
      rintro e2 w2 ⟨v, rfl, ho, hb⟩
      exact ⟨v, rfl, Lib.hid ⟨World.ownsRow.mono ho h.1.size, below_then h.1 hb⟩⟩)
    rw [h0] at HC ⊢
    clear hl hs hn hI h0
    go_enter Try.func8, Try.ntmps8
    go_wp2_with fail
    refine HC.out.mono ?_
    rintro e w1 ⟨m1, rfl, H1⟩
    obtain ⟨b, rfl, hst⟩ := HM.out w1 m1 H1.out
    have HST := Lib.hid hst
    clear hst
    go_wp2_with fail
    refine HST.out.mono ?_
    rintro e w2 ⟨v, rfl, H2⟩
    go_wp2_with fail
    go_ret2
    exact ⟨v, rfl, H2.out.1, H2.out.2⟩
  · have hv := valN_none h0
    rw [hv]
    obtain ⟨er, her⟩ : ∃ er, errN l = er := ⟨_, rfl⟩
    rw [her] at h0 HC ⊢
    have hne : (er == 0) = false := by simpa using h0
    clear hl hs hn hI h0 her hv
    go_enter Try.func8, Try.ntmps8
    go_wp2_with fail
    refine HC.out.mono ?_
    rintro e w1 ⟨m1, rfl, H1⟩
    go_wp2_with fail
    go_ret2
    exact ⟨_, rfl, World.ownsRow_nil _ _ _ _, H1.out.1⟩
/-- Both together, of what the range has handed out. -/
structure Adds (w wr : World) (b b2 R n2 N : Nat) (q q2 : Int → Option Int) (left : Int → Bool) (cnt : Nat) : Prop where
  below : Below w.heap.size w wr
  going : Ints.Going Try.prog 3 wr b2 R n2 (mV q2) left cnt
  ex : ∃ nc qc, CM wr b nc qc ∧ nc + cnt ≤ N ∧ ∀ k, at0 qc k = at0 q k + if left k = true then 0 else at0 q2 k
theorem adds_step {w wr w1 : World} {b b2 R n2 N : Nat} {q q2 : Int → Option Int} {left : Int → Bool} {cnt cnt1 : Nat} {s x : Int} (h : Adds w wr b b2 R n2 N q q2 left cnt) (hg2 : Good q2) (hN : N ≤ 4096) (hx : q2 s = some x) (hl : left s = true) (hlt : cnt1 < cnt) (hwb : w.heap.size ≤ b) (hwR : w.heap.size ≤ R) (hbR : b ≠ R) (hb2 : b ≠ b2)
    (hG1 : Ints.Going Try.prog 3 w1 b2 R n2 (mV q2) (fun z => left z && !decide (z = s)) cnt1) (hg1 : wr.grownBy w1 (some R)) :
    (at0 q s + x ≤ mq → Calls Try.prog 27 #[.map (some b), .int .i64 s, .int .i64 x] w1 fun e w' => e = .returned (.int .i64 0) ∧ Hid (Adds w w' b b2 R n2 N q q2 (fun z => left z && !decide (z = s)) cnt1)) ∧
    (mq < at0 q s + x → Calls Try.prog 27 #[.map (some b), .int .i64 s, .int .i64 x] w1 fun e w' => e = .returned (.int .i64 5) ∧ Hid (Below w.heap.size w w')) := by
  obtain ⟨nc, qc, hc, hn, hq⟩ := h.ex
  have hb1 : Below w.heap.size w w1 := below_of_only h.below hwR hg1
  have hc1 : CM w1 b nc qc := hc.of_block (hg1.block b hc.map.lt (fun e => hbR (Option.some.inj e)))
  have hqs : at0 qc s = at0 q s := by
    rw [hq, hl]
    simp
  have hk := hg2.kind s x hx
  have hv := hg2.qty s x hx
  have hv1 : x ≤ 9223372036854775807 := by have := hv.2; unfold mq at this; omega
  constructor
  · intro hle
    refine (add_im b nc qc s x w1 hc1 (by omega) hk.1 hk.2 hv.1 hv1 (by rw [hqs]; exact hle)).mono ?_
    rintro e w' ⟨rfl, n', hn', hc', hg', _⟩
    refine ⟨rfl, Lib.hid ⟨below_of_only hb1 hwb hg', hG1.of_blocks (hg'.block b2 hG1.map.lt (fun e => hb2 (Option.some.inj e).symm)) (hg'.block R hG1.lt.1 (fun e => hbR (Option.some.inj e).symm)), n', _, hc', by omega, fun k => ?_⟩⟩
    rw [at0_put, hqs]
    by_cases e : k = s
    · subst e
      have h2 : at0 q2 k = x := by unfold at0; rw [hx]; rfl
      simp [h2]
    · rw [if_neg e, hq]
      simp [e]
  · intro hlt
    refine (add_no b nc qc s x w1 hc1 hk.2 hv.1 hv1 (by rw [hqs]; exact hlt)).mono ?_
    rintro e w' ⟨rfl, hb⟩
    exact ⟨rfl, Lib.hid (below_then hb1 hb)⟩
set_option maxRecDepth 100000 in
set_option maxHeartbeats 4000000 in
theorem add_both_im (a : Option Addr) (n c : Nat) (l : List St) (b : Option Addr) (m d : Nat) (k : List St) (w : World) (hl : l.length = n) (hs : Sts w a l) (hn : n ≤ 1024) (hI : In64 l) (hk : k.length = m) (ht : Sts w b k) (hm : m ≤ 1024) (hJ : In64 k) :
    Calls Try.prog 17 #[.slice a n c, .slice b m d] w fun e w' => ∃ v, e = .returned (.tuple #[v, .int .i64 (errA l k)]) ∧ OwnS w' w.heap.size v (valA l k) ∧ Below w.heap.size w w' := by
  have HC := Lib.hid (both_im a n c l b m d k w hl hs hn hI hk ht hm hJ)
  by_cases h0 : errB l k = 0
  · obtain ⟨e1, e2⟩ := errB_zero h0
    have hF1 := norm_nl (errN_zero e1).1
    have hF2 := norm_nl (errN_zero e2).1
    have hFF := fine_append (fine_norm hF1) (fine_norm hF2)
    have HL : Hid (l.length ≤ 1024 ∧ k.length ≤ 1024) := Lib.hid ⟨by omega, by omega⟩
    -- what comes of it
    have HOK : Hid (∀ qc, Good qc → (∀ x, at0 qc x = cnt l x + cnt k x) → errA l k = 0 ∧ Of (valA l k) qc) := Lib.hid (fun qc hg h => by
      have h1 : errN (nl l ++ nl k) = 0 := errN_ok hFF fun ⟨x, hx⟩ => by
        have h2 := (hg.bound x).2
        rw [cnt_append, cnt_nl, cnt_nl] at hx
        rw [h] at h2
        omega
      refine ⟨by unfold errA; rw [if_pos h0, h1], ?_⟩
      unfold valA
      rw [if_pos h0]
      exact ⟨norm_valN _, fun x => by rw [valN_ok h1, cnt_nl, cnt_append, cnt_nl, cnt_nl, h]⟩)
    have HNO : Hid (∀ x, mq < cnt l x + cnt k x → errA l k = 5 ∧ valA l k = []) := Lib.hid (fun x hx => by
      have h1 : errN (nl l ++ nl k) = 5 := errN_over hFF ⟨x, by rw [cnt_append, cnt_nl, cnt_nl]; exact hx⟩
      refine ⟨by unfold errA; rw [if_pos h0, h1], ?_⟩
      unfold valA
      rw [if_pos h0, valN_none (by rw [h1]; decide)])
    have HLA : Hid ((valA l k).length ≤ 4096) := Lib.hid (by
      unfold valA
      rw [if_pos h0]
      have h1 := len_valN (nl l ++ nl k)
      rw [List.length_append] at h1
      have h2 := len_nl l
      have h3 := len_nl k
      omega)
    have HB0 := Lib.hid h0
    rw [h0] at HC
    clear hl hs hn hI hk ht hm hJ h0 e1 e2 hF1 hF2 hFF
    go_enter Try.func17, Try.ntmps17
    go_wp2_with fail
    refine HC.out.mono ?_
    rintro e w1 ⟨m1, m2, rfl, H1⟩
    obtain ⟨B, n1, q, B2, n2, q2, rfl, rfl, hwB, hBB, hn1, hn2, hc1, hc2, hq1, hq2⟩ := H1.out.2 HB0.out
    have hM := hc2.map
    have HG2 := Lib.hid hc2.good
    have HQ : Hid ((∀ x, at0 q x = cnt l x) ∧ ∀ x, at0 q2 x = cnt k x) := Lib.hid ⟨hq1, hq2⟩
    have HW : Hid (w.heap.size ≤ B ∧ B ≠ B2 ∧ B ≠ w1.heap.size ∧ w.heap.size ≤ w1.heap.size ∧ n1 + n2 ≤ 4096) := Lib.hid ⟨hwB, by omega, by have := hc1.map.lt; omega, H1.out.1.size, by have := HL.out; omega⟩
    have HST : Hid (∀ w0, Ints.Going Try.prog 3 w0 B2 w1.heap.size n2 (mV q2) (fun s => (mV q2 s).isSome) n2 → w1.grownBy w0 none → Adds w w0 B B2 w1.heap.size n2 (n1 + n2) q q2 (fun s => (mV q2 s).isSome) n2) := Lib.hid (fun w0 hG hg => by
      refine ⟨below_of_only H1.out.1 H1.out.1.size (World.grownBy.but hg (some w1.heap.size)), hG, n1, q, hc1.of_block (hg.block B hc1.map.lt (fun e => by cases e)), Nat.le_refl _, fun x => ?_⟩
      cases hx : q2 x with
      | none => simp [mV, at0, hx]
      | some y => simp [mV, hx])
    clear hwB hBB hn1 hn2 hc1 hc2 hq1 hq2 HC
    go_wp2_with (first | (at_range; refine Ints.wpList_range_int _ rfl _ 41 rfl 3 3 Try.underlying3 Try.underlying41 B2 n2 _ rfl hM ?_; intro w0 hG0 hg0 hs0) | fail)
    go_frame
    have HA0 := Lib.hid (HST.out w0 hG0 hg0)
    clear hG0 hg0 hs0 hM HST
    go_loopw [9] (fun _ wr => ∃ (cnt : Nat) (left : Int → Bool), Hid (Adds w wr B B2 w1.heap.size n2 (n1 + n2) q q2 left cnt)) (fun _ wr => wr.rangeLeft B2 w1.heap.size)
    case atStart => exact ⟨_, _, HA0⟩
    case round =>
      clear HA0
      obtain ⟨cnt, left, HA⟩ := hrel
      have hG := HA.out.going
      go_wp2_with (first | (at_next; refine Ints.wpList_next_int _ rfl _ rfl 3 Try.underlying3 B2 w1.heap.size _ _ left cnt rfl hG ?_ ?_) | fail)
      · intro hc0 hl0
        have HE : Hid (errA l k = 0 ∧ Calls Try.prog 24 #[.map (some B)] wr fun e w' => ∃ v, e = .returned v ∧ Hid (OwnS w' w.heap.size v (valA l k) ∧ Below w.heap.size w w')) := Lib.hid (by
          obtain ⟨nc, qc, hc, _, hq⟩ := HA.out.ex
          obtain ⟨h1, h2⟩ := HOK.out qc hc.good (fun x => by rw [hq, hl0, HQ.out.1, HQ.out.2]; rfl)
          refine ⟨h1, (stacks_im B nc qc _ wr hc h2 HLA.out).mono ?_⟩
          rintro e2 w2 ⟨v, rfl, ho, hb⟩
          exact ⟨v, rfl, Lib.hid ⟨World.ownsRow.mono ho HA.out.below.size, below_then HA.out.below hb⟩⟩)
        clear hc0 hl0 hG
        go_wp2_with fail
        refine HE.out.2.mono ?_
        rintro e w2 ⟨v, rfl, H2⟩
        go_wp2_with fail
        go_ret2
        exact ⟨v, by rw [HE.out.1]; rfl, H2.out.1, H2.out.2⟩
      · intro s v w2 cnt1 hi1 hi2 hlk x hx hv hG1 hlt hg1 hs1 hen
        subst hv
        obtain ⟨hw1, hw2, hw3, hw4, hw5⟩ := HW.out
        have HS := Lib.hid (adds_step HA.out HG2.out hw5 hx hlk hlt hw1 hw4 hw3 hw2 hG1 hg1)
        have HQS : Hid (at0 q s = Goods.cnt l s ∧ x = Goods.cnt k s) := Lib.hid ⟨HQ.out.1 s, by rw [← HQ.out.2 s]; unfold at0; rw [hx]; rfl⟩
        have HLO := Lib.hid hG.left_eq
        have HLT := Lib.hid hlt
        by_cases hle : at0 q s + x ≤ mq
        · have HS2 := Lib.hid (HS.out.1 hle)
          clear hi1 hi2 hlk hx hG1 hlt hg1 hs1 hG hle hw1 hw2 hw3 hw4 hw5
          go_wp2_with fail
          refine HS2.out.mono ?_
          rintro e w3 ⟨rfl, H3⟩
          go_wp2_with fail
          go_roundw
          case rel => exact ⟨cnt1, _, H3⟩
          case measure =>
            rw [H3.out.going.left_eq, HLO.out]
            exact HLT.out
        · have HS2 := Lib.hid (HS.out.2 (by omega))
          have HE := Lib.hid (HNO.out s (by rw [← HQS.out.1, ← HQS.out.2]; omega))
          clear hi1 hi2 hlk hx hG1 hlt hg1 hs1 hG hle hw1 hw2 hw3 hw4 hw5
          go_wp2_with fail
          refine HS2.out.mono ?_
          rintro e w3 ⟨rfl, H3⟩
          go_wp2_with fail
          go_ret2
          exact ⟨_, by rw [HE.out.1]; rfl, by rw [HE.out.2]; exact World.ownsRow_nil _ _ _ _, H3.out⟩
  · have hA : errA l k = errB l k := by unfold errA; rw [if_neg h0]
    have hV : valA l k = [] := by unfold valA; rw [if_neg h0]
    rw [hA, hV]
    obtain ⟨er, her⟩ : ∃ er, errB l k = er := ⟨_, rfl⟩
    rw [her] at h0 HC ⊢
    have hne : (er == 0) = false := by simpa using h0
    clear hl hs hn hI hk ht hm hJ h0 her hA hV
    go_enter Try.func17, Try.ntmps17
    go_wp2_with fail
    refine HC.out.mono ?_
    rintro e w1 ⟨m1, m2, rfl, H1⟩
    go_wp2_with fail
    go_ret2
    exact ⟨_, rfl, World.ownsRow_nil _ _ _ _, H1.out.1⟩
end Go.Proofs.Ytbhhofeflajpoaa.Goods.Im
