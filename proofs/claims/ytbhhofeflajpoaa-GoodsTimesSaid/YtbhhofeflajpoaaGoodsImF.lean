/- The program's Sub. -/
import Derived.Test.YtbhhofeflajpoaaGoodsImD
namespace Go.Proofs.Ytbhhofeflajpoaa.Goods.Im
open Go.RowKit Go.Lib

/-- The ones without the others, of what the range has handed out. -/
structure Subs (w wr : World) (b b2 R n2 N : Nat) (q q2 : Int → Option Int) (left : Int → Bool) (cnt : Nat) : Prop where
  below : Below w.heap.size w wr
  going : Ints.Going Try.prog 3 wr b2 R n2 (mV q2) left cnt
  ex : ∃ nc qc, CM wr b nc qc ∧ nc + cnt ≤ N ∧ ∀ k, at0 qc k = at0 q k - if left k = true then 0 else at0 q2 k
/-- What is read and stored in a step. -/
theorem subs_step {w wr w1 : World} {b b2 R n2 N : Nat} {q q2 : Int → Option Int} {left : Int → Bool} {cnt cnt1 : Nat} {s x : Int} (h : Subs w wr b b2 R n2 N q q2 left cnt) (hg2 : Good q2) (hN : N ≤ 4096) (hx : q2 s = some x) (hl : left s = true) (hlt : cnt1 < cnt) (hwb : w.heap.size ≤ b) (hwR : w.heap.size ≤ R) (hbR : b ≠ R) (hb2 : b ≠ b2)
    (hG1 : Ints.Going Try.prog 3 w1 b2 R n2 (mV q2) (fun z => left z && !decide (z = s)) cnt1) (hg1 : wr.grownBy w1 (some R)) :
    Below w.heap.size w w1 ∧ ∃ nc qc, CM w1 b nc qc ∧ nc < maxLen ∧ at0 qc s = at0 q s ∧
      (x ≤ at0 q s → ∀ W n', n' ≤ nc + 1 → Ints.MapIs Try.prog 3 W b n' (fun z => if z = s then some (.int .i64 (at0 q s - x)) else mV qc z) → w1.grownBy W (some b) → Subs w W b b2 R n2 N q q2 (fun z => left z && !decide (z = s)) cnt1) := by
  obtain ⟨nc, qc, hc, hn, hq⟩ := h.ex
  have hb1 : Below w.heap.size w w1 := below_of_only h.below hwR hg1
  have hc1 : CM w1 b nc qc := hc.of_block (hg1.block b hc.map.lt (fun e => hbR (Option.some.inj e)))
  have hqs : at0 qc s = at0 q s := by
    rw [hq, hl]
    simp
  have hk := hg2.kind s x hx
  have hv := hg2.qty s x hx
  have hq0 := hc1.good.bound s
  refine ⟨hb1, nc, qc, hc1, by unfold maxLen; omega, hqs, fun hle W n' hn' hMW hg' => ⟨below_of_only hb1 hwb hg', hG1.of_blocks (hg'.block b2 hG1.map.lt (fun e => hb2 (Option.some.inj e).symm)) (hg'.block R hG1.lt.1 (fun e => hbR (Option.some.inj e).symm)), n', put qc s (at0 q s - x), ⟨hMW.congr rfl (fun z => mV_put qc s _ z), hc1.good.more hk.1 hk.2 (by omega) (by omega)⟩, by omega, fun k => ?_⟩⟩
  rw [at0_put]
  by_cases e : k = s
  · subst e
    have h2 : at0 q2 k = x := by unfold at0; rw [hx]; rfl
    simp [h2]
  · rw [if_neg e, hq]
    simp [e]
set_option maxRecDepth 100000 in
set_option maxHeartbeats 4000000 in
theorem sub_im (a : Option Addr) (n c : Nat) (l : List St) (b : Option Addr) (m d : Nat) (k : List St) (w : World) (hl : l.length = n) (hs : Sts w a l) (hn : n ≤ 1024) (hI : In64 l) (hk : k.length = m) (ht : Sts w b k) (hm : m ≤ 1024) (hJ : In64 k) :
    Calls Try.prog 19 #[.slice a n c, .slice b m d] w fun e w' => ∃ v, e = .returned (.tuple #[v, .int .i64 (errS l k)]) ∧ OwnS w' w.heap.size v (valS l k) ∧ Below w.heap.size w w' := by
  have HC := Lib.hid (both_im a n c l b m d k w hl hs hn hI hk ht hm hJ)
  by_cases h0 : errB l k = 0
  · obtain ⟨e1, e2⟩ := errB_zero h0
    have hF1 := norm_nl (errN_zero e1).1
    have hF2 := norm_nl (errN_zero e2).1
    have HL : Hid (l.length ≤ 1024 ∧ k.length ≤ 1024) := Lib.hid ⟨by omega, by omega⟩
    -- what comes of it
    have HOK : Hid (∀ q qc q2, Good qc → (∀ x, at0 q x = cnt l x) → (∀ x, at0 q2 x = cnt k x) → (∀ x, at0 qc x = at0 q x - at0 q2 x) → errS l k = 0 ∧ Of (valS l k) qc) := Lib.hid (fun q qc q2 hg h1 h2 h3 => by
      have hle : ∀ x, cnt (nl k) x ≤ cnt (nl l) x := fun x => by
        rw [cnt_nl, cnt_nl, ← h1, ← h2]
        have h4 := (hg.bound x).1
        rw [h3] at h4
        omega
      have hE : errS l k = 0 := by
        unfold errS
        rw [if_pos h0, if_neg]
        rintro ⟨s, hs, hlt⟩
        have h4 := hle s.kind
        rw [cnt_at hF2.rise hs] at h4
        omega
      refine ⟨hE, ?_⟩
      unfold valS
      rw [if_pos hE]
      exact ⟨norm_sub hF1, fun x => by rw [cnt_sub hF1 hle (fun y => cnt_nonneg (fun s hs => by have := hF2.qty s hs; omega) y), cnt_nl, cnt_nl, h3, h1, h2]⟩)
    have HNO : Hid (∀ q2 s x, (∀ x, at0 q2 x = cnt k x) → Good q2 → q2 s = some x → cnt l s < x → errS l k = 7 ∧ valS l k = []) := Lib.hid (fun q2 s x h2 hg hx hlt => by
      have h3 : (⟨s, x⟩ : St) ∈ nl k := Of.mem ⟨hF2, fun y => by rw [cnt_nl, h2]⟩ hx (by
        have := cnt_nonneg (l := l) (fun t ht => ((errN_zero e1).1 t ht).2) s
        omega)
      have hE : errS l k = 7 := by
        unfold errS
        rw [if_pos h0, if_pos ⟨_, h3, by rw [cnt_nl]; exact hlt⟩]
      refine ⟨hE, ?_⟩
      unfold valS
      rw [hE]
      rfl)
    have HLA : Hid ((valS l k).length ≤ 4096) := Lib.hid (by
      have h1 := len_subL (nl l) (nl k)
      have h2 := len_nl l
      unfold valS
      by_cases h3 : errS l k = 0
      · rw [if_pos h3]
        omega
      · rw [if_neg h3]
        exact Nat.zero_le _)
    have HB0 := Lib.hid h0
    rw [h0] at HC
    clear hl hs hn hI hk ht hm hJ h0 e1 e2 hF1 hF2
    go_enter Try.func19, Try.ntmps19
    go_wp2_with fail
    refine HC.out.mono ?_
    rintro e w1 ⟨m1, m2, rfl, H1⟩
    obtain ⟨B, n1, q, B2, n2, q2, rfl, rfl, hwB, hBB, hn1, hn2, hc1, hc2, hq1, hq2⟩ := H1.out.2 HB0.out
    have hM := hc2.map
    have HG1 := Lib.hid hc1.good
    have HG2 := Lib.hid hc2.good
    have HQ : Hid ((∀ x, at0 q x = cnt l x) ∧ ∀ x, at0 q2 x = cnt k x) := Lib.hid ⟨hq1, hq2⟩
    have HW : Hid (w.heap.size ≤ B ∧ B ≠ B2 ∧ B ≠ w1.heap.size ∧ w.heap.size ≤ w1.heap.size ∧ n1 + n2 ≤ 4096) := Lib.hid ⟨hwB, by omega, by have := hc1.map.lt; omega, H1.out.1.size, by have := HL.out; omega⟩
    have HST : Hid (∀ w0, Ints.Going Try.prog 3 w0 B2 w1.heap.size n2 (mV q2) (fun s => (mV q2 s).isSome) n2 → w1.grownBy w0 none → Subs w w0 B B2 w1.heap.size n2 (n1 + n2) q q2 (fun s => (mV q2 s).isSome) n2) := Lib.hid (fun w0 hG hg => by
      refine ⟨below_of_only H1.out.1 H1.out.1.size (World.grownBy.but hg (some w1.heap.size)), hG, n1, q, hc1.of_block (hg.block B hc1.map.lt (fun e => by cases e)), Nat.le_refl _, fun x => ?_⟩
      cases hx : q2 x with
      | none => simp [mV, at0, hx]
      | some y => simp [mV, hx])
    clear hwB hBB hn1 hn2 hc1 hc2 hq1 hq2 HC
    go_wp2_with (first | (at_range; refine Ints.wpList_range_int _ rfl _ 41 rfl 3 3 Try.underlying3 Try.underlying41 B2 n2 _ rfl hM ?_; intro w0 hG0 hg0 hs0) | fail)
    go_frame
    have HA0 := Lib.hid (HST.out w0 hG0 hg0)
    clear hG0 hg0 hs0 hM HST
    go_loopw [9] (fun _ wr => ∃ (cnt : Nat) (left : Int → Bool), Hid (Subs w wr B B2 w1.heap.size n2 (n1 + n2) q q2 left cnt)) (fun _ wr => wr.rangeLeft B2 w1.heap.size)
    case atStart => exact ⟨_, _, HA0⟩
    case round =>
      clear HA0
      obtain ⟨cnt, left, HA⟩ := hrel
      have hG := HA.out.going
      go_wp2_with (first | (at_next; refine Ints.wpList_next_int _ rfl _ rfl 3 Try.underlying3 B2 w1.heap.size _ _ left cnt rfl hG ?_ ?_) | fail)
      · intro hc0 hl0
        have HE : Hid (errS l k = 0 ∧ Calls Try.prog 24 #[.map (some B)] wr fun e w' => ∃ v, e = .returned v ∧ Hid (OwnS w' w.heap.size v (valS l k) ∧ Below w.heap.size w w')) := Lib.hid (by
          obtain ⟨nc, qc, hc, _, hq⟩ := HA.out.ex
          obtain ⟨h1, h2⟩ := HOK.out q qc q2 hc.good HQ.out.1 HQ.out.2 (fun x => by rw [hq, hl0]; rfl)
          refine ⟨h1, (stacks_im B nc qc _ wr hc h2 HLA.out).mono ?_⟩
          rintro e2 w2 ⟨v, rfl, ho, hb⟩
          exact ⟨v, rfl, Lib.hid ⟨World.ownsRow.mono ho HA.out.below.size, below_then HA.out.below hb⟩⟩)
        clear hc0 hl0 hG
        go_wp2_with fail
        refine HE.out.2.mono ?_
        rintro e w2 ⟨v, rfl, H2⟩
        go_wp2_with fail
        go_ret2
        exact ⟨v, by rw [HE.out.1]; rfl, H2.out.1, H2.out.2⟩
      · intro s v w2 cnt1 hi1 hi2 hlk x hx hv hG1 hlt hg1 hs1 hen
        subst hv
        obtain ⟨hw1, hw2, hw3, hw4, hw5⟩ := HW.out
        obtain ⟨hbw, nc, qc, hcm, hnc, hqs, hnext⟩ := subs_step HA.out HG2.out hw5 hx hlk hlt hw1 hw4 hw3 hw2 hG1 hg1
        have HI : Hid (Ints.I64 s) := Lib.hid ⟨hi1, hi2⟩
        have hl0 := hcm.look HI.out
        rw [hqs] at hl0
        have hy := HG1.out.bound s
        have hxb := HG2.out.qty s x hx
        have HQS : Hid (at0 q s = Goods.cnt l s) := Lib.hid (HQ.out.1 s)
        have HX := Lib.hid hx
        obtain ⟨y, hyy⟩ : ∃ y, at0 q s = y := ⟨_, rfl⟩
        rw [hyy] at hl0 hy hnext HQS
        have HNX := Lib.hid hnext
        have HLO := Lib.hid hG.left_eq
        have HLT := Lib.hid hlt
        have hMM := hcm.map
        have HBW := Lib.hid hbw
        have HNC := Lib.hid hnc
        unfold mq at hy hxb
        obtain ⟨y0, y1⟩ := hy
        obtain ⟨x0, x1⟩ := hxb
        by_cases hle : y < x
        · have HE := Lib.hid (HNO.out q2 s x HQ.out.2 HG2.out hx (by rw [← HQS.out]; exact hle))
          have hd : decide (y < x) = true := decide_eq_true hle
          clear hi1 hi2 hlk hx hG1 hlt hg1 hs1 hG hle hw1 hw2 hw3 hw4 hw5 hbw hcm hnc hqs hnext hyy hMM
          go_wp2_with fail
          go_ret2
          exact ⟨_, by rw [HE.out.1]; rfl, by rw [HE.out.2]; exact World.ownsRow_nil _ _ _ _, HBW.out⟩
        · have hd : decide (y < x) = false := decide_eq_false hle
          have hw : IntKind.i64.wrap (y - x) = y - x := IntWalk.i64_in _ (by omega)
          have HLE : Hid (x ≤ y) := Lib.hid (by omega)
          clear hi1 hi2 hlk hx hG1 hlt hg1 hs1 hG hw1 hw2 hw3 hw4 hw5 hbw hcm hnc hqs hnext hyy
          go_wp2_with (at_mapUpdate; refine Ints.wpList_store_int _ rfl _ _ _ 41 rfl 3 3 Try.underlying3 Try.underlying41 B nc _ rfl hMM HNC.out s rfl HI.out _ rfl ?_; intro w3 hM3 hg3 hs3)
          have H3 := Lib.hid (HNX.out HLE.out w3 _ (by split <;> omega) hM3 hg3)
          clear hM3 hg3 hs3 hMM
          go_roundw
          case rel => exact ⟨cnt1, _, H3⟩
          case measure =>
            rw [H3.out.going.left_eq, HLO.out]
            exact HLT.out
  · have hA : errS l k = errB l k := by unfold errS; rw [if_neg h0]
    have hV : valS l k = [] := by unfold valS; rw [hA, if_neg h0]
    rw [hA, hV]
    obtain ⟨er, her⟩ : ∃ er, errB l k = er := ⟨_, rfl⟩
    rw [her] at h0 HC ⊢
    have hne : (er == 0) = false := by simpa using h0
    clear hl hs hn hI hk ht hm hJ h0 her hA hV
    go_enter Try.func19, Try.ntmps19
    go_wp2_with fail
    refine HC.out.mono ?_
    rintro e w1 ⟨m1, m2, rfl, H1⟩
    go_wp2_with fail
    go_ret2
    exact ⟨_, rfl, World.ownsRow_nil _ _ _ _, H1.out.1⟩
end Go.Proofs.Ytbhhofeflajpoaa.Goods.Im
