/- The document's Needs. -/
import Derived.Test.YtohlkaoophbinaaZCatMath
import Derived.Test.YtohlkaoophbinaaZBomX
import Derived.Test.YtohlkaoophbinaaZGoodsB
namespace Go.Proofs.Ytohlkaoophbinaa.Recipe
open Go.RowKit Go.Lib
open Goods (St Sts OwnS)

/-- One more stack at a row's end. -/
theorem app1s (W : World) {B : Nat} {a : Option Addr} {m c : Nat} {o : List St} (t : St) (h : OwnS W B (.slice a m c) o) (hm : m ≤ 1048576) (hB : B ≤ W.heap.size) :
    ∃ a' c' W', Hid ((Builtin.append_ #[30, 30] 30 #[.slice a m c, .slice (some ⟨W.heap.size, 0, none⟩) 1 1]).run Try.prog (W.alloc (.cells #[.int .i64 t.kind, .int .i64 t.qty] 51)) = .ok (.slice a' (m + 1) c') W') ∧ OwnS W' B (.slice a' (m + 1) c') (o ++ [t]) ∧ Below B W W' := by
  have hl : o.length = m := by
    obtain ⟨a', c', e, _⟩ := Goods.rowS h
    injection e with _ e2 _
    exact e2.symm
  have hA : Below B W (W.alloc (.cells #[.int .i64 t.kind, .int .i64 t.qty] 51)) := (Below.refl B W).alloc hB _
  obtain ⟨v2, W3, r2, o2, b2⟩ := Goods.app_st (W.alloc (.cells #[.int .i64 t.kind, .int .i64 t.qty] 51)) B _ o [t] (h.alloc _) (some ⟨W.heap.size, 0, none⟩) 1 1 rfl (fun j u hj => ⟨_, rfl, by
    have hblk := heap_alloc_new W (.cells #[.int .i64 t.kind, .int .i64 t.qty] 51)
    rw [Goods.addr_add, Nat.zero_add]
    refine cell_block (j := j) hblk ?_
    rw [← Array.getElem?_toList]
    exact hj⟩) (by simp; omega) (Nat.le_trans hB hA.size)
  obtain ⟨a2, c2, rfl, _⟩ := Goods.rowS o2
  have e : (o ++ [t]).length = m + 1 := by simp [hl]
  rw [e] at r2 o2
  exact ⟨a2, c2, W3, Lib.hid r2, by rw [e] at *; exact o2, hA.trans b2⟩
/-- What one stack comes to, as it is reckoned. -/
theorem parts {q lv r : Int} (q0 : 0 ≤ q) (q1 : q ≤ mq) (h : LvOk lv r) : ∃ X hd rs A S U Y M : Int,
    IntKind.i64.wrap (q * r) = X ∧ IntKind.i64.wrap (100 - lv) = 100 - lv ∧ X.tdiv 100 = hd ∧ X.tmod 100 = rs ∧ IntKind.i64.wrap hd = hd ∧ IntKind.i64.wrap rs = rs ∧ IntKind.i64.wrap (hd * (100 - lv)) = A ∧ IntKind.i64.wrap (rs * (100 - lv)) = S ∧ Hid (0 ≤ S ∧ S ≤ 10000 ∧ up S 100 = U) ∧ IntKind.i64.wrap (A + U) = Y ∧ (if Y > r then Y else r) = M ∧ Hid (M = nd q lv r) := by
  obtain ⟨⟨l0, l1⟩, r0, r1⟩ := h
  unfold mq at q1
  obtain ⟨h1, h2, _, _⟩ := prod3 (a := q) (b := r) (c := 1) q0 (by omega) (by omega) q1 r1 (Int.le_refl 1)
  have t1 : (q * r).tdiv 100 = q * r / 100 := Int.tdiv_eq_ediv_of_nonneg h1
  have t2 : (q * r).tmod 100 = q * r % 100 := Int.tmod_eq_emod_of_nonneg h1
  have hup := up_parts (q * r) (100 - lv)
  have hnd : nd q lv r = max r (up (q * r * (100 - lv)) 100) := rfl
  rw [← hup] at hnd
  obtain ⟨h3, h4, _, _⟩ := prod3 (a := q * r / 100) (b := 100 - lv) (c := 1) (A := 11258999068426240) (B := 100) (by omega) (by omega) (by omega) (by omega) (by omega) (Int.le_refl 1)
  obtain ⟨h5, h6, _, _⟩ := prod3 (a := q * r % 100) (b := 100 - lv) (c := 1) (A := 100) (B := 100) (by omega) (by omega) (by omega) (by omega) (by omega) (Int.le_refl 1)
  have h7 := up_nonneg (k := 100) h5 (by omega)
  have h8 := up_le (k := 100) h5 (by omega)
  refine ⟨q * r, q * r / 100, q * r % 100, q * r / 100 * (100 - lv), q * r % 100 * (100 - lv), _, q * r / 100 * (100 - lv) + up (q * r % 100 * (100 - lv)) 100, _, IntWalk.i64_in _ (by omega), IntWalk.i64_in _ (by omega), t1, t2, IntWalk.i64_in _ (by omega), IntWalk.i64_in _ (by omega), IntWalk.i64_in _ (by omega), IntWalk.i64_in _ (by omega), Lib.hid ⟨h5, by omega, rfl⟩, IntWalk.i64_in _ (by omega), rfl, Lib.hid ?_⟩
  rw [hnd]
  split <;> omega
set_option maxRecDepth 100000 in
set_option maxHeartbeats 8000000 in
theorem dneeds (b : Bl) (lv r : Int) (w : World) (hb : BlIn w b) :
    Calls Try.prog 33 #[blV b, .int .i64 lv, .int .i64 r] w fun e w' => ∃ a' m' c', e = .returned (.tuple #[.slice a' m' c', .int .i64 (needsE b lv r)]) ∧ Hid (OwnS w' w.heap.size (.slice a' m' c') (needsL b lv r) ∧ Below w.heap.size w w') := by
  obtain ⟨V, X, hV, hX, HXB, HP⟩ := box_blue w b
  obtain ⟨k0, k1, k2, k3, k4, k5, k6⟩ := HP.out X (Below.refl _ _)
  have HCK := check_at b X (hb.under HXB.out)
  have HNO : Hid (∀ W, Below X.heap.size X W → Below w.heap.size w W) := Lib.hid (fun W hW => below_then HXB.out hW)
  have HNI : Hid (∀ W, Below X.heap.size X W → needsL b lv r = [] → OwnS W w.heap.size (.slice none 0 0) (needsL b lv r) ∧ Below w.heap.size w W) := Lib.hid (fun W hW e => by rw [e]; exact ⟨World.ownsRow_nil _ _ _ _, HNO.out W hW⟩)
  by_cases hok : BlOk b 32
  case neg =>
    obtain ⟨e1, e2⟩ := needsE_arg (b := b) (lv := lv) (r := r) (fun h => hok h.1)
    have HC := Lib.hid (HCK.out X 1 (Below.refl _ _) (chkB_no hok))
    have HE2 := Lib.hid e2
    rw [e1]
    clear e1 e2 hok hb HCK
    go_enter Try.func33, Try.ntmps33
    go_wp2_with fail
    clear hX hV
    refine HC.out.mono ?_
    rintro e w1 ⟨rfl, H1⟩
    go_wp2_with fail
    go_ret2
    exact ⟨none, 0, 0, rfl, Lib.hid (HNI.out _ H1.out HE2.out)⟩
  have HC := Lib.hid (HCK.out X 0 (Below.refl _ _) (chkB_yes hok))
  by_cases q0 : 0 ≤ lv ∧ lv ≤ 10
  case neg =>
    obtain ⟨e1, e2⟩ := needsE_arg (b := b) (lv := lv) (r := r) (fun h => q0 (h.2.1))
    have HN := Lib.hid (fun W => in_no (lv) (0) (10) W (by omega))
    have HE2 := Lib.hid e2
    rw [e1]
    clear e1 e2 hok hb HCK
    go_enter Try.func33, Try.ntmps33
    go_wp2_with fail
    clear hX hV
    refine HC.out.mono ?_
    rintro e w1 ⟨rfl, H1⟩
    obtain ⟨y0, y1, y2, y3, y4, y5, y6⟩ := HP.out w1 H1.out
    clear k0 k1 k2 k3 k4 k5 k6
    go_wp2_with fail
    refine (HN.out _).mono ?_
    rintro e w' ⟨rfl, rfl⟩
    go_wp2_with fail
    go_ret2
    exact ⟨none, 0, 0, rfl, Lib.hid (HNI.out _ H1.out HE2.out)⟩
  have HI0 := Lib.hid (fun W => in_yes (lv) (0) (10) W q0.1 q0.2)
  by_cases q1 : 1 ≤ r ∧ r ≤ 1000
  case neg =>
    obtain ⟨e1, e2⟩ := needsE_arg (b := b) (lv := lv) (r := r) (fun h => q1 (h.2.2))
    have HN := Lib.hid (fun W => in_no (r) (1) (1000) W (by omega))
    have HE2 := Lib.hid e2
    rw [e1]
    clear e1 e2 hok hb HCK
    go_enter Try.func33, Try.ntmps33
    go_wp2_with fail
    clear hX hV
    refine HC.out.mono ?_
    rintro e w1 ⟨rfl, H1⟩
    obtain ⟨y0, y1, y2, y3, y4, y5, y6⟩ := HP.out w1 H1.out
    clear k0 k1 k2 k3 k4 k5 k6
    go_wp2_with fail
    refine (HI0.out _).mono ?_
    rintro e w' ⟨rfl, rfl⟩
    go_wp2_with fail
    refine (HN.out _).mono ?_
    rintro e w' ⟨rfl, rfl⟩
    go_wp2_with fail
    go_ret2
    exact ⟨none, 0, 0, rfl, Lib.hid (HNI.out _ H1.out HE2.out)⟩
  have HI1 := Lib.hid (fun W => in_yes (r) (1) (1000) W q1.1 q1.2)
  have HOK := Lib.hid hok
  have HLV : Hid (LvOk lv r) := Lib.hid ⟨q0, q1⟩
  have HT := Goods.sts_at (hb.2.1.under HXB.out)
  have HM := Lib.hid hb.1
  have hsm : (b.sm : Int) ≤ 1000 := by have := hb.2.2; omega
  have HSM := Lib.hid hb.2.2
  have H0 : Hid (OwnS X X.heap.size (.slice none 0 0) []) := Lib.hid (World.ownsRow_nil X X.heap.size 51 2)
  have HW0 := Lib.hid (HXB.out.size)
  clear hok hb HCK
  go_enter Try.func33, Try.ntmps33
  go_wp2_with fail
  clear hX hV
  refine HC.out.mono ?_
  rintro e w1 ⟨rfl, H1⟩
  obtain ⟨y0, y1, y2, y3, y4, y5, y6⟩ := HP.out w1 H1.out
  clear k0 k1 k2 k3 k4 k5 k6
  go_wp2_with fail
  refine (HI0.out _).mono ?_
  rintro e w' ⟨rfl, rfl⟩
  go_wp2_with fail
  refine (HI1.out _).mono ?_
  rintro e w' ⟨rfl, rfl⟩
  go_wp2_with fail
  clear y0 y1 y2 y3 y4 y5 y6 HI0 HI1 q0 q1
  go_loopw [8, 9] (fun s t wr => ∃ (i : Nat) (a : Option Addr) (c : Nat), s = .slice a i c ∧ t = .int .i64 (i : Int) ∧ i ≤ b.sm ∧ Hid (OwnS wr X.heap.size (.slice a i c) (needL (b.s.take i) lv r)) ∧ Hid (Below X.heap.size X wr) ∧ Hid (∀ t ∈ b.s.take i, nd t.qty lv r ≤ mq)) (fun _ t _ => b.sm - (RowKit.intOf t).toNat)
  case atStart => exact ⟨0, none, 0, rfl, rfl, by omega, Lib.hid (Goods.own_under H0.out H1.out), H1, Lib.hid (fun t ht => by simp at ht)⟩
  case round =>
    clear H0
    obtain ⟨i, a, c, rfl, rfl, hi, HO, HB, HQ⟩ := hrel
    have hi0 : (0 : Int) ≤ (i : Int) := by omega
    obtain ⟨y0, y1, y2, y3, y4, y5, y6⟩ := HP.out wr HB.out
    by_cases hlt : i < b.sm
    · have hlt2 : (i : Int) < (b.sm : Int) := by omega
      obtain ⟨g, off, t, ha, ht, k0, k1⟩ := HT.out wr i HB.out (by rw [HM.out]; exact hlt)
      have hq := ok_qty HOK.out t (List.mem_of_getElem? ht.out)
      obtain ⟨X1, hd, rs, A, S, U, Y, M, p1, p2, p3, p4, p5, p6, p7, p8, HS, p9, p10, HMM⟩ := parts hq.1 hq.2 HLV.out
      have HU : Hid (∀ W, Calls Try.prog 63 #[.int .i64 S, .int .i64 100] W fun e w' => e = .returned (.int .i64 U) ∧ W = w') := Lib.hid (fun W => by
        rw [← HS.out.2.2]
        exact dup S 100 W HS.out.1 (by have := HS.out.2.1; omega) (by omega) (by omega))
      rw [ha] at y3
      clear ha hq
      have wi : IntKind.i64.wrap ((i : Int) + 1) = (i : Int) + 1 := IntWalk.i64_in _ (by omega)
      by_cases hm : 1125899906842624 < M
      · have d1 : decide (1125899906842624 < M) = true := decide_eq_true hm
        have HE := Lib.hid (needsE_over HOK.out HLV.out (fun h => by
          have h1 := h t (List.mem_of_getElem? ht.out)
          rw [← HMM.out] at h1
          unfold mq at h1
          omega))
        clear hm
        go_wp2_with fail
        refine (HU.out _).mono ?_
        rintro e w' ⟨rfl, rfl⟩
        go_wp2_with fail
        go_ret2
        exact ⟨none, 0, 0, by rw [HE.out.1]; rfl, Lib.hid (HNI.out _ HB.out HE.out.2)⟩
      · have d1 : decide (1125899906842624 < M) = false := decide_eq_false hm
        have HQ2 : Hid (∀ u ∈ b.s.take (i + 1), nd u.qty lv r ≤ mq) := Lib.hid (fun u hu => by
          rcases (Goods.mem_take_succ ht.out).1 hu with hu | rfl
          · exact HQ.out u hu
          · rw [← HMM.out]; unfold mq; omega)
        obtain ⟨a3, c3, W3, HR3, ho3, h3⟩ := app1s wr (B := X.heap.size) ⟨t.kind, M⟩ HO.out (by omega) HB.out.size
        have HO3 : Hid (OwnS W3 X.heap.size (.slice a3 (i + 1) c3) (needL (b.s.take (i + 1)) lv r)) := Lib.hid (by rw [needL_take ht.out, ← HMM.out]; exact ho3)
        have HB3 : Hid (Below X.heap.size X W3) := Lib.hid (HB.out.trans h3)
        clear hm ho3 h3
        go_wp2_with fail
        refine (HU.out _).mono ?_
        rintro e w' ⟨rfl, rfl⟩
        go_wp2_with (at_builtin; refine walk_run (v' := .slice a3 (i + 1) c3) (w' := W3) rfl _ _ _ _ rfl _ _ rfl rfl ?_ ?_; exact HR3.out)
        go_roundw
        case rel => exact ⟨i + 1, a3, c3, rfl, by go_num, by omega, HO3, HB3, HQ2⟩
        case measure => simp [RowKit.intOf]; omega
    · obtain rfl : i = b.sm := by omega
      have HE := Lib.hid (needsE_ok (b := b) (lv := lv) (r := r) HOK.out HLV.out (fun t ht => HQ.out t (by rw [List.take_of_length_le (by rw [HM.out]; exact Nat.le_refl _)]; exact ht)))
      have HR : Hid (OwnS wr w.heap.size (.slice a b.sm c) (needsL b lv r)) := Lib.hid (by
        rw [HE.out.2]
        have h := HO.out
        rw [List.take_of_length_le (by rw [HM.out]; exact Nat.le_refl _)] at h
        exact World.ownsRow.mono h HW0.out)
      go_wp2_with fail
      go_ret2
      exact ⟨a, b.sm, c, by rw [HE.out.1]; rfl, Lib.hid ⟨HR.out, HNO.out _ HB.out⟩⟩
end Go.Proofs.Ytohlkaoophbinaa.Recipe
