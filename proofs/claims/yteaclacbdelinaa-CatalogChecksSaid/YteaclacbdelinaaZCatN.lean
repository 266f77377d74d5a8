/- The law on a catalogue's bytes. -/
import Derived.Test.YteaclacbdelinaaZCatK
namespace Go.Proofs.Yteaclacbdelinaa.Cat
open Go.RowKit Go.Lib
open Goods (St Sts OwnS)
open Recipe (BlIn blV)

theorem putV_size (C : Cat) : (putV C).size ≤ 100000 := by
  by_cases h : chkC C = 0
  · rw [(put_yes h).1]
    have hk := chk_zero h
    have hp := ok_pos hk
    have h1 := intsBs_length C.bs fun b hb => (hp.2.1 b hb).2.2.2.2.2.2.1
    have h2 := intsYs_length C.ys
    have h3 := hk.1.2.2.2.1
    have h4 := hk.1.2.2.2.2.1
    have h5 := numsB_size (ints C)
    have h6 : (ints C).length ≤ 500 := by
      unfold ints intsF
      simp only [List.length_append, List.length_cons, List.length_nil]
      omega
    omega
  · rw [(put_no h).1]
    exact Nat.zero_le _
theorem in_pos {x : Int} (h : Pos x) : I64 x := ⟨by have := h.1; omega, h.2⟩
theorem tak_in {S : ByteArray} {D : CM} (h : D.p = takV S) : InC D := by
  by_cases hc : (catP (some S)).2 = some ⟨#[]⟩ ∧ chkC (catP (some S)).1 = 0
  · have hk : CatOk D.p := by
      rw [h, ((tak_is S).1 hc).2]
      exact chk_zero hc.2
    obtain ⟨h1, h2, h3, h4, h5, h6, h7, h8⟩ := ok_pos hk
    refine ⟨in_pos h1, fun b hb => ?_, in_pos h3, fun y hy => ?_, in_pos h5, in_pos h6, in_pos h7, in_pos h8⟩
    · obtain ⟨p1, p2, p3, p4, p5, p6, _, p8⟩ := h2 (pOf b) (List.mem_map.2 ⟨b, hb, rfl⟩)
      exact ⟨in_pos p1, in_pos p2, in_pos p3, in_pos p4, in_pos p5, in_pos p6, fun t ht => ⟨in_pos (p8 t ht).1, in_pos (p8 t ht).2⟩⟩
    · obtain ⟨p1, p2, p3, p4⟩ := h4 y hy
      exact ⟨in_pos p1, in_pos p2, in_pos p3, in_pos p4⟩
  · have hz : D.p = zCat := h.trans ((tak_is S).2 hc).2
    have e1 : D.ty = 0 := congrArg (fun x : Cat => x.ty) hz
    have e2 : D.bs.map pOf = [] := congrArg (fun x : Cat => x.bs) hz
    have e3 : D.pl = 0 := congrArg (fun x : Cat => x.pl) hz
    have e4 : D.ys = [] := congrArg (fun x : Cat => x.ys) hz
    have e5 : D.ch = 0 := congrArg (fun x : Cat => x.ch) hz
    have e6 : D.f = ⟨0, 0, 0⟩ := congrArg (fun x : Cat => x.f) hz
    have e7 : D.bs = [] := List.map_eq_nil_iff.1 e2
    refine ⟨by rw [e1]; simp [I64], fun b hb => ?_, by rw [e3]; simp [I64], fun y hy => ?_, by rw [e5]; simp [I64], by rw [e6]; simp [I64], by rw [e6]; simp [I64], by rw [e6]; simp [I64]⟩
    · rw [e7] at hb
      cases hb
    · rw [e4] at hy
      cases hy
/-- A box of a catalogue, behind the walk. -/
theorem box_at (w : World) (D : CM) : ∃ V X, w.heap.size = V ∧ w.alloc (.cells #[.int .i64 D.ty, .slice D.ba D.bn D.bc, .int .i64 D.pl, .slice D.ya D.yn D.yc, .int .i64 D.ch, .int .i64 D.f.broker, .int .i64 D.f.least, .int .i64 D.f.sales] 27) = X ∧ Hid (Below w.heap.size w X ∧ ∀ W, Below X.heap.size X W → W.heap[V]? = some (.cells #[.int .i64 D.ty, .slice D.ba D.bn D.bc, .int .i64 D.pl, .slice D.ya D.yn D.yc, .int .i64 D.ch, .int .i64 D.f.broker, .int .i64 D.f.least, .int .i64 D.f.sales] 27 (0, 0))) := by
  refine ⟨_, _, rfl, rfl, Lib.hid ⟨(Below.refl _ w).alloc (Nat.le_refl _) _, fun W hW => ?_⟩⟩
  have h0 := heap_alloc_new w (.cells #[.int .i64 D.ty, .slice D.ba D.bn D.bc, .int .i64 D.pl, .slice D.ya D.yn D.yc, .int .i64 D.ch, .int .i64 D.f.broker, .int .i64 D.f.least, .int .i64 D.f.sales] 27)
  exact (hW.block _ (Array.getElem?_eq_some_iff.1 h0).1).trans h0
open Classical in
set_option maxRecDepth 100000 in
set_option maxHeartbeats 8000000 in
theorem catalogBytes_in (I : Impl) (C : CM) (S : ByteArray) (w : World) (h : CatAt w C) (hin : InC C) (hb : C.bn ≤ 9223372036854775807) (hy : C.yn ≤ 9223372036854775807) (hs : ∀ b ∈ C.bs, b.sm ≤ 9223372036854775807) (hS : S.size ≤ 9223372036854775807) :
    Calls Try.prog 4 #[C.v, .string S] w fun e w' => e = .returned (.bool true) ∧ Below w.heap.size w w' := by
  obtain ⟨V, X, hV, hX, HXB, HP⟩ := box_cat w C
  have HAW := awake_at I X
  have HNO : Hid (∀ W, Below X.heap.size X W → Below w.heap.size w W) := Lib.hid fun W hW => below_then HXB.out hW
  have HFEW : Hid (∀ t, decide (Lim C) = t → Calls Try.prog 6 #[.agg #[.int .i64 C.ty, .slice C.ba C.bn C.bc, .int .i64 C.pl, .slice C.ya C.yn C.yc, .int .i64 C.ch, .int .i64 C.f.broker, .int .i64 C.f.least, .int .i64 C.f.sales]] X fun e w' => e = .returned (.bool t) ∧ Hid (Below X.heap.size X w')) := Lib.hid fun t ht => by
    have := dfew C X (h.under HXB.out) hb hy hs
    rw [ht] at this
    exact this.mono fun _ _ ⟨e, h⟩ => ⟨e, Lib.hid h⟩
  have HAT : Hid (CatAt X C) := Lib.hid (h.under HXB.out)
  have HIN := Lib.hid hin
  obtain ⟨k0, k1, k2, k3, k4, k5, k6, k7⟩ := HP.out X (Below.refl _ _)
  clear h hin hb hy hs
  by_cases hl : Lim C
  case neg =>
    have HF := Lib.hid (HFEW.out false (decide_eq_false hl))
    clear hl
    go_enter Try.func4, Try.ntmps4
    go_wp2_with fail
    clear hX hV
    refine HF.out.mono ?_
    rintro e w1 ⟨rfl, H1⟩
    go_wp2_with fail
    refine (HAW.out w1 H1.out).mono ?_
    rintro e w2 ⟨rfl, H2⟩
    go_wp2_with fail
    go_ret
    exact ⟨rfl, HNO.out _ H2.out⟩
  have HF := Lib.hid (HFEW.out true (decide_eq_true hl))
  have HL := Lib.hid hl
  have hS2 : (S.size : Int) ≤ 9223372036854775807 := by omega
  clear hl HFEW
  by_cases h10 : 1024 < S.size
  · have d1 : decide ((1024 : Int) < (S.size : Int)) = true := decide_eq_true (by omega)
    have d2 : (1024 : Int) < (S.size : Int) := by omega
    go_enter Try.func4, Try.ntmps4
    go_wp2_with fail
    clear hX hV
    refine HF.out.mono ?_
    rintro e w1 ⟨rfl, H1⟩
    go_wp2_with fail
    refine (HAW.out w1 H1.out).mono ?_
    rintro e w2 ⟨rfl, H2⟩
    go_wp2_with fail
    go_ret
    exact ⟨rfl, HNO.out _ H2.out⟩
  have d1 : decide ((1024 : Int) < (S.size : Int)) = false := decide_eq_false (by omega)
  have d2 : ¬ 1024 < S.size := h10
  have HS10 := Lib.hid h10
  have HFIT : Hid (∀ W, Below X.heap.size X W → Fit W C) := Lib.hid fun W hW => ⟨HAT.out.under hW, HL.out, HIN.out⟩
  obtain ⟨PV, hPV⟩ : ∃ v, putV C.p = v := ⟨_, rfl⟩
  obtain ⟨PE, hPE⟩ : ∃ v, putE C.p = v := ⟨_, rfl⟩
  obtain ⟨TE, hTE⟩ : ∃ v, takE S = v := ⟨_, rfl⟩
  obtain ⟨BE, hBE⟩ : ∃ v, takE PV = v := ⟨_, rfl⟩
  obtain ⟨QV, hQV⟩ : ∃ v, putV (takV S) = v := ⟨_, rfl⟩
  obtain ⟨QE, hQE⟩ : ∃ v, putE (takV S) = v := ⟨_, rfl⟩
  have HPB : Hid (PE = 0 → BE = 0 ∧ takV PV = C.p) := Lib.hid fun h => by
    rw [← hPE] at h
    have := tak_put h
    rw [hPV, hBE] at this
    exact this
  have HTQ : Hid (TE = 0 → QE = 0 ∧ QV = S) := Lib.hid fun h => by
    rw [← hTE] at h
    have := put_tak h
    rw [hQV, hQE] at this
    exact this
  have HPZ : Hid (PV.size ≤ 1048576) := Lib.hid (by have := putV_size C.p; rw [hPV] at this; omega)
  have HPUT : Hid (∀ W, Below X.heap.size X W → Calls Try.prog 19 #[.agg #[.int .i64 C.ty, .slice C.ba C.bn C.bc, .int .i64 C.pl, .slice C.ya C.yn C.yc, .int .i64 C.ch, .int .i64 C.f.broker, .int .i64 C.f.least, .int .i64 C.f.sales]] W fun e w' => e = .returned (.tuple #[.string PV, .int .i64 PE]) ∧ Hid (Below X.heap.size X w')) := Lib.hid fun W hW => by
    have := I.put C W (HFIT.out W hW)
    rw [hPV, hPE] at this
    exact this.mono fun _ _ ⟨e, h⟩ => ⟨e, Lib.hid (below_then hW h)⟩
  have HDPUT : Hid (∀ W, Below X.heap.size X W → Calls Try.prog 20 #[.agg #[.int .i64 C.ty, .slice C.ba C.bn C.bc, .int .i64 C.pl, .slice C.ya C.yn C.yc, .int .i64 C.ch, .int .i64 C.f.broker, .int .i64 C.f.least, .int .i64 C.f.sales]] W fun e w' => e = .returned (.tuple #[.string PV, .int .i64 PE]) ∧ Hid (Below X.heap.size X w')) := Lib.hid fun W hW => by
    have := dput C W (HFIT.out W hW).1 HL.out
    rw [hPV, hPE] at this
    exact this.mono fun _ _ ⟨e, h⟩ => ⟨e, Lib.hid (below_then hW h)⟩
  have HTAKE : Hid (∀ W, Calls Try.prog 21 #[.string S] W fun e w' => ∃ D : CM, e = .returned (.tuple #[.agg #[.int .i64 D.ty, .slice D.ba D.bn D.bc, .int .i64 D.pl, .slice D.ya D.yn D.yc, .int .i64 D.ch, .int .i64 D.f.broker, .int .i64 D.f.least, .int .i64 D.f.sales], .int .i64 TE]) ∧ Hid (D.p = takV S ∧ CatAt w' D ∧ Lim D ∧ Below W.heap.size W w')) := Lib.hid fun W => by
    have := I.take S W (by have := HS10.out; omega)
    rw [hTE] at this
    exact this
  have HDTAKE : Hid (∀ W, Calls Try.prog 22 #[.string S] W fun e w' => ∃ D : CM, e = .returned (.tuple #[.agg #[.int .i64 D.ty, .slice D.ba D.bn D.bc, .int .i64 D.pl, .slice D.ya D.yn D.yc, .int .i64 D.ch, .int .i64 D.f.broker, .int .i64 D.f.least, .int .i64 D.f.sales], .int .i64 TE]) ∧ Hid (D.p = takV S ∧ CatAt w' D ∧ Lim D ∧ Below W.heap.size W w')) := Lib.hid fun W => by
    have := dtake S W (by have := HS10.out; omega)
    rw [hTE] at this
    exact this
  have HBACK : Hid (∀ W, Calls Try.prog 21 #[.string PV] W fun e w' => ∃ D : CM, e = .returned (.tuple #[.agg #[.int .i64 D.ty, .slice D.ba D.bn D.bc, .int .i64 D.pl, .slice D.ya D.yn D.yc, .int .i64 D.ch, .int .i64 D.f.broker, .int .i64 D.f.least, .int .i64 D.f.sales], .int .i64 BE]) ∧ Hid (D.p = takV PV ∧ CatAt w' D ∧ Lim D ∧ Below W.heap.size W w')) := Lib.hid fun W => by
    have := I.take PV W HPZ.out
    rw [hBE] at this
    exact this
  have HPAG : Hid (∀ W (D : CM), D.p = takV S → CatAt W D → Lim D → Calls Try.prog 19 #[.agg #[.int .i64 D.ty, .slice D.ba D.bn D.bc, .int .i64 D.pl, .slice D.ya D.yn D.yc, .int .i64 D.ch, .int .i64 D.f.broker, .int .i64 D.f.least, .int .i64 D.f.sales]] W fun e w' => e = .returned (.tuple #[.string QV, .int .i64 QE]) ∧ Hid (Below W.heap.size W w')) := Lib.hid fun W D hD ha hl => by
    have := I.put D W ⟨ha, hl, tak_in hD⟩
    rw [hD, hQV, hQE] at this
    exact this.mono fun _ _ ⟨e, h⟩ => ⟨e, Lib.hid h⟩
  have HSAME : Hid (∀ W (D E : CM), D.p = E.p → CatAt W D → CatAt W E → Lim D → Lim E → Calls Try.prog 23 #[.agg #[.int .i64 D.ty, .slice D.ba D.bn D.bc, .int .i64 D.pl, .slice D.ya D.yn D.yc, .int .i64 D.ch, .int .i64 D.f.broker, .int .i64 D.f.least, .int .i64 D.f.sales], .agg #[.int .i64 E.ty, .slice E.ba E.bn E.bc, .int .i64 E.pl, .slice E.ya E.yn E.yc, .int .i64 E.ch, .int .i64 E.f.broker, .int .i64 E.f.least, .int .i64 E.f.sales]] W fun e w' => e = .returned (.bool true) ∧ Hid (Below W.heap.size W w')) := Lib.hid fun W D E hp h1 h2 l1 l2 => (dsame D E W h1 h2 l1 l2 hp).mono fun _ _ ⟨e, h⟩ => ⟨e, Lib.hid h⟩
  clear hPV hPE hTE hBE hQV hQE h10
  go_enter Try.func4, Try.ntmps4
  go_wp2_with fail
  clear hX hV
  refine HF.out.mono ?_
  rintro e w1 ⟨rfl, H1⟩
  clear k0 k1 k2 k3 k4 k5 k6 k7
  obtain ⟨k0, k1, k2, k3, k4, k5, k6, k7⟩ := HP.out w1 H1.out
  go_wp2_with fail
  refine (HPUT.out w1 H1.out).mono ?_
  rintro e w2 ⟨rfl, H2⟩
  clear k0 k1 k2 k3 k4 k5 k6 k7
  obtain ⟨k0, k1, k2, k3, k4, k5, k6, k7⟩ := HP.out w2 H2.out
  go_wp2_with fail
  refine (HDPUT.out w2 H2.out).mono ?_
  rintro e w3 ⟨rfl, H3⟩
  clear k0 k1 k2 k3 k4 k5 k6 k7
  go_wp2_with fail
  refine (HTAKE.out w3).mono ?_
  rintro e w4 ⟨D, rfl, HD⟩
  go_upto_region 6 with fail
  obtain ⟨V4, X4, hV4, hX4, HX4⟩ := box_at w4 D
  rw [hX4, hV4]
  clear hX4 hV4
  have H4 : Hid (Below X.heap.size X X4) := Lib.hid (below_then H3.out (below_then HD.out.2.2.2 HX4.out.1))
  go_wp2_with fail
  refine (HDTAKE.out X4).mono ?_
  rintro e w5 ⟨E, rfl, HE⟩
  go_upto_region 7 with fail
  obtain ⟨V5, X5, hV5, hX5, HX5⟩ := box_at w5 E
  rw [hX5, hV5]
  clear hX5 hV5
  have HB5 : Hid (Below X4.heap.size X4 X5) := Lib.hid (below_then HE.out.2.2.2 HX5.out.1)
  obtain ⟨⟨k0, k1, k2, k3, k4, k5, k6, k7⟩, _⟩ := blk8 (HX4.out.2 X5 HB5.out)
  obtain ⟨⟨q0, q1, q2, q3, q4, q5, q6, q7⟩, _⟩ := blk8 (HX5.out.2 X5 (Below.refl _ _))
  have HS5 := Lib.hid (HSAME.out X5 D E (HD.out.1.trans HE.out.1.symm) ((HD.out.2.1.under HX4.out.1).under HB5.out) (HE.out.2.1.under HX5.out.1) HD.out.2.2.1 HE.out.2.2.1)
  go_wp2_with fail
  refine HS5.out.mono ?_
  rintro e w6 ⟨rfl, H6⟩
  clear k0 k1 k2 k3 k4 k5 k6 k7 q0 q1 q2 q3 q4 q5 q6 q7 HS5
  go_wp2_with fail
  refine (HBACK.out w6).mono ?_
  rintro e w7 ⟨F, rfl, HFF⟩
  go_upto_region 10 with fail
  obtain ⟨V7, X7, hV7, hX7, HX7⟩ := box_at w7 F
  rw [hX7, hV7]
  clear hX7 hV7
  have HB7 : Hid (Below X4.heap.size X4 X7) := Lib.hid (below_then HB5.out (below_then H6.out (below_then HFF.out.2.2.2 HX7.out.1)))
  obtain ⟨⟨k0, k1, k2, k3, k4, k5, k6, k7⟩, _⟩ := blk8 (HX4.out.2 X7 HB7.out)
  have HP7 := Lib.hid (HPAG.out X7 D HD.out.1 ((HD.out.2.1.under HX4.out.1).under HB7.out) HD.out.2.2.1)
  go_wp2_with fail
  refine HP7.out.mono ?_
  rintro e w8 ⟨rfl, H8⟩
  clear k0 k1 k2 k3 k4 k5 k6 k7 HP7
  go_upto_region 11 with fail
  have HB8 : Hid (Below X.heap.size X w8) := Lib.hid (below_then H4.out (below_then HB7.out H8.out))
  have HTAIL : Hid (∀ W, Below w8.heap.size w8 W → Below X.heap.size X W) := Lib.hid fun W hW => below_then HB8.out hW
  obtain ⟨z0, z1, z2, z3, z4, z5, z6, z7⟩ := HP.out w8 HB8.out
  obtain ⟨⟨k0, k1, k2, k3, k4, k5, k6, k7⟩, _⟩ := blk8 (HX7.out.2 w8 H8.out)
  by_cases hp : PE = 0
  · obtain ⟨hb0, hc0⟩ := HPB.out hp
    have HS8 := Lib.hid (HSAME.out w8 F C (HFF.out.1.trans hc0) ((HFF.out.2.1.under HX7.out.1).under H8.out) (HFIT.out w8 HB8.out).1 HFF.out.2.2.1 HL.out)
    subst hp hb0
    clear hc0
    by_cases ht : TE = 0
    · obtain ⟨hq0, hv0⟩ := HTQ.out ht
      subst ht hq0 hv0
      go_wp2_with fail
      refine HS8.out.mono ?_
      rintro e w9 ⟨rfl, H9⟩
      go_wp2_with fail
      refine (HAW.out w9 (HTAIL.out w9 H9.out)).mono ?_
      rintro e wA ⟨rfl, HA⟩
      go_wp2_with fail
      go_ret
      exact ⟨rfl, HNO.out _ HA.out⟩
    · have n1 : (TE == 0) = false := by simpa using ht
      have n2 : (TE != 0) = true := by simpa using ht
      clear ht
      go_wp2_with fail
      refine HS8.out.mono ?_
      rintro e w9 ⟨rfl, H9⟩
      go_wp2_with fail
      refine (HAW.out w9 (HTAIL.out w9 H9.out)).mono ?_
      rintro e wA ⟨rfl, HA⟩
      go_wp2_with fail
      go_ret
      exact ⟨rfl, HNO.out _ HA.out⟩
  · have m1 : (PE == 0) = false := by simpa using hp
    have m2 : (PE != 0) = true := by simpa using hp
    clear hp
    by_cases ht : TE = 0
    · obtain ⟨hq0, hv0⟩ := HTQ.out ht
      subst ht hq0 hv0
      go_wp2_with fail
      refine (HAW.out w8 HB8.out).mono ?_
      rintro e wA ⟨rfl, HA⟩
      go_wp2_with fail
      go_ret
      exact ⟨rfl, HNO.out _ HA.out⟩
    · have n1 : (TE == 0) = false := by simpa using ht
      have n2 : (TE != 0) = true := by simpa using ht
      clear ht
      go_wp2_with fail
      refine (HAW.out w8 HB8.out).mono ?_
      rintro e wA ⟨rfl, HA⟩
      go_wp2_with fail
      go_ret
      exact ⟨rfl, HNO.out _ HA.out⟩
end Go.Proofs.Yteaclacbdelinaa.Cat
