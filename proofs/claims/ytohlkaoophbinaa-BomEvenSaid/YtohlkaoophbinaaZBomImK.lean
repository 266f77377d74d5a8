/- The program's fill: runs of a type's maker, or it must be there. A range over a function whose own body ranges over another one: what such a function owes, and a caller's law for it. A round that goes on, and one that stops, leaves alone whatever is no cells and lies behind the loop's own record. -/
import Derived.Test.YtohlkaoophbinaaZBomImJ
import Derived.Test.YtohlkaoophbinaaZBomImW
import Derived.Test.YtohlkaoophbinaaZCalcScaleP
import Derived.Test.YtohlkaoophbinaaZBomF
import Derived.RangeFuncNested
import Derived.RangeFuncCalls
import Derived.Test.YtohlkaoophbinaaZLaw
namespace Go.Proofs.Ytohlkaoophbinaa.Bom.Im
open Go.RowKit Go.Lib IRows
open Goods (St Sts OwnS cnt)
open Cat (Cat PB CM CatAt Lim I64 pOf box_cat)
open Recipe (needsE needsL needL up nd BlIn)
open Graph.Im (Gr gr_below gr_setP gr_setQ gr_drew)

theorem needL_kind2 {s : List St} {lv r ty : Int} (h : ∀ t ∈ s, 1 ≤ t.kind ∧ t.kind ≤ ty) : ∀ t ∈ needL s lv r, 1 ≤ t.kind ∧ t.kind ≤ ty := fun t ht => by
  obtain ⟨u, hu, rfl⟩ := List.mem_map.1 ht
  exact h u hu
theorem needL_qty2 {b : Recipe.Bl} {lv r : Int} (h : needsE b lv r = 0) (hr : 0 ≤ r) : ∀ t ∈ needL b.s lv r, 0 ≤ t.qty ∧ t.qty ≤ 1125899906842624 := by
  have h0 : ∀ t ∈ needL b.s lv r, 0 ≤ t.qty := fun t ht => by
    obtain ⟨u, hu, rfl⟩ := List.mem_map.1 ht
    have := Recipe.nd_run u.qty lv r
    show 0 ≤ nd u.qty lv r
    omega
  intro t ht
  have h1 := ((needs_norm h).2 t.kind).2
  have h2 := Goods.cnt_mem h0 ht
  exact ⟨h0 t ht, by omega⟩
set_option maxRecDepth 100000 in
set_option maxHeartbeats 16000000 in
theorem fill_im (C : CM) (A G : Nat) (P : Px) (p : Nat) (m lv : Int) (X0 w : World) (h : CatAt X0 C) (hl : Lim C) (hc : Cat.chkC C.p = 0) (hX9 : Below X0.heap.size X0 w) (hA : X0.heap.size ≤ A) (hG : X0.heap.size ≤ G) (hB : BB w A G C.bn P) (hPG : PG C.bn P) (hm : 1 ≤ m ∧ m ≤ 1125899906842624) (hlv : 0 ≤ lv ∧ lv ≤ 10) (hp : p < 33) :
    Calls Try.prog 26 #[.pointer (some ⟨A, 0, none⟩), C.v, .int .i64 (p : Int), .int .i64 m, .int .i64 lv] w fun e w' => ∃ z, e = .returned (.int .i64 z) ∧ Hid (Gr w w' A G ∧ ((pfil C.p.bs lv (p : Int) m P = none ∧ z = 5) ∨ ∃ Q, pfil C.p.bs lv (p : Int) m P = some Q ∧ z = 0 ∧ BB w' A G C.bn Q)) := by
  have HA := Lib.hid (And.intro hA hG)
  have HBB := Lib.hid hB
  have HX0 := Lib.hid hX9
  have HPG := Lib.hid hPG
  have HM := Lib.hid hm
  have HLV := Lib.hid hlv
  have HP33 := Lib.hid hp
  have HOK := Lib.hid (Cat.chk_zero hc)
  obtain ⟨V, X, hV, hX, HXB, HP⟩ := box_cat w C
  obtain ⟨k0, k1, k2, k3, k4, k5, k6, k7⟩ := HP.out X (Below.refl _ _)
  have HPE : Hid (∀ W, Below X.heap.size X W → W.cell? ⟨V, 0, none⟩ = some (.int .i64 C.ty) ∧ W.cell? ⟨V, 1, none⟩ = some (.slice C.ba C.bn C.bc)) := Lib.hid fun W hW => ⟨(HP.out W hW).1, (HP.out W hW).2.1⟩
  obtain ⟨z, hz⟩ : ∃ z, Cat.mkr (p : Int) C.p.bs 0 = z := ⟨_, rfl⟩
  have hcX : CatAt X C := (h.under HX0.out).under HXB.out
  have HMK : Hid (Calls Try.prog 39 #[.agg #[.int .i64 C.ty, .slice C.ba C.bn C.bc, .int .i64 C.pl, .slice C.ya C.yn C.yc, .int .i64 C.ch, .int .i64 C.f.broker, .int .i64 C.f.least, .int .i64 C.f.sales], .int .i64 (p : Int)] X fun e w' => e = .returned (.int .i64 z) ∧ Hid (Below X.heap.size X w')) := Lib.hid (by
    subst hz
    exact (Cat.Im.maker_im C p X hcX (by have := hl.2.1; omega)).mono fun _ _ ⟨e, h⟩ => ⟨e, Lib.hid h⟩)
  have HB := Cat.blue_at hcX
  have HSM : Hid (∀ b ∈ C.bs, b.sm ≤ 12) := Lib.hid hl.1
  have HBN : Hid (C.p.bs.length = C.bn) := Lib.hid (by unfold CM.p; rw [List.length_map]; exact h.1.1)
  have HBP : Hid (∀ (i : Nat) (b : Recipe.Bl), C.bs[i]? = some b → C.p.bs[i]? = some (pOf b)) := Lib.hid fun i b h => by unfold CM.p; simp [h]
  have hb1 : C.bn ≤ 20 := hl.2.1
  have hp0 : (0 : Int) ≤ (p : Int) := by omega
  have hp33 : (p : Int) < 33 := by omega
  have HBX : Hid (BB X A G C.bn P ∧ Gr w X A G) := Lib.hid ⟨hB.under HXB.out, gr_below HXB.out⟩
  rw [mkr_fm] at hz
  clear h hl hc hX9 hA hG hB hPG hlv hp hcX
  cases hf : fm (p : Int) C.p.bs with
  | none =>
    rw [hf] at hz
    obtain rfl : z = 0 := hz.symm
    have HQ : Hid (pfil C.p.bs lv (p : Int) m P = some ⟨P.w, upd P.rw (p : Int) m, P.lf, P.rs⟩) := Lib.hid (by unfold pfil; rw [hf])
    clear hz hf
    go_enter Try.func26, Try.ntmps26
    go_wp2_with fail
    clear hX hV
    refine HMK.out.mono ?_
    rintro e w1 ⟨rfl, H1⟩
    have HB1 : Hid (BB w1 A G C.bn P ∧ Gr w w1 A G) := Lib.hid ⟨HBX.out.1.under H1.out, HBX.out.2.trans (gr_below H1.out)⟩
    obtain ⟨-, ⟨x0, x1⟩, -⟩ := HB1.out.1.at p HP33.out
    clear k0 k1 k2 k3 k4 k5 k6 k7
    go_wp2_with fail
    go_ret
    exact ⟨0, rfl, Lib.hid ⟨HB1.out.2.trans (gr_setP w1 A G _ _), .inr ⟨_, HQ.out, rfl, HB1.out.1.setR p HP33.out m⟩⟩⟩
  | some jb =>
    obtain ⟨j, pb⟩ := jb
    rw [hf] at hz
    have hz : (0 : Int) + (j : Int) + 1 = z := hz
    obtain ⟨hpb, hot⟩ := fm_some hf
    have hjl : j < C.bn := by rw [← HBN.out]; exact (List.getElem?_eq_some_iff.1 hpb).1
    have hj0 : (0 : Int) ≤ (j : Int) := by omega
    have hjl2 : (j : Int) < (C.bn : Int) := by omega
    have z0 : (z == 0) = false := by simp; omega
    have wz : IntKind.i64.wrap (z - 1) = (j : Int) := by rw [IntWalk.i64_in _ (by omega)]; omega
    have HPB := Lib.hid hpb
    obtain ⟨r, hr⟩ : ∃ r, up m pb.per = r := ⟨_, rfl⟩
    have HBK : Hid (Recipe.BlOk pb.b C.ty) := Lib.hid (HOK.out.2.1 pb (List.mem_of_getElem? hpb))
    have hrp : 1 ≤ r := up_pos (n := m) (k := pb.per) (by omega) (by have := HBK.out.2.2.1; have h2 : 1 ≤ pb.per := this.1; omega) |> fun h => by omega
    have HQ : Hid (pfil C.p.bs lv (p : Int) m P = if 1000 < r then none else if needsE pb.b lv r = 0 then (match addW P.w (needL pb.s lv r) with | none => none | some f => some ⟨f, P.rw, upd P.lf (p : Int) (r * pb.per - m), P.rs.set j r⟩) else none) := Lib.hid (by
      unfold pfil
      rw [hf]
      dsimp only
      rw [hr]
      rfl)
    have HR := Lib.hid hr
    clear hf hz hpb hot hr
    go_enter Try.func26, Try.ntmps26
    go_wp2_with fail
    clear hX hV
    refine HMK.out.mono ?_
    rintro e w1 ⟨rfl, H1⟩
    clear k0 k1 k2 k3 k4 k5 k6 k7
    obtain ⟨y0, y1⟩ := HPE.out w1 H1.out
    obtain ⟨g3, off3, b, hba, hbt, b0, b1, b2, b3, b4, b5, b6⟩ := HB.out w1 j H1.out hjl
    obtain ⟨U, Y, hU, hY, HUY, HUC⟩ := box_at w1 b
    have HPO : Hid (pb = pOf b) := Lib.hid (by
      have := HBP.out j b hbt.out.1
      rw [HPB.out] at this
      injection this)
    have h12 : b.sm ≤ 12 := HSM.out b (List.mem_of_getElem? hbt.out.1)
    have HBI : Hid (BlIn Y b) := Lib.hid (by
      have h1 : BlIn w1 b := ⟨hbt.out.2.1, hbt.out.2.2, by omega⟩
      exact h1.under HUY.out.1)
    have HB32 : Hid (Recipe.BlOk b 32) := Lib.hid (by
      have h1 := HBK.out
      rw [HPO.out] at h1
      exact blok_32 h1)
    have HRB : Hid (up m b.per = r) := Lib.hid (by
      have h1 := HR.out
      rw [HPO.out] at h1
      exact h1)
    have HXY : Hid (Below X.heap.size X Y) := Lib.hid (below_then H1.out HUY.out.1)
    obtain ⟨u0, u1, u2, u3, u4, u5, u6⟩ := HUC.out Y (Below.refl _ _)
    have HRU : Hid (Calls Try.prog 55 #[.agg #[.int .i64 b.ot, .int .i64 b.per, .int .i64 b.tm, .slice b.sa b.sm b.sc, .int .i64 b.cp, .int .i64 b.st, .int .i64 b.mo], .int .i64 m] Y fun e w' => e = .returned (.tuple #[.int .i64 r, .int .i64 0]) ∧ Hid (Below Y.heap.size Y w')) := Lib.hid (by
      have h1 := Recipe.Im.runs_im b m Y HBI.out
      obtain ⟨e1, e2⟩ := Recipe.runs_ok HB32.out (show Recipe.QtyOk m from ⟨by have := HM.out; omega, HM.out.2⟩)
      rw [e1, e2, HRB.out] at h1
      exact h1.mono fun _ _ ⟨e, h⟩ => ⟨e, Lib.hid h⟩)
    rw [hba] at y1
    clear hba
    go_upto_region 6 with fail
    clear hU hY y0 y1 b0 b1 b2 b3 b4 b5 b6
    go_wp2_with fail
    refine HRU.out.mono ?_
    rintro e w2 ⟨rfl, H2⟩
    clear u0 u1 u2 u3 u4 u5 u6
    by_cases c1 : 1000 < r
    · have d1 : decide (1000 < r) = true := decide_eq_true c1
      have HE : Hid (pfil C.p.bs lv (p : Int) m P = none) := Lib.hid (by rw [HQ.out, if_pos c1])
      clear c1
      go_wp2_with fail
      go_ret
      exact ⟨5, rfl, Lib.hid ⟨HBX.out.2.trans (gr_below (below_then HXY.out H2.out)), .inl ⟨HE.out, rfl⟩⟩⟩
    have d1 : decide (1000 < r) = false := decide_eq_false c1
    have HR1 : Hid (1 ≤ r ∧ r ≤ 1000) := Lib.hid ⟨hrp, by omega⟩
    obtain ⟨mq, hmq⟩ : ∃ mq, b.per * r = mq := ⟨_, rfl⟩
    have HMQ := Lib.hid hmq
    have HMA : Hid (Calls Try.prog 46 #[.agg #[.int .i64 b.ot, .int .i64 b.per, .int .i64 b.tm, .slice b.sa b.sm b.sc, .int .i64 b.cp, .int .i64 b.st, .int .i64 b.mo], .int .i64 r] w2 fun e w' => e = .returned (.tuple #[.agg #[.int .i64 b.ot, .int .i64 mq], .int .i64 0]) ∧ Hid (Below w2.heap.size w2 w')) := Lib.hid (by
      have h1 := Recipe.Im.makes_im b r w2 (HBI.out.under H2.out)
      obtain ⟨e1, e2⟩ := Recipe.makes_ok HB32.out (show Recipe.RunOk r from HR1.out)
      rw [e1, e2] at h1
      rw [← hmq]
      exact h1.mono fun _ _ ⟨e, h⟩ => ⟨e, Lib.hid h⟩)
    obtain ⟨u0, u1, u2, u3, u4, u5, u6⟩ := HUC.out w2 H2.out
    clear c1 hmq
    go_wp2_with fail
    refine HMA.out.mono ?_
    rintro e w3 ⟨rfl, H3⟩
    clear u0 u1 u2 u3 u4 u5 u6
    obtain ⟨S3, Z3, hS3, hZ3, s0, s1, HZ3⟩ := Cat.Im.box_st w3 ⟨b.ot, mq⟩
    have HS3 : Hid (S3 < Z3.heap.size ∧ w3.heap.size = S3) := Lib.hid ⟨World.block_lt_of_cell? Z3 _ s0, hS3⟩
    have HYZ : Hid (Below Y.heap.size Y Z3) := Lib.hid (below_then (below_then H2.out H3.out) HZ3.out)
    obtain ⟨u0, u1, u2, u3, u4, u5, u6⟩ := HUC.out Z3 HYZ.out
    obtain ⟨ne, hne⟩ : ∃ ne, needsE b lv r = ne := ⟨_, rfl⟩
    have HNE := Lib.hid hne
    have HTI : Hid (Calls Try.prog 45 #[.agg #[.int .i64 b.ot, .int .i64 b.per, .int .i64 b.tm, .slice b.sa b.sm b.sc, .int .i64 b.cp, .int .i64 b.st, .int .i64 b.mo], .int .i64 lv, .int .i64 r] Z3 fun e w' => ∃ a' m' c', e = .returned (.tuple #[.slice a' m' c', .int .i64 ne]) ∧ Hid (OwnS w' Z3.heap.size (.slice a' m' c') (Recipe.needsL b lv r) ∧ Below Z3.heap.size Z3 w')) := Lib.hid (by
      rw [← hne]
      exact Recipe.Im.needs_im b lv r Z3 (HBI.out.under HYZ.out))
    clear hne
    go_upto_region 14 with fail
    clear hS3 hZ3
    go_wp2_with fail
    refine HTI.out.mono ?_
    rintro e w4 ⟨a6, n6, c6, rfl, H4⟩
    clear u0 u1 u2 u3 u4 u5 u6
    have HW4 : Hid (Below X.heap.size X w4) := Lib.hid (below_then (below_then HXY.out HYZ.out) H4.out.2)
    have HG4 : Hid (BB w4 A G C.bn P ∧ Gr w w4 A G) := Lib.hid ⟨HBX.out.1.under HW4.out, HBX.out.2.trans (gr_below HW4.out)⟩
    by_cases e1 : ne = 0
    case neg =>
      have e2 : (ne == 0) = false := by simpa using e1
      have e3 : (ne != 0) = true := by simpa using e1
      have HNZ : Hid (ne = 5) := Lib.hid (by
        rw [← HNE.out]
        exact needs_5 HB32.out HLV.out HR1.out (by rw [HNE.out]; exact e1))
      have HE : Hid (pfil C.p.bs lv (p : Int) m P = none) := Lib.hid (by
        rw [HQ.out, if_neg (by have := HR1.out; omega), if_neg]
        rw [HPO.out]
        intro h0
        exact e1 (by rw [← HNE.out]; exact h0))
      clear e1
      go_wp2_with fail
      go_ret
      exact ⟨5, by rw [HNZ.out]; rfl, Lib.hid ⟨HG4.out.2, .inl ⟨HE.out, rfl⟩⟩⟩
    subst e1
    have HNL : Hid (Recipe.needsL b lv r = needL b.s lv r) := Lib.hid (Recipe.needsE_zero HNE.out).2.2
    have hrs : ∃ x, P.rs[j]? = some x := ⟨_, List.getElem?_eq_getElem (show j < P.rs.length by rw [HPG.out.len]; exact hjl)⟩
    obtain ⟨xr, hxr⟩ := hrs
    obtain ⟨g0, g1⟩ := HG4.out.1.rs j xr hxr
    have c99 := HG4.out.1.s
    have HW5 : Hid (BB (w4.setCell ⟨G, j, none⟩ (.int .i64 r)) A G C.bn ⟨P.w, P.rw, P.lf, P.rs.set j r⟩ ∧ Gr w4 (w4.setCell ⟨G, j, none⟩ (.int .i64 r)) A G) := Lib.hid ⟨HG4.out.1.setN j r, gr_setQ w4 A G j _⟩
    have HAW : Hid (A < w.heap.size ∧ G < w.heap.size) := Lib.hid ⟨HBB.out.ia, HBB.out.ig⟩
    have HZ3S : Hid (w.heap.size ≤ w3.heap.size) := Lib.hid (by have h1 := HXB.out.size; have h2 := HXY.out.size; have h3 := H2.out.size; have h4 := H3.out.size; omega)
    have HS4 : Hid (∀ W, Gr w4 W A G → W.cell? ⟨S3, 1, none⟩ = some (.int .i64 mq)) := Lib.hid fun W hW => by
      have h1 := HAW.out; have h2 := HZ3S.out; have h3 := HS3.out; have h4 := H4.out.2.size
      rw [hW.cell 1 (by omega) (by omega) (by omega)]
      exact ((bcell H4.out.2).1 S3 1 (by omega)).trans s1
    obtain ⟨W5, hW5⟩ : ∃ W5, w4.setCell ⟨G, j, none⟩ (.int .i64 r) = W5 := ⟨_, rfl⟩
    rw [hW5] at HW5
    have hsl := HS4.out W5 HW5.out.2
    obtain ⟨-, -, l0, l1⟩ := HW5.out.1.at p HP33.out
    have HMB := over_in (m := m) (p := b.per) (r := r) HM.out.1 HB32.out.2.2.1 HRB.out HR1.out.2
    have hmb : 0 ≤ mq - m ∧ mq - m ≤ 1048576000 := by
      have h1 := HMQ.out
      rw [Int.mul_comm] at h1
      omega
    have wmq : IntKind.i64.wrap (mq - m) = mq - m := IntWalk.i64_in _ (by omega)
    have HW6 : Hid (BB (W5.setCell ⟨A, 66 + p, none⟩ (.int .i64 (mq - m))).drew A G C.bn ⟨P.w, P.rw, upd P.lf (p : Int) (mq - m), P.rs.set j r⟩ ∧ Gr w4 (W5.setCell ⟨A, 66 + p, none⟩ (.int .i64 (mq - m))).drew A G) := Lib.hid ⟨(HW5.out.1.setL p HP33.out (mq - m)).under (Below.refl _ _).drew, (HW5.out.2.trans (gr_setP W5 A G _ _)).trans (gr_drew _ _ _)⟩
    have HFAR : Hid (Far w4 A G a6 n6 (needL b.s lv r)) := Lib.hid (by
      have h1 := H4.out.1
      rw [HNL.out] at h1
      have h2 := HAW.out; have h3 := HZ3S.out; have h4 := HZ3.out.size
      exact far_own h1 (by omega) (by omega))
    have HN6 : Hid (n6 ≤ 1000) := Lib.hid (by
      rw [← HFAR.out.1]
      have h2 : (needL b.s lv r).length = b.s.length := List.length_map ..
      have h3 := HBI.out.1
      omega)
    have HWT := Lib.hid (want_im A G C.bn ⟨P.w, P.rw, upd P.lf (p : Int) (mq - m), P.rs.set j r⟩ a6 n6 c6 (needL b.s lv r) (W5.setCell ⟨A, 66 + p, none⟩ (.int .i64 (mq - m))).drew HW6.out.1 (HFAR.out.gr HW6.out.2) HN6.out (fun t ht => ⟨needL_kind2 (kind_listed HB32.out.2.2.2.2.2.2.2.1) t ht, needL_qty2 HNE.out (by have := HR1.out; omega) t ht⟩) HPG.out.w)
    clear hxr HMB hmb
    go_upto_region 18 with fail
    clear hW5 g0 g1 c99
    go_region
    go_wp2_with fail
    refine HWT.out.mono ?_
    rintro e w8 ⟨z8, rfl, H8⟩
    go_wp2_with fail
    go_ret
    refine ⟨z8, rfl, Lib.hid ⟨(HG4.out.2.trans HW6.out.2).trans H8.out.1, ?_⟩⟩
    have hq := HQ.out
    have hne : needsE pb.b lv r = 0 := by rw [HPO.out]; exact HNE.out
    rw [if_neg (by have := HR1.out; omega), if_pos hne] at hq
    have hpp : pb.s = b.s ∧ pb.per = b.per := by rw [HPO.out]; exact ⟨rfl, rfl⟩
    rw [hpp.1, hpp.2] at hq
    have hmm : r * b.per - m = mq - m := by rw [← HMQ.out, Int.mul_comm]
    rcases H8.out.2 with ⟨h1, h2⟩ | ⟨f, h1, h2, h3⟩
    · have h1 : addW P.w (needL b.s lv r) = none := h1
      rw [h1] at hq
      exact .inl ⟨hq, h2⟩
    · have h1 : addW P.w (needL b.s lv r) = some f := h1
      rw [h1, hmm] at hq
      exact .inr ⟨_, hq, h2, h3⟩
end Go.Proofs.Ytohlkaoophbinaa.Bom.Im
namespace Go.Proofs.Ytohlkaoophbinaa
open Go.RowKit

section
variable {F : Fence} {n : Nat} {P : Program}
/-- What a round that goes on keeps: the blocks that the iterator reads. -/
def Keep (R : Nat → Prop) (W W' : World) : Prop := W.heap.size ≤ W'.heap.size ∧ ∀ k, R k → W'.heap[k]? = W.heap[k]?
theorem Keep.trans {R : Nat → Prop} {A B C : World} (h : Keep R A B) (k : Keep R B C) : Keep R A C := ⟨Nat.le_trans h.1 k.1, fun i hi => (k.2 i hi).trans (h.2 i hi)⟩
theorem keep_below {R : Nat → Prop} {B : Nat} {W W' : World} (hR : ∀ k, R k → k < B) (h : Below B W W') : Keep R W W' := ⟨h.size, fun k hk => h.block k (hR k hk)⟩
theorem keep_put {R : Nat → Prop} {B : Nat} (hR : ∀ k, R k → k < B) (W : World) (l : Nat) (o : Obj) (hl : B ≤ l) : Keep R W (W.putObj l o) :=
  ⟨by simp, fun k hk => World.putObj_heap_other (fun e => by have := hR k hk; omega)⟩
theorem keep_b {R : Nat → Prop} {w : World} (hR : ∀ k, R k → k < w.heap.size) (W : World) (l : Nat) (o o' : Obj) (hl : w.heap.size ≤ l) (_ : W.heap[l]? = some o) (_ : o.isCells = false) (_ : o.isWalk = false) : Keep R W (W.putObj l o') :=
  keep_put hR W l o' hl
/-- What is no cells and lies behind block l lies as it lay. -/
def High (l : Nat) (W W' : World) : Prop := W.heap.size ≤ W'.heap.size ∧ ∀ k o, l < k → W.heap[k]? = some o → o.isCells = false → W'.heap[k]? = some o
theorem High.trans {l : Nat} {A B C : World} (h : High l A B) (k : High l B C) : High l A C := ⟨Nat.le_trans h.1 k.1, fun i o hi h1 h2 => k.2 i o hi (h.2 i o hi h1 h2) h2⟩
theorem high_of {B l : Nat} {W W' : World} (h : KeepsFrom B W W') (hb : B ≤ l + 1) : High l W W' := ⟨h.size, fun k o hk h1 h2 => h.same k o (by omega) h1 h2⟩
theorem high_put (l : Nat) (W : World) (o : Obj) : High l W (W.putObj l o) := ⟨by simp, fun k o' hk h1 _ => (World.putObj_heap_other (by omega)).trans h1⟩
/-- What a round that goes on leaves alone: all cells but those that it may touch; and it may touch no more than it might. -/
structure Leaves (T : World → Nat → Prop) (W W' : World) : Prop where
  size : W.heap.size ≤ W'.heap.size
  kept : ∀ k o, W.heap[k]? = some o → o.isCells = true → ¬ T W k → W'.heap[k]? = some o ∧ ¬ T W' k
theorem Leaves.trans {T : World → Nat → Prop} {A B C : World} (h : Leaves T A B) (k : Leaves T B C) : Leaves T A C :=
  ⟨Nat.le_trans h.size k.size, fun i o hi ho ht => by obtain ⟨h1, h2⟩ := h.kept i o hi ho ht; exact k.kept i o h1 ho h2⟩
/-- New blocks, and a turn of what is no cells: T says no more than it did. -/
theorem leaves_grown {T : World → Nat → Prop} {A B : World} {row : Option Nat} (hg : A.grownBy B row) (hr : ∀ r, row = some r → ∃ o : Obj, A.heap[r]? = some o ∧ o.isCells = false) (hT : ∀ k, T B k → T A k) : Leaves T A B :=
  ⟨hg.size, fun k o hk hc ht => ⟨(hg.block k (Array.getElem?_eq_some_iff.1 hk).1 (fun e => by
    obtain ⟨o2, h1, h2⟩ := hr k e.symm
    rw [hk] at h1
    cases h1
    rw [hc] at h2
    cases h2)).trans hk, fun h => ht (hT k h)⟩⟩
/-- What T says hangs on cells that lay there. -/
def Steady (l : Nat) {β : Type} (J : β → World → Prop) (T : World → Nat → Prop) : Prop :=
  ∀ s A, J s A → (∀ k, T A k → k < A.heap.size) ∧ ∀ B row, A.grownBy B row → (∀ r, row = some r → l < r ∧ ∃ o : Obj, A.heap[r]? = some o ∧ o.isCells = false) → ∀ k, T B k → T A k
/-- It abides new blocks, and turns of what is no cells and lies behind block l. -/
def Abides (l : Nat) {β : Type} (J : β → World → Prop) : Prop := ∀ s W W' row, J s W → W.grownBy W' row → (∀ r, row = some r → l < r ∧ ∃ o : Obj, W.heap[r]? = some o ∧ o.isCells = false) → J s W'
/-- A function that hands on what another one goes over, whatever a round does that leaves R alone. -/
def SeqF {α : Type} (F : Fence) (n : Nat) (P : Program) (g : Nat) (lb : Array Value) (encs : α → Array Value) (R : Nat → Prop) (S Sp : List α → Prop) (N : Nat) (w : World) : Prop :=
  ∀ (l : Nat) (T : World → Nat → Prop) (J Jx : List α → World → Prop) (W : World), Below w.heap.size w W → l < W.heap.size → Abides l J → Abides l Jx → Steady l J T → (∀ k, R k → ¬ T W k) →
    (∀ pre x W1, J pre W1 → pre.length < N → YieldAt F (n - 1) P l (encs x) W1 fun e W' => High l W1 W' ∧ ((e = .returned (.bool true) ∧ J (pre ++ [x]) W' ∧ Leaves T W1 W') ∨ (e = .returned (.bool false) ∧ Jx (pre ++ [x]) W'))) →
    J [] W →
    CallsIn F n P g (#[.func (.yield l) #[] #[]] ++ lb) W fun e W' => (∃ v, e = .returned v) ∧ ((∃ xs, S xs ∧ J xs W') ∨ (∃ pre, Sp pre ∧ Jx pre W'))
/-- The two blocks that a loop lays for itself. -/
structure Book (D : Nat) (L : Loop) (W : World) : Prop where
  lp : W.heap[D + 1]? = some (.loop L)
  df : W.heap[D]? = some (.deferred (some []))
theorem Book.grown {D : Nat} {L : Loop} {W W' : World} {row : Option Nat} (h : Book D L W) (hg : W.grownBy W' row) (hr : ∀ r, row = some r → D + 1 < r) : Book D L W' :=
  ⟨(hg.block _ (Array.getElem?_eq_some_iff.1 h.lp).1 (fun e => by have := hr _ e.symm; omega)).trans h.lp, (hg.block _ (Array.getElem?_eq_some_iff.1 h.df).1 (fun e => by have := hr _ e.symm; omega)).trans h.df⟩
theorem Book.kept {D : Nat} {L : Loop} {W W' : World} (h : Book D L W) (hk : KeepsFrom D W W') : Book D L W' := ⟨hk.same _ _ (by omega) h.lp rfl, hk.same _ _ (Nat.le_refl _) h.df rfl⟩
theorem Book.turn {D : Nat} {L : Loop} {W : World} (h : Book D L W) (L' : Loop) : Book D L' (W.putObj (D + 1) (.loop L')) :=
  ⟨World.putObj_heap_same (Array.getElem?_eq_some_iff.1 h.lp).1, (World.putObj_heap_other (by omega)).trans h.df⟩
theorem book_new (w : World) (L : Loop) : Book w.heap.size L ((w.alloc (.deferred (some []))).alloc (.loop L)) :=
  ⟨by have := World.alloc_heap_new (w.alloc (.deferred (some []))) (.loop L); rwa [World.size_alloc] at this, (Below.heap_alloc _ _ _ (by simp)).trans (World.alloc_heap_new w _)⟩
/-- The caller's law. -/
theorem wpIn_rangeFunc_fwd {α : Type} {g : Operand} {ps : Array Tmp} {assign body : Code} {Q : Exit → Act → World → Prop} {a : Act} {w : World}
    (hro : F.round = none) (h1 : 1 ≤ n) {gf : Nat} {lb : Array Value} (hg : a.eval g = .func (.func gf) #[] lb) (hFg : F.fn gf) (eg : ∀ args w, (callFunc gf args).run P w = .ok (.enter gf args) w)
    {encs : α → Array Value} {R : Nat → Prop} {S Sp : List α → Prop} {N : Nat} {w0 : World} (hseq : SeqF F (n - 1) P gf lb encs R S Sp N w0) (hb0 : Below w0.heap.size w0 w) (hps : ∀ x, (encs x).size = ps.size) (T : World → Nat → Prop) (hRT : ∀ k, R k → ¬ T w k)
    (I : List α → World → Prop) (Ix : Code → List α → World → Prop) (hI : OwnFrom w.heap.size I) (hIx : ∀ c, OwnFrom w.heap.size (Ix c))
    (hT : ∀ pre A, I pre A → (∀ k, T A k → k < A.heap.size) ∧ ∀ B row, A.grownBy B row → (∀ r, row = some r → w.heap.size ≤ r ∧ ∃ o : Obj, A.heap[r]? = some o ∧ o.isCells = false) → ∀ k, T B k → T A k)
    (h0 : I [] w) (Ax : α → Act → World → Prop) (hAx : ∀ x a', OwnFrom w.heap.size (fun (_ : Unit) W => Ax x a' W))
    (hassign : ∀ (l : Nat) (pre : List α) (x : α) (W : World) (K : Act → World → Prop), I pre W → (∀ a' W', KeepsFrom w.heap.size W W' → Leaves T W W' → I pre W' → Ax x a' W' → K a' W') →
      assign.wpIn (F.inRound l) (n - 1 - 1) P (Exit.then K (fun _ _ _ => False)) { tmps := (ps.zip (encs x)).foldl (fun t (p, v) => t.setIfInBounds p v) a.tmps, defers := [] } W)
    (hbody : ∀ (l : Nat) (pre : List α) (x : α) (a' : Act) (W : World), w.heap.size ≤ l → (∃ r, W.heap[l]? = some (.loop r)) → I pre W → Ax x a' W → pre.length < N → body.wpIn (F.inRound l) (n - 1 - 1) P (ownPostG w.heap.size (Leaves T) I Ix (pre ++ [x]) W) a' W)
    (hdone : ∀ (D : Nat) (xs : List α) (W : World), w.heap.size ≤ D → S xs → I xs W → W.heap[D]? = some (.deferred (some [])) → Q .normal { a with defers := { target := .collected D, args := #[] } :: a.defers } W)
    (hstop : ∀ (D : Nat) (c : Code) (pre : List α) (W : World), w.heap.size ≤ D → Sp pre → Ix c pre W → W.heap[D]? = some (.deferred (some [])) → c.wpIn F n P Q { a with defers := { target := .collected D, args := #[] } :: a.defers } W) :
    (Code.rangeFunc g ps assign body).wpIn F n P Q a w := by
  refine wpIn_rangeFunc fun fn hfn => ?_
  let L : LoopState → Option Code → Loop := fun st pe => { state := st, pending := pe, fn := fn, tmps := a.tmps, params := ps, assign := assign, body := body, defers := w.heap.size }
  have book0 := book_new w (L .ready none)
  have below0 : Below w0.heap.size w0 ((w.alloc (.deferred (some []))).alloc (.loop (L .ready none))) := hb0.trans ((((Below.refl _ w).alloc (Nat.le_refl _) _).alloc (by simp) _).mono hb0.size)
  have inv0 : I [] ((w.alloc (.deferred (some []))).alloc (.loop (L .ready none))) := hI.alloc _ (hI.alloc _ h0)
  have T0 : ∀ k, T ((w.alloc (.deferred (some []))).alloc (.loop (L .ready none))) k → T w k := fun k ht => (hT [] w h0).2 _ none (World.grownBy_alloc w _ none) (fun r e => by cases e) k ((hT [] _ (hI.alloc _ h0)).2 _ none (World.grownBy_alloc _ _ none) (fun r e => by cases e) k ht)
  obtain ⟨W1, hW1⟩ : ∃ W1, (w.alloc (.deferred (some []))).alloc (.loop (L .ready none)) = W1 := ⟨_, rfl⟩
  have enter : (Instr.enterLoop fn a.tmps ps assign body F.round).run P w = .ok (w.heap.size + 1, [{ target := .collected w.heap.size, args := #[] }]) W1 := by
    rw [hro, ← hW1]
    exact run_enterLoop_outer _ _ _ _ _
  rw [hW1] at book0 below0 inv0 T0
  refine ⟨_, _, W1, ⟨.fn (.func gf) lb, #[.func (.yield (w.heap.size + 1)) #[] #[]]⟩, W1, gf, #[.func (.yield (w.heap.size + 1)) #[] #[]] ++ lb, W1, enter, ?_, ?_, ?_, fun _ => h1, ?_⟩
  · simp only [resolve, hg]
    simp [go_sem]
  · intro f hf
    simp [Target.leads] at hf
    exact hf ▸ hFg
  · simp [invoke, go_sem, eg]
  have ends : ∀ (W : World) (L' : Loop) (s : List α) (J : List α → World → Prop), Book w.heap.size L' W → OwnFrom w.heap.size J → J s W → ∀ o, J s (W.putObj (w.heap.size + 1) o) := fun _ _ _ _ hb hJ hs o => hJ.putObj o hs (by omega) hb.lp rfl
  have put : ∀ (W : World) (L' : Loop) (s : List α) (o : Obj), Book w.heap.size L' W → I s W → Leaves T W (W.putObj (w.heap.size + 1) o) := fun W L' s o hb hs =>
    leaves_grown (grownBy_putObj' W _ o) (fun r e => by cases e; exact ⟨_, hb.lp, rfl⟩) ((hT s W hs).2 _ _ (grownBy_putObj' W _ o) (fun r e => by cases e; exact ⟨by omega, _, hb.lp, rfl⟩))
  refine (hseq (w.heap.size + 1) T (fun pre W => I pre W ∧ Book w.heap.size (L .ready none) W) (fun pre W => ∃ c, Ix c pre W ∧ Book w.heap.size (L .done (some c)) W) W1 below0 (Array.getElem?_eq_some_iff.1 book0.lp).1
    (fun s A B row hs hgr hr => ⟨hI s A B row hs.1 hgr (fun r e => ⟨by have := (hr r e).1; omega, (hr r e).2⟩), hs.2.grown hgr (fun r e => (hr r e).1)⟩)
    (fun s A B row hs hgr hr => by
      obtain ⟨c, h2, h3⟩ := hs
      exact ⟨c, hIx c s A B row h2 hgr (fun r e => ⟨by have := (hr r e).1; omega, (hr r e).2⟩), h3.grown hgr (fun r e => (hr r e).1)⟩)
    (fun s A hs => ⟨(hT s A hs.1).1, fun B row hgr hr => (hT s A hs.1).2 B row hgr (fun r e => ⟨by have := (hr r e).1; omega, (hr r e).2⟩)⟩)
    (fun k hk ht => hRT k hk (T0 k ht))
    (fun pre x W0 hJ hlen => ?_) ⟨inv0, book0⟩).mono ?_
  · refine ⟨fn, _, assign, body, run_yield (P := P) (args := encs x) hJ.2.lp (hps x), roundIn_of_wpIn hfn (hassign _ pre x W0 _ hJ.1 fun a2 W2 hk2 hr2 hi2 hx2 => ?_)⟩
    have b2 := hJ.2.kept hk2
    have b3 := b2.turn (L .busy none)
    refine ⟨_, run_beginRound b2.lp rfl, wpIn_mono (hbody _ pre x a2 _ (by omega) ⟨_, b3.lp⟩ (ends _ _ _ _ b2 hI hi2 _) ((hAx x a2).putObj (s := ()) _ hx2 (by omega) b2.lp rfl) hlen) ?_⟩
    have hk13 : High (w.heap.size + 1) W0 (W2.putObj (w.heap.size + 1) (.loop (L .busy none))) := (high_of hk2 (by omega)).trans (high_put _ _ _)
    have stops : ∀ (c : Code) (W3 : World), KeepsFrom w.heap.size (W2.putObj (w.heap.size + 1) (.loop (L .busy none))) W3 ∧ Ix c (pre ++ [x]) W3 → ∃ v w', (Instr.endRound (w.heap.size + 1) (some c)).run P W3 = .ok v w' ∧ High (w.heap.size + 1) W0 w' ∧ ((Ending.returned v = .returned (.bool true) ∧ (I (pre ++ [x]) w' ∧ Book w.heap.size (L .ready none) w') ∧ Leaves T W0 w') ∨ (Ending.returned v = .returned (.bool false) ∧ ∃ c, Ix c (pre ++ [x]) w' ∧ Book w.heap.size (L .done (some c)) w')) := fun c W3 ⟨hk3, hi3⟩ => by
      have b4 := b3.kept hk3
      exact ⟨_, _, run_endRound (some c) b4.lp, hk13.trans ((high_of hk3 (by omega)).trans (high_put _ _ _)), .inr ⟨rfl, c, ends _ _ _ _ b4 (hIx c) hi3 _, b4.turn _⟩⟩
    intro e a3 W3 hp
    cases e with
    | normal =>
      obtain ⟨hk3, hr3, hi3⟩ := hp
      have b4 := b3.kept hk3
      exact ⟨_, _, run_endRound none b4.lp, hk13.trans ((high_of hk3 (by omega)).trans (high_put _ _ _)), .inl ⟨rfl, ⟨ends _ _ _ _ b4 hI hi3 _, b4.turn _⟩, hr2.trans ((put _ _ _ _ b2 hi2).trans (hr3.trans (put _ _ _ _ b4 hi3)))⟩⟩
    | ret => exact stops _ W3 hp
    | exit id => exact stops _ W3 hp
    | goto t => exact stops _ W3 hp
    | panic ch => exact hp.elim
    | outgrown => exact hp.elim
  · rintro e W2 ⟨⟨v, rfl⟩, ⟨xs, hS, hi, hb⟩ | ⟨pre, hSp, c, hi, hb⟩⟩
    · exact ⟨none, _, run_endLoop hb.lp (by simp [L]), hdone _ xs _ (Nat.le_refl _) hS (ends _ _ _ _ hb hI hi _) (hb.turn _).df⟩
    · exact ⟨some c, _, run_endLoop hb.lp (by simp [L]), hstop _ c pre _ (Nat.le_refl _) hSp (ends _ _ _ _ hb (hIx c) hi _) (hb.turn _).df⟩
end
end Go.Proofs.Ytohlkaoophbinaa
