/- The program's Take of a catalogue. -/
import Derived.Test.YteaclacbdelinaaZCatImL
import Derived.Test.YteaclacbdelinaaZCatImD
namespace Go.Proofs.Yteaclacbdelinaa.Cat.Im
open Go.RowKit Go.Lib
open Goods (St Sts OwnS)
open Recipe (Bl BlIn blV)
open Pen (uiN uiS tmN tmS)

theorem chain8 {w : World} {g : Nat} {x0 x1 x2 x3 x4 x5 x6 x7 : Value} : w.grownBy ((((((((w.setCell ⟨g, 0, none⟩ x0).setCell ⟨g, 1, none⟩ x1).setCell ⟨g, 2, none⟩ x2).setCell ⟨g, 3, none⟩ x3).setCell ⟨g, 4, none⟩ x4).setCell ⟨g, 5, none⟩ x5).setCell ⟨g, 6, none⟩ x6).setCell ⟨g, 7, none⟩ x7) (some g) :=
  only_setCell (only_setCell (only_setCell (only_setCell (only_setCell (only_setCell (only_setCell (only_setCell (only_refl w (some g)) 0 x0) 1 x1) 2 x2) 3 x3) 4 x4) 5 x5) 6 x6) 7 x7
theorem rows_past {w w' : World} {B g : Nat} {v u : Value} {bs : List Bl} {ys : List Ba} (h : Rows w B v bs u ys) (hg : w.grownBy w' (some g)) (hb : g < B) : Rows w' B v bs u ys := ⟨own_past h.own hg hb, fun b hm => own_past (h.needs b hm) hg hb, h.few, own_past h.bays hg hb⟩
set_option maxRecDepth 100000 in
set_option maxHeartbeats 8000000 in
theorem take_im (S : ByteArray) (w : World) (hS : S.size ≤ 1048576) :
    Calls Try.prog 21 #[.string S] w fun e w' => ∃ C : CM, e = .returned (.tuple #[C.v, .int .i64 (takE S)]) ∧ Hid (C.p = takV S ∧ CatAt w' C ∧ Lim C ∧ Below w.heap.size w w') := by
  obtain ⟨G, hG⟩ : ∃ G, w.heap.size = G := ⟨_, rfl⟩
  obtain ⟨Z, hZ⟩ : ∃ Z, w.alloc (.cells #[.int .i64 0, .slice none 0 0, .int .i64 0, .slice none 0 0, .int .i64 0, .int .i64 0, .int .i64 0, .int .i64 0] 27) = Z := ⟨_, rfl⟩
  have HZ : Hid (Below w.heap.size w Z ∧ Z.heap[G]? = some (.cells #[.int .i64 0, .slice none 0 0, .int .i64 0, .slice none 0 0, .int .i64 0, .int .i64 0, .int .i64 0, .int .i64 0] 27 (0, 0)) ∧ w.heap.size = G) := Lib.hid ⟨by rw [← hZ]; exact (Below.refl _ w).alloc (Nat.le_refl _) _, by rw [← hZ, ← hG]; exact heap_alloc_new w _, hG⟩
  obtain ⟨K, st', hK⟩ : ∃ K st', catq (some S) = (K, st') := ⟨_, _, rfl⟩
  have HK := Lib.hid hK
  have HTK := takq_is S
  rw [hK] at HTK
  have HTK := Lib.hid HTK
  obtain ⟨te, hte⟩ : ∃ te, takE S = te := ⟨_, rfl⟩
  have HTE := Lib.hid hte
  rw [hte]
  have HSF : Hid (Pen.Fit (some S)) := Lib.hid fun t ht => by
    injection ht with ht
    rw [← ht]
    omega
  have HZERO : Hid (takE S = 2 ∧ takV S = zCat → ∀ W, CM.p ⟨0, none, 0, 0, [], 0, none, 0, 0, [], 0, ⟨0, 0, 0⟩⟩ = takV S ∧ CatAt W ⟨0, none, 0, 0, [], 0, none, 0, 0, [], 0, ⟨0, 0, 0⟩⟩ ∧ Lim ⟨0, none, 0, 0, [], 0, none, 0, 0, [], 0, ⟨0, 0, 0⟩⟩) := Lib.hid fun h W =>
    ⟨by rw [h.2]; rfl, ⟨⟨rfl, fun k b hb => by simp at hb, fun b hb => by simp at hb⟩, rfl, fun k b hb => by simp at hb⟩, fun b hb => by simp at hb, by show 0 ≤ 20; omega, by show 0 ≤ 12; omega⟩
  clear hS hK hte
  go_enter Try.func21, Try.ntmps21
  go_wp2_with fail
  clear hZ hG
  refine (Pen.new_any S Z).mono ?_
  rintro e w1 ⟨rfl, hw1⟩
  obtain ⟨Q, hQ⟩ : ∃ Q, Z.heap.size = Q := ⟨_, rfl⟩
  have HRD : Hid (Pen.Rd w1 Q (some S) ∧ Below Z.heap.size Z w1 ∧ Z.heap.size = Q) := Lib.hid ⟨by rw [← hw1, ← hQ]; exact heap_alloc_new Z _, by rw [← hw1]; exact (Below.refl _ Z).alloc (Nat.le_refl _) _, hQ⟩
  rw [hQ]
  clear hw1 hQ
  obtain ⟨B, X, hB, hX, b0, HB⟩ := begin_list w1 Q (some S) HRD.out.1 HSF.out
  have HBX : Hid (X.heap[B]? = some (.cells #[.pointer (some ⟨Q, 0, none⟩)] 82 (0, 0)) ∧ B ≠ Q ∧ Below w1.heap.size w1 X) := Lib.hid ⟨by rw [← hX, ← hB]; exact heap_alloc_new w1 _, by have := HRD.out.1.lt; omega, by rw [← hX]; exact (Below.refl _ w1).alloc (Nat.le_refl _) _⟩
  have HGX : Hid (X.heap[G]? = some (.cells #[.int .i64 0, .slice none 0 0, .int .i64 0, .slice none 0 0, .int .i64 0, .int .i64 0, .int .i64 0, .int .i64 0] 27 (0, 0)) ∧ G < Q ∧ Below w.heap.size w X ∧ Q < X.heap.size) := Lib.hid ⟨block_at (block_at HZ.out.2.1 HRD.out.2.1) HBX.out.2.2, by rw [← HRD.out.2.2]; exact (Array.getElem?_eq_some_iff.1 HZ.out.2.1).1, below_then HZ.out.1 (below_then HRD.out.2.1 HBX.out.2.2), by have := HRD.out.1.lt; have := HBX.out.2.2.size; omega⟩
  have HC := Lib.hid (catalog_im Q (some S) X HB.out.1.rd HSF.out K st' HK.out)
  go_wp2_with fail
  clear hX hB b0
  refine HC.out.mono ?_
  rintro e w2 ⟨D, rfl, H2⟩
  obtain ⟨V, Y, hV, hY, HYB, HP⟩ := box_cat w2 D
  have HBY : Hid (∀ W, Below w2.heap.size w2 W → W.cell? ⟨B, 0, none⟩ = some (.pointer (some ⟨Q, 0, none⟩))) := Lib.hid fun W hW => cell_block (j := 0) (block_at (grown_block H2.out.2.2.grown HBX.out.1 (fun e => HBX.out.2.1 (Option.some.inj e).symm)) hW) rfl
  have HGY : Hid (∀ W, Below w2.heap.size w2 W → W.heap[G]? = some (.cells #[.int .i64 0, .slice none 0 0, .int .i64 0, .slice none 0 0, .int .i64 0, .int .i64 0, .int .i64 0, .int .i64 0] 27 (0, 0))) := Lib.hid fun W hW => block_at (grown_block H2.out.2.2.grown HGX.out.1 (fun e => by have := Option.some.inj e; have := HGX.out.2.1; omega)) hW
  have HWB : Hid (∀ W, Below w2.heap.size w2 W → Below w.heap.size w W) := Lib.hid fun W hW => by
    have h1 : Below w.heap.size w w2 := below_of_only HGX.out.2.2.1 (by have := HGX.out.2.1; have := HZ.out.2.2; omega) H2.out.2.2.grown
    exact below_then h1 hW
  have HEND : Hid (∀ W x0 x1 x2 x3 x4 x5 x6 x7, Below w2.heap.size w2 W → Below w.heap.size w ((((((((W.setCell ⟨G, 0, none⟩ x0).setCell ⟨G, 1, none⟩ x1).setCell ⟨G, 2, none⟩ x2).setCell ⟨G, 3, none⟩ x3).setCell ⟨G, 4, none⟩ x4).setCell ⟨G, 5, none⟩ x5).setCell ⟨G, 6, none⟩ x6).setCell ⟨G, 7, none⟩ x7)) := Lib.hid fun W x0 x1 x2 x3 x4 x5 x6 x7 hW => below_of_only (HWB.out W hW) (by have := HZ.out.2.2; omega) chain8
  have hb0 := HBY.out Y HYB.out
  obtain ⟨k0, k1, k2, k3, k4, k5, k6, k7⟩ := HP.out Y (Below.refl _ _)
  have HD := Lib.hid (Pen.done_any Q st' Y (H2.out.2.2.rd.of_below HYB.out))
  obtain ⟨d, hd⟩ : ∃ d, Pen.doneOf st' = d := ⟨_, rfl⟩
  rw [hd] at HD
  cases d with
  | false =>
    have HBAD : Hid (takE S = 2 ∧ takV S = zCat) := Lib.hid (HTK.out.2 fun h => by
      have h1 : st' = some ⟨#[]⟩ := h.1
      rw [h1, done_nil] at hd
      cases hd)
    clear hd HTK
    go_wp2_with fail
    clear hV hY
    refine HD.out.mono ?_
    rintro e w' ⟨rfl, rfl⟩
    have HGB := Lib.hid (HGY.out Y HYB.out)
    obtain ⟨⟨z0, z1, z2, z3, z4, z5, z6, z7⟩, f0, f1, f2, f3, f4, f5, f6, f7⟩ := blk8 HGB.out
    go_wp2_with fail
    exact ret_ca2 rfl rfl rfl rfl (ca_set HGB.out) ⟨⟨0, none, 0, 0, [], 0, none, 0, 0, [], 0, ⟨0, 0, 0⟩⟩, by rw [← HTE.out, HBAD.out.1]; rfl, Lib.hid (by
      obtain ⟨h1, h2, h3⟩ := HZERO.out HBAD.out _
      exact ⟨h1, h2, h3, HEND.out Y _ _ _ _ _ _ _ _ HYB.out⟩)⟩
  | true =>
    have HSX : Hid (st' = some ⟨#[]⟩) := Lib.hid (done_yes hd)
    obtain ⟨er, her⟩ : ∃ er, chkC D.p = er := ⟨_, rfl⟩
    have HER := Lib.hid her
    have HCT : Hid (∀ W, Below w2.heap.size w2 W → CatAt W D ∧ Lim D) := Lib.hid fun W hW => (H2.out.2.1.1.under hW).cat H2.out.2.1.2.1 H2.out.2.1.2.2 D.ty D.pl D.ch D.f
    have HCK := check_im D Y (HCT.out Y HYB.out).1 (HCT.out Y HYB.out).2
    rw [her] at HCK
    have HCK := Lib.hid HCK
    clear hd her
    by_cases he : er = 0
    case neg =>
      have n1 : (er == 0) = false := by simpa using he
      have n2 : (er != 0) = true := by simpa using he
      have HBAD : Hid (takE S = 2 ∧ takV S = zCat) := Lib.hid (HTK.out.2 fun h => he (by
        have h2 : chkC K = 0 := h.2
        rw [← H2.out.1] at h2
        rw [← HER.out]
        exact h2))
      clear HTK
      go_wp2_with fail
      clear hV hY
      refine HD.out.mono ?_
      rintro e w' ⟨rfl, rfl⟩
      go_wp2_with fail
      clear k0 k1 k2 k3 k4 k5 k6 k7
      refine HCK.out.mono ?_
      rintro e w3 ⟨rfl, h3⟩
      have HB3 := Lib.hid (below_then HYB.out h3)
      clear h3
      have HGB := Lib.hid (HGY.out w3 HB3.out)
      obtain ⟨⟨z0, z1, z2, z3, z4, z5, z6, z7⟩, f0, f1, f2, f3, f4, f5, f6, f7⟩ := blk8 HGB.out
      go_wp2_with fail
      exact ret_ca2 rfl rfl rfl rfl (ca_set HGB.out) ⟨⟨0, none, 0, 0, [], 0, none, 0, 0, [], 0, ⟨0, 0, 0⟩⟩, by rw [← HTE.out, HBAD.out.1]; rfl, Lib.hid (by
        obtain ⟨h1, h2, h3⟩ := HZERO.out HBAD.out _
        exact ⟨h1, h2, h3, HEND.out w3 _ _ _ _ _ _ _ _ HB3.out⟩)⟩
    subst he
    have HOK : Hid (takE S = 0 ∧ takV S = D.p) := Lib.hid (by
      have h1 := HTK.out.1 ⟨HSX.out, by show chkC K = 0; rw [← H2.out.1]; exact HER.out⟩
      refine ⟨h1.1, h1.2.trans ?_⟩
      show K = D.p
      exact H2.out.1.symm)
    clear HTK
    go_wp2_with fail
    clear hV hY
    refine HD.out.mono ?_
    rintro e w' ⟨rfl, rfl⟩
    go_wp2_with fail
    clear k0 k1 k2 k3 k4 k5 k6 k7
    refine HCK.out.mono ?_
    rintro e w3 ⟨rfl, h3⟩
    obtain ⟨k0, k1, k2, k3, k4, k5, k6, k7⟩ := HP.out w3 h3
    have HB3 := Lib.hid (below_then HYB.out h3)
    clear h3
    have HGB := Lib.hid (HGY.out w3 HB3.out)
    obtain ⟨⟨z0, z1, z2, z3, z4, z5, z6, z7⟩, f0, f1, f2, f3, f4, f5, f6, f7⟩ := blk8 HGB.out
    go_wp2_with fail
    exact ret_ca2 rfl rfl rfl rfl (ca_set HGB.out) ⟨D, by rw [← HTE.out, HOK.out.1]; rfl, Lib.hid (by
      have hG := HGX.out
      obtain ⟨q1, q2⟩ := (rows_past (H2.out.2.1.1.under HB3.out) (chain8 (g := G)) (by omega)).cat H2.out.2.1.2.1 H2.out.2.1.2.2 D.ty D.pl D.ch D.f
      exact ⟨HOK.out.2.symm, q1, q2, HEND.out w3 _ _ _ _ _ _ _ _ HB3.out⟩)⟩
end Go.Proofs.Yteaclacbdelinaa.Cat.Im
