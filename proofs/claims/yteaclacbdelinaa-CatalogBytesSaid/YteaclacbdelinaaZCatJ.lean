/- The document's Take, walked. -/
import Derived.Test.YteaclacbdelinaaZCatH
import Derived.Deep.CutBlock
import Derived.Deep.DeepCutAuto
import Derived.Deep.LoopGhost
namespace Go.Proofs.Yteaclacbdelinaa.Cat
open Go.RowKit Go.Lib
open Goods (St Sts OwnS)
open Recipe (BlIn blV)
open Pen (Rq RqTo Link isBad uiN uiS)

set_option maxRecDepth 100000 in
set_option maxHeartbeats 32000000 in
theorem dtake (S : ByteArray) (w : World) (hS : S.size ≤ 4611686018427387904) :
    Calls Try.prog 22 #[.string S] w fun e w' => ∃ C : CM, e = .returned (.tuple #[C.v, .int .i64 (takE S)]) ∧ Hid (C.p = takV S ∧ CatAt w' C ∧ Lim C ∧ Below w.heap.size w w') := by
  obtain ⟨G, hG⟩ : ∃ G, w.heap.size = G := ⟨_, rfl⟩
  obtain ⟨X0, hX0⟩ : ∃ X, w.alloc (.cells #[.int .i64 0, .slice none 0 0, .int .i64 0, .slice none 0 0, .int .i64 0, .int .i64 0, .int .i64 0, .int .i64 0] 27) = X := ⟨_, rfl⟩
  obtain ⟨Q, hQ⟩ : ∃ Q, X0.heap.size = Q := ⟨_, rfl⟩
  obtain ⟨X1, hX1⟩ : ∃ X, X0.alloc (.cells #[.string S, .int .i64 0, .bool false] 85) = X := ⟨_, rfl⟩
  have HXB : Hid (Below w.heap.size w X0) := Lib.hid (by rw [← hX0]; exact (Below.refl _ w).alloc (Nat.le_refl _) _)
  have HGZ : Hid (X0.heap[G]? = some (.cells #[.int .i64 0, .slice none 0 0, .int .i64 0, .slice none 0 0, .int .i64 0, .int .i64 0, .int .i64 0, .int .i64 0] 27 (0, 0))) := Lib.hid (by rw [← hX0, ← hG]; exact heap_alloc_new w _)
  have HG : Hid (w.heap.size ≤ G ∧ G < X0.heap.size) := Lib.hid ⟨by rw [hG]; exact Nat.le_refl _, (Array.getElem?_eq_some_iff.1 HGZ.out).1⟩
  have HX1 : Hid (X0.grownBy X1 (some Q)) := Lib.hid (by rw [← hX1]; exact grown_alloc X0 _ _)
  have HUI := ui_at Q S hS
  have HQ0 : Hid (X0.heap.size ≤ Q) := Lib.hid (by rw [hQ]; exact Nat.le_refl _)
  have HR0 : Hid (RD X1 Q S (some S)) := Lib.hid ⟨0, by show X1.heap[Q]? = _; rw [← hX1, ← hQ]; exact heap_alloc_new X0 _, link_all S⟩
  obtain ⟨n1, hn1⟩ : ∃ n : Nat, uiN (some S) MX = n := ⟨_, rfl⟩
  obtain ⟨s1, hs1⟩ : ∃ s : RS, uiS (some S) MX = s := ⟨_, rfl⟩
  obtain ⟨nb, hnb⟩ : ∃ n : Nat, uiN s1 16 = n := ⟨_, rfl⟩
  obtain ⟨s2, hs2⟩ : ∃ s : RS, uiS s1 16 = s := ⟨_, rfl⟩
  have hnb16 : nb ≤ 16 := by have := ui_le (st := s1) (most := 16) (by omega); rw [hnb] at this; omega
  have hnb17 : (nb : Int) ≤ 16 := by omega
  have HN1 := Lib.hid hn1
  have HS1 := Lib.hid hs1
  have HNB := Lib.hid hnb
  have HS2 := Lib.hid hs2
  clear hn1 hs1 hnb hs2 hS
  go_enter Try.func22, Try.ntmps22
  go_wp2_with fail
  clear hG hX0 hQ hX1
  refine (HUI.out X1 (some S) 9223372036854775807 n1 s1 HN1.out HS1.out HR0.out (by omega)).mono ?_
  rintro e w1 ⟨rfl, G1⟩
  go_wp2_with fail
  obtain ⟨K, hK⟩ : ∃ K, w1.heap.size = K := ⟨_, rfl⟩
  obtain ⟨X2, hX2⟩ : ∃ X, w1.alloc (.cells #[.int .i64 (n1 : Int), .slice none 0 0, .int .i64 0, .slice none 0 0, .int .i64 0, .int .i64 0, .int .i64 0, .int .i64 0] 27) = X := ⟨_, rfl⟩
  have HR2 : Hid (RB X0 X2 Q K S s1 #[.int .i64 (n1 : Int), .slice none 0 0, .int .i64 0, .slice none 0 0, .int .i64 0, .int .i64 0, .int .i64 0, .int .i64 0] 27) := Lib.hid ⟨by rw [← hX2]; exact only_trans (only_trans HX1.out G1.out.2) (grown_alloc w1 _ _), by rw [← hX2]; exact G1.out.1.alloc _, by rw [← hX2, ← hK]; exact heap_alloc_new w1 _, by rw [← hK]; exact Nat.le_trans HX1.out.size G1.out.2.size, by have := G1.out.1.lt; omega⟩
  rw [hX2, hK]
  clear hK hX2
  refine (HUI.out X2 s1 16 nb s2 HNB.out HS2.out HR2.out.rd (by omega)).mono ?_
  rintro e w2 ⟨rfl, G2⟩
  have HM2 : Hid (Mid X0 w2 Q K (K + 1) S s2 #[.int .i64 (n1 : Int), .slice none 0 0, .int .i64 0, .slice none 0 0, .int .i64 0, .int .i64 0, .int .i64 0, .int .i64 0] (.slice none 0 0) []) := Lib.hid ⟨HR2.out.step G2.out, World.ownsRow_nil _ _ _ _, fun b hb => (by cases hb), fun b hb => (by cases hb)⟩
  clear G1 HR2 G2 HR0
  go_upto_block 0 with fail
  go_cut [7] (fun s7 wx => ∃ (i : Nat) (st : RS) (a : Option Addr) (c : Nat) (bs : List Recipe.Bl), s7 = .int .i64 (i : Int) ∧ i ≤ 16 ∧ Hid (Mid X0 wx Q K (K + 1) S st #[.int .i64 (n1 : Int), .slice a i c, .int .i64 0, .slice none 0 0, .int .i64 0, .int .i64 0, .int .i64 0, .int .i64 0] (.slice a i c) bs) ∧ Hid (blsP nb s2 = (bs.map pOf, st)))
  case first =>
    go_wp2_with fail
    go_loopw [7] (fun t wr => ∃ (i : Nat) (st : RS) (a : Option Addr) (c : Nat) (bs : List Recipe.Bl), t = .int .i64 (i : Int) ∧ i ≤ nb ∧ Hid (Mid X0 wr Q K (K + 1) S st #[.int .i64 (n1 : Int), .slice a i c, .int .i64 0, .slice none 0 0, .int .i64 0, .int .i64 0, .int .i64 0, .int .i64 0] (.slice a i c) bs) ∧ Hid (blsP nb s2 = (bs.map pOf ++ (blsP (nb - i) st).1, (blsP (nb - i) st).2))) (fun t _ => nb - (RowKit.intOf t).toNat)
    case atStart => exact ⟨0, s2, none, 0, [], rfl, by omega, HM2, Lib.hid (by simp)⟩
    case round =>
      clear HM2
      obtain ⟨i, st, a, c, bs, rfl, hi, HM, HBL⟩ := hrel
      obtain ⟨W0, rfl⟩ : ∃ W0, W0 = wr := ⟨_, rfl⟩
      have hi0 : (0 : Int) ≤ (i : Int) := by omega
      have hi16 : (i : Int) ≤ 16 := by omega
      by_cases hlt : i < nb
      case neg =>
        obtain rfl : i = nb := by omega
        have HE : Hid (blsP i s2 = (bs.map pOf, st)) := Lib.hid (by rw [HBL.out, bls_end (.inl rfl) (Nat.le_refl _)]; simp)
        go_wp2_with fail
        go_meet
        exact ⟨i, st, a, c, bs, rfl, hnb16, HM, HE⟩
      have hlt2 : (i : Int) < (nb : Int) := by omega
      by_cases hst : st = none
      case pos =>
        subst hst
        have kq : W0.cell? ⟨Q, 2, none⟩ = some (.bool true) := HM.out.rb.rd.bad
        have HE : Hid (blsP nb s2 = (bs.map pOf, none)) := Lib.hid (by rw [HBL.out, bls_end (.inr rfl) hi]; simp)
        have hi17 : i ≤ 16 := by omega
        go_wp2_with fail
        go_meet
        exact ⟨i, none, a, c, bs, rfl, hi17, HM, HE⟩
      have kq : W0.cell? ⟨Q, 2, none⟩ = some (.bool false) := by
        have := HM.out.rb.rd.bad
        rw [bad_some hst] at this
        exact this
      have HSTEP := Lib.hid (bls_step hlt hst)
      have wi : IntKind.i64.wrap ((i : Int) + 1) = (i : Int) + 1 := IntWalk.i64_in _ (by omega)
      obtain ⟨ot, hot⟩ : ∃ n : Nat, uiN st MX = n := ⟨_, rfl⟩
      obtain ⟨t1, ht1⟩ : ∃ s : RS, uiS st MX = s := ⟨_, rfl⟩
      have N_ot := Lib.hid hot
      have S_t1 := Lib.hid ht1
      clear hot ht1
      obtain ⟨pr, hpr⟩ : ∃ n : Nat, uiN t1 MX = n := ⟨_, rfl⟩
      obtain ⟨t2, ht2⟩ : ∃ s : RS, uiS t1 MX = s := ⟨_, rfl⟩
      have N_pr := Lib.hid hpr
      have S_t2 := Lib.hid ht2
      clear hpr ht2
      obtain ⟨tm, htm⟩ : ∃ n : Nat, uiN t2 MX = n := ⟨_, rfl⟩
      obtain ⟨t3, ht3⟩ : ∃ s : RS, uiS t2 MX = s := ⟨_, rfl⟩
      have N_tm := Lib.hid htm
      have S_t3 := Lib.hid ht3
      clear htm ht3
      obtain ⟨mm, hmm⟩ : ∃ n : Nat, uiN t3 8 = n := ⟨_, rfl⟩
      obtain ⟨t4, ht4⟩ : ∃ s : RS, uiS t3 8 = s := ⟨_, rfl⟩
      have N_mm := Lib.hid hmm
      have S_t4 := Lib.hid ht4
      clear hmm ht4
      have hmm8 : mm ≤ 8 := by have := ui_le (st := t3) (most := 8) (by omega); rw [N_mm.out] at this; omega
      have hmm9 : (mm : Int) ≤ 8 := by omega
      clear hst
      go_wp2_with fail
      clear kq
      refine (HUI.out W0 st 9223372036854775807 ot t1 N_ot.out S_t1.out HM.out.rb.rd (by omega)).mono ?_
      rintro e v1 ⟨rfl, G1⟩
      go_wp2_with fail
      obtain ⟨b, hb⟩ : ∃ b, v1.heap.size = b := ⟨_, rfl⟩
      obtain ⟨Y1, hY1⟩ : ∃ X, v1.alloc (.cells #[.int .i64 (ot : Int), .int .i64 0, .int .i64 0, .slice none 0 0, .int .i64 0, .int .i64 0, .int .i64 0] 35) = X := ⟨_, rfl⟩
      have HY1 : Hid (RB W0 Y1 Q b S t1 #[.int .i64 (ot : Int), .int .i64 0, .int .i64 0, .slice none 0 0, .int .i64 0, .int .i64 0, .int .i64 0] 35) := Lib.hid ⟨by rw [← hY1]; exact only_trans G1.out.2 (grown_alloc v1 _ _), by rw [← hY1]; exact G1.out.1.alloc _, by rw [← hY1, ← hb]; exact heap_alloc_new v1 _, by rw [← hb]; exact G1.out.2.size, by have := G1.out.1.lt; omega⟩
      rw [hY1, hb]
      clear hY1 hb G1
      refine (HUI.out Y1 t1 9223372036854775807 pr t2 N_pr.out S_t2.out HY1.out.rd (by omega)).mono ?_
      rintro e v2 ⟨rfl, G2⟩
      have H0 := Lib.hid (HY1.out.step G2.out)
      obtain ⟨⟨k0, k1, k2, k3, k4, k5, k6⟩, f0, f1, f2, f3, f4, f5, f6⟩ := blk7 H0.out.blk
      obtain ⟨Y2, hW⟩ : ∃ W, v2.setCell ⟨b, 1, none⟩ (.int .i64 (pr : Int)) = W := ⟨_, rfl⟩
      have HY2 : Hid (RB W0 Y2 Q b S t2 #[.int .i64 (ot : Int), .int .i64 (pr : Int), .int .i64 0, .slice none 0 0, .int .i64 0, .int .i64 0, .int .i64 0] 35) := Lib.hid (by rw [← hW]; exact H0.out.set 1 _)
      go_wp2_with fail
      clear hW H0 k0 k1 k2 k3 k4 k5 k6 f0 f1 f2 f3 f4 f5 f6
      refine (HUI.out Y2 t2 9223372036854775807 tm t3 N_tm.out S_t3.out HY2.out.rd (by omega)).mono ?_
      rintro e v3 ⟨rfl, G3⟩
      have H0 := Lib.hid (HY2.out.step G3.out)
      obtain ⟨⟨k0, k1, k2, k3, k4, k5, k6⟩, f0, f1, f2, f3, f4, f5, f6⟩ := blk7 H0.out.blk
      obtain ⟨Y3, hW⟩ : ∃ W, v3.setCell ⟨b, 2, none⟩ (.int .i64 (tm : Int)) = W := ⟨_, rfl⟩
      have HY3 : Hid (RB W0 Y3 Q b S t3 #[.int .i64 (ot : Int), .int .i64 (pr : Int), .int .i64 (tm : Int), .slice none 0 0, .int .i64 0, .int .i64 0, .int .i64 0] 35) := Lib.hid (by rw [← hW]; exact H0.out.set 2 _)
      go_wp2_with fail
      clear hW H0 k0 k1 k2 k3 k4 k5 k6 f0 f1 f2 f3 f4 f5 f6
      refine (HUI.out Y3 t3 8 mm t4 N_mm.out S_t4.out HY3.out.rd (by omega)).mono ?_
      rintro e v4 ⟨rfl, G4⟩
      have HY4 := Lib.hid (HY3.out.step G4.out)
      clear G2 G3 G4 HY1 HY2 HY3
      go_upto_block 2 with fail
      go_cut [10] (fun s10 wx => ∃ (j : Nat) (st : RS) (a : Option Addr) (c : Nat) (l : List St), s10 = .int .i64 (j : Int) ∧ j ≤ 8 ∧ Hid (RB W0 wx Q b S st #[.int .i64 (ot : Int), .int .i64 (pr : Int), .int .i64 (tm : Int), .slice a j c, .int .i64 0, .int .i64 0, .int .i64 0] 35 ∧ OwnS wx (b + 1) (.slice a j c) l) ∧ Hid (nedP mm t4 = (l, st)))
      case first =>
        go_wp2_with fail
        go_loopw [10] (fun t wr => ∃ (j : Nat) (st : RS) (a : Option Addr) (c : Nat) (l : List St), t = .int .i64 (j : Int) ∧ j ≤ mm ∧ Hid (RB W0 wr Q b S st #[.int .i64 (ot : Int), .int .i64 (pr : Int), .int .i64 (tm : Int), .slice a j c, .int .i64 0, .int .i64 0, .int .i64 0] 35 ∧ OwnS wr (b + 1) (.slice a j c) l) ∧ Hid (nedP mm t4 = (l ++ (nedP (mm - j) st).1, (nedP (mm - j) st).2))) (fun t _ => mm - (RowKit.intOf t).toNat)
        case atStart => exact ⟨0, t4, none, 0, [], rfl, by omega, Lib.hid ⟨HY4.out, World.ownsRow_nil _ _ _ _⟩, Lib.hid (by simp)⟩
        case round =>
          clear HY4
          obtain ⟨j, sj, aj, cj, l, rfl, hj, HJ, HNL⟩ := hrel
          obtain ⟨W3, rfl⟩ : ∃ W3, W3 = wr := ⟨_, rfl⟩
          have hj0 : (0 : Int) ≤ (j : Int) := by omega
          have hj8 : (j : Int) ≤ 8 := by omega
          by_cases hjt : j < mm
          case neg =>
            obtain rfl : j = mm := by omega
            have HE : Hid (nedP j t4 = (l, sj)) := Lib.hid (by rw [HNL.out, ned_end (.inl rfl) (Nat.le_refl _)]; simp)
            go_wp2_with fail
            go_meet
            exact ⟨j, sj, aj, cj, l, rfl, hmm8, HJ, HE⟩
          have hjt2 : (j : Int) < (mm : Int) := by omega
          by_cases hst : sj = none
          case pos =>
            subst hst
            have kq : W3.cell? ⟨Q, 2, none⟩ = some (.bool true) := HJ.out.1.rd.bad
            have HE : Hid (nedP mm t4 = (l, none)) := Lib.hid (by rw [HNL.out, ned_end (.inr rfl) hj]; simp)
            have hj9 : j ≤ 8 := by omega
            go_wp2_with fail
            go_meet
            exact ⟨j, none, aj, cj, l, rfl, hj9, HJ, HE⟩
          have kq : W3.cell? ⟨Q, 2, none⟩ = some (.bool false) := by
            have := HJ.out.1.rd.bad
            rw [bad_some hst] at this
            exact this
          have HNS := Lib.hid (ned_step hjt hst)
          have wj : IntKind.i64.wrap ((j : Int) + 1) = (j : Int) + 1 := IntWalk.i64_in _ (by omega)
          obtain ⟨kd, hkd⟩ : ∃ n : Nat, uiN sj MX = n := ⟨_, rfl⟩
          obtain ⟨x1, hx1⟩ : ∃ s : RS, uiS sj MX = s := ⟨_, rfl⟩
          have N_kd := Lib.hid hkd
          have S_x1 := Lib.hid hx1
          clear hkd hx1
          obtain ⟨qt, hqt⟩ : ∃ n : Nat, uiN x1 MX = n := ⟨_, rfl⟩
          obtain ⟨x2, hx2⟩ : ∃ s : RS, uiS x1 MX = s := ⟨_, rfl⟩
          have N_qt := Lib.hid hqt
          have S_x2 := Lib.hid hx2
          clear hqt hx2
          clear hst
          go_wp2_with fail
          clear kq
          refine (HUI.out W3 sj 9223372036854775807 kd x1 N_kd.out S_x1.out HJ.out.1.rd (by omega)).mono ?_
          rintro e v5 ⟨rfl, G5⟩
          go_wp2_with fail
          obtain ⟨x, hx⟩ : ∃ x, v5.heap.size = x := ⟨_, rfl⟩
          obtain ⟨Y5, hY5⟩ : ∃ X, v5.alloc (.cells #[.int .i64 (kd : Int), .int .i64 0] 54) = X := ⟨_, rfl⟩
          have HY5 : Hid (RB W3 Y5 Q x S x1 #[.int .i64 (kd : Int), .int .i64 0] 54) := Lib.hid ⟨by rw [← hY5]; exact only_trans G5.out.2 (grown_alloc v5 _ _), by rw [← hY5]; exact G5.out.1.alloc _, by rw [← hY5, ← hx]; exact heap_alloc_new v5 _, by rw [← hx]; exact G5.out.2.size, by have := G5.out.1.lt; omega⟩
          rw [hY5, hx]
          clear hY5 hx G5
          refine (HUI.out Y5 x1 9223372036854775807 qt x2 N_qt.out S_x2.out HY5.out.rd (by omega)).mono ?_
          rintro e v6 ⟨rfl, G6⟩
          have H0 := Lib.hid (HY5.out.step G6.out)
          obtain ⟨Y6, hW⟩ : ∃ W, v6.setCell ⟨x, 1, none⟩ (.int .i64 (qt : Int)) = W := ⟨_, rfl⟩
          have HY6 : Hid (RB W3 Y6 Q x S x2 #[.int .i64 (kd : Int), .int .i64 (qt : Int)] 54) := Lib.hid (by rw [← hW]; exact H0.out.set 1 _)
          have HBQ : Hid (b < W3.heap.size ∧ Q < b) := Lib.hid ⟨(Array.getElem?_eq_some_iff.1 HJ.out.1.blk).1, by have h1 := HJ.out.1.new; have h2 := HM.out.rb.rd.lt; omega⟩
          have HB6 : Hid (RB W0 Y6 Q b S x2 #[.int .i64 (ot : Int), .int .i64 (pr : Int), .int .i64 (tm : Int), .slice aj j cj, .int .i64 0, .int .i64 0, .int .i64 0] 35) := Lib.hid (HJ.out.1.step ⟨HY6.out.rd, HY6.out.grown⟩)
          have HO6 : Hid (OwnS Y6 (b + 1) (.slice aj j cj) l) := Lib.hid (own_by HJ.out.2 HY6.out.grown fun g cur e h hv => by
            injection e with e
            have h1 := (own_type HJ.out.2 hv).1
            have h2 := HBQ.out.2
            omega)
          obtain ⟨a7, c7, W7, HR7, ho7, hb7⟩ := app_s Y6 (B := b + 1) ⟨(kd : Int), (qt : Int)⟩ HO6.out (by omega) (by have := HY6.out.grown.size; have := HBQ.out.1; omega)
          have HB7 : Hid (RB W0 W7 Q b S x2 #[.int .i64 (ot : Int), .int .i64 (pr : Int), .int .i64 (tm : Int), .slice aj j cj, .int .i64 0, .int .i64 0, .int .i64 0] 35) := Lib.hid (HB6.out.over hb7 (by have := HJ.out.1.new; omega) (by omega) (by have := HBQ.out.2; omega))
          have HO7 : Hid (OwnS W7 (b + 1) (.slice a7 (j + 1) c7) (l ++ [⟨(kd : Int), (qt : Int)⟩])) := Lib.hid ho7
          obtain ⟨k0, k1, f0, f1⟩ := blk2 H0.out.blk
          obtain ⟨z0, z1, _, _⟩ := blk2 HY6.out.blk
          obtain ⟨⟨y0, y1, y2, y3, y4, y5, y6⟩, _⟩ := blk7 HB6.out.blk
          obtain ⟨⟨q0, q1, q2, q3, q4, q5, q6⟩, e0, e1, e2, e3, e4, e5, e6⟩ := blk7 HB7.out.blk
          clear ho7 hb7
          go_wp2_with (at_builtin; refine walk_run (v' := .slice a7 (j + 1) c7) (w' := W7) rfl _ _ _ _ rfl _ _ rfl rfl ?_ ?_; exact HR7.out)
          go_roundw
          case rel =>
            refine ⟨j + 1, x2, a7, c7, l ++ [⟨(kd : Int), (qt : Int)⟩], by go_num, by omega, Lib.hid ⟨HB7.out.set 3 _, ?_⟩, Lib.hid ?_⟩
            · exact own_by HO7.out (only_setCell (only_refl W7 (some b)) 3 _) fun g cur e h hv => by
                injection e with e
                have h1 := (own_type HO7.out hv).1
                omega
            · have h1 := HNS.out
              rw [N_kd.out, S_x1.out, N_qt.out, S_x2.out] at h1
              rw [HNL.out, h1]
              simp
          case measure => simp [RowKit.intOf]; omega
      case rest =>
        obtain ⟨j, t5, aj, cj, l, rfl, hj8, HJ, HNL⟩ := hcut
        obtain ⟨W4, rfl⟩ : ∃ W4, W4 = wc := ⟨_, rfl⟩
        have HB4 := Lib.hid HJ.out.1
        have HO4 := Lib.hid HJ.out.2
        have HBQ : Hid (b < W4.heap.size ∧ Q < b) := Lib.hid ⟨(Array.getElem?_eq_some_iff.1 HB4.out.blk).1, by have h1 := HB4.out.new; have h2 := HM.out.rb.rd.lt; omega⟩
        have HKQ : Hid (K < W0.heap.size ∧ K ≠ Q) := Lib.hid ⟨(Array.getElem?_eq_some_iff.1 HM.out.rb.blk).1, HM.out.rb.far⟩
        clear HJ HY4
        obtain ⟨cp, hcp⟩ : ∃ n : Nat, uiN t5 MX = n := ⟨_, rfl⟩
        obtain ⟨t6, ht6⟩ : ∃ s : RS, uiS t5 MX = s := ⟨_, rfl⟩
        have N_cp := Lib.hid hcp
        have S_t6 := Lib.hid ht6
        clear hcp ht6
        obtain ⟨sd, hsd⟩ : ∃ n : Nat, uiN t6 MX = n := ⟨_, rfl⟩
        obtain ⟨t7, ht7⟩ : ∃ s : RS, uiS t6 MX = s := ⟨_, rfl⟩
        have N_sd := Lib.hid hsd
        have S_t7 := Lib.hid ht7
        clear hsd ht7
        obtain ⟨mo, hmo⟩ : ∃ n : Nat, uiN t7 MX = n := ⟨_, rfl⟩
        obtain ⟨t8, ht8⟩ : ∃ s : RS, uiS t7 MX = s := ⟨_, rfl⟩
        have N_mo := Lib.hid hmo
        have S_t8 := Lib.hid ht8
        clear hmo ht8
        have HBP := Lib.hid (blu_as N_ot.out S_t1.out N_pr.out S_t2.out N_tm.out S_t3.out N_mm.out S_t4.out HNL.out N_cp.out S_t6.out N_sd.out S_t7.out N_mo.out S_t8.out)
        go_wp2_with fail
        refine (HUI.out W4 t5 9223372036854775807 cp t6 N_cp.out S_t6.out HB4.out.rd (by omega)).mono ?_
        rintro e v5 ⟨rfl, G5⟩
        have H0 := Lib.hid (HB4.out.step G5.out)
        obtain ⟨⟨k0, k1, k2, k3, k4, k5, k6⟩, f0, f1, f2, f3, f4, f5, f6⟩ := blk7 H0.out.blk
        obtain ⟨Y5, hW⟩ : ∃ W, v5.setCell ⟨b, 4, none⟩ (.int .i64 (cp : Int)) = W := ⟨_, rfl⟩
        have HB5 : Hid (RB W0 Y5 Q b S t6 #[.int .i64 (ot : Int), .int .i64 (pr : Int), .int .i64 (tm : Int), .slice aj j cj, .int .i64 (cp : Int), .int .i64 0, .int .i64 0] 35) := Lib.hid (by rw [← hW]; exact H0.out.set 4 _)
        have HO5 : Hid (OwnS Y5 (b + 1) (.slice aj j cj) l) := Lib.hid (by rw [← hW]; exact own_set (own_past HO4.out G5.out.2 (by have := HBQ.out.2; omega)) 4 _ (by omega))
        go_wp2_with fail
        clear hW H0 k0 k1 k2 k3 k4 k5 k6 f0 f1 f2 f3 f4 f5 f6
        refine (HUI.out Y5 t6 9223372036854775807 sd t7 N_sd.out S_t7.out HB5.out.rd (by omega)).mono ?_
        rintro e v6 ⟨rfl, G6⟩
        have H0 := Lib.hid (HB5.out.step G6.out)
        obtain ⟨⟨k0, k1, k2, k3, k4, k5, k6⟩, f0, f1, f2, f3, f4, f5, f6⟩ := blk7 H0.out.blk
        obtain ⟨Y6, hW⟩ : ∃ W, v6.setCell ⟨b, 5, none⟩ (.int .i64 (sd : Int)) = W := ⟨_, rfl⟩
        have HB6 : Hid (RB W0 Y6 Q b S t7 #[.int .i64 (ot : Int), .int .i64 (pr : Int), .int .i64 (tm : Int), .slice aj j cj, .int .i64 (cp : Int), .int .i64 (sd : Int), .int .i64 0] 35) := Lib.hid (by rw [← hW]; exact H0.out.set 5 _)
        have HO6 : Hid (OwnS Y6 (b + 1) (.slice aj j cj) l) := Lib.hid (by rw [← hW]; exact own_set (own_past HO5.out G6.out.2 (by have := HBQ.out.2; omega)) 5 _ (by omega))
        go_wp2_with fail
        clear hW H0 k0 k1 k2 k3 k4 k5 k6 f0 f1 f2 f3 f4 f5 f6
        refine (HUI.out Y6 t7 9223372036854775807 mo t8 N_mo.out S_t8.out HB6.out.rd (by omega)).mono ?_
        rintro e v7 ⟨rfl, G7⟩
        have H0 := Lib.hid (HB6.out.step G7.out)
        obtain ⟨⟨k0, k1, k2, k3, k4, k5, k6⟩, f0, f1, f2, f3, f4, f5, f6⟩ := blk7 H0.out.blk
        obtain ⟨Y7, hW⟩ : ∃ W, v7.setCell ⟨b, 6, none⟩ (.int .i64 (mo : Int)) = W := ⟨_, rfl⟩
        have HB7 : Hid (RB W0 Y7 Q b S t8 #[.int .i64 (ot : Int), .int .i64 (pr : Int), .int .i64 (tm : Int), .slice aj j cj, .int .i64 (cp : Int), .int .i64 (sd : Int), .int .i64 (mo : Int)] 35) := Lib.hid (by rw [← hW]; exact H0.out.set 6 _)
        have HO7 : Hid (OwnS Y7 (b + 1) (.slice aj j cj) l) := Lib.hid (by rw [← hW]; exact own_set (own_past HO6.out G7.out.2 (by have := HBQ.out.2; omega)) 6 _ (by omega))
        obtain ⟨a9, c9, W9, HR9, hm9⟩ := HM.out.more (w1 := Y7) ⟨(ot : Int), (pr : Int), (tm : Int), aj, j, cj, l, (cp : Int), (sd : Int), (mo : Int)⟩ (by have := HKQ.out.1; omega) (by omega) HB7.out (World.ownsRow.mono HO7.out (by have := HB7.out.new; omega)) hj8 (by omega)
        have HM9 := Lib.hid hm9
        have HMZ := Lib.hid (HM.out.step ⟨HB7.out.rd, HB7.out.grown⟩)
        obtain ⟨⟨q0, q1, q2, q3, q4, q5, q6, q7⟩, _⟩ := blk8 HMZ.out.rb.blk
        obtain ⟨⟨z0, z1, z2, z3, z4, z5, z6, z7⟩, e0, e1, e2, e3, e4, e5, e6, e7⟩ := blk8 HM9.out.rb.blk
        obtain ⟨⟨y0, y1, y2, y3, y4, y5, y6⟩, _⟩ := blk7 HB7.out.blk
        clear hm9
        go_wp2_with (at_builtin; refine walk_run (v' := .slice a9 (i + 1) c9) (w' := W9) rfl _ _ _ _ rfl _ _ rfl rfl ?_ ?_; exact HR9.out)
        go_roundw
        case rel =>
          refine ⟨i + 1, t8, a9, c9, bs ++ [⟨(ot : Int), (pr : Int), (tm : Int), aj, j, cj, l, (cp : Int), (sd : Int), (mo : Int)⟩], by go_num, by omega, Lib.hid (HM9.out.set 1 _), Lib.hid ?_⟩
          have h1 := HSTEP.out
          rw [HBP.out] at h1
          rw [HBL.out, h1]
          simp [pOf]
        case measure => simp [RowKit.intOf]; omega

  case rest =>
    obtain ⟨i, s3, a, c, bs, rfl, hi16, HM, HBL⟩ := hcut
    obtain ⟨W0, rfl⟩ : ∃ W0, W0 = wc := ⟨_, rfl⟩
    clear HM2
    obtain ⟨pl, hpl⟩ : ∃ n : Nat, uiN s3 MX = n := ⟨_, rfl⟩
    obtain ⟨s4, hs4⟩ : ∃ s : RS, uiS s3 MX = s := ⟨_, rfl⟩
    have N_pl := Lib.hid hpl
    have S_s4 := Lib.hid hs4
    clear hpl hs4
    obtain ⟨ny, hny⟩ : ∃ n : Nat, uiN s4 8 = n := ⟨_, rfl⟩
    obtain ⟨s5, hs5⟩ : ∃ s : RS, uiS s4 8 = s := ⟨_, rfl⟩
    have N_ny := Lib.hid hny
    have S_s5 := Lib.hid hs5
    clear hny hs5
    have hny8 : ny ≤ 8 := by have := ui_le (st := s4) (most := 8) (by omega); rw [N_ny.out] at this; omega
    have hny9 : (ny : Int) ≤ 8 := by omega
    go_wp2_with fail
    refine (HUI.out W0 s3 9223372036854775807 pl s4 N_pl.out S_s4.out HM.out.rb.rd (by omega)).mono ?_
    rintro e v1 ⟨rfl, G1⟩
    have H0 := Lib.hid (HM.out.step G1.out)
    obtain ⟨⟨k0, k1, k2, k3, k4, k5, k6, k7⟩, f0, f1, f2, f3, f4, f5, f6, f7⟩ := blk8 H0.out.rb.blk
    obtain ⟨Y1, hW⟩ : ∃ W, v1.setCell ⟨K, 2, none⟩ (.int .i64 (pl : Int)) = W := ⟨_, rfl⟩
    have HM1 : Hid (Mid X0 Y1 Q K (K + 1) S s4 #[.int .i64 (n1 : Int), .slice a i c, .int .i64 (pl : Int), .slice none 0 0, .int .i64 0, .int .i64 0, .int .i64 0, .int .i64 0] (.slice a i c) bs) := Lib.hid (by rw [← hW]; exact H0.out.set 2 _)
    go_wp2_with fail
    clear hW H0 k0 k1 k2 k3 k4 k5 k6 k7 f0 f1 f2 f3 f4 f5 f6 f7
    refine (HUI.out Y1 s4 8 ny s5 N_ny.out S_s5.out HM1.out.rb.rd (by omega)).mono ?_
    rintro e v2 ⟨rfl, G2⟩
    have HY2 : Hid (MidY X0 v2 Q K (K + 1) S s5 #[.int .i64 (n1 : Int), .slice a i c, .int .i64 (pl : Int), .slice none 0 0, .int .i64 0, .int .i64 0, .int .i64 0, .int .i64 0] (.slice a i c) bs (.slice none 0 0) []) := Lib.hid ⟨HM1.out.step G2.out, World.ownsRow_nil _ _ _ _⟩
    clear HM HM1 G1 G2
    go_upto_block 4 with fail
    go_cut [12] (fun s12 wx => ∃ (j : Nat) (st : RS) (ya : Option Addr) (yc : Nat) (ys : List Ba), s12 = .int .i64 (j : Int) ∧ j ≤ 8 ∧ Hid (MidY X0 wx Q K (K + 1) S st #[.int .i64 (n1 : Int), .slice a i c, .int .i64 (pl : Int), .slice ya j yc, .int .i64 0, .int .i64 0, .int .i64 0, .int .i64 0] (.slice a i c) bs (.slice ya j yc) ys) ∧ Hid (baysP ny s5 = (ys, st)))
    case first =>
      go_wp2_with fail
      go_loopw [12] (fun t wr => ∃ (j : Nat) (st : RS) (ya : Option Addr) (yc : Nat) (ys : List Ba), t = .int .i64 (j : Int) ∧ j ≤ ny ∧ Hid (MidY X0 wr Q K (K + 1) S st #[.int .i64 (n1 : Int), .slice a i c, .int .i64 (pl : Int), .slice ya j yc, .int .i64 0, .int .i64 0, .int .i64 0, .int .i64 0] (.slice a i c) bs (.slice ya j yc) ys) ∧ Hid (baysP ny s5 = (ys ++ (baysP (ny - j) st).1, (baysP (ny - j) st).2))) (fun t _ => ny - (RowKit.intOf t).toNat)
      case atStart => exact ⟨0, s5, none, 0, [], rfl, by omega, HY2, Lib.hid (by simp)⟩
      case round =>
        clear HY2
        obtain ⟨j, st, ya, yc, ys, rfl, hj, HM, HYL⟩ := hrel
        obtain ⟨W3, rfl⟩ : ∃ W3, W3 = wr := ⟨_, rfl⟩
        have hj0 : (0 : Int) ≤ (j : Int) := by omega
        have hj8 : (j : Int) ≤ 8 := by omega
        by_cases hlt : j < ny
        case neg =>
          obtain rfl : j = ny := by omega
          have HE : Hid (baysP j s5 = (ys, st)) := Lib.hid (by rw [HYL.out, bays_end (.inl rfl) (Nat.le_refl _)]; simp)
          go_wp2_with fail
          go_meet
          exact ⟨j, st, ya, yc, ys, rfl, hny8, HM, HE⟩
        have hlt2 : (j : Int) < (ny : Int) := by omega
        by_cases hst : st = none
        case pos =>
          subst hst
          have kq : W3.cell? ⟨Q, 2, none⟩ = some (.bool true) := HM.out.mid.rb.rd.bad
          have HE : Hid (baysP ny s5 = (ys, none)) := Lib.hid (by rw [HYL.out, bays_end (.inr rfl) hj]; simp)
          have hj9 : j ≤ 8 := by omega
          go_wp2_with fail
          go_meet
          exact ⟨j, none, ya, yc, ys, rfl, hj9, HM, HE⟩
        have kq : W3.cell? ⟨Q, 2, none⟩ = some (.bool false) := by
          have := HM.out.mid.rb.rd.bad
          rw [bad_some hst] at this
          exact this
        have HSTEP := Lib.hid (bays_step hlt hst)
        have wj : IntKind.i64.wrap ((j : Int) + 1) = (j : Int) + 1 := IntWalk.i64_in _ (by omega)
        obtain ⟨yp, hyp⟩ : ∃ n : Nat, uiN st MX = n := ⟨_, rfl⟩
        obtain ⟨t1, ht1⟩ : ∃ s : RS, uiS st MX = s := ⟨_, rfl⟩
        have N_yp := Lib.hid hyp
        have S_t1 := Lib.hid ht1
        clear hyp ht1
        obtain ⟨ym, hym⟩ : ∃ n : Nat, uiN t1 MX = n := ⟨_, rfl⟩
        obtain ⟨t2, ht2⟩ : ∃ s : RS, uiS t1 MX = s := ⟨_, rfl⟩
        have N_ym := Lib.hid hym
        have S_t2 := Lib.hid ht2
        clear hym ht2
        obtain ⟨yl, hyl⟩ : ∃ n : Nat, uiN t2 MX = n := ⟨_, rfl⟩
        obtain ⟨t3, ht3⟩ : ∃ s : RS, uiS t2 MX = s := ⟨_, rfl⟩
        have N_yl := Lib.hid hyl
        have S_t3 := Lib.hid ht3
        clear hyl ht3
        obtain ⟨yr, hyr⟩ : ∃ n : Nat, uiN t3 MX = n := ⟨_, rfl⟩
        obtain ⟨t4, ht4⟩ : ∃ s : RS, uiS t3 MX = s := ⟨_, rfl⟩
        have N_yr := Lib.hid hyr
        have S_t4 := Lib.hid ht4
        clear hyr ht4
        have HBP := Lib.hid (bay_as N_yp.out S_t1.out N_ym.out S_t2.out N_yl.out S_t3.out N_yr.out S_t4.out)
        clear hst
        go_wp2_with fail
        clear kq
        refine (HUI.out W3 st 9223372036854775807 yp t1 N_yp.out S_t1.out HM.out.mid.rb.rd (by omega)).mono ?_
        rintro e v3 ⟨rfl, G3⟩
        go_wp2_with fail
        obtain ⟨b, hb⟩ : ∃ b, v3.heap.size = b := ⟨_, rfl⟩
        obtain ⟨Y3, hY3⟩ : ∃ X, v3.alloc (.cells #[.int .i64 (yp : Int), .int .i64 0, .int .i64 0, .int .i64 0] 40) = X := ⟨_, rfl⟩
        have HB3 : Hid (RB W3 Y3 Q b S t1 #[.int .i64 (yp : Int), .int .i64 0, .int .i64 0, .int .i64 0] 40) := Lib.hid ⟨by rw [← hY3]; exact only_trans G3.out.2 (grown_alloc v3 _ _), by rw [← hY3]; exact G3.out.1.alloc _, by rw [← hY3, ← hb]; exact heap_alloc_new v3 _, by rw [← hb]; exact G3.out.2.size, by have := G3.out.1.lt; omega⟩
        rw [hY3, hb]
        clear hY3 hb G3
        refine (HUI.out Y3 t1 9223372036854775807 ym t2 N_ym.out S_t2.out HB3.out.rd (by omega)).mono ?_
        rintro e v4 ⟨rfl, G4⟩
        have H0 := Lib.hid (HB3.out.step G4.out)
        obtain ⟨⟨k0, k1, k2, k3⟩, f0, f1, f2, f3⟩ := blk4 H0.out.blk
        obtain ⟨Y4, hW⟩ : ∃ W, v4.setCell ⟨b, 1, none⟩ (.int .i64 (ym : Int)) = W := ⟨_, rfl⟩
        have HB4 : Hid (RB W3 Y4 Q b S t2 #[.int .i64 (yp : Int), .int .i64 (ym : Int), .int .i64 0, .int .i64 0] 40) := Lib.hid (by rw [← hW]; exact H0.out.set 1 _)
        go_wp2_with fail
        clear hW H0 k0 k1 k2 k3 f0 f1 f2 f3
        refine (HUI.out Y4 t2 9223372036854775807 yl t3 N_yl.out S_t3.out HB4.out.rd (by omega)).mono ?_
        rintro e v5 ⟨rfl, G5⟩
        have H0 := Lib.hid (HB4.out.step G5.out)
        obtain ⟨⟨k0, k1, k2, k3⟩, f0, f1, f2, f3⟩ := blk4 H0.out.blk
        obtain ⟨Y5, hW⟩ : ∃ W, v5.setCell ⟨b, 2, none⟩ (.int .i64 (yl : Int)) = W := ⟨_, rfl⟩
        have HB5 : Hid (RB W3 Y5 Q b S t3 #[.int .i64 (yp : Int), .int .i64 (ym : Int), .int .i64 (yl : Int), .int .i64 0] 40) := Lib.hid (by rw [← hW]; exact H0.out.set 2 _)
        go_wp2_with fail
        clear hW H0 k0 k1 k2 k3 f0 f1 f2 f3
        refine (HUI.out Y5 t3 9223372036854775807 yr t4 N_yr.out S_t4.out HB5.out.rd (by omega)).mono ?_
        rintro e v6 ⟨rfl, G6⟩
        have H0 := Lib.hid (HB5.out.step G6.out)
        obtain ⟨⟨k0, k1, k2, k3⟩, f0, f1, f2, f3⟩ := blk4 H0.out.blk
        obtain ⟨Y6, hW⟩ : ∃ W, v6.setCell ⟨b, 3, none⟩ (.int .i64 (yr : Int)) = W := ⟨_, rfl⟩
        have HB6 : Hid (RB W3 Y6 Q b S t4 #[.int .i64 (yp : Int), .int .i64 (ym : Int), .int .i64 (yl : Int), .int .i64 (yr : Int)] 40) := Lib.hid (by rw [← hW]; exact H0.out.set 3 _)
        have HKQ : Hid (K < W3.heap.size ∧ K ≠ Q) := Lib.hid ⟨(Array.getElem?_eq_some_iff.1 HM.out.mid.rb.blk).1, HM.out.mid.rb.far⟩
        obtain ⟨a9, c9, W9, HR9, hm9⟩ := HM.out.more (w1 := Y6) ⟨(yp : Int), (ym : Int), (yl : Int), (yr : Int)⟩ (by have := HKQ.out.1; omega) (by omega) HB6.out (by omega)
        have HM9 := Lib.hid hm9
        have HMZ := Lib.hid (HM.out.step ⟨HB6.out.rd, HB6.out.grown⟩)
        obtain ⟨⟨q0, q1, q2, q3, q4, q5, q6, q7⟩, _⟩ := blk8 HMZ.out.mid.rb.blk
        obtain ⟨⟨z0, z1, z2, z3, z4, z5, z6, z7⟩, e0, e1, e2, e3, e4, e5, e6, e7⟩ := blk8 HM9.out.mid.rb.blk
        obtain ⟨⟨y0, y1, y2, y3⟩, _⟩ := blk4 HB6.out.blk
        clear hm9
        go_wp2_with (at_builtin; refine walk_run (v' := .slice a9 (j + 1) c9) (w' := W9) rfl _ _ _ _ rfl _ _ rfl rfl ?_ ?_; exact HR9.out)
        go_roundw
        case rel =>
          refine ⟨j + 1, t4, a9, c9, ys ++ [⟨(yp : Int), (ym : Int), (yl : Int), (yr : Int)⟩], by go_num, by omega, Lib.hid (HM9.out.set 3 _), Lib.hid ?_⟩
          have h1 := HSTEP.out
          rw [HBP.out] at h1
          rw [HYL.out, h1]
          simp
        case measure => simp [RowKit.intOf]; omega
    case rest =>
      obtain ⟨j, s6, ya, yc, ys, rfl, hj8, HM, HYL⟩ := hcut
      obtain ⟨W3, rfl⟩ : ∃ W3, W3 = wc := ⟨_, rfl⟩
      clear HY2
      obtain ⟨ch, hch⟩ : ∃ n : Nat, uiN s6 MX = n := ⟨_, rfl⟩
      obtain ⟨s7, hs7⟩ : ∃ s : RS, uiS s6 MX = s := ⟨_, rfl⟩
      have N_ch := Lib.hid hch
      have S_s7 := Lib.hid hs7
      clear hch hs7
      obtain ⟨g0, hg0⟩ : ∃ n : Nat, uiN s7 MX = n := ⟨_, rfl⟩
      obtain ⟨s8, hs8⟩ : ∃ s : RS, uiS s7 MX = s := ⟨_, rfl⟩
      have N_g0 := Lib.hid hg0
      have S_s8 := Lib.hid hs8
      clear hg0 hs8
      obtain ⟨g1, hg1⟩ : ∃ n : Nat, uiN s8 MX = n := ⟨_, rfl⟩
      obtain ⟨s9, hs9⟩ : ∃ s : RS, uiS s8 MX = s := ⟨_, rfl⟩
      have N_g1 := Lib.hid hg1
      have S_s9 := Lib.hid hs9
      clear hg1 hs9
      obtain ⟨g2, hg2⟩ : ∃ n : Nat, uiN s9 MX = n := ⟨_, rfl⟩
      obtain ⟨sx, hsx⟩ : ∃ s : RS, uiS s9 MX = s := ⟨_, rfl⟩
      have N_g2 := Lib.hid hg2
      have S_sx := Lib.hid hsx
      clear hg2 hsx
      have HCP := Lib.hid (cat_as HN1.out HS1.out HNB.out HS2.out HBL.out N_pl.out S_s4.out N_ny.out S_s5.out HYL.out N_ch.out S_s7.out N_g0.out S_s8.out N_g1.out S_s9.out N_g2.out S_sx.out)
      go_wp2_with fail
      refine (HUI.out W3 s6 9223372036854775807 ch s7 N_ch.out S_s7.out HM.out.mid.rb.rd (by omega)).mono ?_
      rintro e v1 ⟨rfl, G1⟩
      have H0 := Lib.hid (HM.out.step G1.out)
      obtain ⟨⟨k0, k1, k2, k3, k4, k5, k6, k7⟩, f0, f1, f2, f3, f4, f5, f6, f7⟩ := blk8 H0.out.mid.rb.blk
      obtain ⟨Y1, hW⟩ : ∃ W, v1.setCell ⟨K, 4, none⟩ (.int .i64 (ch : Int)) = W := ⟨_, rfl⟩
      have HM1 : Hid (MidY X0 Y1 Q K (K + 1) S s7 #[.int .i64 (n1 : Int), .slice a i c, .int .i64 (pl : Int), .slice ya j yc, .int .i64 (ch : Int), .int .i64 0, .int .i64 0, .int .i64 0] (.slice a i c) bs (.slice ya j yc) ys) := Lib.hid (by rw [← hW]; exact H0.out.set 4 _)
      go_wp2_with fail
      clear hW H0 k0 k1 k2 k3 k4 k5 k6 k7 f0 f1 f2 f3 f4 f5 f6 f7
      refine (HUI.out Y1 s7 9223372036854775807 g0 s8 N_g0.out S_s8.out HM1.out.mid.rb.rd (by omega)).mono ?_
      rintro e v2 ⟨rfl, G2⟩
      have H0 := Lib.hid (HM1.out.step G2.out)
      obtain ⟨⟨k0, k1, k2, k3, k4, k5, k6, k7⟩, f0, f1, f2, f3, f4, f5, f6, f7⟩ := blk8 H0.out.mid.rb.blk
      obtain ⟨Y2, hW⟩ : ∃ W, v2.setCell ⟨K, 5, none⟩ (.int .i64 (g0 : Int)) = W := ⟨_, rfl⟩
      have HM2 : Hid (MidY X0 Y2 Q K (K + 1) S s8 #[.int .i64 (n1 : Int), .slice a i c, .int .i64 (pl : Int), .slice ya j yc, .int .i64 (ch : Int), .int .i64 (g0 : Int), .int .i64 0, .int .i64 0] (.slice a i c) bs (.slice ya j yc) ys) := Lib.hid (by rw [← hW]; exact H0.out.set 5 _)
      go_wp2_with fail
      clear hW H0 k0 k1 k2 k3 k4 k5 k6 k7 f0 f1 f2 f3 f4 f5 f6 f7
      refine (HUI.out Y2 s8 9223372036854775807 g1 s9 N_g1.out S_s9.out HM2.out.mid.rb.rd (by omega)).mono ?_
      rintro e v3 ⟨rfl, G3⟩
      have H0 := Lib.hid (HM2.out.step G3.out)
      obtain ⟨⟨k0, k1, k2, k3, k4, k5, k6, k7⟩, f0, f1, f2, f3, f4, f5, f6, f7⟩ := blk8 H0.out.mid.rb.blk
      obtain ⟨Y3, hW⟩ : ∃ W, v3.setCell ⟨K, 6, none⟩ (.int .i64 (g1 : Int)) = W := ⟨_, rfl⟩
      have HM3 : Hid (MidY X0 Y3 Q K (K + 1) S s9 #[.int .i64 (n1 : Int), .slice a i c, .int .i64 (pl : Int), .slice ya j yc, .int .i64 (ch : Int), .int .i64 (g0 : Int), .int .i64 (g1 : Int), .int .i64 0] (.slice a i c) bs (.slice ya j yc) ys) := Lib.hid (by rw [← hW]; exact H0.out.set 6 _)
      go_wp2_with fail
      clear hW H0 k0 k1 k2 k3 k4 k5 k6 k7 f0 f1 f2 f3 f4 f5 f6 f7
      refine (HUI.out Y3 s9 9223372036854775807 g2 sx N_g2.out S_sx.out HM3.out.mid.rb.rd (by omega)).mono ?_
      rintro e v4 ⟨rfl, G4⟩
      have H0 := Lib.hid (HM3.out.step G4.out)
      obtain ⟨⟨k0, k1, k2, k3, k4, k5, k6, k7⟩, f0, f1, f2, f3, f4, f5, f6, f7⟩ := blk8 H0.out.mid.rb.blk
      obtain ⟨Y4, hW⟩ : ∃ W, v4.setCell ⟨K, 7, none⟩ (.int .i64 (g2 : Int)) = W := ⟨_, rfl⟩
      have HM4 : Hid (MidY X0 Y4 Q K (K + 1) S sx #[.int .i64 (n1 : Int), .slice a i c, .int .i64 (pl : Int), .slice ya j yc, .int .i64 (ch : Int), .int .i64 (g0 : Int), .int .i64 (g1 : Int), .int .i64 (g2 : Int)] (.slice a i c) bs (.slice ya j yc) ys) := Lib.hid (by rw [← hW]; exact H0.out.set 7 _)
      go_wp2_with fail
      clear hW H0 k0 k1 k2 k3 k4 k5 k6 k7 f0 f1 f2 f3 f4 f5 f6 f7
      have HGW : Hid (∀ W, Below Y4.heap.size Y4 W → W.heap[G]? = some (.cells #[.int .i64 0, .slice none 0 0, .int .i64 0, .slice none 0 0, .int .i64 0, .int .i64 0, .int .i64 0, .int .i64 0] 27 (0, 0))) := Lib.hid fun W hW => by
        have h1 := grown_block HM4.out.mid.rb.grown HGZ.out (fun e => by injection e with e; have h2 := HG.out.2; have h3 := HQ0.out; omega)
        exact (hW.block G (Array.getElem?_eq_some_iff.1 h1).1).trans h1
      have HWB : Hid (Below w.heap.size w Y4) := Lib.hid (below_of_only HXB.out (by have := HQ0.out; have := HXB.out.size; omega) HM4.out.mid.rb.grown)
      have HEND : Hid (∀ W x0 x1 x2 x3 x4 x5 x6 x7, Below Y4.heap.size Y4 W → Below w.heap.size w ((((((((W.setCell ⟨G, 0, none⟩ x0).setCell ⟨G, 1, none⟩ x1).setCell ⟨G, 2, none⟩ x2).setCell ⟨G, 3, none⟩ x3).setCell ⟨G, 4, none⟩ x4).setCell ⟨G, 5, none⟩ x5).setCell ⟨G, 6, none⟩ x6).setCell ⟨G, 7, none⟩ x7)) := Lib.hid fun W x0 x1 x2 x3 x4 x5 x6 x7 hW =>
        below_of_only (below_then HWB.out hW) HG.out.1 (only_setCell (only_setCell (only_setCell (only_setCell (only_setCell (only_setCell (only_setCell (only_setCell (only_refl W (some G)) 0 x0) 1 x1) 2 x2) 3 x3) 4 x4) 5 x5) 6 x6) 7 x7)
      have HZERO : Hid (∀ W, takE S = 2 ∧ takV S = zCat → CM.p ⟨0, none, 0, 0, [], 0, none, 0, 0, [], 0, ⟨0, 0, 0⟩⟩ = takV S ∧ CatAt W ⟨0, none, 0, 0, [], 0, none, 0, 0, [], 0, ⟨0, 0, 0⟩⟩ ∧ Lim ⟨0, none, 0, 0, [], 0, none, 0, 0, [], 0, ⟨0, 0, 0⟩⟩) := Lib.hid fun W h => by
        refine ⟨by rw [h.2]; rfl, ⟨⟨rfl, fun k b hb => by simp at hb, fun b hb => by simp at hb⟩, rfl, fun k b hb => by simp at hb⟩, fun b hb => by simp at hb, by show 0 ≤ 20; omega, by show 0 ≤ 12; omega⟩
      obtain ⟨d, hd⟩ : ∃ d, Pen.doneOf sx = d := ⟨_, rfl⟩
      have HD : Hid (Calls Try.prog 48 #[.pointer (some ⟨Q, 0, none⟩)] Y4 fun e w' => e = .returned (.bool d) ∧ Hid (∃ m, Y4.drewN m = w')) := Lib.hid (by
        obtain ⟨q, h1, h2⟩ := HM4.out.mid.rb.rd
        rw [← hd]
        exact (Pen.rdone_any Q S sx q Y4 h1 h2).mono fun _ _ ⟨e, h⟩ => ⟨e, Lib.hid h⟩)
      have HTK := tak_is S
      rw [HCP.out] at HTK
      have HTK := Lib.hid HTK
      cases d with
      | false =>
        have HBAD : Hid (takE S = 2 ∧ takV S = zCat) := Lib.hid (HTK.out.2 fun h => by
          have h1 : sx = some ⟨#[]⟩ := h.1
          rw [h1] at hd
          rw [done_nil] at hd
          cases hd)
        clear hd HTK
        refine HD.out.mono ?_
        rintro e w5 ⟨rfl, H5⟩
        have HB5 : Hid (Below Y4.heap.size Y4 w5) := Lib.hid (by obtain ⟨m, rfl⟩ := H5.out; exact below_drewN (Below.refl _ _) m)
        have hgb := HGW.out w5 HB5.out
        have HGB := Lib.hid hgb
        obtain ⟨⟨k0, k1, k2, k3, k4, k5, k6, k7⟩, f0, f1, f2, f3, f4, f5, f6, f7⟩ := blk8 hgb
        clear hgb
        go_wp2_with fail
        exact ret_ca2 rfl rfl rfl rfl (ca_set HGB.out) ⟨⟨0, none, 0, 0, [], 0, none, 0, 0, [], 0, ⟨0, 0, 0⟩⟩, by rw [HBAD.out.1]; rfl, Lib.hid (by
          obtain ⟨h1, h2, h3⟩ := HZERO.out _ HBAD.out
          exact ⟨h1, h2, h3, HEND.out w5 _ _ _ _ _ _ _ _ HB5.out⟩)⟩
      | true =>
        have HSX : Hid (sx = some ⟨#[]⟩) := Lib.hid (done_yes hd)
        obtain ⟨er, her⟩ : ∃ er, chkC ⟨(n1 : Int), bs.map pOf, (pl : Int), ys, (ch : Int), ⟨(g0 : Int), (g1 : Int), (g2 : Int)⟩⟩ = er := ⟨_, rfl⟩
        have HER := Lib.hid her
        clear hd her
        refine HD.out.mono ?_
        rintro e w5 ⟨rfl, H5⟩
        have HB5 : Hid (Below Y4.heap.size Y4 w5) := Lib.hid (by obtain ⟨m, rfl⟩ := H5.out; exact below_drewN (Below.refl _ _) m)
        have HM5 : Hid (w5.heap[K]? = some (.cells #[.int .i64 (n1 : Int), .slice a i c, .int .i64 (pl : Int), .slice ya j yc, .int .i64 (ch : Int), .int .i64 (g0 : Int), .int .i64 (g1 : Int), .int .i64 (g2 : Int)] 27 (0, 0)) ∧ CatAt w5 ⟨(n1 : Int), a, i, c, bs, (pl : Int), ya, j, yc, ys, (ch : Int), ⟨(g0 : Int), (g1 : Int), (g2 : Int)⟩⟩ ∧ Lim ⟨(n1 : Int), a, i, c, bs, (pl : Int), ya, j, yc, ys, (ch : Int), ⟨(g0 : Int), (g1 : Int), (g2 : Int)⟩⟩) := Lib.hid (by
          have h1 := HM4.out.rows.cat hi16 hj8 (n1 : Int) (pl : Int) (ch : Int) ⟨(g0 : Int), (g1 : Int), (g2 : Int)⟩
          refine ⟨(HB5.out.block K (Array.getElem?_eq_some_iff.1 HM4.out.mid.rb.blk).1).trans HM4.out.mid.rb.blk, h1.1.under HB5.out, h1.2⟩)
        have HCK : Hid (Calls Try.prog 15 #[.agg #[.int .i64 (n1 : Int), .slice a i c, .int .i64 (pl : Int), .slice ya j yc, .int .i64 (ch : Int), .int .i64 (g0 : Int), .int .i64 (g1 : Int), .int .i64 (g2 : Int)]] w5 fun e w' => e = .returned (.int .i64 er) ∧ Hid (Below w5.heap.size w5 w')) := Lib.hid (by
          have := dcheck ⟨(n1 : Int), a, i, c, bs, (pl : Int), ya, j, yc, ys, (ch : Int), ⟨(g0 : Int), (g1 : Int), (g2 : Int)⟩⟩ w5 HM5.out.2.1 HM5.out.2.2
          rw [← HER.out]
          exact this.mono fun _ _ ⟨e, h⟩ => ⟨e, Lib.hid h⟩)
        obtain ⟨⟨k0, k1, k2, k3, k4, k5, k6, k7⟩, f0, f1, f2, f3, f4, f5, f6, f7⟩ := blk8 HM5.out.1
        go_wp2_with fail
        clear k0 k1 k2 k3 k4 k5 k6 k7 f0 f1 f2 f3 f4 f5 f6 f7
        by_cases he : er = 0
        case pos =>
          subst he
          have HOK := Lib.hid (HTK.out.1 ⟨HSX.out, HER.out⟩)
          refine HCK.out.mono ?_
          rintro e w6 ⟨rfl, H6⟩
          have HB6 := Lib.hid (below_then HB5.out H6.out)
          have HK6 : Hid (w6.heap[K]? = some (.cells #[.int .i64 (n1 : Int), .slice a i c, .int .i64 (pl : Int), .slice ya j yc, .int .i64 (ch : Int), .int .i64 (g0 : Int), .int .i64 (g1 : Int), .int .i64 (g2 : Int)] 27 (0, 0))) := Lib.hid ((H6.out.block K (Array.getElem?_eq_some_iff.1 HM5.out.1).1).trans HM5.out.1)
          obtain ⟨⟨k0, k1, k2, k3, k4, k5, k6, k7⟩, f0, f1, f2, f3, f4, f5, f6, f7⟩ := blk8 HK6.out
          have HGB := Lib.hid (HGW.out w6 HB6.out)
          obtain ⟨⟨z0, z1, z2, z3, z4, z5, z6, z7⟩, e0, e1, e2, e3, e4, e5, e6, e7⟩ := blk8 HGB.out
          go_wp2_with fail
          exact ret_ca2 rfl rfl rfl rfl (ca_set HGB.out) ⟨⟨(n1 : Int), a, i, c, bs, (pl : Int), ya, j, yc, ys, (ch : Int), ⟨(g0 : Int), (g1 : Int), (g2 : Int)⟩⟩, by rw [HOK.out.1]; rfl, Lib.hid (by
            have hall : ∀ x0 x1 x2 x3 x4 x5 x6 x7, CatAt ((((((((w6.setCell ⟨G, 0, none⟩ x0).setCell ⟨G, 1, none⟩ x1).setCell ⟨G, 2, none⟩ x2).setCell ⟨G, 3, none⟩ x3).setCell ⟨G, 4, none⟩ x4).setCell ⟨G, 5, none⟩ x5).setCell ⟨G, 6, none⟩ x6).setCell ⟨G, 7, none⟩ x7) ⟨(n1 : Int), a, i, c, bs, (pl : Int), ya, j, yc, ys, (ch : Int), ⟨(g0 : Int), (g1 : Int), (g2 : Int)⟩⟩ := fun x0 x1 x2 x3 x4 x5 x6 x7 => by
              have hgb : G < K + 1 := by have h1 := HG.out.2; have h2 := HM4.out.mid.rb.new; omega
              exact (((((((((((HM4.out.rows.under HB5.out).under H6.out).set hgb 0 x0).set hgb 1 x1).set hgb 2 x2).set hgb 3 x3).set hgb 4 x4).set hgb 5 x5).set hgb 6 x6).set hgb 7 x7).cat hi16 hj8 _ _ _ _).1
            exact ⟨HOK.out.2.symm, hall _ _ _ _ _ _ _ _, HM5.out.2.2, HEND.out w6 _ _ _ _ _ _ _ _ HB6.out⟩)⟩
        case neg =>
          have n1' : (er == 0) = false := by simpa using he
          have n2' : (er != 0) = true := by simpa using he
          have HBAD : Hid (takE S = 2 ∧ takV S = zCat) := Lib.hid (HTK.out.2 fun h => he (by rw [← HER.out]; exact h.2))
          refine HCK.out.mono ?_
          rintro e w6 ⟨rfl, H6⟩
          have HB6 := Lib.hid (below_then HB5.out H6.out)
          have HGB := Lib.hid (HGW.out w6 HB6.out)
          obtain ⟨⟨z0, z1, z2, z3, z4, z5, z6, z7⟩, e0, e1, e2, e3, e4, e5, e6, e7⟩ := blk8 HGB.out
          go_wp2_with fail
          exact ret_ca2 rfl rfl rfl rfl (ca_set HGB.out) ⟨⟨0, none, 0, 0, [], 0, none, 0, 0, [], 0, ⟨0, 0, 0⟩⟩, by rw [HBAD.out.1]; rfl, Lib.hid (by
            obtain ⟨h1, h2, h3⟩ := HZERO.out _ HBAD.out
            exact ⟨h1, h2, h3, HEND.out w6 _ _ _ _ _ _ _ _ HB6.out⟩)⟩
end Go.Proofs.Yteaclacbdelinaa.Cat
