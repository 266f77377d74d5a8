/- BayClones: a clone has the same lines, and goes its own way. -/
import Derived.Test.YtokkefokodcphaaBayLoop
namespace Go.Proofs.Ytokkefokodcphaa.Bay
open Go.RowKit Go.Lib IRows

set_option maxRecDepth 100000 in
set_option maxHeartbeats 8000000 in
theorem bayClones_in (a : Option Addr) (n c : Nat) (l : List By) (a1 : Option Addr) (n1 c1 : Nat) (xs : List Ac) (a2 : Option Addr) (n2 c2 : Nat) (ys : List Ac) (w : World) (hl : l.length = n) (hs : ByAt w a l) (hl1 : xs.length = n1) (hs1 : Acs w a1 xs) (hl2 : ys.length = n2) (hs2 : Acs w a2 ys) :
    Calls Try.prog 6 #[.slice a n c, .slice a1 n1 c1, .slice a2 n2 c2] w fun e w' => e = .returned (.bool true) ∧ Below w.heap.size w w' := by
  have HAW := awake_at w
  have H0 := Lib.hid (HAW.out w (Below.refl _ _))
  by_cases hn12 : (12 : Int) < (n : Int)
  · have d1 : decide ((12 : Int) < (n : Int)) = true := decide_eq_true hn12
    clear hl hs hl1 hs1 hl2 hs2
    go_enter Try.func6, Try.ntmps6
    go_wp2_with fail
    refine H0.out.mono ?_
    rintro e w1 ⟨rfl, B1⟩
    go_wp2_with fail
    go_ret
    exact ⟨rfl, B1.out⟩
  have d1 : decide ((12 : Int) < (n : Int)) = false := decide_eq_false hn12
  by_cases hn20 : (20 : Int) < (n1 : Int)
  · have d2 : decide ((20 : Int) < (n1 : Int)) = true := decide_eq_true hn20
    clear hl hs hl1 hs1 hl2 hs2
    go_enter Try.func6, Try.ntmps6
    go_wp2_with fail
    refine H0.out.mono ?_
    rintro e w1 ⟨rfl, B1⟩
    go_wp2_with fail
    go_ret
    exact ⟨rfl, B1.out⟩
  have d2 : decide ((20 : Int) < (n1 : Int)) = false := decide_eq_false hn20
  by_cases hn10 : (10 : Int) < (n2 : Int)
  · have d3 : decide ((10 : Int) < (n2 : Int)) = true := decide_eq_true hn10
    clear hl hs hl1 hs1 hl2 hs2
    go_enter Try.func6, Try.ntmps6
    go_wp2_with fail
    refine H0.out.mono ?_
    rintro e w1 ⟨rfl, B1⟩
    go_wp2_with fail
    go_ret
    exact ⟨rfl, B1.out⟩
  have d3 : decide ((10 : Int) < (n2 : Int)) = false := decide_eq_false hn10
  have hn1b : (n1 : Int) ≤ 20 := by omega
  have hn2b : (n2 : Int) ≤ 10 := by omega
  have hn : n ≤ 12 := by omega
  clear H0 hn12 hn20 hn10
  by_cases hM : MayB l
  · obtain ⟨m, hm⟩ : ∃ m : Nat, 2 * n = m := ⟨_, rfl⟩
    have HPN : Hid (Calls Try.prog 11 #[.slice a n c] w fun e w' => ∃ Q, e = .returned (.tuple #[ptr Q, .int .i64 0]) ∧ Hid (∃ F, PS w w' Q (newL l) F)) := Lib.hid (by
      refine (ps_new (w := w) a n c l w (Below.refl _ _) hl hs (by omega)).mono ?_
      rintro e w' (⟨_, Q, rfl, H⟩ | ⟨h, _⟩)
      · obtain ⟨F, h1, h2⟩ := H.out
        exact ⟨Q, rfl, Lib.hid ⟨F, h1⟩⟩
      · exact absurd hM h.out)
    have HDN : Hid (∀ W, Below w.heap.size w W → Calls Try.prog 12 #[.slice a n c] W fun e w' => ∃ da dc, e = .returned (.tuple #[bV a n c da m dc, .int .i64 0]) ∧ Hid (DB w' (fun q => W.heap.size ≤ q) a n l da m dc (newL l) ∧ Below W.heap.size W w')) := Lib.hid (fun W hW => by
      have h := dnew_im a n c l W hl (hs.under hW) (by omega)
      rw [hm] at h
      refine h.mono ?_
      rintro e w' (⟨_, da, dc, e1, H⟩ | ⟨h, _⟩)
      · exact ⟨da, dc, e1, H⟩
      · exact absurd hM h.out)
    have HBY := Lib.hid hs
    have HC1 : Hid (∀ W i, Below w.heap.size w W → i < n1 → _) := Lib.hid (act_at hl1 hs1)
    have HC2 : Hid (∀ W i, Below w.heap.size w W → i < n2 → _) := Lib.hid (act_at hl2 hs2)
    clear hl hs hM hm hn hl1 hs1 hl2 hs2
    go_enter Try.func6, Try.ntmps6
    go_wp2_with fail
    refine HPN.out.mono ?_
    rintro e w1 ⟨Q, rfl, H1⟩
    have H2 := Lib.hid (HDN.out w1 (by obtain ⟨F, h⟩ := H1.out; exact h.below))
    go_wp2_with fail
    refine H2.out.mono ?_
    rintro e w2 ⟨da0, dc0, rfl, H3⟩
    obtain ⟨V, X0, X, hV, hX0, hXX, ⟨x0, x1, xf0, xf1⟩, ⟨u0, u1⟩, HX⟩ := box_two2 w2 a n c da0 m dc0
    have HJ : Hid (JV w X Q V a n c l m (newL l) da0 dc0 da0 dc0) := Lib.hid (by
      obtain ⟨F, h1⟩ := H1.out
      exact jv_new (h1.under H3.out.2) H3.out.1 (fun g hg _ hf => by have := (h1.lt g hf).2; omega) HX.out.2.1 HX.out.1 HX.out.2.2)
    clear H1 H2 H3 HPN HDN HX u0 u1
    go_wp2_with fail
    clear hV hX0 hXX x0 x1 xf0 xf1
    go_loopw [11] (fun t wr => ∃ (i : Nat) (L : List Ln) (da : Option Addr) (dc : Nat), t = .int .i64 i ∧ i ≤ n1 ∧ Hid (JV w wr Q V a n c l m L da dc da dc)) (fun t _ => n1 - (RowKit.intOf t).toNat)
    case atStart => exact ⟨0, newL l, da0, dc0, rfl, by omega, HJ⟩
    case round =>
      clear HJ
      obtain ⟨i, L, da, dc, rfl, hi, HJ⟩ := hrel
      by_cases hlt : i < n1
      · have hlt2 : (i : Int) < (n1 : Int) := by omega
        obtain ⟨g, off, x, rfl, k0, k1, k2, k3⟩ := HC1.out wr i HJ.out.below hlt
        obtain ⟨⟨v0, v1⟩, _⟩ := HJ.out.cells
        obtain ⟨U1, Xb, hU1, hXb, HXb⟩ := zero_b wr
        have j0 := cell_under HXb.out.1 k0
        have j1 := cell_under HXb.out.1 k1
        have j2 := cell_under HXb.out.1 k2
        have j3 := cell_under HXb.out.1 k3
        have i0 := cell_under HXb.out.1 v0
        have i1 := cell_under HXb.out.1 v1
        have HDO := Lib.hid (jv_do x HJ.out HBY.out Xb.drew HXb.out.1.drew U1 (by omega) (HXb.out.2.2 Xb (Below.refl _ _)))
        have HD0 := Lib.hid (jv_do0 x HJ.out HBY.out wr.drew (Below.refl _ wr).drew)
        go_wp2_with fail
        go_region_with (first
          | (go_at_call 13; (with_reducible refine HDO.out.mono ?_); rintro e w4 ⟨a', c', rfl, ⟨x0, x1, xf0, xf1⟩, H4⟩; obtain ⟨X, hXX⟩ : ∃ X, (w4.setCell ⟨U1, 0, none⟩ (.slice a n c)).setCell ⟨U1, 1, none⟩ (.slice a' m c') = X := ⟨_, rfl⟩; have HJ2 := Lib.hid (H4.out X hXX).1; obtain ⟨u0, u1⟩ := (H4.out X hXX).2; obtain ⟨⟨y0, y1⟩, yf0, yf1⟩ := HJ2.out.cells; have HJ3 := Lib.hid (HJ2.out.store HBY.out))
          | (go_at_call 13; (with_reducible refine HD0.out.mono ?_); rintro e w4 ⟨a', c', rfl, H4⟩; obtain ⟨U, X0, X, hU, hX0, hXX, ⟨x0, x1, xf0, xf1⟩, ⟨u0, u1⟩, HX⟩ := box_two2 w4 a n c a' m c'; have HJ2 := Lib.hid (H4.out.under HX.out.2.1); obtain ⟨⟨y0, y1⟩, yf0, yf1⟩ := HJ2.out.cells; have HJ3 := Lib.hid (HJ2.out.store HBY.out)))
        all_goals
          clear HDO HD0 k0 k1 k2 k3 j0 j1 j2 j3 v0 v1 i0 i1
          go_wp2_with fail
          exact ⟨⟨i + 1, actL L x, a', c', by go_num, by omega, HJ3⟩, by simp [RowKit.intOf]; omega⟩
      · obtain rfl : i = n1 := by omega
        obtain ⟨Wc, rfl⟩ : ∃ Wc, Wc = wr := ⟨_, rfl⟩
        have HCL := Lib.hid (jv_clone HJ.out Wc (Below.refl _ _))
        have HBY2 := Lib.hid (HBY.out.under HJ.out.below)
        clear HC1
        go_wp2_with fail
        refine HCL.out.mono ?_
        rintro e w5 ⟨Q2, rfl, H5⟩
        obtain ⟨⟨v0, v1⟩, _⟩ := (HJ.out.under H5.out.1).cells
        obtain ⟨V2, X0, X, hV2, hX0, hXX, ⟨x0, x1, xf0, xf1⟩, ⟨u0, u1⟩, HX⟩ := box_two2 w5 a n c da m dc
        have HJ2 : Hid (JV Wc X Q2 V2 a n c l m L da dc da dc) := Lib.hid (H5.out.2 V2 X HX.out.1 HX.out.2.1 HX.out.2.2)
        clear H5 HX HCL u0 u1
        go_wp2_with fail
        clear hV2 hX0 hXX x0 x1 xf0 xf1 v0 v1
        go_loopw [16] (fun t wr => ∃ (i : Nat) (L2 : List Ln) (da2 : Option Addr) (dc2 : Nat), t = .int .i64 i ∧ i ≤ n2 ∧ Hid (JV Wc wr Q2 V2 a n c l m L2 da2 dc2 da2 dc2)) (fun t _ => n2 - (RowKit.intOf t).toNat)
        case atStart => exact ⟨0, L, da, dc, rfl, by omega, HJ2⟩
        case round =>
          clear HJ2
          obtain ⟨i, L2, da2, dc2, rfl, hi, HJ2⟩ := hrel
          by_cases hlt : i < n2
          · have hlt2 : (i : Int) < (n2 : Int) := by omega
            obtain ⟨g, off, x, rfl, k0, k1, k2, k3⟩ := HC2.out wr i (below_then HJ.out.below HJ2.out.below) hlt
            obtain ⟨⟨v0, v1⟩, _⟩ := HJ2.out.cells
            obtain ⟨U1, Xb, hU1, hXb, HXb⟩ := zero_b wr
            have j0 := cell_under HXb.out.1 k0
            have j1 := cell_under HXb.out.1 k1
            have j2 := cell_under HXb.out.1 k2
            have j3 := cell_under HXb.out.1 k3
            have i0 := cell_under HXb.out.1 v0
            have i1 := cell_under HXb.out.1 v1
            have HDO := Lib.hid (jv_do x HJ2.out HBY2.out Xb.drew HXb.out.1.drew U1 (by omega) (HXb.out.2.2 Xb (Below.refl _ _)))
            have HD0 := Lib.hid (jv_do0 x HJ2.out HBY2.out wr.drew (Below.refl _ wr).drew)
            go_wp2_with fail
            go_region_with (first
              | (go_at_call 13; (with_reducible refine HDO.out.mono ?_); rintro e w4 ⟨a', c', rfl, ⟨x0, x1, xf0, xf1⟩, H4⟩; obtain ⟨X, hXX⟩ : ∃ X, (w4.setCell ⟨U1, 0, none⟩ (.slice a n c)).setCell ⟨U1, 1, none⟩ (.slice a' m c') = X := ⟨_, rfl⟩; have HK2 := Lib.hid (H4.out X hXX).1; obtain ⟨u0, u1⟩ := (H4.out X hXX).2; obtain ⟨⟨y0, y1⟩, yf0, yf1⟩ := HK2.out.cells; have HK3 := Lib.hid (HK2.out.store HBY2.out))
              | (go_at_call 13; (with_reducible refine HD0.out.mono ?_); rintro e w4 ⟨a', c', rfl, H4⟩; obtain ⟨U, X0, X, hU, hX0, hXX, ⟨x0, x1, xf0, xf1⟩, ⟨u0, u1⟩, HX⟩ := box_two2 w4 a n c a' m c'; have HK2 := Lib.hid (H4.out.under HX.out.2.1); obtain ⟨⟨y0, y1⟩, yf0, yf1⟩ := HK2.out.cells; have HK3 := Lib.hid (HK2.out.store HBY2.out)))
            all_goals
              clear HDO HD0 k0 k1 k2 k3 j0 j1 j2 j3 v0 v1 i0 i1
              go_wp2_with fail
              exact ⟨⟨i + 1, actL L2 x, a', c', by go_num, by omega, HK3⟩, by simp [RowKit.intOf]; omega⟩
          · obtain rfl : i = n2 := by omega
            have HBX : Hid (Below wr.heap.size wr wr.drew) := Lib.hid (Below.refl _ wr).drew
            have HJ1 : Hid (JV w wr Q V a n c l m L da dc da dc) := Lib.hid (HJ.out.under HJ2.out.below)
            have HXV : Hid (∀ W, Below wr.heap.size wr W → W.cell? ⟨V, 1, none⟩ = some (.slice da m dc) ∧ W.cell? ⟨V2, 1, none⟩ = some (.slice da2 m dc2)) := Lib.hid (fun W hW => ⟨(HJ1.out.under hW).cells.1.2, (HJ2.out.under hW).cells.1.2⟩)
            have HL1 := Lib.hid (jv_lines HJ1.out)
            have HL2 := Lib.hid (jv_lines HJ2.out)
            have HS1 : Hid (∀ W a3 c3, LT wr W a3 m L → Calls Try.prog 14 #[.slice a3 m c3, .slice da m dc] W fun e w' => e = .returned (.bool true) ∧ Hid (Below wr.heap.size wr w')) := Lib.hid (fun W a3 c3 h => jv_same HJ1.out h)
            have HS2 : Hid (∀ W a3 c3, LT wr W a3 m L2 → Calls Try.prog 14 #[.slice a3 m c3, .slice da2 m dc2] W fun e w' => e = .returned (.bool true) ∧ Hid (Below wr.heap.size wr w')) := Lib.hid (fun W a3 c3 h => jv_same HJ2.out h)
            have HA := awake_at wr
            have HE := Lib.hid HJ1.out.below
            obtain ⟨v1, y1⟩ := HXV.out wr (Below.refl _ _)
            clear HAW HBY HC2 HBY2 HJ HJ1 HJ2
            go_wp2_with fail
            go_region_held3 (fun W => W.cell? ⟨V, 1, none⟩ = some (.slice da m dc) ∧ W.cell? ⟨V2, 1, none⟩ = some (.slice da2 m dc2))
              (first | with_reducible exact HXV.out _ HX7.out | with_reducible exact HXV.out _ HX6.out | with_reducible exact HXV.out _ HX5.out | with_reducible exact HXV.out _ HX4.out | with_reducible exact HXV.out _ HX3.out | with_reducible exact HXV.out _ HBX.out)
              (first
                | (go_at_call 8; (with_reducible refine (HA.out _ HX6.out).mono ?_); rintro e w7 ⟨rfl, HX7⟩)
                | (go_at_call 14; (with_reducible refine (HS2.out _ _ _ HT2.out).mono ?_); rintro e w6 ⟨rfl, HX6⟩)
                | (go_at_call 15; (with_reducible refine (HL2.out _ HX4.out).mono ?_); rintro e w5 ⟨a5, c5, rfl, HT2⟩; have HX5 := Lib.hid HT2.out.1)
                | (go_at_call 14; (with_reducible refine (HS1.out _ _ _ HT.out).mono ?_); rintro e w4 ⟨rfl, HX4⟩)
                | (go_at_call 15; (with_reducible refine (HL1.out _ HBX.out).mono ?_); rintro e w3 ⟨a3, c3, rfl, HT⟩; have HX3 := Lib.hid HT.out.1))
            all_goals
              go_wp2_with fail
              go_ret
              exact ⟨rfl, below_then HE.out HX7.out⟩
  · have HPN : Hid (Calls Try.prog 11 #[.slice a n c] w fun e w' => e = .returned (.tuple #[.pointer none, .int .i64 1]) ∧ Hid (Below w.heap.size w w')) := Lib.hid (by
      refine (ps_new (w := w) a n c l w (Below.refl _ _) hl hs (by omega)).mono ?_
      rintro e w' (⟨h, _⟩ | ⟨_, e1, H⟩)
      · exact absurd h.out hM
      · exact ⟨e1, H⟩)
    have HDN : Hid (∀ W, Below w.heap.size w W → Calls Try.prog 12 #[.slice a n c] W fun e w' => e = .returned (.tuple #[bV none 0 0 none 0 0, .int .i64 1]) ∧ Hid (Below W.heap.size W w')) := Lib.hid (fun W hW => by
      refine (dnew_im a n c l W hl (hs.under hW) (by omega)).mono ?_
      rintro e w' (⟨h, _⟩ | ⟨_, e1, H⟩)
      · exact absurd h.out hM
      · exact ⟨e1, H⟩)
    clear hl hs hM hn hl1 hs1 hl2 hs2
    go_enter Try.func6, Try.ntmps6
    go_wp2_with fail
    refine HPN.out.mono ?_
    rintro e w1 ⟨rfl, H1⟩
    have H2 := Lib.hid (HDN.out w1 H1.out)
    go_wp2_with fail
    refine H2.out.mono ?_
    rintro e w2 ⟨rfl, H3⟩
    obtain ⟨V, X0, hV, hX0, HX0⟩ := zero_b w2
    have hz0 := HX0.out.2.2 X0 (Below.refl _ _)
    have x0 := cell_block (j := 0) hz0 rfl
    have x1 := cell_block (j := 1) hz0 rfl
    have xf0 := free_block 0 hz0
    have xf1 := free_block 1 hz0
    obtain ⟨X, hXX⟩ : ∃ X, (X0.setCell ⟨V, 0, none⟩ (.slice none 0 0)).setCell ⟨V, 1, none⟩ (.slice none 0 0) = X := ⟨_, rfl⟩
    have hX2 : Below w2.heap.size w2 X := by
      rw [← hXX]
      exact (HX0.out.1.setCell (p := ⟨V, 0, none⟩) (by show w2.heap.size ≤ V; omega) _).setCell (p := ⟨V, 1, none⟩) (by show w2.heap.size ≤ V; omega) _
    have HA := Lib.hid (HAW.out X (below_then (below_then H1.out H3.out) hX2))
    clear H1 H2 H3 HPN HDN hz0 HX0 hX2
    go_wp2_with fail
    refine HA.out.mono ?_
    rintro e v9 ⟨rfl, B1⟩
    go_wp2_with fail
    go_ret
    exact ⟨rfl, B1.out⟩
end Go.Proofs.Ytokkefokodcphaa.Bay
