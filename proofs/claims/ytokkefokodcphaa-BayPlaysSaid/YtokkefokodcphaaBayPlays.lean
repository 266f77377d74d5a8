/- BayPlays: whatever jobs come and leave, the lines are the document's. -/
import Derived.Test.YtokkefokodcphaaBayLoop
import Derived.Test.YtokkefokodcphaaBayArgs2
namespace Go.Proofs.Ytokkefokodcphaa.Bay
open Go.RowKit Go.Lib IRows

section
variable (a : Option Addr) (n c : Nat) (l : List By) (a2 : Option Addr) (m c2 : Nat) (ds : List Dn) (w : World) (hl : l.length = n) (hs : ByAt w a l) (hn : n ≤ 1000) (hm : ds.length = m) (hd : LsAt w (fun g => g < w.heap.size) a2 ds) (hm2 : m ≤ 1000) (hrow : ∀ x ∈ ds, x.r.length ≤ 1000 ∧ x.q.length ≤ 1000)
include hl hs hn hm hd hm2 hrow
theorem ps_load (hdoc : DocOk l (ds.map Dn.p)) : Calls Try.prog 9 #[.slice a n c, .slice a2 m c2] w fun e w' => ∃ Q, e = .returned (.tuple #[ptr Q, .int .i64 0]) ∧ Hid (∃ F, PS w w' Q (mkL l 0 (ds.map Dn.p)) F) := by
  refine (load_im a n c l a2 m c2 ds w hl hs hn hm hd hm2 hrow).mono ?_
  rintro e w' (⟨L, HL, Q, rfl, H⟩ | ⟨h, _⟩)
  · have e1 := HL.out
    have hg := good_loadV e1
    rw [(loadV_doc l _).1 hdoc] at e1
    obtain rfl := Option.some.inj e1
    obtain ⟨lv, ys, h1, h2⟩ := H.out
    exact ⟨Q, rfl, Lib.hid ⟨_, lv, ys, h1, h2, rfl, hg⟩⟩
  · have e1 := h.out
    rw [(loadV_doc l _).1 hdoc] at e1
    cases e1
theorem ps_load_no (hdoc : ¬ DocOk l (ds.map Dn.p)) : Calls Try.prog 9 #[.slice a n c, .slice a2 m c2] w fun e w' => e = .returned (.tuple #[.pointer none, .int .i64 1]) ∧ Hid (Below w.heap.size w w') := by
  refine (load_im a n c l a2 m c2 ds w hl hs hn hm hd hm2 hrow).mono ?_
  rintro e w' (⟨L, HL, _⟩ | ⟨_, e1, h⟩)
  · have e1 := HL.out
    rw [(loadV_doc l _).2 hdoc] at e1
    cases e1
  · exact ⟨e1, Lib.hid h⟩
theorem d_load (hdoc : DocOk l (ds.map Dn.p)) (W : World) (hW : Below w.heap.size w W) : Calls Try.prog 10 #[.slice a n c, .slice a2 m c2] W fun e w' => ∃ da dc, e = .returned (.tuple #[bV a n c da m dc, .int .i64 0]) ∧ Hid (DB w' (fun q => q < w.heap.size ∨ W.heap.size ≤ q) a n l da m dc (mkL l 0 (ds.map Dn.p)) ∧ Below W.heap.size W w') := by
  refine (dload_im a n c l a2 m c2 ds W hl (hs.under hW) hn hm (hd.under hW) hm2 hrow).mono ?_
  rintro e w' (⟨_, da, dc, e1, H⟩ | ⟨h, _⟩)
  · exact ⟨da, dc, e1, H⟩
  · exact absurd hdoc h.out
theorem d_load_no (hdoc : ¬ DocOk l (ds.map Dn.p)) (W : World) (hW : Below w.heap.size w W) : Calls Try.prog 10 #[.slice a n c, .slice a2 m c2] W fun e w' => e = .returned (.tuple #[bV none 0 0 none 0 0, .int .i64 1]) ∧ Hid (Below W.heap.size W w') := by
  refine (dload_im a n c l a2 m c2 ds W hl (hs.under hW) hn hm (hd.under hW) hm2 hrow).mono ?_
  rintro e w' (⟨h, _⟩ | ⟨_, e1, H⟩)
  · exact absurd h.out hdoc
  · exact ⟨e1, H⟩
end
section
variable (a : Option Addr) (n c : Nat) (l : List By) (w : World) (hl : l.length = n) (hs : ByAt w a l) (hn : n ≤ 100)
include hl hs hn
theorem p_new (hM : MayB l) (W : World) (hW : Below w.heap.size w W) : Calls Try.prog 11 #[.slice a n c] W fun e w' => ∃ Q, e = .returned (.tuple #[ptr Q, .int .i64 0]) ∧ Hid (∃ F, PS W w' Q (newL l) F) := by
  refine (ps_new (w := W) a n c l W (Below.refl _ _) hl (hs.under hW) (by omega)).mono ?_
  rintro e w' (⟨_, Q, rfl, H⟩ | ⟨h, _⟩)
  · obtain ⟨F, h1, h2⟩ := H.out
    exact ⟨Q, rfl, Lib.hid ⟨F, h1⟩⟩
  · exact absurd hM h.out
theorem p_new_no (hM : ¬ MayB l) (W : World) (hW : Below w.heap.size w W) : Calls Try.prog 11 #[.slice a n c] W fun e w' => e = .returned (.tuple #[.pointer none, .int .i64 1]) ∧ Hid (Below W.heap.size W w') := by
  refine (ps_new (w := W) a n c l W (Below.refl _ _) hl (hs.under hW) (by omega)).mono ?_
  rintro e w' (⟨h, _⟩ | ⟨_, e1, H⟩)
  · exact absurd h.out hM
  · exact ⟨e1, H⟩
theorem d_new (hM : MayB l) (W : World) (hW : Below w.heap.size w W) : Calls Try.prog 12 #[.slice a n c] W fun e w' => ∃ da dc, e = .returned (.tuple #[bV a n c da (2 * n) dc, .int .i64 0]) ∧ Hid (DB w' (fun q => W.heap.size ≤ q) a n l da (2 * n) dc (newL l) ∧ Below W.heap.size W w') := by
  refine (dnew_im a n c l W hl (hs.under hW) hn).mono ?_
  rintro e w' (⟨_, da, dc, e1, H⟩ | ⟨h, _⟩)
  · exact ⟨da, dc, e1, H⟩
  · exact absurd hM h.out
theorem d_new_no (hM : ¬ MayB l) (W : World) (hW : Below w.heap.size w W) : Calls Try.prog 12 #[.slice a n c] W fun e w' => e = .returned (.tuple #[bV none 0 0 none 0 0, .int .i64 1]) ∧ Hid (Below W.heap.size W w') := by
  refine (dnew_im a n c l W hl (hs.under hW) hn).mono ?_
  rintro e w' (⟨h, _⟩ | ⟨_, e1, H⟩)
  · exact absurd h.out hM
  · exact ⟨e1, H⟩
end
/-- New's answers in place of Load's. -/
theorem jv_turn {w X w3 w4 : World} {Q V : Nat} {a : Option Addr} {n c : Nat} {l : List By} {m dc : Nat} {da : Option Addr} {L : List Ln} {F : Nat → Prop} {u0 u1 : Value} (hby : ByAt w a l) (hX : Below w.heap.size w X) (hV : w.heap.size ≤ V) (hb : X.heap[V]? = some (.cells #[u0, u1] 32 (0, 0))) (h3 : PS X w3 Q L F) (h4 : DB w4 (fun q => w3.heap.size ≤ q) a n l da m dc L) (hb4 : Below w3.heap.size w3 w4) :
    (w4.cell? ⟨V, 0, none⟩ = some u0 ∧ w4.cell? ⟨V, 1, none⟩ = some u1 ∧ w4.frozen? ⟨V, 0, none⟩ = false ∧ w4.frozen? ⟨V, 1, none⟩ = false) ∧ Hid (JV w ((w4.setCell ⟨V, 0, none⟩ (.slice a n c)).setCell ⟨V, 1, none⟩ (.slice da m dc)) Q V a n c l m L da dc da dc) := by
  have hVX : V < X.heap.size := (Array.getElem?_eq_some_iff.1 hb).1
  have hbx := below_then h3.below hb4
  have hb2 : w4.heap[V]? = some (.cells #[u0, u1] 32 (0, 0)) := (hbx.block V hVX).trans hb
  have hs := h3.below.size
  refine ⟨⟨cell_block (j := 0) hb2 rfl, cell_block (j := 1) hb2 rfl, free_block 0 hb2, free_block 1 hb2⟩, Lib.hid (jv_over ((h3.base hX).under hb4) h4 (fun g hg _ => ⟨fun hf => ?_, by omega⟩) (fun hf => ?_) hV hb2 hby)⟩
  · have := (h3.lt g hf).2
    omega
  · have := (h3.lt V hf).1
    omega
/-- .. where New refuses. -/
theorem no_turn {w X w3 w4 : World} {V : Nat} {u0 u1 : Value} (hX : Below w.heap.size w X) (hV : w.heap.size ≤ V) (hb : X.heap[V]? = some (.cells #[u0, u1] 32 (0, 0))) (h3 : Below X.heap.size X w3) (h4 : Below w3.heap.size w3 w4) :
    (w4.cell? ⟨V, 0, none⟩ = some u0 ∧ w4.cell? ⟨V, 1, none⟩ = some u1 ∧ w4.frozen? ⟨V, 0, none⟩ = false ∧ w4.frozen? ⟨V, 1, none⟩ = false) ∧ Below w.heap.size w ((w4.setCell ⟨V, 0, none⟩ (.slice none 0 0)).setCell ⟨V, 1, none⟩ (.slice none 0 0)) := by
  have hVX : V < X.heap.size := (Array.getElem?_eq_some_iff.1 hb).1
  have hb2 : w4.heap[V]? = some (.cells #[u0, u1] 32 (0, 0)) := ((below_then h3 h4).block V hVX).trans hb
  exact ⟨⟨cell_block (j := 0) hb2 rfl, cell_block (j := 1) hb2 rfl, free_block 0 hb2, free_block 1 hb2⟩, ((below_then hX (below_then h3 h4)).setCell (p := ⟨V, 0, none⟩) hV _).setCell (p := ⟨V, 1, none⟩) hV _⟩
/-- What a round asks for. -/
structure Told (X : World) (Q V : Nat) (m : Nat) (L : List Ln) (da : Option Addr) (dc : Nat) : Prop where
  drew : Below X.heap.size X X.drew
  cell : ∀ W, Below X.heap.size X W → W.cell? ⟨V, 1, none⟩ = some (.slice da m dc)
  lines : ∀ W, Below X.heap.size X W → Calls Try.prog 15 #[ptr Q] W fun e w' => ∃ a c, e = .returned (.slice a m c) ∧ Hid (LT X w' a m L)
  same : ∀ W a c, LT X W a m L → Calls Try.prog 14 #[.slice a m c, .slice da m dc] W fun e w' => e = .returned (.bool true) ∧ Hid (Below X.heap.size X w')
theorem jv_told {w X : World} {Q V : Nat} {la : Option Addr} {ln lc : Nat} {l : List By} {m : Nat} {L : List Ln} {da : Option Addr} {dc : Nat} (h : JV w X Q V la ln lc l m L da dc da dc) : Told X Q V m L da dc :=
  ⟨(Below.refl _ X).drew, fun _ hW => (h.under hW).cells.1.2, jv_lines h, fun _ _ _ h2 => jv_same h h2⟩
set_option maxRecDepth 100000 in
set_option maxHeartbeats 8000000 in
theorem bayPlays_in (a : Option Addr) (n c : Nat) (l : List By) (a2 : Option Addr) (m c2 : Nat) (ds : List Dn) (a3 : Option Addr) (n3 c3 : Nat) (xs : List Ac) (w : World) (hl : l.length = n) (hs : ByAt w a l) (hnm : n ≤ maxLen) (hm : ds.length = m) (hd : LsAt w (fun g => g < w.heap.size) a2 ds) (hmm : m ≤ maxLen) (hl3 : xs.length = n3) (hs3 : Acs w a3 xs) :
    Calls Try.prog 3 #[.slice a n c, .slice a2 m c2, .slice a3 n3 c3] w fun e w' => e = .returned (.bool true) ∧ Below w.heap.size w w' := by
  have HAW := awake_at w
  have HF := Lib.hid (few_im (N := fun g => g < w.heap.size) a n c a2 m c2 ds w hm hd (by unfold maxLen at hnm; omega) (by unfold maxLen at hmm; omega))
  have HALL : Hid (l.length = n ∧ ByAt w a l ∧ ds.length = m ∧ LsAt w (fun g => g < w.heap.size) a2 ds ∧ xs.length = n3 ∧ Acs w a3 xs) := Lib.hid ⟨hl, hs, hm, hd, hl3, hs3⟩
  clear hl hs hnm hm hd hmm hl3 hs3
  go_enter Try.func3, Try.ntmps3
  go_wp2_with fail
  refine HF.out.mono ?_
  rintro e w' ⟨v, rfl, rfl, H⟩
  obtain ⟨r, rfl, hr⟩ := H.out
  clear HF H
  cases r
  case false =>
    have H0 := Lib.hid (HAW.out w (Below.refl _ _))
    clear hr
    go_wp2_with fail
    refine H0.out.mono ?_
    rintro e w1 ⟨rfl, B1⟩
    go_wp2_with fail
    go_ret
    exact ⟨rfl, B1.out⟩
  by_cases hn40 : (40 : Int) < (n3 : Int)
  · have d1 : decide ((40 : Int) < (n3 : Int)) = true := decide_eq_true hn40
    have H0 := Lib.hid (HAW.out w (Below.refl _ _))
    clear hr
    go_wp2_with fail
    refine H0.out.mono ?_
    rintro e w1 ⟨rfl, B1⟩
    go_wp2_with fail
    go_ret
    exact ⟨rfl, B1.out⟩
  have d1 : decide ((40 : Int) < (n3 : Int)) = false := decide_eq_false hn40
  have hn3 : (n3 : Int) ≤ 40 := by omega
  obtain ⟨f1, f2, f3⟩ := hr rfl
  obtain ⟨hl, hs, hm, hd, hl3, hs3⟩ := HALL.out
  have hrow : ∀ x ∈ ds, x.r.length ≤ 1000 ∧ x.q.length ≤ 1000 := fun x hx => by have := f3 x hx; omega
  have HBY := Lib.hid hs
  have HC : Hid (∀ W i, Below w.heap.size w W → i < n3 → _) := Lib.hid (act_at hl3 hs3)
  have hm24 : (m : Int) ≤ 24 := by omega
  have hn12 : (n : Int) ≤ 12 := by omega
  clear hn40 HALL hr
  have hm0 : m = 0 ∨ 0 < m := Nat.eq_zero_or_pos m
  by_cases hdoc : DocOk l (ds.map Dn.p)
  · have HPL := Lib.hid (ps_load a n c l a2 m c2 ds w hl hs (by omega) hm hd (by omega) hrow hdoc)
    have HDL := Lib.hid (d_load a n c l a2 m c2 ds w hl hs (by omega) hm hd (by omega) hrow hdoc)
    have HPN := Lib.hid (p_new a n c l w hl hs (by omega) hdoc.1)
    have HDN := Lib.hid (d_new a n c l w hl hs (by omega) hdoc.1)
    obtain ⟨L0, hL0⟩ : ∃ L0, mkL l 0 (ds.map Dn.p) = L0 := ⟨_, rfl⟩
    rw [hL0] at HPL HDL
    clear hl hs hm hd hl3 hs3 f1 f2 f3 hrow hdoc hL0
    go_wp2_with fail
    refine HPL.out.mono ?_
    rintro e w1 ⟨Q, rfl, H1⟩
    have H2 := Lib.hid (HDL.out w1 (by obtain ⟨F, h⟩ := H1.out; exact h.below))
    clear HPL HDL
    go_wp2_with fail
    refine H2.out.mono ?_
    rintro e w2 ⟨da0, dc0, rfl, H3⟩
    obtain ⟨V, X0, X, hV, hX0, hXX, ⟨x0, x1, xf0, xf1⟩, ⟨u0, u1⟩, HX⟩ := box_two2 w2 a n c da0 m dc0
    have HJ : Hid (JV w X Q V a n c l m L0 da0 dc0 da0 dc0) := Lib.hid (by
      obtain ⟨F, h1⟩ := H1.out
      exact jv_new (h1.under H3.out.2) H3.out.1 (fun g hg _ hf => by have := h1.lt g hf; omega) HX.out.2.1 HX.out.1 HX.out.2.2)
    clear H1 H2 H3 u0 u1
    rcases hm0 with rfl | hm0
    · have HBX := Lib.hid (⟨HJ.out.below, by obtain ⟨F, _, _, _, h⟩ := HJ.out; exact h, HX.out.2.2⟩ : Below w.heap.size w X ∧ w.heap.size ≤ V ∧ _)
      have HPX := Lib.hid (HPN.out X HJ.out.below)
      clear HJ HX HPN
      go_wp2_with fail
      clear hV hX0 hXX x0 x1 xf0 xf1
      refine HPX.out.mono ?_
      rintro e w3 ⟨Q, rfl, H3⟩
      have H4 := Lib.hid (HDN.out w3 (by obtain ⟨F, h⟩ := H3.out; exact below_then HBX.out.1 h.below))
      clear HPX HDN
      go_wp2_with fail
      refine H4.out.mono ?_
      rintro e w4 ⟨da0, dc0, rfl, H5⟩
      obtain ⟨⟨x0, x1, xf0, xf1⟩, HJ⟩ : (_ ∧ _ ∧ _ ∧ _) ∧ Hid (JV w ((w4.setCell ⟨V, 0, none⟩ (.slice a n c)).setCell ⟨V, 1, none⟩ (.slice da0 (2 * n) dc0)) Q V a n c l (2 * n) (newL l) da0 dc0 da0 dc0) := by
        obtain ⟨F, h⟩ := H3.out
        exact jv_turn HBY.out HBX.out.1 HBX.out.2.1 HBX.out.2.2 h H5.out.1 H5.out.2
      obtain ⟨X, hXX⟩ : ∃ X, (w4.setCell ⟨V, 0, none⟩ (.slice a n c)).setCell ⟨V, 1, none⟩ (.slice da0 (2 * n) dc0) = X := ⟨_, rfl⟩
      rw [hXX] at HJ
      clear H3 H4 H5 HBX
      go_wp2_with fail
      clear hXX x0 x1 xf0 xf1
      go_loopw [11] (fun t wr => ∃ (i : Nat) (L : List Ln) (da : Option Addr) (dc : Nat), t = .int .i64 i ∧ i ≤ n3 ∧ Hid (JV w wr Q V a n c l (2 * n) L da dc da dc)) (fun t _ => n3 - (RowKit.intOf t).toNat)
      case atStart => exact ⟨0, newL l, da0, dc0, rfl, by omega, HJ⟩
      case round =>
        clear HJ
        obtain ⟨i, L, da, dc, rfl, hi, HJ⟩ := hrel
        by_cases hlt : i < n3
        · have hlt2 : (i : Int) < (n3 : Int) := by omega
          obtain ⟨g, off, x, rfl, k0, k1, k2, k3⟩ := HC.out wr i HJ.out.below hlt
          obtain ⟨⟨v0, v1⟩, _⟩ := HJ.out.cells
          obtain ⟨U1, Xb, hU1, hXb, HXb⟩ := zero_b wr
          have j0 := cell_under HXb.out.1 k0
          have j1 := cell_under HXb.out.1 k1
          have j2 := cell_under HXb.out.1 k2
          have j3 := cell_under HXb.out.1 k3
          have i0 := cell_under HXb.out.1 v0
          have i1 := cell_under HXb.out.1 v1
          have HDO := Lib.hid (jv_do x HJ.out HBY.out Xb.drew HXb.out.1.drew U1 (by omega) (HXb.out.2.2 Xb (Below.refl _ _)))
          have HD0 := Lib.hid (jv_do0 x HJ.out HBY.out wr.drew (Below.refl _ wr).drew)
          go_wp2_with fail
          go_region_with (first
            | (go_at_call 13; (with_reducible refine HDO.out.mono ?_); rintro e w4 ⟨a', c', rfl, ⟨x0, x1, xf0, xf1⟩, H4⟩; obtain ⟨X, hXX⟩ : ∃ X, (w4.setCell ⟨U1, 0, none⟩ (.slice a n c)).setCell ⟨U1, 1, none⟩ (.slice a' (2 * n) c') = X := ⟨_, rfl⟩; have HJ2 := Lib.hid (H4.out X hXX).1; obtain ⟨u0, u1⟩ := (H4.out X hXX).2; obtain ⟨⟨y0, y1⟩, yf0, yf1⟩ := HJ2.out.cells)
            | (go_at_call 13; (with_reducible refine HD0.out.mono ?_); rintro e w4 ⟨a', c', rfl, H4⟩; obtain ⟨U, X0, X, hU, hX0, hXX, ⟨x0, x1, xf0, xf1⟩, ⟨u0, u1⟩, HX⟩ := box_two2 w4 a n c a' (2 * n) c'; have HJ2 := Lib.hid (H4.out.under HX.out.2.1); obtain ⟨⟨y0, y1⟩, yf0, yf1⟩ := HJ2.out.cells))
          all_goals
            obtain ⟨Y, hY⟩ : ∃ Y, (X.setCell ⟨V, 0, none⟩ (.slice a n c)).setCell ⟨V, 1, none⟩ (.slice a' (2 * n) c') = Y := ⟨_, rfl⟩
            have HK : Hid (JV w Y Q V a n c l (2 * n) (actL L x) a' c' a' c') := Lib.hid (by rw [← hY]; exact HJ2.out.store HBY.out)
            have HE := Lib.hid (jv_told HK.out)
            obtain ⟨_, z1⟩ := HK.out.cells.1
            clear HDO HD0 k0 k1 k2 k3 j0 j1 j2 j3 v0 v1 i0 i1 HJ HJ2
            go_wp2_with fail
            clear hY x0 x1 xf0 xf1 u0 u1 y0 y1 yf0 yf1
            go_region_held3 (fun W => W.cell? ⟨V, 1, none⟩ = some (.slice a' (2 * n) c'))
              (first | with_reducible exact HE.out.cell _ HX4.out | with_reducible exact HE.out.cell _ HX3.out | with_reducible exact HE.out.cell _ HE.out.drew)
              (first
                | (go_at_call 14; (with_reducible refine (HE.out.same _ _ _ HT.out).mono ?_); rintro e w6 ⟨rfl, HX4⟩)
                | (go_at_call 15; (with_reducible refine (HE.out.lines _ HE.out.drew).mono ?_); rintro e w5 ⟨a5, c5, rfl, HT⟩; have HX3 := Lib.hid HT.out.1))
            have HK2 := Lib.hid (HK.out.under HX4.out)
            clear HK HE HX3 HX4 HT z1
            go_wp2_with fail
            exact ⟨⟨i + 1, actL L x, a', c', by go_num, by omega, HK2⟩, by simp [RowKit.intOf]; omega⟩
        · obtain rfl : i = n3 := by omega
          have HE := Lib.hid (jv_told HJ.out)
          have HA := awake_at wr
          have HB := Lib.hid HJ.out.below
          obtain ⟨_, z1⟩ := HJ.out.cells.1
          clear HAW HBY HC HJ
          go_wp2_with fail
          go_region_held3 (fun W => W.cell? ⟨V, 1, none⟩ = some (.slice da (2 * n) dc))
            (first | with_reducible exact HE.out.cell _ HX5.out | with_reducible exact HE.out.cell _ HX4.out | with_reducible exact HE.out.cell _ HX3.out | with_reducible exact HE.out.cell _ HE.out.drew)
            (first
              | (go_at_call 8; (with_reducible refine (HA.out _ HX4.out).mono ?_); rintro e w7 ⟨rfl, HX5⟩)
              | (go_at_call 14; (with_reducible refine (HE.out.same _ _ _ HT.out).mono ?_); rintro e w6 ⟨rfl, HX4⟩)
              | (go_at_call 15; (with_reducible refine (HE.out.lines _ HE.out.drew).mono ?_); rintro e w5 ⟨a5, c5, rfl, HT⟩; have HX3 := Lib.hid HT.out.1))
          all_goals
            go_wp2_with fail
            go_ret
            exact ⟨rfl, below_then HB.out HX5.out⟩
    · have hm1 : ((m : Int) == 0) = false := beq_eq_false_iff_ne.2 (by omega)
      clear HPN HDN HX
      go_wp2_with fail
      clear hV hX0 hXX x0 x1 xf0 xf1
      go_loopw [11] (fun t wr => ∃ (i : Nat) (L : List Ln) (da : Option Addr) (dc : Nat), t = .int .i64 i ∧ i ≤ n3 ∧ Hid (JV w wr Q V a n c l m L da dc da dc)) (fun t _ => n3 - (RowKit.intOf t).toNat)
      case atStart => exact ⟨0, L0, da0, dc0, rfl, by omega, HJ⟩
      case round =>
        clear HJ
        obtain ⟨i, L, da, dc, rfl, hi, HJ⟩ := hrel
        by_cases hlt : i < n3
        · have hlt2 : (i : Int) < (n3 : Int) := by omega
          obtain ⟨g, off, x, rfl, k0, k1, k2, k3⟩ := HC.out wr i HJ.out.below hlt
          obtain ⟨⟨v0, v1⟩, _⟩ := HJ.out.cells
          obtain ⟨U1, Xb, hU1, hXb, HXb⟩ := zero_b wr
          have j0 := cell_under HXb.out.1 k0
          have j1 := cell_under HXb.out.1 k1
          have j2 := cell_under HXb.out.1 k2
          have j3 := cell_under HXb.out.1 k3
          have i0 := cell_under HXb.out.1 v0
          have i1 := cell_under HXb.out.1 v1
          have HDO := Lib.hid (jv_do x HJ.out HBY.out Xb.drew HXb.out.1.drew U1 (by omega) (HXb.out.2.2 Xb (Below.refl _ _)))
          have HD0 := Lib.hid (jv_do0 x HJ.out HBY.out wr.drew (Below.refl _ wr).drew)
          go_wp2_with fail
          go_region_with (first
            | (go_at_call 13; (with_reducible refine HDO.out.mono ?_); rintro e w4 ⟨a', c', rfl, ⟨x0, x1, xf0, xf1⟩, H4⟩; obtain ⟨X, hXX⟩ : ∃ X, (w4.setCell ⟨U1, 0, none⟩ (.slice a n c)).setCell ⟨U1, 1, none⟩ (.slice a' m c') = X := ⟨_, rfl⟩; have HJ2 := Lib.hid (H4.out X hXX).1; obtain ⟨u0, u1⟩ := (H4.out X hXX).2; obtain ⟨⟨y0, y1⟩, yf0, yf1⟩ := HJ2.out.cells)
            | (go_at_call 13; (with_reducible refine HD0.out.mono ?_); rintro e w4 ⟨a', c', rfl, H4⟩; obtain ⟨U, X0, X, hU, hX0, hXX, ⟨x0, x1, xf0, xf1⟩, ⟨u0, u1⟩, HX⟩ := box_two2 w4 a n c a' m c'; have HJ2 := Lib.hid (H4.out.under HX.out.2.1); obtain ⟨⟨y0, y1⟩, yf0, yf1⟩ := HJ2.out.cells))
          all_goals
            obtain ⟨Y, hY⟩ : ∃ Y, (X.setCell ⟨V, 0, none⟩ (.slice a n c)).setCell ⟨V, 1, none⟩ (.slice a' m c') = Y := ⟨_, rfl⟩
            have HK : Hid (JV w Y Q V a n c l m (actL L x) a' c' a' c') := Lib.hid (by rw [← hY]; exact HJ2.out.store HBY.out)
            have HE := Lib.hid (jv_told HK.out)
            obtain ⟨_, z1⟩ := HK.out.cells.1
            clear HDO HD0 k0 k1 k2 k3 j0 j1 j2 j3 v0 v1 i0 i1 HJ HJ2
            go_wp2_with fail
            clear hY x0 x1 xf0 xf1 u0 u1 y0 y1 yf0 yf1
            go_region_held3 (fun W => W.cell? ⟨V, 1, none⟩ = some (.slice a' m c'))
              (first | with_reducible exact HE.out.cell _ HX4.out | with_reducible exact HE.out.cell _ HX3.out | with_reducible exact HE.out.cell _ HE.out.drew)
              (first
                | (go_at_call 14; (with_reducible refine (HE.out.same _ _ _ HT.out).mono ?_); rintro e w6 ⟨rfl, HX4⟩)
                | (go_at_call 15; (with_reducible refine (HE.out.lines _ HE.out.drew).mono ?_); rintro e w5 ⟨a5, c5, rfl, HT⟩; have HX3 := Lib.hid HT.out.1))
            have HK2 := Lib.hid (HK.out.under HX4.out)
            clear HK HE HX3 HX4 HT z1
            go_wp2_with fail
            exact ⟨⟨i + 1, actL L x, a', c', by go_num, by omega, HK2⟩, by simp [RowKit.intOf]; omega⟩
        · obtain rfl : i = n3 := by omega
          have HE := Lib.hid (jv_told HJ.out)
          have HA := awake_at wr
          have HB := Lib.hid HJ.out.below
          obtain ⟨_, z1⟩ := HJ.out.cells.1
          clear HAW HBY HC HJ
          go_wp2_with fail
          go_region_held3 (fun W => W.cell? ⟨V, 1, none⟩ = some (.slice da m dc))
            (first | with_reducible exact HE.out.cell _ HX5.out | with_reducible exact HE.out.cell _ HX4.out | with_reducible exact HE.out.cell _ HX3.out | with_reducible exact HE.out.cell _ HE.out.drew)
            (first
              | (go_at_call 8; (with_reducible refine (HA.out _ HX4.out).mono ?_); rintro e w7 ⟨rfl, HX5⟩)
              | (go_at_call 14; (with_reducible refine (HE.out.same _ _ _ HT.out).mono ?_); rintro e w6 ⟨rfl, HX4⟩)
              | (go_at_call 15; (with_reducible refine (HE.out.lines _ HE.out.drew).mono ?_); rintro e w5 ⟨a5, c5, rfl, HT⟩; have HX3 := Lib.hid HT.out.1))
          all_goals
            go_wp2_with fail
            go_ret
            exact ⟨rfl, below_then HB.out HX5.out⟩
  · have HPL := Lib.hid (ps_load_no a n c l a2 m c2 ds w hl hs (by omega) hm hd (by omega) hrow hdoc)
    have HDL := Lib.hid (d_load_no a n c l a2 m c2 ds w hl hs (by omega) hm hd (by omega) hrow hdoc)
    have HPY := Lib.hid (p_new a n c l w hl hs (by omega))
    have HDY := Lib.hid (d_new a n c l w hl hs (by omega))
    have HPN := Lib.hid (p_new_no a n c l w hl hs (by omega))
    have HDN := Lib.hid (d_new_no a n c l w hl hs (by omega))
    clear hl hs hm hd hl3 hs3 f1 f2 f3 hrow hdoc
    go_wp2_with fail
    refine HPL.out.mono ?_
    rintro e w1 ⟨rfl, H1⟩
    have H2 := Lib.hid (HDL.out w1 H1.out)
    clear HPL HDL
    go_wp2_with fail
    refine H2.out.mono ?_
    rintro e w2 ⟨rfl, H3⟩
    obtain ⟨V, X0, X, hV, hX0, hXX, ⟨x0, x1, xf0, xf1⟩, ⟨u0, u1⟩, HX⟩ := box_two2 w2 none 0 0 none 0 0
    have HBX := Lib.hid (⟨below_then (below_then H1.out H3.out) HX.out.2.1, Nat.le_trans (below_then H1.out H3.out).size HX.out.1, HX.out.2.2⟩ : Below w.heap.size w X ∧ w.heap.size ≤ V ∧ _)
    clear H1 H2 H3 HX u0 u1
    rcases hm0 with rfl | hm0
    · by_cases hM : MayB l
      · have HPX := Lib.hid (HPY.out hM X HBX.out.1)
        have HDX := Lib.hid (HDY.out hM)
        clear HPY HPN HDY HDN hM
        go_wp2_with fail
        clear hV hX0 hXX x0 x1 xf0 xf1
        refine HPX.out.mono ?_
        rintro e w3 ⟨Q, rfl, H3⟩
        have H4 := Lib.hid (HDX.out w3 (by obtain ⟨F, h⟩ := H3.out; exact below_then HBX.out.1 h.below))
        clear HPX HDX
        go_wp2_with fail
        refine H4.out.mono ?_
        rintro e w4 ⟨da0, dc0, rfl, H5⟩
        obtain ⟨⟨x0, x1, xf0, xf1⟩, HJ⟩ : (_ ∧ _ ∧ _ ∧ _) ∧ Hid (JV w ((w4.setCell ⟨V, 0, none⟩ (.slice a n c)).setCell ⟨V, 1, none⟩ (.slice da0 (2 * n) dc0)) Q V a n c l (2 * n) (newL l) da0 dc0 da0 dc0) := by
          obtain ⟨F, h⟩ := H3.out
          exact jv_turn HBY.out HBX.out.1 HBX.out.2.1 HBX.out.2.2 h H5.out.1 H5.out.2
        obtain ⟨X, hXX⟩ : ∃ X, (w4.setCell ⟨V, 0, none⟩ (.slice a n c)).setCell ⟨V, 1, none⟩ (.slice da0 (2 * n) dc0) = X := ⟨_, rfl⟩
        rw [hXX] at HJ
        clear H3 H4 H5 HBX
        go_wp2_with fail
        clear hXX x0 x1 xf0 xf1
        go_loopw [11] (fun t wr => ∃ (i : Nat) (L : List Ln) (da : Option Addr) (dc : Nat), t = .int .i64 i ∧ i ≤ n3 ∧ Hid (JV w wr Q V a n c l (2 * n) L da dc da dc)) (fun t _ => n3 - (RowKit.intOf t).toNat)
        case atStart => exact ⟨0, newL l, da0, dc0, rfl, by omega, HJ⟩
        case round =>
          clear HJ
          obtain ⟨i, L, da, dc, rfl, hi, HJ⟩ := hrel
          by_cases hlt : i < n3
          · have hlt2 : (i : Int) < (n3 : Int) := by omega
            obtain ⟨g, off, x, rfl, k0, k1, k2, k3⟩ := HC.out wr i HJ.out.below hlt
            obtain ⟨⟨v0, v1⟩, _⟩ := HJ.out.cells
            obtain ⟨U1, Xb, hU1, hXb, HXb⟩ := zero_b wr
            have j0 := cell_under HXb.out.1 k0
            have j1 := cell_under HXb.out.1 k1
            have j2 := cell_under HXb.out.1 k2
            have j3 := cell_under HXb.out.1 k3
            have i0 := cell_under HXb.out.1 v0
            have i1 := cell_under HXb.out.1 v1
            have HDO := Lib.hid (jv_do x HJ.out HBY.out Xb.drew HXb.out.1.drew U1 (by omega) (HXb.out.2.2 Xb (Below.refl _ _)))
            have HD0 := Lib.hid (jv_do0 x HJ.out HBY.out wr.drew (Below.refl _ wr).drew)
            go_wp2_with fail
            go_region_with (first
              | (go_at_call 13; (with_reducible refine HDO.out.mono ?_); rintro e w4 ⟨a', c', rfl, ⟨x0, x1, xf0, xf1⟩, H4⟩; obtain ⟨X, hXX⟩ : ∃ X, (w4.setCell ⟨U1, 0, none⟩ (.slice a n c)).setCell ⟨U1, 1, none⟩ (.slice a' (2 * n) c') = X := ⟨_, rfl⟩; have HJ2 := Lib.hid (H4.out X hXX).1; obtain ⟨u0, u1⟩ := (H4.out X hXX).2; obtain ⟨⟨y0, y1⟩, yf0, yf1⟩ := HJ2.out.cells)
              | (go_at_call 13; (with_reducible refine HD0.out.mono ?_); rintro e w4 ⟨a', c', rfl, H4⟩; obtain ⟨U, X0, X, hU, hX0, hXX, ⟨x0, x1, xf0, xf1⟩, ⟨u0, u1⟩, HX⟩ := box_two2 w4 a n c a' (2 * n) c'; have HJ2 := Lib.hid (H4.out.under HX.out.2.1); obtain ⟨⟨y0, y1⟩, yf0, yf1⟩ := HJ2.out.cells))
            all_goals
              obtain ⟨Y, hY⟩ : ∃ Y, (X.setCell ⟨V, 0, none⟩ (.slice a n c)).setCell ⟨V, 1, none⟩ (.slice a' (2 * n) c') = Y := ⟨_, rfl⟩
              have HK : Hid (JV w Y Q V a n c l (2 * n) (actL L x) a' c' a' c') := Lib.hid (by rw [← hY]; exact HJ2.out.store HBY.out)
              have HE := Lib.hid (jv_told HK.out)
              obtain ⟨_, z1⟩ := HK.out.cells.1
              clear HDO HD0 k0 k1 k2 k3 j0 j1 j2 j3 v0 v1 i0 i1 HJ HJ2
              go_wp2_with fail
              clear hY x0 x1 xf0 xf1 u0 u1 y0 y1 yf0 yf1
              go_region_held3 (fun W => W.cell? ⟨V, 1, none⟩ = some (.slice a' (2 * n) c'))
                (first | with_reducible exact HE.out.cell _ HX4.out | with_reducible exact HE.out.cell _ HX3.out | with_reducible exact HE.out.cell _ HE.out.drew)
                (first
                  | (go_at_call 14; (with_reducible refine (HE.out.same _ _ _ HT.out).mono ?_); rintro e w6 ⟨rfl, HX4⟩)
                  | (go_at_call 15; (with_reducible refine (HE.out.lines _ HE.out.drew).mono ?_); rintro e w5 ⟨a5, c5, rfl, HT⟩; have HX3 := Lib.hid HT.out.1))
              have HK2 := Lib.hid (HK.out.under HX4.out)
              clear HK HE HX3 HX4 HT z1
              go_wp2_with fail
              exact ⟨⟨i + 1, actL L x, a', c', by go_num, by omega, HK2⟩, by simp [RowKit.intOf]; omega⟩
          · obtain rfl : i = n3 := by omega
            have HE := Lib.hid (jv_told HJ.out)
            have HA := awake_at wr
            have HB := Lib.hid HJ.out.below
            obtain ⟨_, z1⟩ := HJ.out.cells.1
            clear HAW HBY HC HJ
            go_wp2_with fail
            go_region_held3 (fun W => W.cell? ⟨V, 1, none⟩ = some (.slice da (2 * n) dc))
              (first | with_reducible exact HE.out.cell _ HX5.out | with_reducible exact HE.out.cell _ HX4.out | with_reducible exact HE.out.cell _ HX3.out | with_reducible exact HE.out.cell _ HE.out.drew)
              (first
                | (go_at_call 8; (with_reducible refine (HA.out _ HX4.out).mono ?_); rintro e w7 ⟨rfl, HX5⟩)
                | (go_at_call 14; (with_reducible refine (HE.out.same _ _ _ HT.out).mono ?_); rintro e w6 ⟨rfl, HX4⟩)
                | (go_at_call 15; (with_reducible refine (HE.out.lines _ HE.out.drew).mono ?_); rintro e w5 ⟨a5, c5, rfl, HT⟩; have HX3 := Lib.hid HT.out.1))
            all_goals
              go_wp2_with fail
              go_ret
              exact ⟨rfl, below_then HB.out HX5.out⟩
      · have HPX := Lib.hid (HPN.out hM X HBX.out.1)
        have HDX := Lib.hid (HDN.out hM)
        clear HPY HPN HDY HDN hM
        go_wp2_with fail
        clear hV hX0 hXX x0 x1 xf0 xf1
        refine HPX.out.mono ?_
        rintro e w3 ⟨rfl, H3⟩
        have H4 := Lib.hid (HDX.out w3 (below_then HBX.out.1 H3.out))
        clear HPX HDX
        go_wp2_with fail
        refine H4.out.mono ?_
        rintro e w4 ⟨rfl, H5⟩
        obtain ⟨⟨x0, x1, xf0, xf1⟩, HW0⟩ := no_turn HBX.out.1 HBX.out.2.1 HBX.out.2.2 H3.out H5.out
        obtain ⟨X, hXX⟩ : ∃ X, (w4.setCell ⟨V, 0, none⟩ (.slice none 0 0)).setCell ⟨V, 1, none⟩ (.slice none 0 0) = X := ⟨_, rfl⟩
        rw [hXX] at HW0
        have HW := Lib.hid HW0
        clear H3 H4 H5 HBX HW0
        go_wp2_with fail
        clear hXX x0 x1 xf0 xf1
        go_loopw [11] (fun t wr => t = .int .i64 0 ∧ Hid (Below w.heap.size w wr)) (fun _ _ => 0)
        case atStart => exact ⟨rfl, HW⟩
        case round =>
          clear HW
          obtain ⟨rfl, HW⟩ := hrel
          have HA := Lib.hid (HAW.out wr.drew HW.out.drew)
          rcases Nat.eq_zero_or_pos n3 with rfl | hp
          · go_wp2_with fail
            first | (go_region_with (first | (go_at_call 8; (with_reducible refine HA.out.mono ?_); rintro e w9 ⟨rfl, B1⟩))) | fail
            all_goals
              go_wp2_with fail
              go_ret
              exact ⟨rfl, B1.out⟩
          · have hp2 : (0 : Int) < (n3 : Int) := by omega
            go_wp2_with fail
            first | (go_region_with (first | (go_at_call 8; (with_reducible refine HA.out.mono ?_); rintro e w9 ⟨rfl, B1⟩))) | fail
            all_goals
              go_wp2_with fail
              go_ret
              exact ⟨rfl, B1.out⟩
    · have hm1 : ((m : Int) == 0) = false := beq_eq_false_iff_ne.2 (by omega)
      have HW := Lib.hid HBX.out.1
      clear HPY HPN HDY HDN HBX
      go_wp2_with fail
      clear hV hX0 hXX x0 x1 xf0 xf1
      go_loopw [11] (fun t wr => t = .int .i64 0 ∧ Hid (Below w.heap.size w wr)) (fun _ _ => 0)
      case atStart => exact ⟨rfl, HW⟩
      case round =>
        clear HW
        obtain ⟨rfl, HW⟩ := hrel
        have HA := Lib.hid (HAW.out wr.drew HW.out.drew)
        rcases Nat.eq_zero_or_pos n3 with rfl | hp
        · go_wp2_with fail
          first | (go_region_with (first | (go_at_call 8; (with_reducible refine HA.out.mono ?_); rintro e w9 ⟨rfl, B1⟩))) | fail
          all_goals
            go_wp2_with fail
            go_ret
            exact ⟨rfl, B1.out⟩
        · have hp2 : (0 : Int) < (n3 : Int) := by omega
          go_wp2_with fail
          first | (go_region_with (first | (go_at_call 8; (with_reducible refine HA.out.mono ?_); rintro e w9 ⟨rfl, B1⟩))) | fail
          all_goals
            go_wp2_with fail
            go_ret
            exact ⟨rfl, B1.out⟩
end Go.Proofs.Ytokkefokodcphaa.Bay
