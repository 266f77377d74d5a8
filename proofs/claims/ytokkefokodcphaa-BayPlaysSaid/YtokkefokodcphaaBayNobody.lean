/- BayNobody: bays that nobody made; which bays there may be. -/
import Derived.Test.YtokkefokodcphaaBayAwake
import Derived.Test.YtokkefokodcphaaBayNil
import Derived.Test.YtokkefokodcphaaBayDo
import Derived.Test.YtokkefokodcphaaBayDl
namespace Go.Proofs.Ytokkefokodcphaa.Bay
open Go.RowKit Go.Lib IRows

theorem box_ac (w : World) (x : Ac) : ∃ U Y, w.heap.size = U ∧ w.alloc (.cells #[.int .i64 x.k, .int .i64 x.b, .int .i64 x.s, .int .i64 x.j] 40) = Y ∧ Hid (Below w.heap.size w Y) ∧ Hid (∀ W, Below Y.heap.size Y W → W.cell? ⟨U, 0, none⟩ = some (.int .i64 x.k) ∧ W.cell? ⟨U, 1, none⟩ = some (.int .i64 x.b) ∧ W.cell? ⟨U, 2, none⟩ = some (.int .i64 x.s) ∧ W.cell? ⟨U, 3, none⟩ = some (.int .i64 x.j)) := by
  have hb := heap_alloc_new w (.cells #[.int .i64 x.k, .int .i64 x.b, .int .i64 x.s, .int .i64 x.j] 40)
  refine ⟨_, _, rfl, rfl, Lib.hid ((Below.refl _ _).alloc (Nat.le_refl _) _), Lib.hid fun W hW => ?_⟩
  have h := (hW.block _ (Array.getElem?_eq_some_iff.1 hb).1).trans hb
  exact ⟨cell_block (j := 0) h rfl, cell_block (j := 1) h rfl, cell_block (j := 2) h rfl, cell_block (j := 3) h rfl⟩
/-- nil and zero bays in a row. -/
theorem box_two (w : World) : ∃ B Y S Z, w.heap.size = B ∧ w.alloc (.cells #[.bool false, .slice none 0 0] 58) = Y ∧ Y.heap.size = S ∧ Y.alloc (.cells #[.pointer none, .pointer (some ⟨B, 0, none⟩)] 27) = Z ∧ Hid (Below w.heap.size w Z ∧ NilB Z (.pointer (some ⟨B, 0, none⟩)) ∧ ∀ W, Below Z.heap.size Z W → W.cell? ⟨S, 0, none⟩ = some (.pointer none) ∧ W.cell? ⟨S, 1, none⟩ = some (.pointer (some ⟨B, 0, none⟩))) := by
  have h1 := heap_alloc_new w (.cells #[.bool false, .slice none 0 0] 58)
  obtain ⟨Y, hY⟩ : ∃ Y, w.alloc (.cells #[.bool false, .slice none 0 0] 58) = Y := ⟨_, rfl⟩
  have b1 : Below w.heap.size w Y := by rw [← hY]; exact (Below.refl _ _).alloc (Nat.le_refl _) _
  rw [hY] at h1
  have h2 := heap_alloc_new Y (.cells #[.pointer none, .pointer (some ⟨w.heap.size, 0, none⟩)] 27)
  obtain ⟨Z, hZ⟩ : ∃ Z, Y.alloc (.cells #[.pointer none, .pointer (some ⟨w.heap.size, 0, none⟩)] 27) = Z := ⟨_, rfl⟩
  have b2 : Below Y.heap.size Y Z := by rw [← hZ]; exact (Below.refl _ _).alloc (Nat.le_refl _) _
  rw [hZ] at h2
  refine ⟨_, Y, _, Z, rfl, hY, rfl, hZ, Lib.hid ⟨below_then b1 b2, .inr ⟨_, rfl, (b2.block _ (Array.getElem?_eq_some_iff.1 h1).1).trans h1⟩, fun W hW => ?_⟩⟩
  have h := (hW.block _ (Array.getElem?_eq_some_iff.1 h2).1).trans h2
  exact ⟨cell_block (j := 0) h rfl, cell_block (j := 1) h rfl⟩
/-- Their calls. -/
structure NilC (X : World) (v : Value) : Prop where
  ask : ∀ b s j W, Below X.heap.size X W → Calls Try.prog 16 #[v, .int .i64 b, .int .i64 s, .int .i64 j] W fun e w' => e = .returned (.tuple #[.bool false, .int .i64 1]) ∧ Hid (Below X.heap.size X w')
  leave : ∀ j W, Below X.heap.size X W → Calls Try.prog 17 #[v, .int .i64 j] W fun e w' => e = .returned (.tuple #[.int .i64 0, .int .i64 1]) ∧ Hid (Below X.heap.size X w')
  wher : ∀ j W, Below X.heap.size X W → Calls Try.prog 18 #[v, .int .i64 j] W fun e w' => e = .returned (.tuple #[.int .i64 0, .int .i64 0, .int .i64 0, .int .i64 1]) ∧ Hid (Below X.heap.size X w')
  free : ∀ b s W, Below X.heap.size X W → Calls Try.prog 19 #[v, .int .i64 b, .int .i64 s] W fun e w' => e = .returned (.tuple #[.int .i64 0, .int .i64 1]) ∧ Hid (Below X.heap.size X w')
  lines : ∀ W, Below X.heap.size X W → Calls Try.prog 15 #[v] W fun e w' => e = .returned (.slice none 0 0) ∧ Hid (Below X.heap.size X w')
  clone : ∀ W, Below X.heap.size X W → Calls Try.prog 20 #[v] W fun e w' => e = .returned (.pointer none) ∧ Hid (Below X.heap.size X w')
theorem nil_calls {X : World} {v : Value} (h : NilB X v) : NilC X v :=
  ⟨fun b s j W hW => (ask_nil b s j W (h.under hW)).mono fun _ _ ⟨e, g⟩ => ⟨e, Lib.hid (below_then hW g)⟩,
   fun j W hW => (leave_nil j W (h.under hW)).mono fun _ _ ⟨e, g⟩ => ⟨e, Lib.hid (below_then hW g)⟩,
   fun j W hW => (where_nil j W (h.under hW)).mono fun _ _ ⟨e, g⟩ => ⟨e, Lib.hid (below_then hW g)⟩,
   fun b s W hW => (free_nil b s W (h.under hW)).mono fun _ _ ⟨e, g⟩ => ⟨e, Lib.hid (below_then hW g)⟩,
   fun W hW => (lines_nil W (h.under hW)).mono fun _ _ ⟨e, g⟩ => ⟨e, Lib.hid (below_then hW g)⟩,
   fun W hW => (clone_nil W (h.under hW)).mono fun _ _ ⟨e, g⟩ => ⟨e, Lib.hid (below_then hW g)⟩⟩
/-- Lines told, to be held against the document's. -/
def LT (X W : World) (a : Option Addr) (m : Nat) (L : List Ln) : Prop := Below X.heap.size X W ∧ ∃ ds : List Dn, ds.length = m ∧ ds.map Dn.p = L.map Ln.p ∧ (∃ N, LsAt W N a ds) ∧ ∀ x ∈ ds, x.r.length ≤ 8 ∧ x.q.length ≤ 8
theorem lt_lines {w X : World} {Q : Nat} {L : List Ln} {F : Nat → Prop} {m : Nat} (h : PS w X Q L F) (hm : L.length = m) (W : World) (hW : Below X.heap.size X W) : Calls Try.prog 15 #[ptr Q] W fun e w' => ∃ a c, e = .returned (.slice a m c) ∧ Hid (LT X w' a m L) := by
  refine (ps_lines (h.under hW)).mono ?_
  rintro e w' ⟨a, n, c, rfl, B, H⟩
  obtain ⟨ds, g1, g2, g3, g4, g5, _⟩ := H.out
  obtain rfl : n = m := g5.trans hm
  exact ⟨a, c, rfl, Lib.hid ⟨below_then hW B.out, ds, g1, g2, ⟨_, g3⟩, g4⟩⟩
theorem lt_same {X W : World} {a : Option Addr} {m c : Nat} {L : List Ln} {N : Nat → Prop} {la da : Option Addr} {ln dc : Nat} {l : List By} (h : LT X W a m L) (hd : DB X N la ln l da m dc L) (hm : m ≤ 100) : Calls Try.prog 14 #[.slice a m c, .slice da m dc] W fun e w' => e = .returned (.bool true) ∧ Hid (Below X.heap.size X w') := by
  obtain ⟨hb, ds, g1, g2, ⟨N1, g3⟩, g4⟩ := h
  obtain ⟨_, _, _, _, _, d2, d3, d4⟩ := hd
  exact (same_yes a m c ds da dc d2 W g1 g3 (d3.under hb) (g2.trans d4.symm) (by omega) (fun x hx => by have := g4 x hx; omega)).mono fun _ _ ⟨e, g⟩ => ⟨e, Lib.hid (below_then hb g)⟩
set_option maxRecDepth 100000 in
set_option maxHeartbeats 8000000 in
theorem bayNobody_in (a : Option Addr) (n c : Nat) (l : List By) (x : Ac) (w : World) (hl : l.length = n) (hs : ByAt w a l) :
    Calls Try.prog 5 #[.slice a n c, acV x] w fun e w' => e = .returned (.bool true) ∧ Below w.heap.size w w' := by
  have HAW := awake_at w
  obtain ⟨U, Y, hU, hY, HY, HU⟩ := box_ac w x
  by_cases hn12 : (12 : Int) < (n : Int)
  · have d1 : decide ((12 : Int) < (n : Int)) = true := decide_eq_true hn12
    have H0 := Lib.hid (HAW.out _ HY.out)
    clear hl hs
    go_enter Try.func5, Try.ntmps5
    go_wp2_with fail
    refine H0.out.mono ?_
    rintro e w1 ⟨rfl, B1⟩
    go_wp2_with fail
    go_ret
    exact ⟨rfl, B1.out⟩
  have d1 : decide ((12 : Int) < (n : Int)) = false := decide_eq_false hn12
  have hn : n ≤ 12 := by omega
  -- the loop, from any world behind the lines
  by_cases hM : MayB l
  · obtain ⟨m, hm⟩ : ∃ m : Nat, 2 * n = m := ⟨_, rfl⟩
    have HM : Hid (m ≤ 100 ∧ (newL l).length = m) := Lib.hid ⟨by omega, by rw [newL_len, hl, hm]⟩
    have HPN : Hid (Calls Try.prog 11 #[.slice a n c] Y fun e w' => ∃ Q, e = .returned (.tuple #[ptr Q, .int .i64 0]) ∧ Hid (Below Y.heap.size Y w' ∧ ∃ F, PS w w' Q (newL l) F)) := Lib.hid (by
      refine (ps_new (w := w) a n c l Y HY.out hl (hs.under HY.out) (by omega)).mono ?_
      rintro e w' (⟨_, Q, rfl, H⟩ | ⟨h, _⟩)
      · obtain ⟨F, h1, h2⟩ := H.out
        exact ⟨Q, rfl, Lib.hid ⟨h2, F, h1⟩⟩
      · exact absurd hM h.out)
    have HDN : Hid (∀ W, Below w.heap.size w W → Calls Try.prog 12 #[.slice a n c] W fun e w' => ∃ da dc, e = .returned (.tuple #[bV a n c da m dc, .int .i64 0]) ∧ Hid (DB w' (fun q => W.heap.size ≤ q) a n l da m dc (newL l) ∧ Below W.heap.size W w')) := Lib.hid (fun W hW => by
      have h := dnew_im a n c l W hl (hs.under hW) (by omega)
      rw [hm] at h
      refine h.mono ?_
      rintro e w' (⟨_, da, dc, e1, H⟩ | ⟨h, _⟩)
      · exact ⟨da, dc, e1, H⟩
      · exact absurd hM h.out)
    clear hl hs hM hm hn
    go_enter Try.func5, Try.ntmps5
    go_wp2_with fail
    clear hY hU
    refine HPN.out.mono ?_
    rintro e w1 ⟨Q, rfl, H1⟩
    have H2 := Lib.hid (HDN.out w1 (below_then HY.out H1.out.1))
    go_wp2_with fail
    refine H2.out.mono ?_
    rintro e w2 ⟨da, dc, rfl, H3⟩
    obtain ⟨V, X0, hV, hX0, HX0⟩ := zero_b w2
    have hz0 := HX0.out.2.2 X0 (Below.refl _ _)
    have x0 := cell_block (j := 0) hz0 rfl
    have x1 := cell_block (j := 1) hz0 rfl
    have xf0 := free_block 0 hz0
    have xf1 := free_block 1 hz0
    obtain ⟨X, hXX⟩ : ∃ X, (X0.setCell ⟨V, 0, none⟩ (.slice a n c)).setCell ⟨V, 1, none⟩ (.slice da m dc) = X := ⟨_, rfl⟩
    have hXV : X.heap[V]? = some (.cells #[.slice a n c, .slice da m dc] 32 (0, 0)) := by rw [← hXX]; exact heap_setCell_same _ V 1 _ _ _ (heap_setCell_same X0 V 0 _ _ _ hz0)
    have hX2 : Below w2.heap.size w2 X := by
      rw [← hXX]
      exact (HX0.out.1.setCell (p := ⟨V, 0, none⟩) (by show w2.heap.size ≤ V; omega) _).setCell (p := ⟨V, 1, none⟩) (by show w2.heap.size ≤ V; omega) _
    have HYX : Hid (Below Y.heap.size Y X) := Lib.hid (below_then (below_then H1.out.1 H3.out.2) hX2)
    have HLN : Hid (∀ W, Below X.heap.size X W → Calls Try.prog 15 #[ptr Q] W fun e w' => ∃ a c, e = .returned (.slice a m c) ∧ Hid (LT X w' a m (newL l))) := Lib.hid (fun W hW => by
      obtain ⟨F, h⟩ := H1.out.2
      exact lt_lines ((h.under H3.out.2).under hX2) HM.out.2 W hW)
    have HSM : Hid (∀ W a2 c2, LT X W a2 m (newL l) → Calls Try.prog 14 #[.slice a2 m c2, .slice da m dc] W fun e w' => e = .returned (.bool true) ∧ Hid (Below X.heap.size X w')) := Lib.hid (fun W a2 c2 h => lt_same h (H3.out.1.under hX2) HM.out.1)
    have HXV : Hid (∀ W, Below X.heap.size X W → W.cell? ⟨V, 1, none⟩ = some (.slice da m dc)) := Lib.hid (fun W hW => cell_block (j := 1) ((hW.block _ (Array.getElem?_eq_some_iff.1 hXV).1).trans hXV) rfl)
    have HBX : Hid (Below X.heap.size X X.drew) := Lib.hid (Below.refl _ X).drew
    clear H1 H2 H3 HPN HDN hz0 HX0 hX2 hXV
    go_wp2_with fail
    go_region_held3 (fun W => W.cell? ⟨V, 1, none⟩ = some (.slice da m dc))
      (first | with_reducible exact HXV.out _ HX4.out | with_reducible exact HXV.out _ HX3.out | with_reducible exact HXV.out _ HBX.out)
      (first
        | (go_at_call 15; (with_reducible refine (HLN.out _ HBX.out).mono ?_); rintro e w3 ⟨a2, c2, rfl, HT⟩; have HX3 := Lib.hid HT.out.1)
        | (go_at_call 14; (with_reducible refine (HSM.out _ _ _ HT.out).mono ?_); rintro e w4 ⟨rfl, HX4⟩))
    all_goals
      obtain ⟨B, Y2, S, Z, hB, hY2, hS, hZ, HZ⟩ := box_two w4
      have HCV := Lib.hid (nil_calls HZ.out.2.1)
      have HCN := Lib.hid (nil_calls (X := Z) (v := .pointer none) (.inl rfl))
      have HWZ : Hid (Below w.heap.size w Z) := Lib.hid (below_then (below_then (below_then HY.out HYX.out) HX4.out) HZ.out.1)
      have HKP : Hid (∀ W, Below Z.heap.size Z W → (W.cell? ⟨U, 1, none⟩ = some (.int .i64 x.b) ∧ W.cell? ⟨U, 2, none⟩ = some (.int .i64 x.s) ∧ W.cell? ⟨U, 3, none⟩ = some (.int .i64 x.j)) ∧ W.cell? ⟨S, 0, none⟩ = some (.pointer none) ∧ W.cell? ⟨S, 1, none⟩ = some (.pointer (some ⟨B, 0, none⟩))) := Lib.hid (fun W hW => ⟨(HU.out W (below_then (below_then HYX.out HX4.out) (below_then HZ.out.1 hW))).2, HZ.out.2.2 W hW⟩)
      clear HLN HSM HXV HBX HX4 HX3 HYX x0 x1 xf0 xf1 hXX hX0 hV
      go_wp2_with fail
      clear hB hY2 hS hZ HZ
      go_loopw [10] (fun t wr => ∃ i : Nat, t = .int .i64 i ∧ i ≤ 2 ∧ Hid (Below Z.heap.size Z wr)) (fun t _ => 2 - (RowKit.intOf t).toNat)
      case atStart => exact ⟨0, rfl, by omega, Lib.hid (Below.refl _ _)⟩
      case round =>
        obtain ⟨i, rfl, hi, HW⟩ := hrel
        have hcase : i = 0 ∨ i = 1 ∨ i = 2 := by omega
        clear hi
        rcases hcase with rfl | rfl | rfl
        · obtain ⟨⟨u1, u2, u3⟩, s0, s1⟩ := HKP.out wr HW.out
          clear u1 u2 u3 s0 s1
          have G0 := Lib.hid HW.out.drew
          go_wp2_with fail
          go_region_held3 (fun W => (W.cell? ⟨U, 1, none⟩ = some (.int .i64 x.b) ∧ W.cell? ⟨U, 2, none⟩ = some (.int .i64 x.s) ∧ W.cell? ⟨U, 3, none⟩ = some (.int .i64 x.j)) ∧ W.cell? ⟨S, 0, none⟩ = some (.pointer none) ∧ W.cell? ⟨S, 1, none⟩ = some (.pointer (some ⟨B, 0, none⟩)))
            (first | with_reducible exact HKP.out _ G1'.out | with_reducible exact HKP.out _ G0.out)
            (first | (go_at_call 16; (with_reducible refine (HCN.out.ask _ _ _ _ G0.out).mono ?_); rintro e v1 ⟨rfl, G1'⟩))
          have G1 := Lib.hid G1'.out.drew
          go_wp2_with fail
          go_region_held3 (fun W => (W.cell? ⟨U, 1, none⟩ = some (.int .i64 x.b) ∧ W.cell? ⟨U, 2, none⟩ = some (.int .i64 x.s) ∧ W.cell? ⟨U, 3, none⟩ = some (.int .i64 x.j)) ∧ W.cell? ⟨S, 0, none⟩ = some (.pointer none) ∧ W.cell? ⟨S, 1, none⟩ = some (.pointer (some ⟨B, 0, none⟩)))
            (first | with_reducible exact HKP.out _ G2'.out | with_reducible exact HKP.out _ G1.out)
            (first | (go_at_call 17; (with_reducible refine (HCN.out.leave _ _ G1.out).mono ?_); rintro e v2 ⟨rfl, G2'⟩))
          have G2 := Lib.hid G2'.out.drew
          go_wp2_with fail
          go_region_held3 (fun W => (W.cell? ⟨U, 1, none⟩ = some (.int .i64 x.b) ∧ W.cell? ⟨U, 2, none⟩ = some (.int .i64 x.s) ∧ W.cell? ⟨U, 3, none⟩ = some (.int .i64 x.j)) ∧ W.cell? ⟨S, 0, none⟩ = some (.pointer none) ∧ W.cell? ⟨S, 1, none⟩ = some (.pointer (some ⟨B, 0, none⟩)))
            (first | with_reducible exact HKP.out _ G3'.out | with_reducible exact HKP.out _ G2.out)
            (first | (go_at_call 18; (with_reducible refine (HCN.out.wher _ _ G2.out).mono ?_); rintro e v3 ⟨rfl, G3'⟩))
          have G3 := Lib.hid G3'.out.drew
          go_wp2_with fail
          go_region_held3 (fun W => (W.cell? ⟨U, 1, none⟩ = some (.int .i64 x.b) ∧ W.cell? ⟨U, 2, none⟩ = some (.int .i64 x.s) ∧ W.cell? ⟨U, 3, none⟩ = some (.int .i64 x.j)) ∧ W.cell? ⟨S, 0, none⟩ = some (.pointer none) ∧ W.cell? ⟨S, 1, none⟩ = some (.pointer (some ⟨B, 0, none⟩)))
            (first | with_reducible exact HKP.out _ G4'.out | with_reducible exact HKP.out _ G3.out)
            (first | (go_at_call 19; (with_reducible refine (HCN.out.free _ _ _ G3.out).mono ?_); rintro e v4 ⟨rfl, G4'⟩))
          obtain ⟨_, s0, s1⟩ := HKP.out _ G4'.out
          go_wp2_with fail
          refine (HCN.out.lines _ G4'.out).mono ?_
          rintro e v5 ⟨rfl, G5⟩
          clear s0 s1
          obtain ⟨_, s0, s1⟩ := HKP.out _ G5.out
          go_wp2_with fail
          refine (HCN.out.clone _ G5.out).mono ?_
          rintro e v6 ⟨rfl, G6⟩
          go_wp2_with fail
          exact ⟨⟨1, by go_num, by omega, G6⟩, by simp [RowKit.intOf]⟩
        · obtain ⟨⟨u1, u2, u3⟩, s0, s1⟩ := HKP.out wr HW.out
          clear u1 u2 u3 s0 s1
          have G0 := Lib.hid HW.out.drew
          go_wp2_with fail
          go_region_held3 (fun W => (W.cell? ⟨U, 1, none⟩ = some (.int .i64 x.b) ∧ W.cell? ⟨U, 2, none⟩ = some (.int .i64 x.s) ∧ W.cell? ⟨U, 3, none⟩ = some (.int .i64 x.j)) ∧ W.cell? ⟨S, 0, none⟩ = some (.pointer none) ∧ W.cell? ⟨S, 1, none⟩ = some (.pointer (some ⟨B, 0, none⟩)))
            (first | with_reducible exact HKP.out _ G1'.out | with_reducible exact HKP.out _ G0.out)
            (first | (go_at_call 16; (with_reducible refine (HCV.out.ask _ _ _ _ G0.out).mono ?_); rintro e v1 ⟨rfl, G1'⟩))
          have G1 := Lib.hid G1'.out.drew
          go_wp2_with fail
          go_region_held3 (fun W => (W.cell? ⟨U, 1, none⟩ = some (.int .i64 x.b) ∧ W.cell? ⟨U, 2, none⟩ = some (.int .i64 x.s) ∧ W.cell? ⟨U, 3, none⟩ = some (.int .i64 x.j)) ∧ W.cell? ⟨S, 0, none⟩ = some (.pointer none) ∧ W.cell? ⟨S, 1, none⟩ = some (.pointer (some ⟨B, 0, none⟩)))
            (first | with_reducible exact HKP.out _ G2'.out | with_reducible exact HKP.out _ G1.out)
            (first | (go_at_call 17; (with_reducible refine (HCV.out.leave _ _ G1.out).mono ?_); rintro e v2 ⟨rfl, G2'⟩))
          have G2 := Lib.hid G2'.out.drew
          go_wp2_with fail
          go_region_held3 (fun W => (W.cell? ⟨U, 1, none⟩ = some (.int .i64 x.b) ∧ W.cell? ⟨U, 2, none⟩ = some (.int .i64 x.s) ∧ W.cell? ⟨U, 3, none⟩ = some (.int .i64 x.j)) ∧ W.cell? ⟨S, 0, none⟩ = some (.pointer none) ∧ W.cell? ⟨S, 1, none⟩ = some (.pointer (some ⟨B, 0, none⟩)))
            (first | with_reducible exact HKP.out _ G3'.out | with_reducible exact HKP.out _ G2.out)
            (first | (go_at_call 18; (with_reducible refine (HCV.out.wher _ _ G2.out).mono ?_); rintro e v3 ⟨rfl, G3'⟩))
          have G3 := Lib.hid G3'.out.drew
          go_wp2_with fail
          go_region_held3 (fun W => (W.cell? ⟨U, 1, none⟩ = some (.int .i64 x.b) ∧ W.cell? ⟨U, 2, none⟩ = some (.int .i64 x.s) ∧ W.cell? ⟨U, 3, none⟩ = some (.int .i64 x.j)) ∧ W.cell? ⟨S, 0, none⟩ = some (.pointer none) ∧ W.cell? ⟨S, 1, none⟩ = some (.pointer (some ⟨B, 0, none⟩)))
            (first | with_reducible exact HKP.out _ G4'.out | with_reducible exact HKP.out _ G3.out)
            (first | (go_at_call 19; (with_reducible refine (HCV.out.free _ _ _ G3.out).mono ?_); rintro e v4 ⟨rfl, G4'⟩))
          obtain ⟨_, s0, s1⟩ := HKP.out _ G4'.out
          go_wp2_with fail
          refine (HCV.out.lines _ G4'.out).mono ?_
          rintro e v5 ⟨rfl, G5⟩
          clear s0 s1
          obtain ⟨_, s0, s1⟩ := HKP.out _ G5.out
          go_wp2_with fail
          refine (HCV.out.clone _ G5.out).mono ?_
          rintro e v6 ⟨rfl, G6⟩
          go_wp2_with fail
          exact ⟨⟨2, by go_num, by omega, G6⟩, by simp [RowKit.intOf]⟩
        · have H0 := Lib.hid (HAW.out wr (below_then HWZ.out HW.out))
          go_wp2_with fail
          refine H0.out.mono ?_
          rintro e v9 ⟨rfl, B1⟩
          go_wp2_with fail
          go_ret
          exact ⟨rfl, B1.out⟩
  · have HPN : Hid (Calls Try.prog 11 #[.slice a n c] Y fun e w' => e = .returned (.tuple #[.pointer none, .int .i64 1]) ∧ Hid (Below Y.heap.size Y w')) := Lib.hid (by
      refine (ps_new (w := w) a n c l Y HY.out hl (hs.under HY.out) (by omega)).mono ?_
      rintro e w' (⟨h, _⟩ | ⟨_, e1, H⟩)
      · exact absurd h.out hM
      · exact ⟨e1, H⟩)
    have HDN : Hid (∀ W, Below w.heap.size w W → Calls Try.prog 12 #[.slice a n c] W fun e w' => e = .returned (.tuple #[bV none 0 0 none 0 0, .int .i64 1]) ∧ Hid (Below W.heap.size W w')) := Lib.hid (fun W hW => by
      refine (dnew_im a n c l W hl (hs.under hW) (by omega)).mono ?_
      rintro e w' (⟨h, _⟩ | ⟨_, e1, H⟩)
      · exact absurd h.out hM
      · exact ⟨e1, H⟩)
    clear hl hs hM hn
    go_enter Try.func5, Try.ntmps5
    go_wp2_with fail
    clear hY hU
    refine HPN.out.mono ?_
    rintro e w1 ⟨rfl, H1⟩
    have H2 := Lib.hid (HDN.out w1 (below_then HY.out H1.out))
    go_wp2_with fail
    refine H2.out.mono ?_
    rintro e w2 ⟨rfl, H3⟩
    obtain ⟨V, X0, hV, hX0, HX0⟩ := zero_b w2
    have hz0 := HX0.out.2.2 X0 (Below.refl _ _)
    have x0 := cell_block (j := 0) hz0 rfl
    have x1 := cell_block (j := 1) hz0 rfl
    have xf0 := free_block 0 hz0
    have xf1 := free_block 1 hz0
    obtain ⟨X, hXX⟩ : ∃ X, (X0.setCell ⟨V, 0, none⟩ (.slice none 0 0)).setCell ⟨V, 1, none⟩ (.slice none 0 0) = X := ⟨_, rfl⟩
    have hX2 : Below w2.heap.size w2 X := by
      rw [← hXX]
      exact (HX0.out.1.setCell (p := ⟨V, 0, none⟩) (by show w2.heap.size ≤ V; omega) _).setCell (p := ⟨V, 1, none⟩) (by show w2.heap.size ≤ V; omega) _
    have HYX : Hid (Below Y.heap.size Y X) := Lib.hid (below_then (below_then H1.out H3.out) hX2)
    clear H1 H2 H3 HPN HDN hz0 HX0 hX2
    go_wp2_with fail
    go_quiet (fail)
    generalize hXd : X.drewN _ = Xd
    have HXd : Hid (Below X.heap.size X Xd) := Lib.hid (by rw [← hXd]; exact below_drewN (Below.refl _ X) _)
    clear hXd
    obtain ⟨B, Y2, S, Z, hB, hY2, hS, hZ, HZ⟩ := box_two Xd
    have HCV := Lib.hid (nil_calls HZ.out.2.1)
    have HCN := Lib.hid (nil_calls (X := Z) (v := .pointer none) (.inl rfl))
    have HWZ : Hid (Below w.heap.size w Z) := Lib.hid (below_then (below_then (below_then HY.out HYX.out) HXd.out) HZ.out.1)
    have HKP : Hid (∀ W, Below Z.heap.size Z W → (W.cell? ⟨U, 1, none⟩ = some (.int .i64 x.b) ∧ W.cell? ⟨U, 2, none⟩ = some (.int .i64 x.s) ∧ W.cell? ⟨U, 3, none⟩ = some (.int .i64 x.j)) ∧ W.cell? ⟨S, 0, none⟩ = some (.pointer none) ∧ W.cell? ⟨S, 1, none⟩ = some (.pointer (some ⟨B, 0, none⟩))) := Lib.hid (fun W hW => ⟨(HU.out W (below_then (below_then HYX.out HXd.out) (below_then HZ.out.1 hW))).2, HZ.out.2.2 W hW⟩)
    clear HXd HYX x0 x1 xf0 xf1 hXX hX0 hV
    go_wp2_with fail
    clear hB hY2 hS hZ HZ
    go_loopw [10] (fun t wr => ∃ i : Nat, t = .int .i64 i ∧ i ≤ 2 ∧ Hid (Below Z.heap.size Z wr)) (fun t _ => 2 - (RowKit.intOf t).toNat)
    case atStart => exact ⟨0, rfl, by omega, Lib.hid (Below.refl _ _)⟩
    case round =>
      obtain ⟨i, rfl, hi, HW⟩ := hrel
      have hcase : i = 0 ∨ i = 1 ∨ i = 2 := by omega
      clear hi
      rcases hcase with rfl | rfl | rfl
      · obtain ⟨⟨u1, u2, u3⟩, s0, s1⟩ := HKP.out wr HW.out
        clear u1 u2 u3 s0 s1
        have G0 := Lib.hid HW.out.drew
        go_wp2_with fail
        go_region_held3 (fun W => (W.cell? ⟨U, 1, none⟩ = some (.int .i64 x.b) ∧ W.cell? ⟨U, 2, none⟩ = some (.int .i64 x.s) ∧ W.cell? ⟨U, 3, none⟩ = some (.int .i64 x.j)) ∧ W.cell? ⟨S, 0, none⟩ = some (.pointer none) ∧ W.cell? ⟨S, 1, none⟩ = some (.pointer (some ⟨B, 0, none⟩)))
          (first | with_reducible exact HKP.out _ G1'.out | with_reducible exact HKP.out _ G0.out)
          (first | (go_at_call 16; (with_reducible refine (HCN.out.ask _ _ _ _ G0.out).mono ?_); rintro e v1 ⟨rfl, G1'⟩))
        have G1 := Lib.hid G1'.out.drew
        go_wp2_with fail
        go_region_held3 (fun W => (W.cell? ⟨U, 1, none⟩ = some (.int .i64 x.b) ∧ W.cell? ⟨U, 2, none⟩ = some (.int .i64 x.s) ∧ W.cell? ⟨U, 3, none⟩ = some (.int .i64 x.j)) ∧ W.cell? ⟨S, 0, none⟩ = some (.pointer none) ∧ W.cell? ⟨S, 1, none⟩ = some (.pointer (some ⟨B, 0, none⟩)))
          (first | with_reducible exact HKP.out _ G2'.out | with_reducible exact HKP.out _ G1.out)
          (first | (go_at_call 17; (with_reducible refine (HCN.out.leave _ _ G1.out).mono ?_); rintro e v2 ⟨rfl, G2'⟩))
        have G2 := Lib.hid G2'.out.drew
        go_wp2_with fail
        go_region_held3 (fun W => (W.cell? ⟨U, 1, none⟩ = some (.int .i64 x.b) ∧ W.cell? ⟨U, 2, none⟩ = some (.int .i64 x.s) ∧ W.cell? ⟨U, 3, none⟩ = some (.int .i64 x.j)) ∧ W.cell? ⟨S, 0, none⟩ = some (.pointer none) ∧ W.cell? ⟨S, 1, none⟩ = some (.pointer (some ⟨B, 0, none⟩)))
          (first | with_reducible exact HKP.out _ G3'.out | with_reducible exact HKP.out _ G2.out)
          (first | (go_at_call 18; (with_reducible refine (HCN.out.wher _ _ G2.out).mono ?_); rintro e v3 ⟨rfl, G3'⟩))
        have G3 := Lib.hid G3'.out.drew
        go_wp2_with fail
        go_region_held3 (fun W => (W.cell? ⟨U, 1, none⟩ = some (.int .i64 x.b) ∧ W.cell? ⟨U, 2, none⟩ = some (.int .i64 x.s) ∧ W.cell? ⟨U, 3, none⟩ = some (.int .i64 x.j)) ∧ W.cell? ⟨S, 0, none⟩ = some (.pointer none) ∧ W.cell? ⟨S, 1, none⟩ = some (.pointer (some ⟨B, 0, none⟩)))
          (first | with_reducible exact HKP.out _ G4'.out | with_reducible exact HKP.out _ G3.out)
          (first | (go_at_call 19; (with_reducible refine (HCN.out.free _ _ _ G3.out).mono ?_); rintro e v4 ⟨rfl, G4'⟩))
        obtain ⟨_, s0, s1⟩ := HKP.out _ G4'.out
        go_wp2_with fail
        refine (HCN.out.lines _ G4'.out).mono ?_
        rintro e v5 ⟨rfl, G5⟩
        clear s0 s1
        obtain ⟨_, s0, s1⟩ := HKP.out _ G5.out
        go_wp2_with fail
        refine (HCN.out.clone _ G5.out).mono ?_
        rintro e v6 ⟨rfl, G6⟩
        go_wp2_with fail
        exact ⟨⟨1, by go_num, by omega, G6⟩, by simp [RowKit.intOf]⟩
      · obtain ⟨⟨u1, u2, u3⟩, s0, s1⟩ := HKP.out wr HW.out
        clear u1 u2 u3 s0 s1
        have G0 := Lib.hid HW.out.drew
        go_wp2_with fail
        go_region_held3 (fun W => (W.cell? ⟨U, 1, none⟩ = some (.int .i64 x.b) ∧ W.cell? ⟨U, 2, none⟩ = some (.int .i64 x.s) ∧ W.cell? ⟨U, 3, none⟩ = some (.int .i64 x.j)) ∧ W.cell? ⟨S, 0, none⟩ = some (.pointer none) ∧ W.cell? ⟨S, 1, none⟩ = some (.pointer (some ⟨B, 0, none⟩)))
          (first | with_reducible exact HKP.out _ G1'.out | with_reducible exact HKP.out _ G0.out)
          (first | (go_at_call 16; (with_reducible refine (HCV.out.ask _ _ _ _ G0.out).mono ?_); rintro e v1 ⟨rfl, G1'⟩))
        have G1 := Lib.hid G1'.out.drew
        go_wp2_with fail
        go_region_held3 (fun W => (W.cell? ⟨U, 1, none⟩ = some (.int .i64 x.b) ∧ W.cell? ⟨U, 2, none⟩ = some (.int .i64 x.s) ∧ W.cell? ⟨U, 3, none⟩ = some (.int .i64 x.j)) ∧ W.cell? ⟨S, 0, none⟩ = some (.pointer none) ∧ W.cell? ⟨S, 1, none⟩ = some (.pointer (some ⟨B, 0, none⟩)))
          (first | with_reducible exact HKP.out _ G2'.out | with_reducible exact HKP.out _ G1.out)
          (first | (go_at_call 17; (with_reducible refine (HCV.out.leave _ _ G1.out).mono ?_); rintro e v2 ⟨rfl, G2'⟩))
        have G2 := Lib.hid G2'.out.drew
        go_wp2_with fail
        go_region_held3 (fun W => (W.cell? ⟨U, 1, none⟩ = some (.int .i64 x.b) ∧ W.cell? ⟨U, 2, none⟩ = some (.int .i64 x.s) ∧ W.cell? ⟨U, 3, none⟩ = some (.int .i64 x.j)) ∧ W.cell? ⟨S, 0, none⟩ = some (.pointer none) ∧ W.cell? ⟨S, 1, none⟩ = some (.pointer (some ⟨B, 0, none⟩)))
          (first | with_reducible exact HKP.out _ G3'.out | with_reducible exact HKP.out _ G2.out)
          (first | (go_at_call 18; (with_reducible refine (HCV.out.wher _ _ G2.out).mono ?_); rintro e v3 ⟨rfl, G3'⟩))
        have G3 := Lib.hid G3'.out.drew
        go_wp2_with fail
        go_region_held3 (fun W => (W.cell? ⟨U, 1, none⟩ = some (.int .i64 x.b) ∧ W.cell? ⟨U, 2, none⟩ = some (.int .i64 x.s) ∧ W.cell? ⟨U, 3, none⟩ = some (.int .i64 x.j)) ∧ W.cell? ⟨S, 0, none⟩ = some (.pointer none) ∧ W.cell? ⟨S, 1, none⟩ = some (.pointer (some ⟨B, 0, none⟩)))
          (first | with_reducible exact HKP.out _ G4'.out | with_reducible exact HKP.out _ G3.out)
          (first | (go_at_call 19; (with_reducible refine (HCV.out.free _ _ _ G3.out).mono ?_); rintro e v4 ⟨rfl, G4'⟩))
        obtain ⟨_, s0, s1⟩ := HKP.out _ G4'.out
        go_wp2_with fail
        refine (HCV.out.lines _ G4'.out).mono ?_
        rintro e v5 ⟨rfl, G5⟩
        clear s0 s1
        obtain ⟨_, s0, s1⟩ := HKP.out _ G5.out
        go_wp2_with fail
        refine (HCV.out.clone _ G5.out).mono ?_
        rintro e v6 ⟨rfl, G6⟩
        go_wp2_with fail
        exact ⟨⟨2, by go_num, by omega, G6⟩, by simp [RowKit.intOf]⟩
      · have H0 := Lib.hid (HAW.out wr (below_then HWZ.out HW.out))
        go_wp2_with fail
        refine H0.out.mono ?_
        rintro e v9 ⟨rfl, B1⟩
        go_wp2_with fail
        go_ret
        exact ⟨rfl, B1.out⟩
end Go.Proofs.Ytokkefokodcphaa.Bay
