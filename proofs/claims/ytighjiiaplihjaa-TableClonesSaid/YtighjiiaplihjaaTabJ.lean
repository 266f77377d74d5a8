/- The law's acts: the program's table and the document's pairs go side by side. -/
import Derived.Test.YtighjiiaplihjaaTabI
namespace Go.Proofs.Ytighjiiaplihjaa.Tab
open Go.RowKit Go.Lib
variable {I : Impl}

/-- Both have turned: first the document's pairs, then the table. -/
theorem Both.step {W w w2 w3 : World} {Q : Nat} {F F' : Nat → Prop} {xv xv' : Value} {l l' : List Pair} (h : Both I W w Q F xv l) (hb : Below w.heap.size w w2) (hx : Pairs w2 xv' l')
    (hq : ∀ q, xv'.ownBlock = some q → xv.ownBlock = some q ∨ w.heap.size ≤ q) (hp : I.PT w3 Q F' l') (hs : StepF w2 w3 F F') : Both I W w3 Q F' xv' l' := by
  have h2 := h.under hb
  obtain ⟨h3, h4⟩ := hs.fresh h2.below h2.far
  have hn : ∀ q, xv'.ownBlock = some q → ¬ F q := fun q hq' hf => by
    rcases hq q hq' with h5 | h5
    · exact (h.apart q h5).1 hf
    · have := I.lt h.pt q hf
      omega
  refine ⟨hp, step_own hx hs hn, h4, fun q hq' => ⟨fun hf => ?_, ?_⟩, h3⟩
  · rcases hs.grows q hf with h5 | h5
    · exact hn q hq' h5
    · have := (hx.lt q hq').2
      omega
  · rcases hq q hq' with h5 | h5
    · exact (h.apart q h5).2
    · exact Nat.le_trans h.below.size h5
theorem below_drew {B : Nat} {w w' : World} (h : Below B w.drew w') : Below B w w' := ⟨h.os, h.tape, h.output, h.size, h.block⟩
set_option maxRecDepth 100000 in
set_option maxHeartbeats 8000000 in
theorem acts_any {W : World} (Q : Nat) (F : Nat → Prop) (aa : Option Addr) (an ac : Nat) (A : Nat → AC) (w : World) (hA : Acts W aa an A) (han : an ≤ 40) (hac : an ≤ ac) (hB : Both I W w Q F (.slice none 0 0) []) :
    Calls Try.prog 9 #[ptr Q, .slice aa an ac] w fun e w' => ∃ xv F', e = .returned (.tuple #[xv, .bool true]) ∧ Both I W w' Q F' xv (actsL A an) := by
  have HA := Lib.hid hA; have HB0 := Lib.hid hB
  clear hA hB
  go_enter Try.func9, Try.ntmps9
  go_wp2_with fail
  go_loopw [6, 7] (fun x t wr => ∃ (i : Nat) (xa : Option Addr) (m xc : Nat) (F1 : Nat → Prop), i ≤ an ∧ t = .int .i64 i ∧ x = .slice xa m xc ∧ m ≤ i ∧ Hid (m = (actsL A i).length) ∧ Hid (Both I W wr Q F1 x (actsL A i))) (fun _ t _ => an - (RowKit.intOf t).toNat)
  case atStart => exact ⟨0, none, 0, 0, F, by omega, rfl, rfl, by omega, Lib.hid rfl, HB0⟩
  case round =>
    obtain ⟨i, xa, m, xc, F1, hi, rfl, rfl, hmi, HM, HB⟩ := hrel
    by_cases hlt : i < an
    · obtain ⟨b, off, rfl, hbW, c0, c1, c2, c3, c4, c5⟩ := HA.out i hlt
      obtain ⟨⟨kd, v, k⟩, hact⟩ : ∃ x, A i = x := ⟨_, rfl⟩
      rw [hact] at c0 c1 c2 c3 c4 c5
      simp only at c0 c1 c2 c3 c4 c5
      have hlt2 : (i : Int) < (an : Int) := by omega
      have hi0 : (0 : Int) ≤ (i : Int) := by omega
      have HS : Hid (∀ X, Below W.heap.size W X → X.cell? ⟨b, off + i * 6, none⟩ = some (.int .i64 kd) ∧ X.cell? ⟨b, off + i * 6 + 1, none⟩ = some (.int .i64 v) ∧ X.cell? ⟨b, off + i * 6 + 2, none⟩ = some (.int .i64 k.a) ∧ X.cell? ⟨b, off + i * 6 + 3, none⟩ = some (.int .i64 k.b) ∧ X.cell? ⟨b, off + i * 6 + 4, none⟩ = some (.int .i64 k.c) ∧ X.cell? ⟨b, off + i * 6 + 5, none⟩ = some (.int .i64 k.d)) := Lib.hid (fun X hX => by
        have hh := (bcell hX).1
        exact ⟨(hh b _ hbW).trans c0, (hh b _ hbW).trans c1, (hh b _ hbW).trans c2, (hh b _ hbW).trans c3, (hh b _ hbW).trans c4, (hh b _ hbW).trans c5⟩)
      have HACT := Lib.hid hact; have HLT := Lib.hid hlt
      have HBW := Lib.hid hbW
      clear c0 c1 c2 c3 c4 c5 hact hbW
      have hbw : b < wr.heap.size := Nat.lt_of_lt_of_le HBW.out HB.out.below.size
      obtain ⟨d0, d1, d2, d3, d4, d5⟩ := HS.out wr HB.out.below
      obtain ⟨Z, hZ⟩ : ∃ Z, wr.alloc (.cells #[.int .i64 k.a, .int .i64 k.b, .int .i64 k.c, .int .i64 k.d] 38) = Z := ⟨_, rfl⟩
      have hbz : Below wr.heap.size wr Z := by rw [← hZ]; exact (Below.refl _ wr).alloc (Nat.le_refl _) _
      have hzk : Z.heap[wr.heap.size]? = some (.cells k.cells 38 (0, 0)) := by rw [← hZ]; exact heap_alloc_new wr _
      have hzs : Z.heap.size = wr.heap.size + 1 := by rw [← hZ]; simp
      have HBZ := Lib.hid (HB.out.under hbz)
      have hxs : ∃ l, actsL A i = l := ⟨_, rfl⟩
      obtain ⟨l, hl⟩ := hxs
      have HR : Hid (Rising l) := Lib.hid (hl ▸ rising_acts A i)
      have HN : Hid (actsL A (i + 1) = doL l ⟨kd, v, k⟩) := Lib.hid (by show doL (actsL A i) (A i) = _; rw [hl, HACT.out])
      have HL : Hid (l.length = m) := Lib.hid (by rw [← hl]; exact HM.out.symm)
      rw [hl] at HBZ
      have HK : Hid (∀ X, Below Z.heap.size Z X → X.cell? ⟨wr.heap.size, 0, none⟩ = some (.int .i64 k.a) ∧ X.cell? ⟨wr.heap.size, 1, none⟩ = some (.int .i64 k.b) ∧ X.cell? ⟨wr.heap.size, 2, none⟩ = some (.int .i64 k.c) ∧ X.cell? ⟨wr.heap.size, 3, none⟩ = some (.int .i64 k.d)) := Lib.hid (fun X hX => by
        have h1 := (hX.block wr.heap.size (by omega)).trans hzk
        exact ⟨key_at h1 0 (by omega), key_at h1 1 (by omega), key_at h1 2 (by omega), key_at h1 3 (by omega)⟩)
      have HZ := Lib.hid (And.intro hbz (And.intro hzk hzs))
      clear hl hzk hbz
      by_cases h1 : kd = 1
      · subst h1
        obtain ⟨fr, hfr⟩ : ∃ b, (!has l k) = b := ⟨_, rfl⟩
        obtain ⟨m2, hm2⟩ : ∃ n, (put l k v).length = n := ⟨_, rfl⟩
        have hm2i : m2 ≤ i + 1 := by have := length_put l k v; have := HL.out; omega
        obtain ⟨z0, z1, z2, z3⟩ := HK.out Z (Below.refl _ _)
        obtain ⟨y0, y1, -, -, -, -⟩ := HS.out Z HBZ.out.below
        have HPUT : Hid (Calls Try.prog 27 #[.slice xa m xc, kV k, .int .i64 v] Z.drew fun e w' => ∃ a' c', e = .returned (.tuple #[.slice a' m2 c', .bool fr]) ∧ Own w' Z.heap.size (.slice a' m2 c') (put l k v) ∧ Below Z.heap.size Z w') := Lib.hid (by
          refine (put_any (.slice xa m xc) l k v Z.drew (own_next HBZ.out.pairs ((Below.refl _ Z).drew)) (by have := HL.out; omega)).mono ?_
          rintro e w' ⟨v', rfl, ho, hb⟩
          obtain ⟨a', c', rfl, _⟩ := pairs_slice ho
          rw [hfr, hm2]
          exact ⟨a', c', rfl, by rw [← hm2]; exact ho, ⟨hb.os, hb.tape, hb.output, hb.size, hb.block⟩⟩)
        have HFR := Lib.hid hfr; have HM2 := Lib.hid hm2
        clear hfr hm2
        go_wp2_with fail
        clear hZ
        go_region_with (go_at_call 27; refine HPUT.out.mono ?_; rintro e w2 ⟨a', c', rfl, ho2, hb2⟩)
        all_goals
          have HB2 := Lib.hid (HBZ.out.under hb2)
          have HSTEP : Hid (∀ w3 F2, I.PT w3 Q F2 (put l k v) → StepF w2 w3 F1 F2 → Both I W w3 Q F2 (.slice a' m2 c') (put l k v)) := Lib.hid (fun w3 F2 hp hs => HBZ.out.step hb2 (World.ownsRow.mono ho2 (by omega)) (fun q hq => .inr (ho2.lt q hq).1) hp hs)
          have HTP : Hid (Calls Try.prog 22 #[ptr Q, kV k, .int .i64 v] w2.drew fun e w' => e = .returned (.bool fr) ∧ ∃ F2, Both I W w' Q F2 (.slice a' m2 c') (put l k v)) := Lib.hid (by
            refine (I.put Q F1 l k v w2.drew (HB2.out.under ((Below.refl _ w2).drew)).pt HR.out (by have := HL.out; omega)).mono ?_
            rintro e w' ⟨rfl, F2, hp, hs⟩
            rw [HFR.out]
            exact ⟨rfl, F2, HSTEP.out w' F2 hp ⟨hs.os, hs.tape, hs.output, hs.size, hs.block, hs.grows⟩⟩)
          obtain ⟨x0, x1, x2, x3⟩ := HK.out w2 hb2
          obtain ⟨-, x4, -, -, -, -⟩ := HS.out w2 HB2.out.below
          clear ho2
          go_wp2_with fail
          go_region_with (go_at_call 22; refine HTP.out.mono ?_; rintro e w3 ⟨rfl, F2, hb3⟩)
          all_goals
            have HB3 := Lib.hid hb3
            clear hb3
            have HLE : Hid (Calls Try.prog 24 #[ptr Q] w3 fun e w' => e = .returned (.int .i64 (m2 : Nat)) ∧ Both I W w' Q F2 (.slice a' m2 c') (put l k v)) := Lib.hid (by
              refine (I.len Q F2 (put l k v) w3 HB3.out.pt (rising_put HR.out _ _) (by have := HM2.out; omega)).mono ?_
              rintro e w' ⟨rfl, hb⟩
              rw [HM2.out]
              exact ⟨rfl, HB3.out.under hb⟩)
            go_wp2_with fail
            refine HLE.out.mono ?_
            rintro e w4 ⟨rfl, hb4⟩
            have HB4 := Lib.hid hb4
            clear hb4
            go_wp2_with fail
            go_roundw
            case rel => exact ⟨i + 1, a', m2, c', F2, by omega, by go_num, rfl, hm2i, Lib.hid (by rw [HN.out]; exact HM2.out.symm), Lib.hid (by rw [HN.out]; exact HB4.out)⟩
            case measure => simp [RowKit.intOf]; omega
      · by_cases h2 : kd = 2
        · subst h2
          obtain ⟨fr, hfr⟩ : ∃ b, has l k = b := ⟨_, rfl⟩
          obtain ⟨m2, hm2⟩ : ∃ n, (del l k).length = n := ⟨_, rfl⟩
          have hm2i : m2 ≤ i + 1 := by have := length_del l k; have := HL.out; omega
          obtain ⟨z0, z1, z2, z3⟩ := HK.out Z (Below.refl _ _)
          obtain ⟨y0, -, -, -, -, -⟩ := HS.out Z HBZ.out.below
          have HDEL : Hid (Calls Try.prog 28 #[.slice xa m xc, kV k] Z fun e w' => ∃ a' c', e = .returned (.tuple #[.slice a' m2 c', .bool fr]) ∧ Hid (Below Z.heap.size Z w' ∧ ∀ w3 F2, I.PT w3 Q F2 (del l k) → StepF w' w3 F1 F2 → Both I W w3 Q F2 (.slice a' m2 c') (del l k))) := Lib.hid (by
            refine (del_any (.slice xa m xc) l k Z HBZ.out.pairs (by have := HL.out; omega)).mono ?_
            rintro e w' ⟨v', rfl, ho, hb, hq⟩
            obtain ⟨a', c', rfl, _⟩ := pairs_slice ho
            rw [hfr, hm2] at *
            exact ⟨a', c', rfl, Lib.hid ⟨hb, fun w3 F2 hp hs => HBZ.out.step hb ho hq hp hs⟩⟩)
          have HFR := Lib.hid hfr; have HM2 := Lib.hid hm2
          clear hfr hm2
          go_wp2_with fail
          clear hZ
          refine HDEL.out.mono ?_
          rintro e w2 ⟨a', c', rfl, H2⟩
          have HB2 := Lib.hid (HBZ.out.under H2.out.1)
          have HTP : Hid (Calls Try.prog 21 #[ptr Q, kV k] w2 fun e w' => e = .returned (.bool fr) ∧ ∃ F2, Both I W w' Q F2 (.slice a' m2 c') (del l k)) := Lib.hid (by
            refine (I.del Q F1 l k w2 HB2.out.pt HR.out (by have := HL.out; omega)).mono ?_
            rintro e w' ⟨rfl, F2, hp, hs⟩
            rw [HFR.out]
            exact ⟨rfl, F2, H2.out.2 w' F2 hp hs⟩)
          obtain ⟨x0, x1, x2, x3⟩ := HK.out w2 H2.out.1
          go_wp2_with fail
          refine HTP.out.mono ?_
          rintro e w3 ⟨rfl, F2, hb3⟩
          have HB3 := Lib.hid hb3
          clear hb3
          have HLE : Hid (Calls Try.prog 24 #[ptr Q] w3 fun e w' => e = .returned (.int .i64 (m2 : Nat)) ∧ Both I W w' Q F2 (.slice a' m2 c') (del l k)) := Lib.hid (by
            refine (I.len Q F2 (del l k) w3 HB3.out.pt (rising_del HR.out _) (by have := HM2.out; omega)).mono ?_
            rintro e w' ⟨rfl, hb⟩
            rw [HM2.out]
            exact ⟨rfl, HB3.out.under hb⟩)
          go_wp2_with fail
          refine HLE.out.mono ?_
          rintro e w4 ⟨rfl, hb4⟩
          have HB4 := Lib.hid hb4
          clear hb4
          go_wp2_with fail
          go_roundw
          case rel => exact ⟨i + 1, a', m2, c', F2, by omega, by go_num, rfl, hm2i, Lib.hid (by rw [HN.out]; exact HM2.out.symm), Lib.hid (by rw [HN.out]; exact HB4.out)⟩
          case measure => simp [RowKit.intOf]; omega
        · have hk1 : decide (kd = 1) = false := decide_eq_false h1
          have hk2 : decide (kd = 2) = false := decide_eq_false h2
          have hk3 : (kd == 1) = false := by simpa using h1
          have hk4 : (kd == 2) = false := by simpa using h2
          have HN2 : Hid (actsL A (i + 1) = l) := Lib.hid (by rw [HN.out]; unfold doL; rw [if_neg h1, if_neg h2])
          obtain ⟨n, hn⟩ : ∃ n, place l k = n := ⟨_, rfl⟩
          obtain ⟨fr, hfr⟩ : ∃ b, has l k = b := ⟨_, rfl⟩
          obtain ⟨x, hx⟩ : ∃ x, valueAt l k = x := ⟨_, rfl⟩
          have HNP := Lib.hid hn; have HFR := Lib.hid hfr; have HX := Lib.hid hx
          clear hn hfr hx
          have hlm := HL.out
          obtain ⟨z0, z1, z2, z3⟩ := HK.out Z (Below.refl _ _)
          obtain ⟨y0, -, -, -, -, -⟩ := HS.out Z HBZ.out.below
          have HP1 : Hid (Calls Try.prog 29 #[.slice xa m xc, kV k] Z fun e w' => e = .returned (.tuple #[.int .i64 (n : Nat), .bool fr]) ∧ Hid (Below Z.heap.size Z w')) := Lib.hid (by
            refine (place_any (.slice xa m xc) l k Z HBZ.out.pairs (by omega)).mono ?_
            rintro e w' ⟨rfl, hb⟩
            unfold placeV
            rw [HNP.out, HFR.out]
            exact ⟨rfl, Lib.hid hb⟩)
          go_wp2_with fail
          clear hZ
          refine HP1.out.mono ?_
          rintro e w2 ⟨rfl, H2⟩
          have HP2 : Hid (Calls Try.prog 25 #[ptr Q, kV k] w2 fun e w' => e = .returned (.tuple #[.int .i64 x, .bool fr]) ∧ Hid (Below Z.heap.size Z w')) := Lib.hid (by
            refine (I.get Q F1 l k w2 (HBZ.out.under H2.out).pt HR.out (by omega)).mono ?_
            rintro e w' ⟨rfl, hb⟩
            rw [HX.out, HFR.out]
            exact ⟨rfl, Lib.hid (below_then H2.out hb)⟩)
          obtain ⟨x0, x1, x2, x3⟩ := HK.out w2 H2.out
          go_wp2_with fail
          refine HP2.out.mono ?_
          rintro e w3 ⟨rfl, H3⟩
          have HP3 : Hid (Calls Try.prog 26 #[ptr Q, kV k] w3 fun e w' => e = .returned (.tuple #[.int .i64 (n : Nat), .bool fr]) ∧ Hid (Below Z.heap.size Z w')) := Lib.hid (by
            refine (I.place Q F1 l k w3 (HBZ.out.under H3.out).pt HR.out (by omega)).mono ?_
            rintro e w' ⟨rfl, hb⟩
            unfold placeV
            rw [HNP.out, HFR.out]
            exact ⟨rfl, Lib.hid (below_then H3.out hb)⟩)
          obtain ⟨v0, v1, v2, v3⟩ := HK.out w3 H3.out
          go_wp2_with fail
          refine HP3.out.mono ?_
          rintro e w4 ⟨rfl, H4⟩
          have HB4 := Lib.hid (HBZ.out.under H4.out)
          have HLE : Hid (Calls Try.prog 24 #[ptr Q] w4 fun e w' => e = .returned (.int .i64 (m : Nat)) ∧ Hid (Both I W w' Q F1 (.slice xa m xc) l)) := Lib.hid (by
            refine (I.len Q F1 l w4 HB4.out.pt HR.out (by omega)).mono ?_
            rintro e w' ⟨rfl, hb⟩
            rw [HL.out]
            exact ⟨rfl, Lib.hid (HB4.out.under hb)⟩)
          cases fr with
          | true =>
            have hnm : n < m := by
              have := place_lt HNP.out HFR.out
              omega
            have hnm2 : (n : Int) < (m : Int) := by omega
            have hn0 : (0 : Int) ≤ (n : Int) := by omega
            obtain ⟨p, hp⟩ : ∃ p, l[n]? = some p := ⟨l[n]'(by omega), List.getElem?_eq_getElem (by omega)⟩
            have hpx : p.v = x := by
              rw [← HX.out]
              unfold valueAt nthP
              rw [HFR.out, HNP.out, List.getD_eq_getElem?_getD, hp]
              rfl
            obtain ⟨a0, c0, he, _, hat⟩ := pairs_at HB4.out.pairs
            injection he with he1 he2 he3
            subst he1
            obtain ⟨g, rfl, hg, -, -, -, -, t4⟩ := hat n p hp
            rw [hpx] at t4
            clear hat he2 he3 hp hpx
            go_wp2_with fail
            refine HLE.out.mono ?_
            rintro e w5 ⟨rfl, H5⟩
            go_wp2_with fail
            go_roundw
            case rel => exact ⟨i + 1, _, m, xc, F1, by omega, by go_num, rfl, by omega, Lib.hid (by rw [HN2.out]; exact HL.out.symm), Lib.hid (by rw [HN2.out]; exact H5.out)⟩
            case measure => simp [RowKit.intOf]; omega
          | false =>
            obtain rfl : (0 : Int) = x := by
              rw [← HX.out]
              unfold valueAt
              rw [HFR.out]
              rfl
            go_wp2_with fail
            refine HLE.out.mono ?_
            rintro e w5 ⟨rfl, H5⟩
            go_wp2_with fail
            go_roundw
            case rel => exact ⟨i + 1, _, m, xc, F1, by omega, by go_num, rfl, by omega, Lib.hid (by rw [HN2.out]; exact HL.out.symm), Lib.hid (by rw [HN2.out]; exact H5.out)⟩
            case measure => simp [RowKit.intOf]; omega
    · obtain rfl : i = an := by omega
      go_wp2_with fail
      go_ret2
      exact ⟨_, F1, rfl, HB.out⟩
end Go.Proofs.Ytighjiiaplihjaa.Tab
