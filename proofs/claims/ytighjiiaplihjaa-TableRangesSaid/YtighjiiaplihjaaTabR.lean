/- The walk of TableRanges. -/
import Derived.Test.YtighjiiaplihjaaTabF
import Derived.Test.YtighjiiaplihjaaTabL
import Derived.Test.YtighjiiaplihjaaTabQ
namespace Go.Proofs.Ytighjiiaplihjaa.Tab
open Go.RowKit Go.Lib
variable {I : Impl}

theorem cell_eight (W : World) (x y : Key) (t : TypeId) {w : World} (h : w.heap[W.heap.size]? = some (.cells #[.int .i64 x.a, .int .i64 x.b, .int .i64 x.c, .int .i64 x.d, .int .i64 y.a, .int .i64 y.b, .int .i64 y.c, .int .i64 y.d] t (0, 0))) :
    (w.cell? ⟨W.heap.size, 0, none⟩ = some (.int .i64 x.a) ∧ w.cell? ⟨W.heap.size, 1, none⟩ = some (.int .i64 x.b) ∧ w.cell? ⟨W.heap.size, 2, none⟩ = some (.int .i64 x.c) ∧ w.cell? ⟨W.heap.size, 3, none⟩ = some (.int .i64 x.d)) ∧
    w.cell? ⟨W.heap.size, 4, none⟩ = some (.int .i64 y.a) ∧ w.cell? ⟨W.heap.size, 5, none⟩ = some (.int .i64 y.b) ∧ w.cell? ⟨W.heap.size, 6, none⟩ = some (.int .i64 y.c) ∧ w.cell? ⟨W.heap.size, 7, none⟩ = some (.int .i64 y.d) :=
  ⟨⟨cell_block (j := 0) h rfl, cell_block (j := 1) h rfl, cell_block (j := 2) h rfl, cell_block (j := 3) h rfl⟩, cell_block (j := 4) h rfl, cell_block (j := 5) h rfl, cell_block (j := 6) h rfl, cell_block (j := 7) h rfl⟩
set_option maxRecDepth 100000 in
set_option maxHeartbeats 8000000 in
theorem ranges_in (J : Iters I) (aa : Option Addr) (an ac : Nat) (A : Nat → AC) (x y : Key) (most : Int) (w : World) (hA : Acts w aa an A) (hac : an ≤ ac) (hmx : an ≤ maxLen) (hmost : -9223372036854775808 ≤ most ∧ most ≤ 9223372036854775807) :
    Calls Try.prog 4 #[.slice aa an ac, .agg #[.int .i64 x.a, .int .i64 x.b, .int .i64 x.c, .int .i64 x.d, .int .i64 y.a, .int .i64 y.b, .int .i64 y.c, .int .i64 y.d], .int .i64 most] w fun e w' => e = .returned (.bool true) ∧ Below w.heap.size w w' := by
  have bW := (Below.refl _ w).alloc (Nat.le_refl _) (.cells #[.int .i64 x.a, .int .i64 x.b, .int .i64 x.c, .int .i64 x.d, .int .i64 y.a, .int .i64 y.b, .int .i64 y.c, .int .i64 y.d] 44)
  have gW := heap_alloc_new w (.cells #[.int .i64 x.a, .int .i64 x.b, .int .i64 x.c, .int .i64 x.d, .int .i64 y.a, .int .i64 y.b, .int .i64 y.c, .int .i64 y.d] 44)
  obtain ⟨W0, hW0⟩ : ∃ W0, w.alloc (.cells #[.int .i64 x.a, .int .i64 x.b, .int .i64 x.c, .int .i64 x.d, .int .i64 y.a, .int .i64 y.b, .int .i64 y.c, .int .i64 y.d] 44) = W0 := ⟨_, rfl⟩
  rw [hW0] at bW gW
  have BW := Lib.hid bW; have GW := Lib.hid gW
  have sW : w.heap.size < W0.heap.size := (Array.getElem?_eq_some_iff.1 gW).1
  have SW := Lib.hid sW
  have HA0 := Lib.hid (acts_under hA bW)
  clear bW gW sW hA
  by_cases hbig : 40 < an
  · have hbi : (40 : Int) < (an : Int) := by omega
    go_enter Try.func4, Try.ntmps4
    go_wp2_with fail
    refine (awake_any J W0).mono ?_
    rintro e w' ⟨rfl, hb⟩
    go_wp2_with fail
    go_ret
    exact ⟨rfl, below_then BW.out hb⟩
  · have hbi : ¬ (40 : Int) < (an : Int) := by omega
    have hbd : decide ((40 : Int) < (an : Int)) = false := decide_eq_false hbi
    obtain ⟨l, hl⟩ : ∃ l, actsL A an = l := ⟨_, rfl⟩
    have HR : Hid (Rising l) := Lib.hid (hl ▸ rising_acts A an)
    have HL : Hid (l.length ≤ 40) := Lib.hid (by have := length_acts A an; rw [hl] at this; omega)
    have HAC : Hid (Calls Try.prog 9 #[ptr W0.heap.size, .slice aa an ac] (W0.alloc (.cells zeroT 28)) fun e w' => ∃ xv F, e = .returned (.tuple #[xv, .bool true]) ∧ Hid (Both I W0 w' W0.heap.size F xv l)) := Lib.hid (by
      refine (acts_any W0.heap.size _ aa an ac A _ HA0.out (by omega) hac (both_start I W0)).mono ?_
      rintro e w' ⟨xv, F, rfl, hb⟩
      rw [hl] at hb
      exact ⟨xv, F, rfl, Lib.hid hb⟩)
    clear hl
    go_enter Try.func4, Try.ntmps4
    go_wp2_with fail
    clear hW0
    refine HAC.out.mono ?_
    rintro e w2 ⟨xv, F, rfl, H2⟩
    obtain ⟨R, hR⟩ : ∃ R, ranged l x y most = R := ⟨_, rfl⟩
    have HRL : Hid (R.length ≤ 40) := Lib.hid (by rw [← hR]; unfold ranged; have := HL.out; have h1 := List.length_filter_le (within x y) l; rw [List.length_take]; omega)
    have HS : Hid (∀ X, Below w2.heap.size w2 X → (X.cell? ⟨w.heap.size, 0, none⟩ = some (.int .i64 x.a) ∧ X.cell? ⟨w.heap.size, 1, none⟩ = some (.int .i64 x.b) ∧ X.cell? ⟨w.heap.size, 2, none⟩ = some (.int .i64 x.c) ∧ X.cell? ⟨w.heap.size, 3, none⟩ = some (.int .i64 x.d)) ∧
        X.cell? ⟨w.heap.size, 4, none⟩ = some (.int .i64 y.a) ∧ X.cell? ⟨w.heap.size, 5, none⟩ = some (.int .i64 y.b) ∧ X.cell? ⟨w.heap.size, 6, none⟩ = some (.int .i64 y.c) ∧ X.cell? ⟨w.heap.size, 7, none⟩ = some (.int .i64 y.d)) := Lib.hid (fun X hX =>
      cell_eight w x y _ (((below_then H2.out.below hX).block w.heap.size SW.out).trans GW.out))
    have HSO : Hid (∀ X, Below w2.heap.size w2 X → Calls Try.prog 16 #[ptr W0.heap.size, kV x, kV y, .int .i64 most] X fun e w' => ∃ v, e = .returned v ∧ Hid (Pairs w' v R ∧ Below w2.heap.size w2 w' ∧ Below X.heap.size X w')) := Lib.hid (fun X hX => by
      refine (some_any J W0.heap.size F l x y most X (H2.out.under hX).pt HR.out (by have := HL.out; omega)).mono ?_
      rintro e w' ⟨v, rfl, ho, hb⟩
      rw [hR] at ho
      exact ⟨v, rfl, Lib.hid ⟨World.ownsRow.mono ho (Nat.zero_le _), below_then hX hb, hb⟩⟩)
    have HRA : Hid (∀ X, Below w2.heap.size w2 X → Calls Try.prog 17 #[xv, kV x, kV y, .int .i64 most] X fun e w' => ∃ v, e = .returned v ∧ Hid (Pairs w' v R ∧ Below w2.heap.size w2 w' ∧ Below X.heap.size X w')) := Lib.hid (fun X hX => by
      refine (range_any xv l x y most X (H2.out.under hX).pairs (by have := HL.out; omega) hmost).mono ?_
      rintro e w' ⟨v, rfl, ho, hb⟩
      rw [hR] at ho
      exact ⟨v, rfl, Lib.hid ⟨World.ownsRow.mono ho (Nat.zero_le _), below_then hX hb, hb⟩⟩)
    have HSM : Hid (∀ X v1 v2, Below w2.heap.size w2 X → Pairs X v1 R → Pairs X v2 R → Calls Try.prog 10 #[v1, v2] X fun e w' => e = .returned (.bool true) ∧ Hid (Below w2.heap.size w2 w')) := Lib.hid (fun X v1 v2 hX h1 h2 => by
      refine (same_yes v1 v2 R X h1 h2 (by have := HRL.out; omega)).mono ?_
      rintro e w' ⟨rfl, hb⟩
      exact ⟨rfl, Lib.hid (below_then hX hb)⟩)
    have HAW : Hid (∀ X, Below w2.heap.size w2 X → Calls Try.prog 8 #[] X fun e w' => e = .returned (.bool true) ∧ Hid (Below w2.heap.size w2 w')) := Lib.hid (fun X hX => by
      refine (awake_any J X).mono ?_
      rintro e w' ⟨rfl, hb⟩
      exact ⟨rfl, Lib.hid (below_then hX hb)⟩)
    have B0 : Below w2.heap.size w2 w2.drew := (Below.refl _ w2).drew
    obtain ⟨⟨e0, e1, e2, e3⟩, e4, e5, e6, e7⟩ := HS.out w2 (Below.refl _ _)
    clear hR
    go_wp2_with fail
    go_region_held3 (fun X => (X.cell? ⟨w.heap.size, 0, none⟩ = some (.int .i64 x.a) ∧ X.cell? ⟨w.heap.size, 1, none⟩ = some (.int .i64 x.b) ∧ X.cell? ⟨w.heap.size, 2, none⟩ = some (.int .i64 x.c) ∧ X.cell? ⟨w.heap.size, 3, none⟩ = some (.int .i64 x.d)) ∧
        X.cell? ⟨w.heap.size, 4, none⟩ = some (.int .i64 y.a) ∧ X.cell? ⟨w.heap.size, 5, none⟩ = some (.int .i64 y.b) ∧ X.cell? ⟨w.heap.size, 6, none⟩ = some (.int .i64 y.c) ∧ X.cell? ⟨w.heap.size, 7, none⟩ = some (.int .i64 y.d))
      (first | exact HS.out _ B0 | exact HS.out _ h3.out.2.1 | exact HS.out _ h4.out.2.1 | exact HS.out _ h5.out | exact HS.out _ h6.out)
      (first
        | (go_at_call 16; (first | (with_reducible (refine (HSO.out _ B0).mono ?_); rintro e w3 ⟨v1, rfl, h3⟩) | (refine (HSO.out _ h4.out.2.1).mono ?_; rintro e w3 ⟨v1, rfl, h3⟩)))
        | (go_at_call 17; (first | (with_reducible (refine (HRA.out _ B0).mono ?_); rintro e w4 ⟨v2, rfl, h4⟩) | (refine (HRA.out _ h3.out.2.1).mono ?_; rintro e w4 ⟨v2, rfl, h4⟩)))
        | (go_at_call 10; (first | (with_reducible (refine (HSM.out _ _ _ h4.out.2.1 (own_next h3.out.1 h4.out.2.2) h4.out.1).mono ?_); rintro e w5 ⟨rfl, h5⟩) | (refine (HSM.out _ _ _ h3.out.2.1 h3.out.1 (own_next h4.out.1 h3.out.2.2)).mono ?_; rintro e w5 ⟨rfl, h5⟩)))
        | (go_at_call 8; refine (HAW.out _ h5.out).mono ?_; rintro e w6 ⟨rfl, h6⟩))
    all_goals
      go_wp2_with fail
      go_ret
      exact ⟨rfl, below_then BW.out (below_then H2.out.below h6.out)⟩
end Go.Proofs.Ytighjiiaplihjaa.Tab
