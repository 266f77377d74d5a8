/- What must come, whatever the arguments are. -/
import Derived.Test.YtbibkonlhghplaaRecD
namespace Go.Proofs.Ytbibkonlhghplaa.Recipe
open Go.RowKit Go.Lib
open Goods (St Sts OwnS)

def awL : List St := [⟨1, 29⟩, ⟨2, 3⟩]
theorem aw_needs (I : Impl) : Hid (∀ B W g, Below B.heap.size B W → Fit W (plB g) → Calls Try.prog 8 #[blV (plB g), .int .i64 5, .int .i64 3] W fun e w' => ∃ a c, e = .returned (.tuple #[.slice a 2 c, .int .i64 0]) ∧ Hid (Below B.heap.size B w' ∧ Sts w' a awL)) := Lib.hid (fun B W g hB hf => by
  have := I.needs (plB g) 5 3 W hf (by simp [I64]) (by simp [I64])
  rw [(pl_needs g).1, (pl_needs g).2] at this
  refine this.mono ?_
  rintro e w' ⟨a, n, c, rfl, h⟩
  obtain ⟨h1, h2⟩ := own_sts h.out.1
  obtain rfl : 2 = n := h1
  exact ⟨a, c, rfl, Lib.hid ⟨below_then hB h.out.2, h2⟩⟩)
theorem aw_makes (I : Impl) : Hid (∀ B W g, Below B.heap.size B W → Fit W (plB g) → Calls Try.prog 10 #[blV (plB g), .int .i64 3] W fun e w' => e = .returned (.tuple #[.agg #[.int .i64 3, .int .i64 15], .int .i64 0]) ∧ Hid (Below B.heap.size B w')) := Lib.hid (fun B W g hB hf => by
  have := I.makes (plB g) 3 W hf (by simp [I64])
  rw [(pl_makes g).1, (pl_makes g).2.1, (pl_makes g).2.2] at this
  exact this.mono fun _ _ ⟨e, h⟩ => ⟨e, Lib.hid (below_then hB h)⟩)
theorem aw_time (I : Impl) : Hid (∀ B W g, Below B.heap.size B W → Fit W (plB g) → Calls Try.prog 12 #[blV (plB g), .int .i64 10, .int .i64 3] W fun e w' => e = .returned (.tuple #[.int .i64 144, .int .i64 0]) ∧ Hid (Below B.heap.size B w')) := Lib.hid (fun B W g hB hf => by
  have := I.time (plB g) 10 3 W hf (by simp [I64]) (by simp [I64])
  rw [(pl_time g).1, (pl_time g).2] at this
  exact this.mono fun _ _ ⟨e, h⟩ => ⟨e, Lib.hid (below_then hB h)⟩)
theorem aw_study (I : Impl) : Hid (∀ B W g, Below B.heap.size B W → Fit W (plB g) → Calls Try.prog 17 #[blV (plB g), .int .i64 2, .int .i64 2] W fun e w' => e = .returned (.tuple #[.int .i64 700, .int .i64 0]) ∧ Hid (Below B.heap.size B w')) := Lib.hid (fun B W g hB hf => by
  have := I.study (plB g) 2 2 W hf (by simp [I64]) (by simp [I64])
  rw [(pl_study g).1, (pl_study g).2] at this
  exact this.mono fun _ _ ⟨e, h⟩ => ⟨e, Lib.hid (below_then hB h)⟩)
theorem aw_runs (I : Impl) : Hid (∀ B W g, Below B.heap.size B W → Fit W (plB g) → Calls Try.prog 21 #[blV (plB g), .int .i64 11] W fun e w' => e = .returned (.tuple #[.int .i64 3, .int .i64 0]) ∧ Hid (Below B.heap.size B w')) := Lib.hid (fun B W g hB hf => by
  have := I.runs (plB g) 11 W hf (by simp [I64])
  rw [(pl_runs g).1, (pl_runs g).2] at this
  exact this.mono fun _ _ ⟨e, h⟩ => ⟨e, Lib.hid (below_then hB h)⟩)
theorem aw_check (I : Impl) : Hid (∀ B W g, Below B.heap.size B W → Fit W (plB g) → Calls Try.prog 15 #[blV (plB g), .int .i64 2] W fun e w' => e = .returned (.int .i64 1) ∧ Hid (Below B.heap.size B w')) := Lib.hid (fun B W g hB hf => by
  have := I.check (plB g) 2 W hf (by simp [I64])
  rw [pl_no g] at this
  exact this.mono fun _ _ ⟨e, h⟩ => ⟨e, Lib.hid (below_then hB h)⟩)
theorem aw_same : Hid (∀ B W a c, Below B.heap.size B W → Sts W a awL → Calls Try.prog 14 #[.slice a 2 c, .slice (some ⟨W.heap.size, 0, none⟩) 2 2] (W.alloc (.cells #[.int .i64 1, .int .i64 29, .int .i64 2, .int .i64 3] 30)) fun e w' => e = .returned (.bool true) ∧ Hid (Below B.heap.size B w')) := Lib.hid (fun B W a c hB hs => by
  have hA : Below W.heap.size W (W.alloc (.cells #[.int .i64 1, .int .i64 29, .int .i64 2, .int .i64 3] 30)) := (Below.refl _ W).alloc (Nat.le_refl _) _
  refine (same_at (l := awL) rfl (hs.under hA) rfl (sts_lit awL (heap_alloc_new W _) rfl) (by decide)).mono ?_
  rintro e w' ⟨rfl, h⟩
  exact ⟨rfl, Lib.hid (below_then hB (below_then hA h.out))⟩)
theorem aw_plain : Hid (∀ B W, Below B.heap.size B W → Calls Try.prog 23 #[] W fun e w' => ∃ g, e = .returned (blV (plB g)) ∧ Hid (Fit w' (plB g) ∧ Below B.heap.size B w')) := Lib.hid (fun _ W hB => (plain_in W).mono fun _ _ ⟨g, e, h⟩ => ⟨g, e, Lib.hid ⟨h.out.1, below_then hB h.out.2⟩⟩)
set_option maxRecDepth 100000 in
set_option maxHeartbeats 8000000 in
theorem awake_in (I : Impl) (w : World) : Calls Try.prog 7 #[] w fun e w' => e = .returned (.bool true) ∧ Below w.heap.size w w' := by
  have HP := aw_plain
  have H1 := aw_needs I
  have H2 := aw_makes I
  have H3 := aw_time I
  have H4 := aw_study I
  have H5 := aw_runs I
  have H6 := aw_check I
  have H7 := aw_same
  go_enter Try.func7, Try.ntmps7
  go_wp2_with fail
  refine (HP.out w w (Below.refl _ _)).mono ?_
  rintro e w1 ⟨g1, rfl, P1⟩
  go_wp2_with fail
  refine (H1.out w w1 g1 P1.out.2 P1.out.1).mono ?_
  rintro e w2 ⟨a, c, rfl, P2⟩
  go_wp2_with fail
  refine (HP.out w2 w2 (Below.refl _ _)).mono ?_
  rintro e w3 ⟨g2, rfl, P3⟩
  go_wp2_with fail
  refine (H2.out w2 w3 g2 P3.out.2 P3.out.1).mono ?_
  rintro e w4 ⟨rfl, P4⟩
  obtain ⟨V, hV⟩ : ∃ V, w4.heap.size = V := ⟨_, rfl⟩
  obtain ⟨S, hS⟩ : ∃ S, w4.alloc (.cells #[.int .i64 3, .int .i64 15] 30) = S := ⟨_, rfl⟩
  have PS : Hid (Below w.heap.size w S ∧ Sts S a awL) := Lib.hid (by
    have hA : Below w2.heap.size w2 S := below_then P4.out (by rw [← hS]; exact (Below.refl _ _).alloc (Nat.le_refl _) _)
    exact ⟨below_then P2.out.1 hA, P2.out.2.under hA⟩)
  have HC : Hid (∀ W, Below S.heap.size S W → W.cell? ⟨V, 0, none⟩ = some (.int .i64 3) ∧ W.cell? ⟨V, 1, none⟩ = some (.int .i64 15)) := Lib.hid (fun W hW => by
    have hb : S.heap[V]? = some (.cells #[.int .i64 3, .int .i64 15] 30 (0, 0)) := by rw [← hS, ← hV]; exact heap_alloc_new w4 _
    have h2 := (hW.block V (Array.getElem?_eq_some_iff.1 hb).1).trans hb
    exact ⟨cell_block (j := 0) h2 rfl, cell_block (j := 1) h2 rfl⟩)
  go_wp2_with fail
  clear hV hS
  refine (HP.out S S (Below.refl _ _)).mono ?_
  rintro e w5 ⟨g3, rfl, P5⟩
  go_wp2_with fail
  refine (H3.out S w5 g3 P5.out.2 P5.out.1).mono ?_
  rintro e w6 ⟨rfl, P6⟩
  go_wp2_with fail
  refine (HP.out S w6 P6.out).mono ?_
  rintro e w7 ⟨g4, rfl, P7⟩
  go_wp2_with fail
  refine (H4.out S w7 g4 P7.out.2 P7.out.1).mono ?_
  rintro e w8 ⟨rfl, P8⟩
  go_wp2_with fail
  refine (HP.out S w8 P8.out).mono ?_
  rintro e w9 ⟨g5, rfl, P9⟩
  go_wp2_with fail
  refine (H5.out S w9 g5 P9.out.2 P9.out.1).mono ?_
  rintro e w10 ⟨rfl, P10⟩
  go_wp2_with fail
  refine (H7.out S w10 a c P10.out (PS.out.2.under P10.out)).mono ?_
  rintro e w11 ⟨rfl, P11⟩
  obtain ⟨c0, c1⟩ := HC.out w11 P11.out
  go_wp2_with fail
  refine (HP.out S w11 P11.out).mono ?_
  rintro e w12 ⟨g6, rfl, P12⟩
  go_wp2_with fail
  refine (H6.out S w12 g6 P12.out.2 P12.out.1).mono ?_
  rintro e w13 ⟨rfl, P13⟩
  go_wp2_with fail
  go_ret
  exact ⟨rfl, below_then PS.out.1 P13.out⟩
theorem awake_at (I : Impl) (w : World) : Hid (∀ W, Below w.heap.size w W → Calls Try.prog 7 #[] W fun e w' => e = .returned (.bool true) ∧ Hid (Below w.heap.size w w')) := Lib.hid (fun W hW => (awake_in I W).mono fun _ _ ⟨e, h⟩ => ⟨e, Lib.hid (below_then hW h)⟩)
end Go.Proofs.Ytbibkonlhghplaa.Recipe
