/- What must come, whatever the arguments are. -/
import Derived.Test.YtokkefokodcphaaBayTw
import Derived.Test.YtokkefokodcphaaIntSame
namespace Go.Proofs.Ytokkefokodcphaa.Bay
open Go.RowKit Go.Lib IRows

/-- One bay that lies alone. -/
theorem by_one {W : World} (n : Int) : ByAt (W.alloc (.cells #[.int .i64 0, .int .i64 n, .int .i64 0, .int .i64 0] 46)) (some ⟨W.heap.size, 0, none⟩) [⟨0, n, 0, 0⟩] := fun i y hy => by
  have hb := heap_alloc_new W (.cells #[.int .i64 0, .int .i64 n, .int .i64 0, .int .i64 0] 46)
  obtain rfl : i = 0 := by have := (List.getElem?_eq_some_iff.1 hy).1; simp at this; omega
  obtain rfl : y = ⟨0, n, 0, 0⟩ := by simpa using hy.symm
  exact ⟨_, 0, rfl, (Array.getElem?_eq_some_iff.1 hb).1, cell_block (j := 0) hb rfl, cell_block (j := 1) hb rfl, cell_block (j := 2) hb rfl, cell_block (j := 3) hb rfl⟩
theorem new_one {w : World} (n : Int) (h0 : 0 ≤ n) (h8 : n ≤ 8) (W : World) (hb : Below w.heap.size w W) :
    Calls Try.prog 11 #[.slice (some ⟨W.heap.size, 0, none⟩) 1 1] (W.alloc (.cells #[.int .i64 0, .int .i64 n, .int .i64 0, .int .i64 0] 46)) fun e w' => ∃ Q, e = .returned (.tuple #[ptr Q, .int .i64 0]) ∧ Hid (∃ F, PS w w' Q [⟨[], [], n⟩, ⟨[], [], 0⟩] F ∧ Below w.heap.size w w') := by
  have hal := below_then hb ((Below.refl _ W).alloc (Nat.le_refl _) (.cells #[.int .i64 0, .int .i64 n, .int .i64 0, .int .i64 0] 46))
  refine (ps_new (w := w) _ 1 1 [⟨0, n, 0, 0⟩] _ hal rfl (by_one n) (by omega)).mono ?_
  rintro e w' (⟨_, Q, rfl, H⟩ | ⟨HM, _⟩)
  · obtain ⟨F, g1, g2⟩ := H.out
    exact ⟨Q, rfl, Lib.hid ⟨F, g1, g1.below⟩⟩
  · exfalso
    refine HM.out ⟨by simp, fun y hy => ?_⟩
    obtain rfl : y = ⟨0, n, 0, 0⟩ := by simpa using hy
    exact ⟨⟨h0, h8⟩, by show (0 : Int) ≤ 0; omega, by show (0 : Int) ≤ 8; omega⟩
def a0 : List Ln := [⟨[], [], 1⟩, ⟨[], [], 0⟩]
def a1 : List Ln := [⟨[5], [], 1⟩, ⟨[], [], 0⟩]
def a2 : List Ln := [⟨[5], [4], 1⟩, ⟨[], [], 0⟩]
def a3 : List Ln := [⟨[4], [], 1⟩, ⟨[], [], 0⟩]
theorem aw_1 : ask a0 1 0 5 = (a1, true, 0) := rfl
theorem aw_2 : ask a1 1 0 4 = (a2, false, 0) := rfl
theorem aw_3 : ask a2 1 1 6 = (a2, false, 10) := rfl
theorem aw_4 : wher a2 4 = (1, 0, 0, 0) := rfl
theorem aw_5 : leave a2 5 = (a3, 4, 0) := rfl
/-- The literal: one that runs. -/
theorem aw_lit (w : World) : ∃ U V X Y, w.heap.size = U ∧ w.alloc (.cells #[.int .i64 4] 3) = X ∧ X.heap.size = V ∧ X.alloc (.cells #[.slice (some ⟨U, 0, none⟩) 1 1, .slice none 0 0, .slice none 0 0, .slice none 0 0] 54) = Y ∧ Hid (Below w.heap.size w Y ∧ LsAt Y (fun _ => True) (some ⟨V, 0, none⟩) [⟨[4], some ⟨U, 0, none⟩, 1, [], none, 0⟩, ⟨[], none, 0, [], none, 0⟩]) := by
  have hb := heap_alloc_new w (.cells #[.int .i64 4] 3)
  obtain ⟨X, hX⟩ : ∃ X, w.alloc (.cells #[.int .i64 4] 3) = X := ⟨_, rfl⟩
  have h1 : Below w.heap.size w X := by rw [← hX]; exact (Below.refl _ _).alloc (Nat.le_refl _) _
  rw [hX] at hb
  have hc := heap_alloc_new X (.cells #[.slice (some ⟨w.heap.size, 0, none⟩) 1 1, .slice none 0 0, .slice none 0 0, .slice none 0 0] 54)
  obtain ⟨Y, hY⟩ : ∃ Y, X.alloc (.cells #[.slice (some ⟨w.heap.size, 0, none⟩) 1 1, .slice none 0 0, .slice none 0 0, .slice none 0 0] 54) = Y := ⟨_, rfl⟩
  have h2 : Below X.heap.size X Y := by rw [← hY]; exact (Below.refl _ _).alloc (Nat.le_refl _) _
  rw [hY] at hc
  have hr : NRow Y (fun _ => True) (some ⟨w.heap.size, 0, none⟩) [4] := by
    have := (NRow.of_irow (irow_lit [4] hb rfl)).under h2
    exact this.mono fun _ _ _ => trivial
  have hlt := (Array.getElem?_eq_some_iff.1 hc).1
  refine ⟨w.heap.size, X.heap.size, X, Y, rfl, hX, rfl, hY, Lib.hid ⟨below_then h1 h2, ⟨fun i x hx => ?_, fun i x hx => ?_⟩⟩⟩
  · match i, hx with
    | 0, hx =>
      obtain rfl : x = ⟨[4], some ⟨w.heap.size, 0, none⟩, 1, [], none, 0⟩ := by simpa using hx.symm
      exact ⟨_, 0, rfl, trivial, hlt, cell_block (j := 0) hc rfl, cell_block (j := 1) hc rfl⟩
    | 1, hx =>
      obtain rfl : x = ⟨[], none, 0, [], none, 0⟩ := by simpa using hx.symm
      exact ⟨_, 0, rfl, trivial, hlt, cell_block (j := 2) hc rfl, cell_block (j := 3) hc rfl⟩
    | i + 2, hx => simp at hx
  · match i, hx with
    | 0, hx =>
      obtain rfl : x = ⟨[4], some ⟨w.heap.size, 0, none⟩, 1, [], none, 0⟩ := by simpa using hx.symm
      exact ⟨hr, nrow_nil _ _ _⟩
    | 1, hx =>
      obtain rfl : x = ⟨[], none, 0, [], none, 0⟩ := by simpa using hx.symm
      exact ⟨nrow_nil _ _ _, nrow_nil _ _ _⟩
    | i + 2, hx => simp at hx
set_option maxRecDepth 100000 in
set_option maxHeartbeats 8000000 in
theorem awake_in (w : World) : Calls Try.prog 8 #[] w fun e w' => e = .returned (.bool true) ∧ Below w.heap.size w w' := by
  have HN : Hid (∀ W, Below w.heap.size w W → Calls Try.prog 11 #[.slice (some ⟨W.heap.size, 0, none⟩) 1 1] (W.alloc (.cells #[.int .i64 0, .int .i64 1, .int .i64 0, .int .i64 0] 46)) fun e w' => ∃ Q, e = .returned (.tuple #[ptr Q, .int .i64 0]) ∧ Hid (∃ F, PS w w' Q a0 F ∧ Below w.heap.size w w')) := Lib.hid (fun W hW => new_one 1 (by omega) (by omega) W hW)
  have H1 : Hid (∀ W Q, (∃ F, PS w W Q a0 F) → Calls Try.prog 16 #[ptr Q, .int .i64 1, .int .i64 0, .int .i64 5] W fun e w' => e = .returned (.tuple #[.bool true, .int .i64 0]) ∧ Hid (∃ F, PS w w' Q a1 F)) := Lib.hid (fun W Q ⟨F, h⟩ => by
    have := ps_ask 1 0 5 h
    rw [aw_1] at this
    exact this.mono fun _ _ ⟨e, H⟩ => ⟨e, Lib.hid (by obtain ⟨F', g, _⟩ := H.out; exact ⟨F', g⟩)⟩)
  have H2 : Hid (∀ W Q, (∃ F, PS w W Q a1 F) → Calls Try.prog 16 #[ptr Q, .int .i64 1, .int .i64 0, .int .i64 4] W fun e w' => e = .returned (.tuple #[.bool false, .int .i64 0]) ∧ Hid (∃ F, PS w w' Q a2 F)) := Lib.hid (fun W Q ⟨F, h⟩ => by
    have := ps_ask 1 0 4 h
    rw [aw_2] at this
    exact this.mono fun _ _ ⟨e, H⟩ => ⟨e, Lib.hid (by obtain ⟨F', g, _⟩ := H.out; exact ⟨F', g⟩)⟩)
  have H3 : Hid (∀ W Q, (∃ F, PS w W Q a2 F) → Calls Try.prog 16 #[ptr Q, .int .i64 1, .int .i64 1, .int .i64 6] W fun e w' => e = .returned (.tuple #[.bool false, .int .i64 10]) ∧ Hid (∃ F, PS w w' Q a2 F)) := Lib.hid (fun W Q ⟨F, h⟩ => by
    have := ps_ask 1 1 6 h
    rw [aw_3] at this
    exact this.mono fun _ _ ⟨e, H⟩ => ⟨e, Lib.hid (by obtain ⟨F', g, _⟩ := H.out; exact ⟨F', g⟩)⟩)
  have H4 : Hid (∀ W Q, (∃ F, PS w W Q a2 F) → Calls Try.prog 18 #[ptr Q, .int .i64 4] W fun e w' => e = .returned (.tuple #[.int .i64 1, .int .i64 0, .int .i64 0, .int .i64 0]) ∧ Hid (∃ F, PS w w' Q a2 F)) := Lib.hid (fun W Q ⟨F, h⟩ => by
    have := ps_where 4 h
    rw [aw_4] at this
    exact this.mono fun _ _ ⟨e, H⟩ => ⟨e, Lib.hid ⟨F, h.under H.out⟩⟩)
  have H5 : Hid (∀ W Q, (∃ F, PS w W Q a2 F) → Calls Try.prog 17 #[ptr Q, .int .i64 5] W fun e w' => e = .returned (.tuple #[.int .i64 4, .int .i64 0]) ∧ Hid (∃ F, PS w w' Q a3 F)) := Lib.hid (fun W Q ⟨F, h⟩ => by
    have := ps_leave 5 h
    rw [aw_5] at this
    exact this.mono fun _ _ ⟨e, H⟩ => ⟨e, Lib.hid (by obtain ⟨F', g, _⟩ := H.out; exact ⟨F', g⟩)⟩)
  have H6 : Hid (∀ W Q, (∃ F, PS w W Q a3 F) → Calls Try.prog 15 #[ptr Q] W fun e w' => ∃ a c, e = .returned (.slice a 2 c) ∧ Hid (Below w.heap.size w w' ∧ ∃ ds : List Dn, ds.length = 2 ∧ ds.map Dn.p = a3.map Ln.p ∧ (∃ N, LsAt w' N a ds) ∧ ∀ x ∈ ds, x.r.length ≤ 8 ∧ x.q.length ≤ 8)) := Lib.hid (fun W Q ⟨F, h⟩ => by
    refine (ps_lines h).mono ?_
    rintro e w' ⟨a, n, c, rfl, B, H⟩
    obtain ⟨ds, g1, g2, g3, g4, g5, _⟩ := H.out
    obtain rfl : n = 2 := g5
    exact ⟨a, c, rfl, Lib.hid ⟨below_then h.below B.out, ds, g1, g2, ⟨_, g3⟩, g4⟩⟩)
  go_enter Try.func8, Try.ntmps8
  go_wp2_with fail
  refine (HN.out _ (Below.refl _ _)).mono ?_
  rintro e w1 ⟨Q, rfl, P1⟩
  go_wp2_with fail
  refine (H1.out _ Q (by obtain ⟨F, h, _⟩ := P1.out; exact ⟨F, h⟩)).mono ?_
  rintro e w2 ⟨rfl, P2⟩
  go_wp2_with fail
  refine (H2.out _ Q P2.out).mono ?_
  rintro e w3 ⟨rfl, P3⟩
  go_wp2_with fail
  refine (H3.out _ Q P3.out).mono ?_
  rintro e w4 ⟨rfl, P4⟩
  go_wp2_with fail
  refine (H4.out _ Q P4.out).mono ?_
  rintro e w5 ⟨rfl, P5⟩
  go_wp2_with fail
  refine (H5.out _ Q P5.out).mono ?_
  rintro e w6 ⟨rfl, P6⟩
  go_wp2_with fail
  refine (H6.out _ Q P6.out).mono ?_
  rintro e w7 ⟨a, c, rfl, P7⟩
  obtain ⟨U, V, X, Y, hU, hX, hV, hY, HY⟩ := aw_lit w7
  have HS : Hid (Calls Try.prog 14 #[.slice a 2 c, .slice (some ⟨V, 0, none⟩) 2 2] Y fun e w' => e = .returned (.bool true) ∧ Hid (Below w.heap.size w w')) := Lib.hid (by
    obtain ⟨hb, ds, g1, g2, ⟨N, g3⟩, g4⟩ := P7.out
    obtain ⟨hb2, hl⟩ := HY.out
    refine (same_yes a 2 c ds (some ⟨V, 0, none⟩) 2 _ Y g1 (g3.under hb2) hl g2 (by omega) (fun x hx => by have := g4 x hx; omega)).mono ?_
    rintro e w' ⟨rfl, hb3⟩
    exact ⟨rfl, Lib.hid (below_then (below_then hb hb2) hb3)⟩)
  go_wp2_with fail
  refine HS.out.mono ?_
  rintro e w8 ⟨rfl, P8⟩
  go_wp2_with fail
  go_ret
  exact ⟨rfl, P8.out⟩
theorem awake_at (w : World) : Hid (∀ W, Below w.heap.size w W → Calls Try.prog 8 #[] W fun e w' => e = .returned (.bool true) ∧ Hid (Below w.heap.size w w')) := Lib.hid (fun W hW => (awake_in W).mono fun _ _ ⟨e, h⟩ => ⟨e, Lib.hid (below_then hW h)⟩)
end Go.Proofs.Ytokkefokodcphaa.Bay
