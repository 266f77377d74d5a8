/- The program's Put. The program's Take, Move. -/
import Derived.Test.YtkljaaeeocghjaaBinImA
namespace Go.Proofs.Ytkljaaeeocghjaa.Bins
open Go.RowKit Go.Lib
open Tab (ptr)

set_option maxRecDepth 100000 in
set_option maxHeartbeats 4000000 in
theorem put_im {Q : Nat} {R : Nat → Prop} {l : List Lt} (x : Bn) (n : Int) (w : World) (h : PT w Q R l) (hg : Good l) (hl : l.length ≤ 1000) (hn : n ≤ 9223372036854775807) :
    Calls Try.prog 25 #[ptr Q, bV x, .int .i64 n] w fun e w' => e = .returned (.int .i64 (putE l x n)) ∧ ∃ R', PT w' Q R' (putL l x n) ∧ Up w w' Q R R' := by
  obtain ⟨V, X, hV, hX, HP⟩ := box_bin w x
  have HXB : Hid (Below w.heap.size w X) := Lib.hid (by rw [← hX]; exact (Below.refl _ w).alloc (Nat.le_refl _) _)
  obtain ⟨⟨b0, b1, b2, b3⟩, _⟩ := HP.out X (Below.refl _ _)
  have HI := isbin_at x X
  have HPT : Hid (∀ W, Below X.heap.size X W → PT W Q R l) := Lib.hid (fun W hW => h.under (below_then HXB.out hW))
  have HSA : Hid (∀ W, Below X.heap.size X W → putL l x n = l → ∃ R', PT W Q R' (putL l x n) ∧ Up w W Q R R') := Lib.hid (fun W hW e => ⟨R, by rw [e]; exact HPT.out W hW, Up.of_below (below_then HXB.out hW)⟩)
  by_cases hm : MayB x
  case neg =>
    have HM := Lib.hid (HI.out X (Below.refl _ _) false (decide_eq_false hm))
    have he : putE l x n = 1 := by unfold putE; rw [if_neg fun h => hm h.1]
    have hp : putL l x n = l := by unfold putL; rw [if_neg (by rw [he]; decide)]
    have HRR : Hid (∀ W, Below X.heap.size X W → ∃ R', PT W Q R' (putL l x n) ∧ Up w W Q R R') := Lib.hid (fun W hW => HSA.out W hW hp)
    rw [he]
    clear h hg hl hn hm he hp
    go_enter Try.func25, Try.ntmps25
    go_wp2_with fail
    clear hX hV
    refine HM.out.mono ?_
    rintro e w1 ⟨rfl, H1⟩
    go_wp2_with fail
    go_ret
    exact ⟨rfl, HRR.out _ H1.out⟩
  have HM := Lib.hid (HI.out X (Below.refl _ _) true (decide_eq_true hm))
  by_cases hq : n < 0
  · have he : putE l x n = 1 := by unfold putE; rw [if_neg fun h => by omega]
    have hp : putL l x n = l := by unfold putL; rw [if_neg (by rw [he]; decide)]
    have HRR : Hid (∀ W, Below X.heap.size X W → ∃ R', PT W Q R' (putL l x n) ∧ Up w W Q R R') := Lib.hid (fun W hW => HSA.out W hW hp)
    have d1 : decide (n < 0) = true := decide_eq_true hq
    rw [he]
    clear h hg hl hn hm he hp hq
    go_enter Try.func25, Try.ntmps25
    go_wp2_with fail
    clear hX hV
    refine HM.out.mono ?_
    rintro e w1 ⟨rfl, H1⟩
    go_wp2_with fail
    go_ret
    exact ⟨rfl, HRR.out _ H1.out⟩
  have d1 : decide (n < 0) = false := decide_eq_false hq
  have h2 := hg.qty x
  have hpos : ∀ a ∈ l, 0 ≤ a.q := fun a ha => by have := hg.pos a ha; omega
  have h0 := tot_nonneg hpos x.t
  obtain ⟨z, hz⟩ : ∃ z, tot l x.t = z := ⟨_, rfl⟩
  obtain ⟨y, hy⟩ : ∃ y, qty l x = y := ⟨_, rfl⟩
  rw [hz] at h2 h0
  rw [hy] at h2
  have HTO : Hid (∀ W, Below X.heap.size X W → Calls Try.prog 17 #[ptr Q, .int .i64 x.t] W fun e w' => e = .returned (.int .i64 z) ∧ Hid (Below X.heap.size X w')) := Lib.hid (fun W hW => by
    rw [← hz]
    exact (total_im x.t W (HPT.out W hW) hg hl).mono fun _ _ ⟨e, h⟩ => ⟨e, Lib.hid (below_then hW h)⟩)
  by_cases hov : mq - z < n
  · have HRO : Hid (∀ W, Calls Try.prog 29 #[.int .i64 z, .int .i64 n] W fun e w' => e = .returned (.bool false) ∧ W = w') := Lib.hid (fun W => by
      have := room_any z n W h0 h2.2.2
      rw [decide_eq_false (by omega)] at this
      exact this)
    have he : putE l x n = 5 := by unfold putE; rw [if_pos ⟨hm, by omega⟩, hz, if_pos hov]
    have hp : putL l x n = l := by unfold putL; rw [if_neg (by rw [he]; decide)]
    have HRR : Hid (∀ W, Below X.heap.size X W → ∃ R', PT W Q R' (putL l x n) ∧ Up w W Q R R') := Lib.hid (fun W hW => HSA.out W hW hp)
    rw [he]
    clear h hg hl hn hm he hp hq hov h0 h2 hz hy hpos
    go_enter Try.func25, Try.ntmps25
    go_wp2_with fail
    clear hX hV
    refine HM.out.mono ?_
    rintro e w1 ⟨rfl, H1⟩
    obtain ⟨⟨_, _, _, y3⟩, _⟩ := HP.out w1 H1.out
    clear b0 b1 b2 b3
    go_wp2_with fail
    refine (HTO.out _ H1.out).mono ?_
    rintro e w2 ⟨rfl, H2⟩
    go_wp2_with fail
    refine (HRO.out _).mono ?_
    rintro e w' ⟨rfl, rfl⟩
    go_wp2_with fail
    go_ret
    exact ⟨rfl, HRR.out _ H2.out⟩
  · have HRO : Hid (∀ W, Calls Try.prog 29 #[.int .i64 z, .int .i64 n] W fun e w' => e = .returned (.bool true) ∧ W = w') := Lib.hid (fun W => by
      have := room_any z n W h0 h2.2.2
      rw [decide_eq_true (by omega)] at this
      exact this)
    have he : putE l x n = 0 := by unfold putE; rw [if_pos ⟨hm, by omega⟩, hz, if_neg hov]
    have hp : putL l x n = setL l x (y + n) := by unfold putL; rw [if_pos he, hy]
    have wy : IntKind.i64.wrap (y + n) = y + n := IntWalk.i64_in _ (by unfold mq at hov h2; omega)
    have HQ : Hid (∀ W, Below X.heap.size X W → Calls Try.prog 27 #[ptr Q, bV x] W fun e w' => e = .returned (.int .i64 y) ∧ Hid (Below X.heap.size X w')) := Lib.hid (fun W hW => by
      rw [← hy]
      exact (at_im x W (HPT.out W hW) hg.rise hg.pos hl).mono fun _ _ ⟨e, h⟩ => ⟨e, Lib.hid (below_then hW h)⟩)
    have HS : Hid (∀ W, Below X.heap.size X W → Calls Try.prog 28 #[ptr Q, bV x, .int .i64 (y + n)] W fun e w' => e = .returned (.tuple #[]) ∧ Hid ((∃ R', PT w' Q R' (putL l x n) ∧ Up w w' Q R R') ∧ CellsB w' V x)) := Lib.hid (by
      rw [hp]
      exact set_box x (y + n) h hg.rise hl hV HXB.out (by rw [← hX, ← hV]; simp) HP.out)
    rw [he]
    clear h hg hl hn hm he hp hq hov h0 h2 hz hy hpos HSA HPT
    go_enter Try.func25, Try.ntmps25
    go_wp2_with fail
    clear hX hV
    refine HM.out.mono ?_
    rintro e w1 ⟨rfl, H1⟩
    obtain ⟨⟨_, _, _, y3⟩, _⟩ := HP.out w1 H1.out
    clear b0 b1 b2 b3
    go_wp2_with fail
    refine (HTO.out _ H1.out).mono ?_
    rintro e w2 ⟨rfl, H2⟩
    go_wp2_with fail
    refine (HRO.out _).mono ?_
    rintro e w' ⟨rfl, rfl⟩
    obtain ⟨⟨x0, x1, x2, x3⟩, _⟩ := HP.out w2 H2.out
    have H2D : Hid (Below X.heap.size X w2.drew) := Lib.hid H2.out.drew
    clear y3
    go_wp2_with fail
    go_region_held3 (fun W => W.cell? ⟨V, 0, none⟩ = some (.int .i64 x.o) ∧ W.cell? ⟨V, 1, none⟩ = some (.int .i64 x.d) ∧ W.cell? ⟨V, 2, none⟩ = some (.int .i64 x.p) ∧ W.cell? ⟨V, 3, none⟩ = some (.int .i64 x.t))
      (first | exact (HP.out _ H2D.out).1 | exact (HP.out _ H3.out).1 | exact H4.out.2)
      (first
        | (go_at_call 27; refine (HQ.out _ H2D.out).mono ?_; rintro e w3 ⟨rfl, H3⟩)
        | (go_at_call 28; refine (HS.out _ H3.out).mono ?_; rintro e w4 ⟨rfl, H4⟩))
    all_goals
      go_wp2_with fail
      go_ret
      exact ⟨rfl, H4.out.1⟩
end Go.Proofs.Ytkljaaeeocghjaa.Bins
namespace Go.Proofs.Ytkljaaeeocghjaa.Bins
open Go.RowKit Go.Lib
open Tab (ptr)

/-- What is laid where something lies makes no list longer. -/
theorem setL_len {l : List Lt} (hr : Rise l) (hq : ∀ a ∈ l, 1 ≤ a.q) {x : Bn} {n : Int} (h : n = 0 ∨ 0 < qty l x) : (setL l x n).length ≤ l.length := by
  have e : (setL l x n).length = (prs (setL l x n)).length := (prs_length _).symm
  rw [e, ← prs_length l]
  by_cases h0 : n = 0
  · subst h0
    rw [← del_prs hr]
    exact Tab.length_del _ _
  · have h1 : 0 < qty l x := by rcases h with h | h; · exact absurd h h0
                                · exact h
    have hh : Tab.has (prs l) (kB x) = true := by rw [has_prs hq]; exact decide_eq_true h1
    have hp := Tab.place_lt (n := Tab.place (prs l) (kB x)) rfl hh
    rw [← put_prs hr h0]
    unfold Tab.put
    rw [hh, if_pos rfl, List.length_append, List.length_cons, List.length_take, List.length_drop]
    omega
theorem takeL_len {l : List Lt} (h : Good l) (x : Bn) (n : Int) : (takeL l x n).length ≤ l.length := by
  unfold takeL
  by_cases he : takeE l x n = 0
  · rw [if_pos he]
    obtain ⟨_, h1, h2⟩ := takeE_zero he
    refine setL_len h.rise h.pos ?_
    have := (h.qty x).1
    omega
  · rw [if_neg he]
    exact Nat.le_refl _
set_option maxRecDepth 100000 in
set_option maxHeartbeats 4000000 in
theorem take_im {Q : Nat} {R : Nat → Prop} {l : List Lt} (x : Bn) (n : Int) (w : World) (h : PT w Q R l) (hg : Good l) (hl : l.length ≤ 1000) :
    Calls Try.prog 24 #[ptr Q, bV x, .int .i64 n] w fun e w' => e = .returned (.int .i64 (takeE l x n)) ∧ ∃ R', PT w' Q R' (takeL l x n) ∧ Up w w' Q R R' := by
  obtain ⟨V, X, hV, hX, HP⟩ := box_bin w x
  have HXB : Hid (Below w.heap.size w X) := Lib.hid (by rw [← hX]; exact (Below.refl _ w).alloc (Nat.le_refl _) _)
  obtain ⟨⟨b0, b1, b2, b3⟩, _⟩ := HP.out X (Below.refl _ _)
  have HI := isbin_at x X
  have HPT : Hid (∀ W, Below X.heap.size X W → PT W Q R l) := Lib.hid (fun W hW => h.under (below_then HXB.out hW))
  have HSA : Hid (∀ W, Below X.heap.size X W → takeL l x n = l → ∃ R', PT W Q R' (takeL l x n) ∧ Up w W Q R R') := Lib.hid (fun W hW e => ⟨R, by rw [e]; exact HPT.out W hW, Up.of_below (below_then HXB.out hW)⟩)
  by_cases hm : MayB x
  case neg =>
    have HM := Lib.hid (HI.out X (Below.refl _ _) false (decide_eq_false hm))
    have he : takeE l x n = 1 := by unfold takeE; rw [if_neg fun h => hm h.1]
    have hp : takeL l x n = l := by unfold takeL; rw [if_neg (by rw [he]; decide)]
    have HRR : Hid (∀ W, Below X.heap.size X W → ∃ R', PT W Q R' (takeL l x n) ∧ Up w W Q R R') := Lib.hid (fun W hW => HSA.out W hW hp)
    rw [he]
    clear h hg hl hm he hp
    go_enter Try.func24, Try.ntmps24
    go_wp2_with fail
    clear hX hV
    refine HM.out.mono ?_
    rintro e w1 ⟨rfl, H1⟩
    go_wp2_with fail
    go_ret
    exact ⟨rfl, HRR.out _ H1.out⟩
  have HM := Lib.hid (HI.out X (Below.refl _ _) true (decide_eq_true hm))
  by_cases hq : n < 0
  · have he : takeE l x n = 1 := by unfold takeE; rw [if_neg fun h => by omega]
    have hp : takeL l x n = l := by unfold takeL; rw [if_neg (by rw [he]; decide)]
    have HRR : Hid (∀ W, Below X.heap.size X W → ∃ R', PT W Q R' (takeL l x n) ∧ Up w W Q R R') := Lib.hid (fun W hW => HSA.out W hW hp)
    have d1 : decide (n < 0) = true := decide_eq_true hq
    rw [he]
    clear h hg hl hm he hp hq
    go_enter Try.func24, Try.ntmps24
    go_wp2_with fail
    clear hX hV
    refine HM.out.mono ?_
    rintro e w1 ⟨rfl, H1⟩
    go_wp2_with fail
    go_ret
    exact ⟨rfl, HRR.out _ H1.out⟩
  have d1 : decide (n < 0) = false := decide_eq_false hq
  have h2 := hg.qty x
  obtain ⟨y, hy⟩ : ∃ y, qty l x = y := ⟨_, rfl⟩
  rw [hy] at h2
  have HQ : Hid (∀ W, Below X.heap.size X W → Calls Try.prog 27 #[ptr Q, bV x] W fun e w' => e = .returned (.int .i64 y) ∧ Hid (Below X.heap.size X w')) := Lib.hid (fun W hW => by
    rw [← hy]
    exact (at_im x W (HPT.out W hW) hg.rise hg.pos hl).mono fun _ _ ⟨e, h⟩ => ⟨e, Lib.hid (below_then hW h)⟩)
  by_cases hov : y < n
  · have he : takeE l x n = 7 := by unfold takeE; rw [if_pos ⟨hm, by omega⟩, hy, if_pos hov]
    have hp : takeL l x n = l := by unfold takeL; rw [if_neg (by rw [he]; decide)]
    have HRR : Hid (∀ W, Below X.heap.size X W → ∃ R', PT W Q R' (takeL l x n) ∧ Up w W Q R R') := Lib.hid (fun W hW => HSA.out W hW hp)
    have d2 : decide (y < n) = true := decide_eq_true hov
    rw [he]
    clear h hg hl hm he hp hq hov h2 hy
    go_enter Try.func24, Try.ntmps24
    go_wp2_with fail
    clear hX hV
    refine HM.out.mono ?_
    rintro e w1 ⟨rfl, H1⟩
    obtain ⟨⟨x0, x1, x2, x3⟩, _⟩ := HP.out w1 H1.out
    have H1D : Hid (Below X.heap.size X w1.drew) := Lib.hid H1.out.drew
    clear b0 b1 b2 b3
    go_wp2_with fail
    go_region_held3 (fun W => W.cell? ⟨V, 0, none⟩ = some (.int .i64 x.o) ∧ W.cell? ⟨V, 1, none⟩ = some (.int .i64 x.d) ∧ W.cell? ⟨V, 2, none⟩ = some (.int .i64 x.p) ∧ W.cell? ⟨V, 3, none⟩ = some (.int .i64 x.t))
      (first | exact (HP.out _ H1D.out).1 | exact (HP.out _ H3.out).1)
      (first | (go_at_call 27; refine (HQ.out _ H1D.out).mono ?_; rintro e w3 ⟨rfl, H3⟩))
    all_goals
      go_wp2_with fail
      go_ret
      exact ⟨rfl, HRR.out _ H3.out⟩
  · have he : takeE l x n = 0 := by unfold takeE; rw [if_pos ⟨hm, by omega⟩, hy, if_neg hov]
    have hp : takeL l x n = setL l x (y - n) := by unfold takeL; rw [if_pos he, hy]
    have d2 : decide (y < n) = false := decide_eq_false hov
    have wy : IntKind.i64.wrap (y - n) = y - n := IntWalk.i64_in _ (by unfold mq at h2; omega)
    have HS : Hid (∀ W, Below X.heap.size X W → Calls Try.prog 28 #[ptr Q, bV x, .int .i64 (y - n)] W fun e w' => e = .returned (.tuple #[]) ∧ Hid ((∃ R', PT w' Q R' (takeL l x n) ∧ Up w w' Q R R') ∧ CellsB w' V x)) := Lib.hid (by
      rw [hp]
      exact set_box x (y - n) h hg.rise hl hV HXB.out (by rw [← hX, ← hV]; simp) HP.out)
    rw [he]
    clear h hg hl hm he hp hq hov h2 hy HSA HPT
    go_enter Try.func24, Try.ntmps24
    go_wp2_with fail
    clear hX hV
    refine HM.out.mono ?_
    rintro e w1 ⟨rfl, H1⟩
    obtain ⟨⟨x0, x1, x2, x3⟩, _⟩ := HP.out w1 H1.out
    have H1D : Hid (Below X.heap.size X w1.drew) := Lib.hid H1.out.drew
    clear b0 b1 b2 b3
    go_wp2_with fail
    go_region_held3 (fun W => W.cell? ⟨V, 0, none⟩ = some (.int .i64 x.o) ∧ W.cell? ⟨V, 1, none⟩ = some (.int .i64 x.d) ∧ W.cell? ⟨V, 2, none⟩ = some (.int .i64 x.p) ∧ W.cell? ⟨V, 3, none⟩ = some (.int .i64 x.t))
      (first | exact (HP.out _ H1D.out).1 | exact (HP.out _ H3.out).1)
      (first | (go_at_call 27; refine (HQ.out _ H1D.out).mono ?_; rintro e w3 ⟨rfl, H3⟩))
    all_goals
      obtain ⟨⟨z0, z1, z2, z3⟩, _⟩ := HP.out w3 H3.out
      have H3D : Hid (Below X.heap.size X w3.drew) := Lib.hid H3.out.drew
      go_wp2_with fail
      go_region_held3 (fun W => W.cell? ⟨V, 0, none⟩ = some (.int .i64 x.o) ∧ W.cell? ⟨V, 1, none⟩ = some (.int .i64 x.d) ∧ W.cell? ⟨V, 2, none⟩ = some (.int .i64 x.p) ∧ W.cell? ⟨V, 3, none⟩ = some (.int .i64 x.t))
        (first | exact (HP.out _ H3D.out).1 | exact H4.out.2)
        (first | (go_at_call 28; refine (HS.out _ H3D.out).mono ?_; rintro e w4 ⟨rfl, H4⟩))
      all_goals
        go_wp2_with fail
        go_ret
        exact ⟨rfl, H4.out.1⟩
/-! Move -/
theorem moveE_take {l : List Lt} {f t : Bn} {n : Int} (ht : MayB t) (e : f.t = t.t) : moveE l f t n = takeE l f n := by
  unfold moveE takeE
  by_cases h : MayB f ∧ 0 ≤ n
  · rw [if_pos ⟨h.1, ht, e, h.2⟩, if_pos h]
  · rw [if_neg (fun k => h ⟨k.1, k.2.2.2⟩), if_neg h]
theorem moveE_no {l : List Lt} {f t : Bn} {n : Int} (h : ¬ (MayB t ∧ f.t = t.t)) : moveE l f t n = 1 := by
  unfold moveE
  rw [if_neg (fun k => h ⟨k.2.1, k.2.2.1⟩)]
theorem moveL_no {l : List Lt} {f t : Bn} {n : Int} (h : moveE l f t n ≠ 0) : moveL l f t n = l := by unfold moveL; rw [if_neg h]
set_option maxRecDepth 100000 in
set_option maxHeartbeats 4000000 in
theorem move_im {Q : Nat} {R : Nat → Prop} {l : List Lt} (x y : Bn) (n : Int) (w : World) (h : PT w Q R l) (hg : Good l) (hl : l.length ≤ 1000) (hn : n ≤ 9223372036854775807) :
    Calls Try.prog 37 #[ptr Q, bV x, bV y, .int .i64 n] w fun e w' => e = .returned (.int .i64 (moveE l x y n)) ∧ ∃ R', PT w' Q R' (moveL l x y n) ∧ Up w w' Q R R' := by
  obtain ⟨V, X, hV, hX, HP0⟩ := box_bin w x
  obtain ⟨U, Y, hU, hY, HP1⟩ := box_bin X y
  have hXB : Below w.heap.size w X := by rw [← hX]; exact (Below.refl _ w).alloc (Nat.le_refl _) _
  have hYB : Below X.heap.size X Y := by rw [← hY]; exact (Below.refl _ X).alloc (Nat.le_refl _) _
  have HYB : Hid (Below w.heap.size w Y) := Lib.hid (below_then hXB hYB)
  have HP : Hid (∀ W, Below Y.heap.size Y W → CellsB W V x ∧ CellsB W U y) := Lib.hid (fun W hW => ⟨(HP0.out W (below_then hYB hW)).1, (HP1.out W hW).1⟩)
  have hUY : U < Y.heap.size := by rw [← hY, ← hU]; simp
  have hUw : w.heap.size < U := by rw [← hU, ← hX]; simp
  obtain ⟨⟨b0, b1, b2, b3⟩, c0, c1, c2, c3⟩ := HP.out Y (Below.refl _ _)
  have HI := isbin_at y Y
  have HPT : Hid (∀ W, Below Y.heap.size Y W → PT W Q R l) := Lib.hid (fun W hW => h.under (below_then HYB.out hW))
  have HSA : Hid (∀ W, Below Y.heap.size Y W → moveL l x y n = l → ∃ R', PT W Q R' (moveL l x y n) ∧ Up w W Q R R') := Lib.hid (fun W hW e => ⟨R, by rw [e]; exact HPT.out W hW, Up.of_below (below_then HYB.out hW)⟩)
  by_cases hm : MayB y
  case neg =>
    have HM := Lib.hid (HI.out Y (Below.refl _ _) false (decide_eq_false hm))
    have he : moveE l x y n = 1 := moveE_no fun k => hm k.1
    have hp : moveL l x y n = l := moveL_no (by rw [he]; decide)
    have HRR : Hid (∀ W, Below Y.heap.size Y W → ∃ R', PT W Q R' (moveL l x y n) ∧ Up w W Q R R') := Lib.hid (fun W hW => HSA.out W hW hp)
    rw [he]
    clear h hg hl hm he hp hn hUY hUw hXB hYB
    go_enter Try.func37, Try.ntmps37
    go_wp2_with fail
    clear hX hV hY hU
    refine HM.out.mono ?_
    rintro e w1 ⟨rfl, H1⟩
    go_wp2_with fail
    go_ret
    exact ⟨rfl, HRR.out _ H1.out⟩
  have HM := Lib.hid (HI.out Y (Below.refl _ _) true (decide_eq_true hm))
  by_cases ht : x.t = y.t
  case neg =>
    have he : moveE l x y n = 1 := moveE_no fun k => ht k.2
    have hp : moveL l x y n = l := moveL_no (by rw [he]; decide)
    have HRR : Hid (∀ W, Below Y.heap.size Y W → ∃ R', PT W Q R' (moveL l x y n) ∧ Up w W Q R R') := Lib.hid (fun W hW => HSA.out W hW hp)
    have d1 : (x.t == y.t) = false := by simpa using ht
    have d2 : (x.t != y.t) = true := by simpa using ht
    rw [he]
    clear h hg hl hm he hp hn hUY hUw hXB hYB ht
    go_enter Try.func37, Try.ntmps37
    go_wp2_with fail
    clear hX hV hY hU
    refine HM.out.mono ?_
    rintro e w1 ⟨rfl, H1⟩
    obtain ⟨⟨_, _, _, x3⟩, _, _, _, y3⟩ := HP.out w1 H1.out
    clear b0 b1 b2 b3 c0 c1 c2 c3
    go_wp2_with fail
    go_ret
    exact ⟨rfl, HRR.out _ H1.out⟩
  have HT : Hid (∀ W, Below Y.heap.size Y W → Calls Try.prog 24 #[ptr Q, bV x, .int .i64 n] W fun e w' => e = .returned (.int .i64 (takeE l x n)) ∧ Hid ((∃ R', PT w' Q R' (takeL l x n) ∧ Up w w' Q R R') ∧ CellsB w' U y)) := Lib.hid (fun W hW => by
    refine (take_im x n W (HPT.out W hW) hg hl).mono ?_
    rintro e w' ⟨rfl, R', h1, h2⟩
    exact ⟨rfl, Lib.hid ⟨⟨R', h1, (Up.of_below (below_then HYB.out hW)).trans h2⟩, CellsB.up (HP.out W hW).2 h2 (by have := hW.size; omega) (by have := h.lt Q h.self; omega)⟩⟩)
  have hmt := moveE_take (l := l) (n := n) hm ht
  by_cases h0 : takeE l x n = 0
  · have hb := move_room hg (f := x) (t := y) (n := n) (by rw [hmt]; exact h0)
    have HG : Hid (∀ W R', PT W Q R' (takeL l x n) → Calls Try.prog 25 #[ptr Q, bV y, .int .i64 n] W fun e w' => e = .returned (.int .i64 0) ∧ ∃ R2, PT w' Q R2 (moveL l x y n) ∧ Up W w' Q R' R2) := Lib.hid fun W R' hW => by
      have := put_im y n W hW (good_take hg x n) (Nat.le_trans (takeL_len hg x n) hl) hn
      rw [hb.1, ← hb.2] at this
      exact this
    rw [hmt, h0]
    rw [h0] at HT
    obtain ⟨yo, yd, yp, yt⟩ := y
    dsimp only at ht c0 c1 c2 c3
    subst ht
    clear h hg hl hm hmt h0 hb hn hUY hUw hXB hYB
    go_enter Try.func37, Try.ntmps37
    go_wp2_with fail
    clear hX hV hY hU
    refine HM.out.mono ?_
    rintro e w1 ⟨rfl, H1⟩
    obtain ⟨⟨x0, x1, x2, x3⟩, y0, y1, y2, y3⟩ := HP.out w1 H1.out
    dsimp only at y0 y1 y2 y3
    clear b0 b1 b2 b3 c0 c1 c2 c3
    go_wp2_with fail
    refine (HT.out _ H1.out).mono ?_
    rintro e w2 ⟨rfl, H2⟩
    obtain ⟨⟨R2, p1, p2⟩, z0, z1, z2, z3⟩ := H2.out
    dsimp only at z0 z1 z2 z3
    have HP1 := Lib.hid p1
    have HP2 := Lib.hid p2
    clear p1 p2 x0 x1 x2 x3 y0 y1 y2 y3
    go_wp2_with fail
    refine (HG.out _ _ HP1.out).mono ?_
    rintro e w3 ⟨rfl, R3, h3, h4⟩
    have HE : Hid (∃ R', PT w3 Q R' (moveL l x ⟨yo, yd, yp, x.t⟩ n) ∧ Up w w3 Q R R') := Lib.hid ⟨R3, h3, HP2.out.trans h4⟩
    clear h3 h4
    go_wp2_with fail
    go_ret
    exact ⟨rfl, HE.out⟩
  · have hL1 : takeL l x n = l := by unfold takeL; rw [if_neg h0]
    have hL2 : moveL l x y n = l := moveL_no (by rw [hmt]; exact h0)
    rw [hmt, hL2]
    rw [hL1] at HT
    obtain ⟨r, hr⟩ : ∃ r, takeE l x n = r := ⟨_, rfl⟩
    rw [hr] at HT h0 ⊢
    have hb1 : (r == 0) = false := by simpa using h0
    have hb2 : (r != 0) = true := by simpa using h0
    obtain ⟨yo, yd, yp, yt⟩ := y
    dsimp only at ht c0 c1 c2 c3
    subst ht
    clear h hg hl hm hmt h0 hn hUY hUw hXB hYB hr hL1 hL2 HSA
    go_enter Try.func37, Try.ntmps37
    go_wp2_with fail
    clear hX hV hY hU
    refine HM.out.mono ?_
    rintro e w1 ⟨rfl, H1⟩
    obtain ⟨⟨x0, x1, x2, x3⟩, y0, y1, y2, y3⟩ := HP.out w1 H1.out
    dsimp only at y0 y1 y2 y3
    clear b0 b1 b2 b3 c0 c1 c2 c3
    go_wp2_with fail
    refine (HT.out _ H1.out).mono ?_
    rintro e w2 ⟨rfl, H2⟩
    go_wp2_with fail
    go_ret
    exact ⟨rfl, H2.out.1⟩
end Go.Proofs.Ytkljaaeeocghjaa.Bins
