/- The document's Put, Take, Move. -/
import Derived.Test.YtkljaaeeocghjaaBinC
import Derived.Deep.RegionHeld3
namespace Go.Proofs.Ytkljaaeeocghjaa.Bins
open Go.RowKit Go.Lib

/-- A row that is what it was, or new. -/
structure Res (W W' : World) (v v' : Value) (l' : List Lt) : Prop where
  own : OwnL W' 0 v' l'
  below : Below W.heap.size W W'
  was : ∀ k, v'.ownBlock = some k → v.ownBlock = some k ∨ W.heap.size ≤ k
theorem res_same {W W' : World} {v : Value} {l : List Lt} (h : OwnL W 0 v l) (hb : Below W.heap.size W W') : Res W W' v v l := ⟨own_under h hb, hb, fun _ h => .inl h⟩
theorem res_new {W W' : World} {v v' : Value} {l : List Lt} (h : OwnL W' W.heap.size v' l) (hb : Below W.heap.size W W') : Res W W' v v' l := ⟨World.ownsRow.mono h (Nat.zero_le _), hb, fun k hk => .inr (h.lt k hk).1⟩
theorem Res.then {W W1 W2 : World} {v v1 v2 : Value} {l1 l2 : List Lt} (h : Res W W1 v v1 l1) (k : Res W1 W2 v1 v2 l2) : Res W W2 v v2 l2 := ⟨k.own, below_then h.below k.below, fun q hq => by
  rcases k.was q hq with h1 | h1
  · exact h.was q h1
  · exact .inr (Nat.le_trans h.below.size h1)⟩
theorem Res.late {W W1 W2 : World} {v v2 : Value} {l2 : List Lt} (hb : Below W.heap.size W W1) (k : Res W1 W2 v v2 l2) : Res W W2 v v2 l2 := ⟨k.own, below_then hb k.below, fun q hq => by
  rcases k.was q hq with h1 | h1
  · exact .inl h1
  · exact .inr (Nat.le_trans hb.size h1)⟩
theorem may_at (x : Bn) (w : World) : Hid (∀ W, Below w.heap.size w W → ∀ b, decide (MayB x) = b → Calls Try.prog 30 #[bV x] W fun e w' => e = .returned (.bool b) ∧ Hid (Below w.heap.size w w')) := Lib.hid (fun W hW b hb => by
  subst hb
  exact (dmay x W).mono fun _ _ ⟨e, h⟩ => ⟨e, Lib.hid (below_then hW h)⟩)
set_option maxRecDepth 100000 in
set_option maxHeartbeats 4000000 in
theorem dput {a : Option Addr} {n c : Nat} {l : List Lt} (x : Bn) (q : Int) (w : World) (hr : OwnL w 0 (.slice a n c) l) (hn : n ≤ 4000) (hg : Good l) :
    Calls Try.prog 32 #[.slice a n c, bV x, .int .i64 q] w fun e w' => ∃ a' m' c', e = .returned (.tuple #[.slice a' m' c', .int .i64 (putE l x q)]) ∧ Hid (Res w w' (.slice a n c) (.slice a' m' c') (putL l x q)) := by
  obtain ⟨hl, _, _, _, hs⟩ := own_form hr
  obtain ⟨V, X, hV, hX, HP⟩ := box_bin w x
  have HXB : Hid (Below w.heap.size w X) := Lib.hid (by rw [← hX]; exact (Below.refl _ w).alloc (Nat.le_refl _) _)
  obtain ⟨⟨b0, b1, b2, b3⟩, _⟩ := HP.out X (Below.refl _ _)
  have HMY := may_at x X
  have HSA : Hid (∀ W, Below X.heap.size X W → putL l x q = l → Res w W (.slice a n c) (.slice a n c) (putL l x q)) := Lib.hid (fun W hW e => by rw [e]; exact res_same hr (below_then HXB.out hW))
  by_cases hm : MayB x
  case neg =>
    have HM := Lib.hid (HMY.out X (Below.refl _ _) false (decide_eq_false hm))
    have he : putE l x q = 1 := by unfold putE; rw [if_neg fun h => hm h.1]
    have hp : putL l x q = l := by unfold putL; rw [if_neg (by rw [he]; decide)]
    have HRR : Hid (∀ W, Below X.heap.size X W → Res w W (.slice a n c) (.slice a n c) (putL l x q)) := Lib.hid (fun W hW => HSA.out W hW hp)
    rw [he]
    clear hr hl hs hn hg hm he hp
    go_enter Try.func32, Try.ntmps32
    go_wp2_with fail
    clear hX hV
    refine HM.out.mono ?_
    rintro e w1 ⟨rfl, H1⟩
    go_wp2_with fail
    go_ret2
    exact ⟨_, _, _, rfl, Lib.hid (HRR.out _ H1.out)⟩
  have HM := Lib.hid (HMY.out X (Below.refl _ _) true (decide_eq_true hm))
  by_cases hq : q < 0
  · have he : putE l x q = 1 := by unfold putE; rw [if_neg fun h => by omega]
    have hp : putL l x q = l := by unfold putL; rw [if_neg (by rw [he]; decide)]
    have HRR : Hid (∀ W, Below X.heap.size X W → Res w W (.slice a n c) (.slice a n c) (putL l x q)) := Lib.hid (fun W hW => HSA.out W hW hp)
    have d1 : decide (q < 0) = true := decide_eq_true hq
    rw [he]
    clear hr hl hs hn hg hm he hp hq
    go_enter Try.func32, Try.ntmps32
    go_wp2_with fail
    clear hX hV
    refine HM.out.mono ?_
    rintro e w1 ⟨rfl, H1⟩
    go_wp2_with fail
    go_ret2
    exact ⟨_, _, _, rfl, Lib.hid (HRR.out _ H1.out)⟩
  have d1 : decide (q < 0) = false := decide_eq_false hq
  have h0 := tot_nonneg (l := l) (fun a ha => by have := hg.pos a ha; omega) x.t
  have h1 := hg.tot x.t
  have h2 := (hg.qty x).1
  have h3 := (hg.qty x).2.1
  obtain ⟨z, hz⟩ : ∃ z, tot l x.t = z := ⟨_, rfl⟩
  obtain ⟨y, hy⟩ : ∃ y, qty l x = y := ⟨_, rfl⟩
  have HTO : Hid (∀ W, Below X.heap.size X W → Calls Try.prog 18 #[.slice a n c, .int .i64 x.t] W fun e w' => e = .returned (.int .i64 z) ∧ Hid (Below X.heap.size X w')) := Lib.hid (fun W hW => by
    rw [← hz]
    exact (dtotal x.t W (hs.under (below_then HXB.out hW)) hl (by omega) hg).mono fun _ _ ⟨e, h⟩ => ⟨e, Lib.hid (below_then hW h)⟩)
  rw [hz] at h0 h1 h3
  rw [hy] at h2 h3
  have wz : IntKind.i64.wrap (1125899906842624 - z) = 1125899906842624 - z := IntWalk.i64_in _ (by unfold mq at h1; omega)
  by_cases hov : mq - z < q
  · have he : putE l x q = 5 := by unfold putE; rw [if_pos ⟨hm, by omega⟩, hz, if_pos hov]
    have hp : putL l x q = l := by unfold putL; rw [if_neg (by rw [he]; decide)]
    have HRR : Hid (∀ W, Below X.heap.size X W → Res w W (.slice a n c) (.slice a n c) (putL l x q)) := Lib.hid (fun W hW => HSA.out W hW hp)
    have d2 : decide (1125899906842624 - z < q) = true := decide_eq_true hov
    rw [he]
    clear hr hl hs hn hg hm he hp hov h0 h1 h2 h3 hz hy hq
    go_enter Try.func32, Try.ntmps32
    go_wp2_with fail
    clear hX hV
    refine HM.out.mono ?_
    rintro e w1 ⟨rfl, H1⟩
    obtain ⟨⟨y0, y1, y2, y3⟩, _⟩ := HP.out w1 H1.out
    clear b0 b1 b2 b3
    go_wp2_with fail
    refine (HTO.out _ H1.out).mono ?_
    rintro e w2 ⟨rfl, H2⟩
    go_wp2_with fail
    go_ret2
    exact ⟨_, _, _, rfl, Lib.hid (HRR.out _ H2.out)⟩
  · have he : putE l x q = 0 := by unfold putE; rw [if_pos ⟨hm, by omega⟩, hz, if_neg hov]
    have hp : putL l x q = setL l x (y + q) := by unfold putL; rw [if_pos he, hy]
    have d2 : decide (1125899906842624 - z < q) = false := decide_eq_false hov
    have wy : IntKind.i64.wrap (y + q) = y + q := IntWalk.i64_in _ (by unfold mq at hov; omega)
    have HQ : Hid (∀ W, Below X.heap.size X W → Calls Try.prog 16 #[.slice a n c, bV x] W fun e w' => e = .returned (.int .i64 y) ∧ Hid (Below X.heap.size X w')) := Lib.hid (fun W hW => by
      rw [← hy]
      exact (dqty x W (hs.under (below_then HXB.out hW)) hl (by omega)).mono fun _ _ ⟨e, h⟩ => ⟨e, Lib.hid (below_then hW h)⟩)
    have HS : Hid (∀ W, Below X.heap.size X W → Calls Try.prog 31 #[.slice a n c, bV x, .int .i64 (y + q)] W fun e w' => ∃ a' m c', e = .returned (.slice a' m c') ∧ Hid (Res w w' (.slice a n c) (.slice a' m c') (putL l x q) ∧ Below X.heap.size X w')) := Lib.hid (fun W hW => by
      rw [hp]
      refine (dset x (y + q) W (own_under hr (below_then HXB.out hW)) hn hg.rise).mono ?_
      rintro e w' ⟨a', m, c', rfl, h⟩
      exact ⟨a', m, c', rfl, Lib.hid ⟨Res.late (below_then HXB.out hW) (res_new h.out.1 h.out.2), below_then hW h.out.2⟩⟩)
    rw [he]
    clear hr hl hs hn hg hm he hp hov h0 h1 h2 h3 hz hy hq
    go_enter Try.func32, Try.ntmps32
    go_wp2_with fail
    clear hX hV
    refine HM.out.mono ?_
    rintro e w1 ⟨rfl, H1⟩
    obtain ⟨⟨y0, y1, y2, y3⟩, _⟩ := HP.out w1 H1.out
    clear b0 b1 b2 b3
    go_wp2_with fail
    refine (HTO.out _ H1.out).mono ?_
    rintro e w2 ⟨rfl, H2⟩
    obtain ⟨⟨x0, x1, x2, x3⟩, _⟩ := HP.out w2 H2.out
    have H2D : Hid (Below X.heap.size X w2.drew) := Lib.hid H2.out.drew
    clear y0 y1 y2 y3
    go_wp2_with fail
    go_region_held3 (fun W => W.cell? ⟨V, 0, none⟩ = some (.int .i64 x.o) ∧ W.cell? ⟨V, 1, none⟩ = some (.int .i64 x.d) ∧ W.cell? ⟨V, 2, none⟩ = some (.int .i64 x.p) ∧ W.cell? ⟨V, 3, none⟩ = some (.int .i64 x.t))
      (first | exact (HP.out _ H2D.out).1 | exact (HP.out _ H3.out).1 | exact (HP.out _ H4.out.2).1)
      (first
        | (go_at_call 16; refine (HQ.out _ H2D.out).mono ?_; rintro e w3 ⟨rfl, H3⟩)
        | (go_at_call 31; refine (HS.out _ H3.out).mono ?_; rintro e w4 ⟨a4, m4, c4, rfl, H4⟩))
    all_goals
      go_wp2_with fail
      go_ret2
      exact ⟨_, _, _, rfl, Lib.hid H4.out.1⟩
set_option maxRecDepth 100000 in
set_option maxHeartbeats 4000000 in
theorem dtake {a : Option Addr} {n c : Nat} {l : List Lt} (x : Bn) (q : Int) (w : World) (hr : OwnL w 0 (.slice a n c) l) (hn : n ≤ 4000) (hg : Good l) :
    Calls Try.prog 33 #[.slice a n c, bV x, .int .i64 q] w fun e w' => ∃ a' m' c', e = .returned (.tuple #[.slice a' m' c', .int .i64 (takeE l x q)]) ∧ Hid (Res w w' (.slice a n c) (.slice a' m' c') (takeL l x q)) := by
  obtain ⟨hl, _, _, _, hs⟩ := own_form hr
  obtain ⟨V, X, hV, hX, HP⟩ := box_bin w x
  have HXB : Hid (Below w.heap.size w X) := Lib.hid (by rw [← hX]; exact (Below.refl _ w).alloc (Nat.le_refl _) _)
  obtain ⟨⟨b0, b1, b2, b3⟩, _⟩ := HP.out X (Below.refl _ _)
  have HMY := may_at x X
  have HSA : Hid (∀ W, Below X.heap.size X W → takeL l x q = l → Res w W (.slice a n c) (.slice a n c) (takeL l x q)) := Lib.hid (fun W hW e => by rw [e]; exact res_same hr (below_then HXB.out hW))
  by_cases hm : MayB x
  case neg =>
    have HM := Lib.hid (HMY.out X (Below.refl _ _) false (decide_eq_false hm))
    have he : takeE l x q = 1 := by unfold takeE; rw [if_neg fun h => hm h.1]
    have hp : takeL l x q = l := by unfold takeL; rw [if_neg (by rw [he]; decide)]
    have HRR : Hid (∀ W, Below X.heap.size X W → Res w W (.slice a n c) (.slice a n c) (takeL l x q)) := Lib.hid (fun W hW => HSA.out W hW hp)
    rw [he]
    clear hr hl hs hn hg hm he hp
    go_enter Try.func33, Try.ntmps33
    go_wp2_with fail
    clear hX hV
    refine HM.out.mono ?_
    rintro e w1 ⟨rfl, H1⟩
    go_wp2_with fail
    go_ret2
    exact ⟨_, _, _, rfl, Lib.hid (HRR.out _ H1.out)⟩
  have HM := Lib.hid (HMY.out X (Below.refl _ _) true (decide_eq_true hm))
  by_cases hq : q < 0
  · have he : takeE l x q = 1 := by unfold takeE; rw [if_neg fun h => by omega]
    have hp : takeL l x q = l := by unfold takeL; rw [if_neg (by rw [he]; decide)]
    have HRR : Hid (∀ W, Below X.heap.size X W → Res w W (.slice a n c) (.slice a n c) (takeL l x q)) := Lib.hid (fun W hW => HSA.out W hW hp)
    have d1 : decide (q < 0) = true := decide_eq_true hq
    rw [he]
    clear hr hl hs hn hg hm he hp hq
    go_enter Try.func33, Try.ntmps33
    go_wp2_with fail
    clear hX hV
    refine HM.out.mono ?_
    rintro e w1 ⟨rfl, H1⟩
    go_wp2_with fail
    go_ret2
    exact ⟨_, _, _, rfl, Lib.hid (HRR.out _ H1.out)⟩
  have d1 : decide (q < 0) = false := decide_eq_false hq
  have h2 := (hg.qty x).1
  have h3 := (hg.qty x).2.1
  have h4 := (hg.qty x).2.2
  obtain ⟨y, hy⟩ : ∃ y, qty l x = y := ⟨_, rfl⟩
  have HQ : Hid (∀ W, Below X.heap.size X W → Calls Try.prog 16 #[.slice a n c, bV x] W fun e w' => e = .returned (.int .i64 y) ∧ Hid (Below X.heap.size X w')) := Lib.hid (fun W hW => by
    rw [← hy]
    exact (dqty x W (hs.under (below_then HXB.out hW)) hl (by omega)).mono fun _ _ ⟨e, h⟩ => ⟨e, Lib.hid (below_then hW h)⟩)
  rw [hy] at h2 h3
  by_cases hov : y < q
  · have he : takeE l x q = 7 := by unfold takeE; rw [if_pos ⟨hm, by omega⟩, hy, if_pos hov]
    have hp : takeL l x q = l := by unfold takeL; rw [if_neg (by rw [he]; decide)]
    have HRR : Hid (∀ W, Below X.heap.size X W → Res w W (.slice a n c) (.slice a n c) (takeL l x q)) := Lib.hid (fun W hW => HSA.out W hW hp)
    have d2 : decide (y < q) = true := decide_eq_true hov
    rw [he]
    clear hr hl hs hn hg hm he hp hov h2 h3 h4 hy hq
    go_enter Try.func33, Try.ntmps33
    go_wp2_with fail
    clear hX hV
    refine HM.out.mono ?_
    rintro e w1 ⟨rfl, H1⟩
    obtain ⟨⟨y0, y1, y2, y3⟩, _⟩ := HP.out w1 H1.out
    clear b0 b1 b2 b3
    go_wp2_with fail
    refine (HQ.out _ H1.out).mono ?_
    rintro e w2 ⟨rfl, H2⟩
    go_wp2_with fail
    go_ret2
    exact ⟨_, _, _, rfl, Lib.hid (HRR.out _ H2.out)⟩
  · have he : takeE l x q = 0 := by unfold takeE; rw [if_pos ⟨hm, by omega⟩, hy, if_neg hov]
    have hp : takeL l x q = setL l x (y - q) := by unfold takeL; rw [if_pos he, hy]
    have d2 : decide (y < q) = false := decide_eq_false hov
    have wy : IntKind.i64.wrap (y - q) = y - q := IntWalk.i64_in _ (by unfold mq at h4; omega)
    have HS : Hid (∀ W, Below X.heap.size X W → Calls Try.prog 31 #[.slice a n c, bV x, .int .i64 (y - q)] W fun e w' => ∃ a' m c', e = .returned (.slice a' m c') ∧ Hid (Res w w' (.slice a n c) (.slice a' m c') (takeL l x q) ∧ Below X.heap.size X w')) := Lib.hid (fun W hW => by
      rw [hp]
      refine (dset x (y - q) W (own_under hr (below_then HXB.out hW)) hn hg.rise).mono ?_
      rintro e w' ⟨a', m, c', rfl, h⟩
      exact ⟨a', m, c', rfl, Lib.hid ⟨Res.late (below_then HXB.out hW) (res_new h.out.1 h.out.2), below_then hW h.out.2⟩⟩)
    rw [he]
    clear hr hl hs hn hg hm he hp hov h2 h3 h4 hy hq
    go_enter Try.func33, Try.ntmps33
    go_wp2_with fail
    clear hX hV
    refine HM.out.mono ?_
    rintro e w1 ⟨rfl, H1⟩
    obtain ⟨⟨y0, y1, y2, y3⟩, _⟩ := HP.out w1 H1.out
    clear b0 b1 b2 b3
    go_wp2_with fail
    refine (HQ.out _ H1.out).mono ?_
    rintro e w2 ⟨rfl, H2⟩
    obtain ⟨⟨x0, x1, x2, x3⟩, _⟩ := HP.out w2 H2.out
    have H2D : Hid (Below X.heap.size X w2.drew) := Lib.hid H2.out.drew
    clear y0 y1 y2 y3
    go_wp2_with fail
    go_region_held3 (fun W => W.cell? ⟨V, 0, none⟩ = some (.int .i64 x.o) ∧ W.cell? ⟨V, 1, none⟩ = some (.int .i64 x.d) ∧ W.cell? ⟨V, 2, none⟩ = some (.int .i64 x.p) ∧ W.cell? ⟨V, 3, none⟩ = some (.int .i64 x.t))
      (first | exact (HP.out _ H2D.out).1 | exact (HP.out _ H3.out).1 | exact (HP.out _ H4.out.2).1)
      (first
        | (go_at_call 16; refine (HQ.out _ H2D.out).mono ?_; rintro e w3 ⟨rfl, H3⟩)
        | (go_at_call 31; refine (HS.out _ H3.out).mono ?_; rintro e w4 ⟨a4, m4, c4, rfl, H4⟩))
    all_goals
      go_wp2_with fail
      go_ret2
      exact ⟨_, _, _, rfl, Lib.hid H4.out.1⟩
set_option maxRecDepth 100000 in
set_option maxHeartbeats 4000000 in
theorem dmove {a : Option Addr} {n c : Nat} {l : List Lt} (x y : Bn) (q : Int) (w : World) (hr : OwnL w 0 (.slice a n c) l) (hn : n ≤ 3900) (hg : Good l) :
    Calls Try.prog 34 #[.slice a n c, bV x, bV y, .int .i64 q] w fun e w' => ∃ a' m' c', e = .returned (.tuple #[.slice a' m' c', .int .i64 (moveE l x y q)]) ∧ Hid (Res w w' (.slice a n c) (.slice a' m' c') (moveL l x y q)) := by
  obtain ⟨V, X, hV, hX, HP0⟩ := box_bin w x
  obtain ⟨U, Y, hU, hY, HP1⟩ := box_bin X y
  have HXB : Hid (Below w.heap.size w X) := Lib.hid (by rw [← hX]; exact (Below.refl _ w).alloc (Nat.le_refl _) _)
  have HYB : Hid (Below X.heap.size X Y) := Lib.hid (by rw [← hY]; exact (Below.refl _ X).alloc (Nat.le_refl _) _)
  have HP : Hid (∀ W, Below Y.heap.size Y W → CellsB W V x ∧ CellsB W U y ∧ Hid (Below w.heap.size w W)) := Lib.hid (fun W hW => by
    have h1 := below_then HYB.out hW
    exact ⟨(HP0.out W h1).1, (HP1.out W hW).1, (HP0.out W h1).2⟩)
  obtain ⟨⟨b0, b1, b2, b3⟩, ⟨e0, e1, e2, e3⟩, _⟩ := HP.out Y (Below.refl _ _)
  have HMX := may_at x Y
  have HMY := may_at y Y
  have HSA : Hid (∀ W, Below Y.heap.size Y W → moveL l x y q = l → Res w W (.slice a n c) (.slice a n c) (moveL l x y q)) := Lib.hid (fun W hW e => by rw [e]; exact res_same hr (below_then HXB.out (below_then HYB.out hW)))
  clear HP0 HP1
  by_cases hm : MayB x
  case neg =>
    have HM := Lib.hid (HMX.out Y (Below.refl _ _) false (decide_eq_false hm))
    have he : moveE l x y q = 1 := by unfold moveE; rw [if_neg fun h => hm h.1]
    have hp : moveL l x y q = l := by unfold moveL; rw [if_neg (by rw [he]; decide)]
    have HRR : Hid (∀ W, Below Y.heap.size Y W → Res w W (.slice a n c) (.slice a n c) (moveL l x y q)) := Lib.hid (fun W hW => HSA.out W hW hp)
    rw [he]
    clear hr hn hg hm he hp
    go_enter Try.func34, Try.ntmps34
    go_wp2_with fail
    clear hX hV hY hU
    refine HM.out.mono ?_
    rintro e w1 ⟨rfl, H1⟩
    go_wp2_with fail
    go_ret2
    exact ⟨_, _, _, rfl, Lib.hid (HRR.out _ H1.out)⟩
  have HM := Lib.hid (HMX.out Y (Below.refl _ _) true (decide_eq_true hm))
  by_cases hk : MayB y
  case neg =>
    have HK : Hid (∀ W, Below Y.heap.size Y W → Calls Try.prog 30 #[bV y] W fun e w' => e = .returned (.bool false) ∧ Hid (Below Y.heap.size Y w')) := Lib.hid (fun W hW => HMY.out W hW false (decide_eq_false hk))
    have he : moveE l x y q = 1 := by unfold moveE; rw [if_neg fun h => hk h.2.1]
    have hp : moveL l x y q = l := by unfold moveL; rw [if_neg (by rw [he]; decide)]
    have HRR : Hid (∀ W, Below Y.heap.size Y W → Res w W (.slice a n c) (.slice a n c) (moveL l x y q)) := Lib.hid (fun W hW => HSA.out W hW hp)
    rw [he]
    clear hr hn hg hm hk he hp
    go_enter Try.func34, Try.ntmps34
    go_wp2_with fail
    clear hX hV hY hU
    refine HM.out.mono ?_
    rintro e w1 ⟨rfl, H1⟩
    obtain ⟨⟨x0, x1, x2, x3⟩, ⟨y0, y1, y2, y3⟩, _⟩ := HP.out w1 H1.out
    clear b0 b1 b2 b3 e0 e1 e2 e3
    go_wp2_with fail
    refine (HK.out w1 H1.out).mono ?_
    rintro e w2 ⟨rfl, H2⟩
    go_wp2_with fail
    go_ret2
    exact ⟨_, _, _, rfl, Lib.hid (HRR.out _ H2.out)⟩
  have HK : Hid (∀ W, Below Y.heap.size Y W → Calls Try.prog 30 #[bV y] W fun e w' => e = .returned (.bool true) ∧ Hid (Below Y.heap.size Y w')) := Lib.hid (fun W hW => HMY.out W hW true (decide_eq_true hk))
  by_cases hbad : x.t ≠ y.t ∨ q < 0
  · have he : moveE l x y q = 1 := by unfold moveE; rw [if_neg fun h => by omega]
    have hp : moveL l x y q = l := by unfold moveL; rw [if_neg (by rw [he]; decide)]
    have HRR : Hid (∀ W, Below Y.heap.size Y W → Res w W (.slice a n c) (.slice a n c) (moveL l x y q)) := Lib.hid (fun W hW => HSA.out W hW hp)
    rw [he]
    have hb2 : x.t ≠ y.t ∨ (x.t = y.t ∧ q < 0) := by omega
    clear hr hn hg hm hk he hp hbad
    rcases hb2 with h1 | ⟨h1, h2⟩
    · have d1 : (x.t == y.t) = false := by simpa using h1
      have d2 : (x.t != y.t) = true := by simpa using h1
      clear h1
      go_enter Try.func34, Try.ntmps34
      go_wp2_with fail
      clear hX hV hY hU
      refine HM.out.mono ?_
      rintro e w1 ⟨rfl, H1⟩
      obtain ⟨⟨x0, x1, x2, x3⟩, ⟨y0, y1, y2, y3⟩, _⟩ := HP.out w1 H1.out
      clear b0 b1 b2 b3 e0 e1 e2 e3
      go_wp2_with fail
      refine (HK.out w1 H1.out).mono ?_
      rintro e w2 ⟨rfl, H2⟩
      obtain ⟨⟨b0, b1, b2, b3⟩, ⟨e0, e1, e2, e3⟩, _⟩ := HP.out w2 H2.out
      clear x0 x1 x2 x3 y0 y1 y2 y3
      go_wp2_with fail
      go_ret2
      exact ⟨_, _, _, rfl, Lib.hid (HRR.out _ H2.out)⟩
    · have d1 : (x.t == y.t) = true := by simpa using h1
      have d2 : (x.t != y.t) = false := by simpa using h1
      have d3 : decide (q < 0) = true := decide_eq_true h2
      clear h1 h2
      go_enter Try.func34, Try.ntmps34
      go_wp2_with fail
      clear hX hV hY hU
      refine HM.out.mono ?_
      rintro e w1 ⟨rfl, H1⟩
      obtain ⟨⟨x0, x1, x2, x3⟩, ⟨y0, y1, y2, y3⟩, _⟩ := HP.out w1 H1.out
      clear b0 b1 b2 b3 e0 e1 e2 e3
      go_wp2_with fail
      refine (HK.out w1 H1.out).mono ?_
      rintro e w2 ⟨rfl, H2⟩
      obtain ⟨⟨b0, b1, b2, b3⟩, ⟨e0, e1, e2, e3⟩, _⟩ := HP.out w2 H2.out
      clear x0 x1 x2 x3 y0 y1 y2 y3
      go_wp2_with fail
      go_ret2
      exact ⟨_, _, _, rfl, Lib.hid (HRR.out _ H2.out)⟩
  · have h1 : x.t = y.t := by omega
    have h2 : ¬ q < 0 := by omega
    have d1 : (x.t == y.t) = true := by simpa using h1
    have d2 : (x.t != y.t) = false := by simpa using h1
    have d3 : decide (q < 0) = false := decide_eq_false h2
    have hte : moveE l x y q = takeE l x q := by unfold moveE takeE; rw [if_pos (c := MayB x ∧ MayB y ∧ x.t = y.t ∧ 0 ≤ q) ⟨hm, hk, h1, by omega⟩, if_pos (c := MayB x ∧ 0 ≤ q) ⟨hm, by omega⟩]
    obtain ⟨er, her⟩ : ∃ er, takeE l x q = er := ⟨_, rfl⟩
    have HTK : Hid (∀ W, Below Y.heap.size Y W → Calls Try.prog 33 #[.slice a n c, bV x, .int .i64 q] W fun e w' => ∃ a' m' c', e = .returned (.tuple #[.slice a' m' c', .int .i64 er]) ∧ Hid (Res w w' (.slice a n c) (.slice a' m' c') (takeL l x q) ∧ Below Y.heap.size Y w')) := Lib.hid (fun W hW => by
      rw [← her]
      have hbw := below_then HXB.out (below_then HYB.out hW)
      refine (dtake x q W (own_under hr hbw) (by omega) hg).mono ?_
      rintro e w' ⟨a', m', c', rfl, h⟩
      exact ⟨a', m', c', rfl, Lib.hid ⟨Res.late hbw h.out, below_then hW h.out.below⟩⟩)
    rw [hte, her]
    by_cases h0 : er = 0
    · subst h0
      obtain ⟨hp0, hp1⟩ := move_room hg (by rw [hte]; exact her)
      have hgt := good_take hg x q
      have hlt := take_length l x q
      have HL := Lib.hid (own_form hr).1
      have HPT : Hid (∀ W a' m' c', Res w W (.slice a n c) (.slice a' m' c') (takeL l x q) → Calls Try.prog 32 #[.slice a' m' c', bV y, .int .i64 q] W fun e w' => ∃ a2 m2 c2, e = .returned (.tuple #[.slice a2 m2 c2, .int .i64 0]) ∧ Hid (Res w w' (.slice a n c) (.slice a2 m2 c2) (moveL l x y q))) := Lib.hid (fun W a' m' c' h => by
        have hm' := (own_form h.own).1
        have := dput y q W h.own (by have := HL.out; omega) hgt
        rw [hp0, ← hp1] at this
        refine this.mono ?_
        rintro e w' ⟨a2, m2, c2, rfl, h2⟩
        exact ⟨a2, m2, c2, rfl, Lib.hid (h.then h2.out)⟩)
      clear hr hn hg hm hk h1 h2 hte her hp0 hp1 hgt hlt hbad
      go_enter Try.func34, Try.ntmps34
      go_wp2_with fail
      clear hX hV hY hU
      refine HM.out.mono ?_
      rintro e w1 ⟨rfl, H1⟩
      obtain ⟨⟨x0, x1, x2, x3⟩, ⟨y0, y1, y2, y3⟩, _⟩ := HP.out w1 H1.out
      clear b0 b1 b2 b3 e0 e1 e2 e3
      go_wp2_with fail
      refine (HK.out w1 H1.out).mono ?_
      rintro e w2 ⟨rfl, H2⟩
      obtain ⟨⟨b0, b1, b2, b3⟩, ⟨e0, e1, e2, e3⟩, _⟩ := HP.out w2 H2.out
      clear x0 x1 x2 x3 y0 y1 y2 y3
      go_wp2_with fail
      refine (HTK.out w2 H2.out).mono ?_
      rintro e w3 ⟨a3, m3, c3, rfl, H3⟩
      obtain ⟨⟨x0, x1, x2, x3⟩, ⟨y0, y1, y2, y3⟩, _⟩ := HP.out w3 H3.out.2
      clear b0 b1 b2 b3 e0 e1 e2 e3
      go_wp2_with fail
      refine (HPT.out w3 a3 m3 c3 H3.out.1).mono ?_
      rintro e w4 ⟨a4, m4, c4, rfl, H4⟩
      go_wp2_with fail
      go_ret2
      exact ⟨_, _, _, rfl, H4⟩
    · have hp : moveL l x y q = l := by unfold moveL; rw [if_neg (by rw [hte, her]; exact h0)]
      have HRR : Hid (∀ W, Below Y.heap.size Y W → Res w W (.slice a n c) (.slice a n c) (moveL l x y q)) := Lib.hid (fun W hW => HSA.out W hW hp)
      have z1 : (er == 0) = false := by simpa using h0
      have z2 : (er != 0) = true := by simpa using h0
      clear hr hn hg hm hk h1 h2 hte her hp hbad
      go_enter Try.func34, Try.ntmps34
      go_wp2_with fail
      clear hX hV hY hU
      refine HM.out.mono ?_
      rintro e w1 ⟨rfl, H1⟩
      obtain ⟨⟨x0, x1, x2, x3⟩, ⟨y0, y1, y2, y3⟩, _⟩ := HP.out w1 H1.out
      clear b0 b1 b2 b3 e0 e1 e2 e3
      go_wp2_with fail
      refine (HK.out w1 H1.out).mono ?_
      rintro e w2 ⟨rfl, H2⟩
      obtain ⟨⟨b0, b1, b2, b3⟩, ⟨e0, e1, e2, e3⟩, _⟩ := HP.out w2 H2.out
      clear x0 x1 x2 x3 y0 y1 y2 y3
      go_wp2_with fail
      refine (HTK.out w2 H2.out).mono ?_
      rintro e w3 ⟨a3, m3, c3, rfl, H3⟩
      go_wp2_with fail
      go_ret2
      exact ⟨_, _, _, rfl, Lib.hid (HRR.out _ H3.out.2)⟩
end Go.Proofs.Ytkljaaeeocghjaa.Bins
