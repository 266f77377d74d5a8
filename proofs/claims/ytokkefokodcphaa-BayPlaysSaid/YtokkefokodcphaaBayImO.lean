/- Bays cloned. -/
import Derived.Test.YtokkefokodcphaaBayImN
namespace Go.Proofs.Ytokkefokodcphaa.Bay
open Go.RowKit Go.Lib IRows

theorem clone_more {w wr Y w' : World} {Q : Nat} {a : Option Addr} {i c : Nat} {ys : List XL} {m1 m2 : Rm} {l1 l2 : List Int} (s : Int) (h : PBN w wr Q (.slice a i c) ys) (hl : ys.length = i) (hi : i ≤ 100) (hb : Below wr.heap.size wr Y) (hN : NewLine Y w' m1 l1 m2 l2) :
    ∃ a' c' W', (Builtin.append_ #[56, 56] 56 #[.slice a i c, .slice (some ⟨w'.heap.size, 0, none⟩) 1 1]).run Try.prog (w'.alloc (.cells #[.slice m1.a l1.length m1.c, .slice m2.a l2.length m2.c, .int .i64 s] 73)) = .ok (.slice a' (i + 1) c') W' ∧
      W'.cell? ⟨Q, 1, none⟩ = some (.slice a i c) ∧ W'.frozen? ⟨Q, 1, none⟩ = false ∧ PBN w (W'.setCell ⟨Q, 1, none⟩ (.slice a' (i + 1) c')) Q (.slice a' (i + 1) c') (ys ++ [⟨l1, m1, l2, m2, s⟩]) := by
  have hal : Below wr.heap.size wr (w'.alloc (.cells #[.slice m1.a l1.length m1.c, .slice m2.a l2.length m2.c, .int .i64 s] 73)) := below_then (below_then hb hN.below) ((Below.refl _ w').alloc (Nat.le_refl _) _)
  have h1 := h.pb.under hal
  obtain ⟨v', W', hr, o2, g2, n2⟩ := app_xs _ 0 (.slice a i c) ys [⟨l1, m1, l2, m2, s⟩] h1.own (some ⟨w'.heap.size, 0, none⟩) 1 1 rfl (fun j u hj => ⟨_, rfl, by
    rw [addr_add, Nat.zero_add]
    exact cell_block (heap_alloc_new w' _) (by rw [← Array.getElem?_toList]; exact hj)⟩) (by rw [hl]; simp; omega) (Nat.zero_le _)
  have hl2 : (ys ++ [(⟨l1, m1, l2, m2, s⟩ : XL)]).length = i + 1 := by simp [hl]
  obtain ⟨a', c', e, _⟩ := row_x o2
  rw [hl2] at e
  subst e
  have hQ := (g2.block Q h1.mem.2.2 (fun e => h.pb.far e.symm)).trans h1.self
  refine ⟨a', c', W', hr, cell_block (j := 1) hQ rfl, free_block 1 hQ, h.add hal ?_ o2 g2 n2⟩
  have hw := rw_one hN s
  have hlt : Below w'.heap.size w' (w'.alloc (.cells #[.slice m1.a l1.length m1.c, .slice m2.a l2.length m2.c, .int .i64 s] 73)) := (Below.refl _ w').alloc (Nat.le_refl _) _
  have hw2 : RW (w'.alloc (.cells #[.slice m1.a l1.length m1.c, .slice m2.a l2.length m2.c, .int .i64 s] 73)) (fun g => g < Y.heap.size) [⟨l1, m1, l2, m2, s⟩] := hw.same fun g i d e => hlt.block g (hw.lt e)
  exact ⟨hw2.row, hw2.ap, fun i d g e hg => hw2.out i d g e (Nat.lt_of_lt_of_le hg hb.size)⟩
set_option maxRecDepth 100000 in
set_option maxHeartbeats 2000000 in
theorem clone_pbx {Q : Nat} {lv : Value} {xs : List XL} (w : World) (h : PBX w Q lv xs xs) (hg : Good (xs.map XL.pl)) :
    Calls Try.prog 20 #[ptr Q] w fun e w' => ∃ Q2, e = .returned (ptr Q2) ∧ Hid (∃ lv2 ys, PBN w w' Q2 lv2 ys ∧ ys.map XL.pl = xs.map XL.pl) := by
  obtain ⟨la, lc, rfl, hln⟩ := h.line hg
  obtain ⟨k0, k1, hQ⟩ := h.mem
  have hfew := hg.few
  rw [len_pl] at hfew
  obtain ⟨n, hn⟩ : ∃ n, xs.length = n := ⟨_, rfl⟩
  rw [hn] at hfew k1
  have hn1 : (n : Int) ≤ 16 := by omega
  obtain ⟨Q2, hQ2⟩ : ∃ Q2, w.heap.size = Q2 := ⟨_, rfl⟩
  obtain ⟨Z, hZ⟩ : ∃ Z, w.alloc (.cells #[.bool true, .slice none 0 0] 58) = Z := ⟨_, rfl⟩
  have H0 : Hid (PBN w Z Q2 (.slice none 0 0) []) := Lib.hid (by rw [← hZ, ← hQ2]; exact pbn_new w)
  have z1 : Z.cell? ⟨Q, 1, none⟩ = some (.slice la n lc) := ((bcell H0.out.below).1 Q 1 hQ).trans k1
  have HC : Hid (∀ W k, Below w.heap.size w W → k < n → ∃ g x, la = some ⟨g, 0, none⟩ ∧ Hid (xs[k]? = some x) ∧ Hid (LineAt W g k x)) := Lib.hid (fun W k hW hk => by
    have hx := List.getElem?_eq_getElem (l := xs) (i := k) (by omega)
    obtain ⟨g, e, h1⟩ := hln k _ hx
    exact ⟨g, _, e, Lib.hid hx, Lib.hid (h1.under hW)⟩)
  have HT : Hid (xs.take n = xs) := Lib.hid (List.take_of_length_le (by omega))
  clear h hg hln hQ hfew hn
  go_enter Try.func20, Try.ntmps20
  go_wp2_with fail
  clear hZ z1
  (try rw [hQ2])
  go_loopw [22] (fun s wr => ∃ (i : Nat) (a : Option Addr) (c : Nat), s = .int .i64 i ∧ i ≤ n ∧ Hid (∃ ys, PBN w wr Q2 (.slice a i c) ys ∧ ys.length = i ∧ ys.map XL.pl = (xs.take i).map XL.pl)) (fun s _ => n - (RowKit.intOf s).toNat)
  case atStart => exact ⟨0, none, 0, rfl, by omega, Lib.hid ⟨[], H0.out, rfl, rfl⟩⟩
  case round =>
    obtain ⟨i, a, c, rfl, hi, HP⟩ := hrel
    by_cases hlt : i < n
    · have hlt2 : (i : Int) < (n : Int) := by omega
      have HW : Hid (Below w.heap.size w wr ∧ wr.cell? ⟨Q2, 1, none⟩ = some (.slice a i c) ∧ Q2 < wr.heap.size) := Lib.hid (by
        obtain ⟨ys, h1, _, _⟩ := HP.out
        exact ⟨h1.below, h1.pb.mem.2.1, h1.pb.mem.2.2⟩)
      obtain ⟨g, x, rfl, hx, HX⟩ := HC.out wr i HW.out.1 hlt
      obtain ⟨q0, q1, q2⟩ := HX.out.cells
      obtain ⟨U, Y, hU, hY, HY⟩ := box_x wr x
      have HM : Hid (∀ W, Below Y.heap.size Y W → W.cell? ⟨Q2, 1, none⟩ = some (.slice a i c) ∧ W.cell? ⟨U, 2, none⟩ = some (.int .i64 x.s)) := Lib.hid (fun W hW => ⟨((bcell (below_then HY.out.1 hW)).1 Q2 1 HW.out.2.2).trans HW.out.2.1, (HY.out.2 W hW).2.2.2⟩)
      have H1 : Hid (Calls Try.prog 32 #[.pointer (some ⟨U, 0, none⟩)] Y.drew fun e w' => ∃ a1 c1 a2 c2, e = .returned (.agg #[.slice a1 x.r.length c1, .slice a2 x.q.length c2]) ∧ Hid (Below Y.heap.size Y w') ∧ ∃ a' c' W', Hid ((Builtin.append_ #[56, 56] 56 #[.slice a i c, .slice (some ⟨w'.heap.size, 0, none⟩) 1 1]).run Try.prog (w'.alloc (.cells #[.slice a1 x.r.length c1, .slice a2 x.q.length c2, .int .i64 x.s] 73)) = .ok (.slice a' (i + 1) c') W') ∧ (W'.cell? ⟨Q2, 1, none⟩ = some (.slice a i c) ∧ W'.frozen? ⟨Q2, 1, none⟩ = false) ∧
          Hid (∃ ys, PBN w (W'.setCell ⟨Q2, 1, none⟩ (.slice a' (i + 1) c')) Q2 (.slice a' (i + 1) c') ys ∧ ys.length = i + 1 ∧ ys.map XL.pl = (xs.take (i + 1)).map XL.pl)) := Lib.hid (by
        have hYd : Below Y.heap.size Y Y.drew := (Below.refl _ Y).drew
        obtain ⟨hUl, y0, y1, _⟩ := HY.out.2 Y.drew hYd
        have hX := (HX.out.under HY.out.1).under hYd
        refine (copied_im U 0 x.rm.a x.r.length x.rm.c x.r x.qm.a x.q.length x.qm.c x.q Y.drew y0 y1 hUl rfl hX.run (by have := hX.rl; omega) rfl hX.wait (by have := hX.ql; omega)).mono ?_
        rintro e w' ⟨m1, m2, rfl, HN⟩
        obtain ⟨ys, h1, h2, h3⟩ := HP.out
        have hbY : Below wr.heap.size wr Y.drew := below_then HY.out.1 hYd
        obtain ⟨a', c', W', hr, p1, p2, p3⟩ := clone_more x.s h1 h2 (by omega) hbY HN.out
        exact ⟨m1.a, m1.c, m2.a, m2.c, rfl, Lib.hid (below_then hYd HN.out.below), a', c', W', Lib.hid hr, ⟨p1, p2⟩, Lib.hid ⟨_, p3, by simp [h2], by
          rw [List.map_append, h3, List.take_add_one, hx.out, List.map_append]
          rfl⟩⟩)
      obtain ⟨m1, m2⟩ := HM.out Y (Below.refl _ _)
      clear HX HY HW
      go_wp2_with fail
      clear hY hU q0 q1 q2
      go_region_law (first
        | (refine step_run (v' := .slice a' (i + 1) c') (w' := W') (by rfl) _ _ _ _ (by rfl) _ _ (by rfl) (by rfl) HR.out ?_)
        | (go_simp; refine H1.out.mono ?_; rintro e w3 ⟨a1, c1, a2, c2, rfl, HB3, a', c', W', HR, ⟨p1, p2⟩, HP2⟩; obtain ⟨n1, n2⟩ := HM.out w3 HB3.out; obtain ⟨n3, _⟩ := HM.out (w3.alloc (.cells #[.slice a1 x.r.length c1, .slice a2 x.q.length c2, .int .i64 x.s] 73)) (below_then HB3.out ((Below.refl _ w3).alloc (Nat.le_refl _) _))))
      all_goals
        go_wp2_with fail
        go_roundw
        case rel => exact ⟨i + 1, a', c', by go_num, by omega, HP2⟩
        case measure => simp [RowKit.intOf]; omega
    · obtain rfl : i = n := by omega
      have HEND : Hid (∃ lv2 ys, PBN w wr Q2 lv2 ys ∧ ys.map XL.pl = xs.map XL.pl) := Lib.hid (by
        obtain ⟨ys, h1, _, h3⟩ := HP.out
        rw [HT.out] at h3
        exact ⟨_, ys, h1, h3⟩)
      go_wp2_with fail
      go_ret
      exact ⟨Q2, rfl, HEND⟩
end Go.Proofs.Ytokkefokodcphaa.Bay
