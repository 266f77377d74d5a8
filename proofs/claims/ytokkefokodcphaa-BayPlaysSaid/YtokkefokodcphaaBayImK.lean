/- A job asks, and leaves; where it is; how much room there is: of bays that there are. -/
import Derived.Test.YtokkefokodcphaaBayImH
import Derived.Test.YtokkefokodcphaaBayImI
namespace Go.Proofs.Ytokkefokodcphaa.Bay
open Go.RowKit Go.Lib IRows

abbrev ptr (q : Nat) : Value := .pointer (some ⟨q, 0, none⟩)
theorem fnd_len (L : List Ln) (j : Int) : fnd L j < L.length ∨ fnd L j = L.length := by have := fnd_le L j; omega
theorem xs_at {xs : List XL} {k : Nat} (h : k < (xs.map XL.pl).length) : ∃ x, xs[k]? = some x ∧ (xs.map XL.pl)[k]? = some x.pl := by
  rw [len_pl] at h
  exact ⟨_, List.getElem?_eq_getElem h, pl_at (List.getElem?_eq_getElem h)⟩
set_option maxRecDepth 100000 in
set_option maxHeartbeats 1000000 in
theorem ask_pbx {Q : Nat} {lv : Value} {xs : List XL} (b s j : Int) (w : World) (h : PBX w Q lv xs xs) (hg : Good (xs.map XL.pl)) :
    Calls Try.prog 16 #[ptr Q, .int .i64 b, .int .i64 s, .int .i64 j] w fun e w' => e = .returned (.tuple #[.bool (ask (xs.map XL.pl) b s j).2.1, .int .i64 (ask (xs.map XL.pl) b s j).2.2]) ∧ Hid (∃ ys, PBX w' Q lv ys ys ∧ ys.map XL.pl = (ask (xs.map XL.pl) b s j).1 ∧ StepF w w' (foot Q lv xs) (foot Q lv ys)) := by
  obtain ⟨L, hL⟩ : ∃ L, xs.map XL.pl = L := ⟨_, rfl⟩
  have hfew := hg.few
  rw [len_pl] at hfew
  by_cases hs : Side L b s
  case neg =>
    have e1 : ask L b s j = (L, false, 3) := by unfold ask; rw [if_pos hs]
    have H1 := Lib.hid (at_no b s w h (by omega) (by rw [hL]; exact hs))
    have HEND : Hid (∃ ys, PBX w Q lv ys ys ∧ ys.map XL.pl = L ∧ StepF w w (foot Q lv xs) (foot Q lv ys)) := Lib.hid ⟨xs, h, hL, StepF.refl _ _⟩
    rw [hL, e1]
    clear h hg hL hfew hs e1
    go_enter Try.func16, Try.ntmps16
    go_wp2_with fail
    refine H1.out.mono ?_
    rintro e w' ⟨rfl, rfl⟩
    go_wp2_with fail
    go_ret2
    exact ⟨rfl, HEND⟩
  obtain ⟨k, hk⟩ : ∃ k, kk b s = k := ⟨_, rfl⟩
  have hg2 := hg
  rw [hL] at hg2
  have hkl : k < L.length := by rw [← hk]; exact (hg2.side hs).1
  obtain ⟨x, hx, hxl⟩ := xs_at (xs := xs) (k := k) (by rw [hL]; exact hkl)
  obtain ⟨a, c, hlv, hln⟩ := h.line hg
  obtain ⟨g, ha, hLA⟩ := hln k x hx
  subst hlv
  subst ha
  have hkx := (List.getElem?_eq_some_iff.1 hx).1
  have H1 := Lib.hid (at_yes b s w h (by omega) (by rw [hL]; exact hs) hk hkx)
  obtain ⟨lv, hlv⟩ : ∃ lv, Value.slice (some ⟨g, 0, none⟩) xs.length c = lv := ⟨_, rfl⟩
  rw [hlv] at h ⊢
  have hend0 : ∀ w', Below w.heap.size w w' → ∃ ys, PBX w' Q lv ys ys ∧ ys.map XL.pl = L ∧ StepF w w' (foot Q lv xs) (foot Q lv ys) := fun w' hb => ⟨xs, h.under hb, hL, StepF.below _ hb⟩
  have HEND := Lib.hid hend0
  by_cases hj : Job j
  case neg =>
    have e1 : ask L b s j = (L, false, 1) := by unfold ask; rw [if_neg (fun h => h hs), if_pos hj]
    have H2 := Lib.hid (in_no j 1 1099511627776 w hj)
    rw [hL, e1]
    clear h hg hL hfew hs e1 hj hln hLA hlv hend0 hg2 hx hxl hkx hk hkl
    go_enter Try.func16, Try.ntmps16
    go_wp2_with fail
    refine H1.out.mono ?_
    rintro e w' ⟨rfl, rfl⟩
    go_wp2_with fail
    refine H2.out.mono ?_
    rintro e w' ⟨rfl, rfl⟩
    go_wp2_with fail
    go_ret2
    exact ⟨rfl, Lib.hid (HEND.out _ (Below.refl _ _))⟩
  have H2 := Lib.hid (in_yes j 1 1099511627776 w hj)
  have H3 := Lib.hid (of_im j w h hg)
  rw [hL, ← len_pl, hL] at H3
  rcases fnd_len L j with hf | hf
  · have e1 : ask L b s j = (L, false, 9) := by unfold ask; rw [if_neg (fun h => h hs), if_neg (fun h => h hj), if_pos hf]
    rw [if_pos hf, if_pos hf] at H3
    rw [hL, e1]
    clear h hg hL hfew hs e1 hj hln hLA hlv hend0 hg2 hx hxl hkx hk hkl hf
    go_enter Try.func16, Try.ntmps16
    go_wp2_with fail
    refine H1.out.mono ?_
    rintro e w' ⟨rfl, rfl⟩
    go_wp2_with fail
    refine H2.out.mono ?_
    rintro e w' ⟨rfl, rfl⟩
    go_wp2_with fail
    refine H3.out.mono ?_
    rintro e w' ⟨rfl, hb⟩
    have HB := Lib.hid hb
    clear hb
    go_wp2_with fail
    go_ret2
    exact ⟨rfl, Lib.hid (HEND.out _ HB.out)⟩
  have hnf : ¬ fnd L j < L.length := by omega
  rw [if_neg hnf, if_neg hnf] at H3
  have hask : ask L b s j = if (x.r.length : Int) < x.s then (L.set k ⟨ins x.r j, x.q, x.s⟩, true, 0) else if 0 < x.s ∧ x.q.length < 8 then (L.set k ⟨x.r, x.q ++ [j], x.s⟩, false, 0) else (L, false, 10) := by
    unfold ask
    rw [if_neg (fun h => h hs), if_neg (fun h => h hj), if_neg hnf, hk, ← hL, hxl]
    rfl
  have o := hg.ok k x.pl hxl
  rw [hL] at hxl
  have hrl := hLA.rl
  have hql := hLA.ql
  have hss := hLA.s
  obtain ⟨rn, hrn⟩ : ∃ rn, x.r.length = rn := ⟨_, rfl⟩
  obtain ⟨qn, hqn⟩ : ∃ qn, x.q.length = qn := ⟨_, rfl⟩
  have H4 : Hid (∀ W, Below w.heap.size w W → Calls Try.prog 35 #[.pointer (some ⟨g, k * 3, none⟩)] W fun e w' => e = .returned (.int .i64 (x.s - rn)) ∧ Below w.heap.size w w') := Lib.hid (fun W hW => by
    have h2 := hLA.under hW
    rw [← hrn]
    exact (free_im g (k * 3) x.r.length x.rm.c x.rm.a x.s W h2.cells.1 h2.cells.2.2 hss (by omega)).mono fun _ _ ⟨e, hb⟩ => ⟨e, below_then hW hb⟩)
  rw [hrn] at hask hrl
  rw [hqn] at hask hql
  by_cases hroom : (rn : Int) < x.s
  · rw [if_pos hroom] at hask
    have hnr : j ∉ x.r := (ok_ask_run hg2 hxl hj hf (show (x.r.length : Int) < x.s by omega)).2
    have H5 : Hid (∀ W, Below w.heap.size w W → Calls Try.prog 36 #[.pointer (some ⟨g, k * 3, none⟩), .int .i64 j] W fun e w' => e = .returned (.tuple #[]) ∧ Hid (∃ ys, PBX w' Q lv ys ys ∧ ys.map XL.pl = L.set k ⟨ins x.r j, x.q, x.s⟩ ∧ StepF w w' (foot Q lv xs) (foot Q lv ys))) := Lib.hid (fun W hW => by
      have h2 := h.under hW
      rw [← hlv] at h2 ⊢
      refine (run_im j W h2 hx o.rise hnr (by omega)).mono ?_
      rintro e w' ⟨rfl, H⟩
      obtain ⟨m, h3, h4⟩ := H.out
      exact ⟨rfl, Lib.hid ⟨_, h3, by rw [pl_set, hL]; rfl, (StepF.below _ hW).trans h4⟩⟩)
    have hpos : (0 : Int) < x.s - (rn : Int) := by omega
    rw [hL, hask]
    clear h hg hL hfew hs hj hln hLA hlv hend0 hg2 hx hxl hkx hk hkl hf hnf hask o hrl hql hss hrn hqn hroom hnr
    go_enter Try.func16, Try.ntmps16
    go_wp2_with fail
    refine H1.out.mono ?_
    rintro e w' ⟨rfl, rfl⟩
    go_wp2_with fail
    refine H2.out.mono ?_
    rintro e w' ⟨rfl, rfl⟩
    go_wp2_with fail
    refine H3.out.mono ?_
    rintro e w1 ⟨rfl, hb⟩
    have H6 := Lib.hid (H4.out w1 hb)
    clear hb H4
    go_wp2_with fail
    refine H6.out.mono ?_
    rintro e w2 ⟨rfl, hb⟩
    have H7 := Lib.hid (H5.out w2 hb)
    clear hb H5 H6
    go_wp2_with fail
    refine H7.out.mono ?_
    rintro e w3 ⟨rfl, H8⟩
    go_wp2_with fail
    go_ret2
    exact ⟨rfl, H8⟩
  rw [if_neg hroom] at hask
  have hnpos : ¬ ((0 : Int) < x.s - (rn : Int)) := by omega
  have HCL : Hid (∀ W, Below w.heap.size w W → (W.cell? ⟨g, k * 3 + 2, none⟩ = some (.int .i64 x.s) ∧ W.cell? ⟨g, k * 3 + 1, none⟩ = some (.slice x.qm.a qn x.qm.c)) ∧ W.frozen? ⟨g, k * 3 + 1, none⟩ = false) := Lib.hid (fun W hW => by
    have h2 := hLA.under hW
    have h3 := h.under hW
    rw [← hlv] at h3
    rw [← hqn]
    exact ⟨⟨h2.cells.2.2, h2.cells.2.1⟩, (h3.at hx).2.2 _⟩)
  by_cases hwait : 0 < x.s ∧ qn < 8
  · rw [if_pos hwait] at hask
    obtain ⟨hs0, hq8⟩ := hwait
    have hq8i : (qn : Int) < 8 := by omega
    have H5 : Hid (∀ W, Below w.heap.size w W → ∃ a' c' W', Hid ((Builtin.append_ #[52, 52] 52 #[.slice x.qm.a qn x.qm.c, .slice (some ⟨W.heap.size, 0, none⟩) 1 1]).run Try.prog (W.alloc (.cells #[.int .i64 j] 3)) = .ok (.slice a' (qn + 1) c') W') ∧ (W'.cell? ⟨g, k * 3 + 1, none⟩ = some (.slice x.qm.a qn x.qm.c) ∧ W'.frozen? ⟨g, k * 3 + 1, none⟩ = false) ∧ Hid (∃ ys, PBX (W'.setCell ⟨g, k * 3 + 1, none⟩ (.slice a' (qn + 1) c')) Q lv ys ys ∧ ys.map XL.pl = L.set k ⟨x.r, x.q ++ [j], x.s⟩ ∧ StepF w (W'.setCell ⟨g, k * 3 + 1, none⟩ (.slice a' (qn + 1) c')) (foot Q lv xs) (foot Q lv ys))) := Lib.hid (fun W hW => by
      have hb2 := below_then hW ((Below.refl _ W).alloc (Nat.le_refl _) (.cells #[.int .i64 j] 3))
      have h2 := h.under hb2
      rw [← hlv] at h2 ⊢
      have hrow := h2.rows.row k x true hx
      obtain ⟨m', w', hr, h3, h4⟩ := app_row (W.alloc (.cells #[.int .i64 j] 3)) j hrow (show x.q.length ≤ 1000 by omega) W.heap.size 52 (cell_block (j := 0) (heap_alloc_new W _) rfl) (by simp) (fun e => by
        have h5 := (h.under hW).lt W.heap.size (.inr (.inr ⟨k, true, by rw [bk_of hx]; exact e⟩))
        omega)
      obtain ⟨h5, s5⟩ := h2.turn (d := true) hx h4 h3
      have hlen : (x.q ++ [j]).length = qn + 1 := by simp [hqn]
      obtain ⟨_, ⟨_, d1, _⟩, fz⟩ := h5.at hx
      obtain ⟨h6, s6⟩ := h5.store (k := k) (x := x) (y := x.put true m' (x.q ++ [j])) (j := 1) (u := .slice m'.a (qn + 1) m'.c) hx (by omega) (by show xCells (x.put true m' (x.q ++ [j])) = _; simp [xCells, XL.put, hqn])
      rw [← hqn]
      rw [← hqn] at h6 s6
      exact ⟨m'.a, m'.c, w', Lib.hid hr, ⟨d1, fz _⟩, Lib.hid ⟨_, h6, by rw [pl_set, hL]; rfl, (StepF.below _ hb2).trans (s5.trans s6)⟩⟩)
    rw [hL, hask]
    clear h hg hL hfew hs hj hln hLA hlv hend0 hg2 hx hxl hkx hk hkl hf hnf hask o hrl hql hss hrn hqn hroom
    go_enter Try.func16, Try.ntmps16
    go_wp2_with fail
    refine H1.out.mono ?_
    rintro e w' ⟨rfl, rfl⟩
    go_wp2_with fail
    refine H2.out.mono ?_
    rintro e w' ⟨rfl, rfl⟩
    go_wp2_with fail
    refine H3.out.mono ?_
    rintro e w1 ⟨rfl, hb⟩
    have H6 := Lib.hid (H4.out w1 hb)
    clear hb H4
    go_wp2_with fail
    refine H6.out.mono ?_
    rintro e w2 ⟨rfl, hb⟩
    obtain ⟨⟨p0, p1⟩, p2⟩ := HCL.out w2 hb
    obtain ⟨a', c', W', HR, ⟨q1, q2⟩, H8⟩ := H5.out w2 hb
    clear hb H5 H6 HCL
    go_wp2_with (at_builtin; refine walk_run rfl _ _ _ _ rfl _ _ rfl rfl HR.out ?_)
    go_ret2
    exact ⟨rfl, H8⟩
  · rw [if_neg hwait] at hask
    have hcase : (¬ (0 : Int) < x.s) ∨ ((0 : Int) < x.s ∧ ¬ (qn : Int) < 8) := by
      by_cases h0 : 0 < x.s
      · exact .inr ⟨h0, fun h1 => hwait ⟨h0, by omega⟩⟩
      · exact .inl h0
    rw [hL, hask]
    clear h hg hL hfew hs hj hln hLA hlv hend0 hg2 hx hxl hkx hk hkl hf hnf hask o hrl hql hss hrn hqn hroom hwait
    rcases hcase with h0 | ⟨h0, h1⟩
    all_goals
      go_enter Try.func16, Try.ntmps16
      go_wp2_with fail
      refine H1.out.mono ?_
      rintro e w' ⟨rfl, rfl⟩
      go_wp2_with fail
      refine H2.out.mono ?_
      rintro e w' ⟨rfl, rfl⟩
      go_wp2_with fail
      refine H3.out.mono ?_
      rintro e w1 ⟨rfl, hb⟩
      have H6 := Lib.hid (H4.out w1 hb)
      clear hb H4
      go_wp2_with fail
      refine H6.out.mono ?_
      rintro e w2 ⟨rfl, hb⟩
      obtain ⟨⟨p0, p1⟩, p2⟩ := HCL.out w2 hb
      have HB := Lib.hid hb
      clear hb HCL H6
      go_wp2_with fail
      go_ret2
      exact ⟨rfl, Lib.hid (HEND.out _ HB.out)⟩
end Go.Proofs.Ytokkefokodcphaa.Bay
