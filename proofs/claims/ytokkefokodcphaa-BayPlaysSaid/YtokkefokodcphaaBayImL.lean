/- A job leaves; where it is; how much room there is at a side. -/
import Derived.Test.YtokkefokodcphaaBayImK
namespace Go.Proofs.Ytokkefokodcphaa.Bay
open Go.RowKit Go.Lib IRows

theorem results_tmp4 {fn : Func} {t u v x : Tmp} (h : fn.results = #[.tmp t, .tmp u, .tmp v, .tmp x]) (tmps : Array Value) (P : Program) (w : World) :
    (results fn tmps).run P w = .ok (.tuple #[tmps.getD t undef, tmps.getD u undef, tmps.getD v undef, tmps.getD x undef]) w := by
  simp [results, h]
theorem leave_some {L : List Ln} {j : Int} {x : Ln} (h : L[fnd L j]? = some x) : leave L j = (L.set (fnd L j) (lvL x j).1, (lvL x j).2, 0) := by
  unfold leave lvL
  rw [h]
  dsimp only
  split
  · rfl
  · cases x.q <;> rfl
theorem leave_none {L : List Ln} {j : Int} (h : fnd L j = L.length) : leave L j = (L, 0, 3) := by
  unfold leave
  rw [h, List.getElem?_eq_none (Nat.le_refl _)]
set_option maxRecDepth 100000 in
set_option maxHeartbeats 1000000 in
theorem leave_pbx {Q : Nat} {lv : Value} {xs : List XL} (j : Int) (w : World) (h : PBX w Q lv xs xs) (hg : Good (xs.map XL.pl)) :
    Calls Try.prog 17 #[ptr Q, .int .i64 j] w fun e w' => e = .returned (.tuple #[.int .i64 (leave (xs.map XL.pl) j).2.1, .int .i64 (leave (xs.map XL.pl) j).2.2]) ∧ Hid (∃ ys, PBX w' Q lv ys ys ∧ ys.map XL.pl = (leave (xs.map XL.pl) j).1 ∧ StepF w w' (foot Q lv xs) (foot Q lv ys)) := by
  have H1 := Lib.hid (of_im j w h hg)
  rw [← len_pl] at H1
  obtain ⟨L, hL⟩ : ∃ L, xs.map XL.pl = L := ⟨_, rfl⟩
  rcases fnd_len L j with hf | hf
  case inr =>
    have hnf : ¬ fnd L j < L.length := by omega
    rw [hL, if_neg hnf, if_neg hnf] at H1
    have HEND : Hid (∀ w', Below w.heap.size w w' → ∃ ys, PBX w' Q lv ys ys ∧ ys.map XL.pl = L ∧ StepF w w' (foot Q lv xs) (foot Q lv ys)) := Lib.hid (fun w' hb => ⟨xs, h.under hb, hL, StepF.below _ hb⟩)
    rw [hL, leave_none hf]
    clear h hg hL hf hnf
    go_enter Try.func17, Try.ntmps17
    go_wp2_with fail
    refine H1.out.mono ?_
    rintro e w' ⟨rfl, hb⟩
    have HB := Lib.hid hb
    clear hb
    go_wp2_with fail
    go_ret2
    exact ⟨rfl, Lib.hid (HEND.out _ HB.out)⟩
  obtain ⟨k, hk⟩ : ∃ k, fnd L j = k := ⟨_, rfl⟩
  obtain ⟨x, hx, hxl⟩ := xs_at (xs := xs) (k := k) (by rw [hL, ← hk]; exact hf)
  obtain ⟨a, c, hlv, hln⟩ := h.line hg
  obtain ⟨g, ha, hLA⟩ := hln k x hx
  subst hlv
  subst ha
  have hkx := (List.getElem?_eq_some_iff.1 hx).1
  have o := hg.ok k x.pl hxl
  have hfew := hg.few
  rw [len_pl] at hfew
  rw [hL, if_pos hf, if_pos hf, hk] at H1
  have hhas : has j x.pl = true := by
    rw [hL, ← hk] at hxl
    exact fnd_has L j _ hxl
  have he : leave L j = (L.set k (lvL x.pl j).1, (lvL x.pl j).2, 0) := by
    rw [hL, ← hk] at hxl
    rw [← hk]
    exact leave_some hxl
  obtain ⟨n, hn⟩ : ∃ n, xs.length = n := ⟨_, rfl⟩
  have H2 : Hid (∀ W, Below w.heap.size w W → Calls Try.prog 37 #[.pointer (some ⟨g, k * 3, none⟩), .int .i64 j] W fun e w' => e = .returned (.int .i64 (lvL x.pl j).2) ∧ Hid (∃ ys, PBX w' Q (.slice (some ⟨g, 0, none⟩) n c) ys ys ∧ ys.map XL.pl = L.set k (lvL x.pl j).1 ∧ StepF w w' (foot Q (.slice (some ⟨g, 0, none⟩) n c) xs) (foot Q (.slice (some ⟨g, 0, none⟩) n c) ys))) := Lib.hid (fun W hW => by
    rw [← hn]
    refine (leave_ln j W (h.under hW) hx o hhas).mono ?_
    rintro e w' ⟨rfl, H⟩
    obtain ⟨y, h3, h4, h5⟩ := H.out
    exact ⟨rfl, Lib.hid ⟨_, h3, by rw [pl_set, hL, h4], (StepF.below _ hW).trans h5⟩⟩)
  rw [hn] at h hkx hfew
  have HM : Hid (∀ W, Below w.heap.size w W → W.cell? ⟨Q, 1, none⟩ = some (.slice (some ⟨g, 0, none⟩) n c)) := Lib.hid (fun W hW => (h.under hW).mem.2.1)
  rw [hL, he, hn]
  obtain ⟨z, hz⟩ : ∃ z, (lvL x.pl j).2 = z := ⟨_, rfl⟩
  rw [hz] at H2 ⊢
  clear h hg hL hln hLA hx hxl o hf hk he hhas hn hz
  go_enter Try.func17, Try.ntmps17
  go_wp2_with fail
  refine H1.out.mono ?_
  rintro e w' ⟨rfl, hb⟩
  have p1 := HM.out w' hb
  have H3 := Lib.hid (H2.out w' hb)
  clear hb HM H1 H2
  go_wp2_with fail
  refine H3.out.mono ?_
  rintro e w2 ⟨rfl, H4⟩
  go_wp2_with fail
  go_ret2
  exact ⟨rfl, H4⟩
set_option maxRecDepth 100000 in
set_option maxHeartbeats 1000000 in
theorem where_im {Q : Nat} {lv : Value} {xs : List XL} (j : Int) (w : World) (h : PBX w Q lv xs xs) (hg : Good (xs.map XL.pl)) :
    Calls Try.prog 18 #[ptr Q, .int .i64 j] w fun e w' => e = .returned (.tuple #[.int .i64 (wher (xs.map XL.pl) j).1, .int .i64 (wher (xs.map XL.pl) j).2.1, .int .i64 (wher (xs.map XL.pl) j).2.2.1, .int .i64 (wher (xs.map XL.pl) j).2.2.2]) ∧ Below w.heap.size w w' := by
  have H1 := Lib.hid (of_im j w h hg)
  rw [← len_pl] at H1
  obtain ⟨L, hL⟩ : ∃ L, xs.map XL.pl = L := ⟨_, rfl⟩
  rcases fnd_len L j with hf | hf
  case inr =>
    have hnf : ¬ fnd L j < L.length := by omega
    rw [hL, if_neg hnf, if_neg hnf] at H1
    have he : wher L j = (0, 0, 0, 3) := by unfold wher; rw [hf, List.getElem?_eq_none (Nat.le_refl _)]
    rw [hL, he]
    clear h hg hL hf hnf he
    go_enter Try.func18, Try.ntmps18
    go_wp2_with fail
    refine H1.out.mono ?_
    rintro e w' ⟨rfl, hb⟩
    have HB := Lib.hid hb
    clear hb
    go_wp2_with fail
    (try simp only [Exit.inBlock, Exit.then])
    refine bodyPost_ret (results_tmp4 rfl _ _ _) rfl ?_
    exact ⟨rfl, HB.out⟩
  obtain ⟨k, hk⟩ : ∃ k, fnd L j = k := ⟨_, rfl⟩
  obtain ⟨x, hx, hxl⟩ := xs_at (xs := xs) (k := k) (by rw [hL, ← hk]; exact hf)
  obtain ⟨a, c, hlv, hln⟩ := h.line hg
  obtain ⟨g, ha, hLA⟩ := hln k x hx
  subst hlv
  subst ha
  have hkx := (List.getElem?_eq_some_iff.1 hx).1
  have hfew := hg.few
  rw [len_pl] at hfew
  rw [hL, if_pos hf, if_pos hf, hk] at H1
  have he : wher L j = (((k / 2 : Nat) : Int) + 1, ((k % 2 : Nat) : Int), idx x.q j, 0) := by
    rw [hL, ← hk] at hxl
    unfold wher
    rw [hxl, hk]
    rfl
  obtain ⟨n, hn⟩ : ∃ n, xs.length = n := ⟨_, rfl⟩
  have hM := h.mem
  rw [hn] at hkx hfew hM
  have HM : Hid (∀ W, Below w.heap.size w W → W.cell? ⟨Q, 1, none⟩ = some (.slice (some ⟨g, 0, none⟩) n c) ∧ W.cell? ⟨g, k * 3 + 1, none⟩ = some x.qv) := Lib.hid (fun W hW => ⟨((bcell hW).1 Q _ hM.2.2).trans hM.2.1, (hLA.under hW).cells.2.1⟩)
  have H2 : Hid (∀ W, Below w.heap.size w W → Calls Try.prog 38 #[.slice x.qm.a x.q.length x.qm.c, .int .i64 j] W fun e w' => e = .returned (.int .i64 (idx x.q j)) ∧ W = w') := Lib.hid (fun W hW => index_im x.qm.a x.q.length x.qm.c x.q j W rfl (hLA.under hW).wait (by have := hLA.ql; omega))
  have w1 : (k : Int).tdiv 2 = ((k / 2 : Nat) : Int) := by rw [Int.tdiv_eq_ediv_of_nonneg (by omega)]; omega
  have w2 : (k : Int).tmod 2 = ((k % 2 : Nat) : Int) := by rw [Int.tmod_eq_emod_of_nonneg (by omega)]; omega
  have w3 : IntKind.i64.wrap (((k / 2 : Nat) : Int) + 1) = ((k / 2 : Nat) : Int) + 1 := IntWalk.i64_in _ (by omega)
  rw [hL, he]
  obtain ⟨z, hz⟩ : ∃ z, idx x.q j = z := ⟨_, rfl⟩
  rw [hz] at H2 ⊢
  clear h hg hL hln hLA hx hxl hf hk he hn hz hM
  go_enter Try.func18, Try.ntmps18
  go_wp2_with fail
  refine H1.out.mono ?_
  rintro e w' ⟨rfl, hb⟩
  obtain ⟨p1, p2⟩ := HM.out w' hb
  have H3 := Lib.hid (H2.out w' hb)
  have HB := Lib.hid hb
  clear hb HM H1 H2
  go_wp2_with fail
  refine H3.out.mono ?_
  rintro e w2 ⟨rfl, rfl⟩
  go_wp2_with fail
  (try simp only [Exit.inBlock, Exit.then])
  refine bodyPost_ret (results_tmp4 rfl _ _ _) rfl ?_
  exact ⟨rfl, HB.out⟩
set_option maxRecDepth 100000 in
theorem free_bay {Q : Nat} {lv : Value} {xs : List XL} (b s : Int) (w : World) (h : PBX w Q lv xs xs) (hg : Good (xs.map XL.pl)) :
    Calls Try.prog 19 #[ptr Q, .int .i64 b, .int .i64 s] w fun e w' => e = .returned (.tuple #[.int .i64 (free (xs.map XL.pl) b s).1, .int .i64 (free (xs.map XL.pl) b s).2]) ∧ Below w.heap.size w w' := by
  obtain ⟨L, hL⟩ : ∃ L, xs.map XL.pl = L := ⟨_, rfl⟩
  have hfew := hg.few
  rw [len_pl] at hfew
  by_cases hs : Side L b s
  case neg =>
    have e1 : free L b s = (0, 3) := by unfold free; rw [if_pos hs]
    have H1 := Lib.hid (at_no b s w h (by omega) (by rw [hL]; exact hs))
    rw [hL, e1]
    clear h hg hL hfew hs e1
    go_enter Try.func19, Try.ntmps19
    go_wp2_with fail
    refine H1.out.mono ?_
    rintro e w' ⟨rfl, rfl⟩
    go_wp2_with fail
    go_ret2
    exact ⟨rfl, Below.refl _ _⟩
  obtain ⟨k, hk⟩ : ∃ k, kk b s = k := ⟨_, rfl⟩
  have hg2 := hg
  rw [hL] at hg2
  have hkl : k < L.length := by rw [← hk]; exact (hg2.side hs).1
  obtain ⟨x, hx, hxl⟩ := xs_at (xs := xs) (k := k) (by rw [hL]; exact hkl)
  obtain ⟨a, c, hlv, hln⟩ := h.line hg
  obtain ⟨g, ha, hLA⟩ := hln k x hx
  subst hlv
  subst ha
  have hkx := (List.getElem?_eq_some_iff.1 hx).1
  have H1 := Lib.hid (at_yes b s w h (by omega) (by rw [hL]; exact hs) hk hkx)
  have H2 := Lib.hid (free_im g (k * 3) x.r.length x.rm.c x.rm.a x.s w hLA.cells.1 hLA.cells.2.2 hLA.s (by have := hLA.rl; omega))
  have e1 : free L b s = (x.s - x.r.length, 0) := by
    rw [hL] at hxl
    unfold free
    rw [if_neg (fun h => h hs), hk, hxl]
    rfl
  rw [hL, e1]
  clear h hg hL hfew hs e1 hln hLA hg2 hx hxl hkx hk hkl
  go_enter Try.func19, Try.ntmps19
  go_wp2_with fail
  refine H1.out.mono ?_
  rintro e w' ⟨rfl, rfl⟩
  go_wp2_with fail
  refine H2.out.mono ?_
  rintro e w' ⟨rfl, hb⟩
  have HB := Lib.hid hb
  clear hb
  go_wp2_with fail
  go_ret2
  exact ⟨rfl, HB.out⟩
end Go.Proofs.Ytokkefokodcphaa.Bay
