/- The program's Cancel, Get, Move, Pop. -/
import Derived.Test.YtfbdkafpfminlaaHeapImJ
namespace Go.Proofs.Ytfbdkafpfminlaa.Heap.Im
open Go.RowKit Go.Lib

theorem field_what (t : Tm) (w : World) : (Instr.field 45 (tV t) 2).run Try.prog w = .ok (.int .i64 t.what) w := by kernel_rfl
theorem find_yes {l : List Tm} {q : QS} (hp : l.Perm q.l) (hg : Good q) {k : Nat} {id : Int} (hk : k < l.length) (he : (nthT l k).id = id) : findK id q.l < q.l.length ∧ nthT q.l (findK id q.l) = nthT l k := by
  have := nthT_find hg.uniq (hp.mem_iff.1 (List.mem_of_getElem? (nthT_at hk)))
  rw [he] at this
  exact this
theorem find_no {l : List Tm} {q : QS} (hp : l.Perm q.l) {id : Int} (h : ∀ t ∈ l, t.id ≠ id) : ¬ findK id q.l < q.l.length := by
  rw [(findK_none id q.l).2 fun t ht => h t (hp.mem_iff.2 ht)]
  omega
theorem off_cut {l : List Tm} {q : QS} (hh : HeapOK l) (hp : l.Perm q.l) (hg : Good q) {k : Nat} {id : Int} (hk : k < l.length) (he : (nthT l k).id = id) : (off l k).Perm (cut q.l (findK id q.l)) := by
  have := Rep.off ⟨hh, hp⟩ hg hk
  rw [he] at this
  exact this
set_option maxRecDepth 100000 in
set_option maxHeartbeats 4000000 in
theorem cancel_im {Q : Nat} {F : Nat → Prop} {q : QS} (id : Int) (hid : Ints.I64 id) (w : World) (h : HQ w Q F q) (hg : Good q) :
    Calls Try.prog 20 #[ptr Q, .int .i64 id] w fun e w' => e = .returned (.int .i64 (cancel q id).2) ∧ ∃ F', HQ w' Q F' (cancel q id).1 ∧ StepF w w' F F' := by
  have hm0 : 0 < q.most := by have := hg.most; omega
  have HQ0 := Lib.hid h
  obtain ⟨l, hq, hh, hp⟩ := h
  have HM : Hid (Calls Try.prog 33 #[ptr Q] w fun e w' => e = .returned (.bool true) ∧ w = w') := Lib.hid (made_im w hq hm0)
  have hln : l.length = q.l.length := hp.length_eq
  have hle := hg.len
  have hmo := hg.most.2
  obtain ⟨b, c3, hc⟩ := hq.look hid
  rcases hc with ⟨k, hk, he, hr⟩ | ⟨hn, hr⟩
  · obtain ⟨hf, _⟩ := find_yes hp hg hk he
    have hi : cancel q id = (⟨cut q.l (findK id q.l), q.most, q.next⟩, 0) := by unfold cancel; rw [if_pos hf]
    rw [hi]
    have HT : Hid (Calls Try.prog 35 #[ptr Q, .int .i64 (k : Nat)] w fun e w' => e = .returned (tV (nthT l k)) ∧ Hid (∃ F', HQ w' Q F' ⟨cut q.l (findK id q.l), q.most, q.next⟩ ∧ StepF w w' F F')) := Lib.hid (by
      refine (take_im k w hq hk (by omega) hh).mono ?_
      rintro e w' ⟨rfl, F', l', h2, s2, p2, k2⟩
      exact ⟨rfl, Lib.hid ⟨F', ⟨l', h2, k2, p2.trans (off_cut hh hp hg hk he)⟩, s2⟩⟩)
    clear hq hh hp hln hle hmo hg hm0 hi hk he hf
    go_enter Try.func20, Try.ntmps20
    go_wp2_with (go_at_call 33; refine HM.out.mono ?_; rintro e w' ⟨rfl, rfl⟩)
    refine HT.out.mono ?_
    rintro e w' ⟨rfl, H⟩
    go_wp2_with fail
    go_ret
    exact ⟨rfl, H.out⟩
  · have hi : cancel q id = (q, 3) := by unfold cancel; rw [if_neg (find_no hp hn)]
    rw [hi]
    clear hq hh hp hln hle hmo hg hm0 hi hn
    go_enter Try.func20, Try.ntmps20
    go_wp2_with (go_at_call 33; refine HM.out.mono ?_; rintro e w' ⟨rfl, rfl⟩)
    go_ret
    exact ⟨rfl, F, HQ0.out, StepF.refl w F⟩
set_option maxRecDepth 100000 in
set_option maxHeartbeats 4000000 in
theorem move_im {Q : Nat} {F : Nat → Prop} {q : QS} (id due : Int) (hid : Ints.I64 id) (w : World) (h : HQ w Q F q) (hg : Good q) :
    Calls Try.prog 17 #[ptr Q, .int .i64 id, .int .i64 due] w fun e w' => e = .returned (.tuple #[.int .i64 (move q id due).2.1, .int .i64 (move q id due).2.2]) ∧ ∃ F', HQ w' Q F' (move q id due).1 ∧ StepF w w' F F' := by
  have hm0 : 0 < q.most := by have := hg.most; omega
  have HQ0 := Lib.hid h
  obtain ⟨l, hq, hh, hp⟩ := h
  have HM : Hid (Calls Try.prog 33 #[ptr Q] w fun e w' => e = .returned (.bool true) ∧ w = w') := Lib.hid (made_im w hq hm0)
  have hln : l.length = q.l.length := hp.length_eq
  have hle := hg.len
  have hmo := hg.most.2
  obtain ⟨b, c3, hc⟩ := hq.look hid
  have c1 := hq.c.2.1
  rcases hc with ⟨k, hk, he, hr⟩ | ⟨hn, hr⟩
  · obtain ⟨hf, hnt⟩ := find_yes hp hg hk he
    by_cases hd : due < 0
    · have hi : move q id due = (q, 0, 1) := by unfold move; rw [if_pos hf, if_pos hd]
      rw [hi]
      clear hq hh hp hln hle hmo hg hm0 hi hk he hf hnt c1
      go_enter Try.func17, Try.ntmps17
      go_wp2_with (go_at_call 33; refine HM.out.mono ?_; rintro e w' ⟨rfl, rfl⟩)
      go_ret2
      exact ⟨rfl, F, HQ0.out, StepF.refl w F⟩
    · by_cases hx : q.next = mt
      · have hi : move q id due = (q, 0, 4) := by unfold move; rw [if_pos hf, if_neg hd, if_pos hx]
        rw [hi]
        rw [hx] at c1
        unfold mt at c1
        clear hq hh hp hln hle hmo hg hm0 hi hk he hf hnt hx
        go_enter Try.func17, Try.ntmps17
        go_wp2_with (go_at_call 33; refine HM.out.mono ?_; rintro e w' ⟨rfl, rfl⟩)
        go_ret2
        exact ⟨rfl, F, HQ0.out, StepF.refl w F⟩
      · have hi : move q id due = (⟨put (cut q.l (findK id q.l)) ⟨due, q.next, (nthT l k).what⟩, q.most, q.next + 1⟩, q.next, 0) := by unfold move; rw [if_pos hf, if_neg hd, if_neg hx, hnt]
        have hxe : (q.next == 1099511627776) = false := by unfold mt at hx; simpa using hx
        rw [hi]
        obtain ⟨nx, hnx⟩ : ∃ nx, q.next = nx := ⟨_, rfl⟩
        have HT : Hid (Calls Try.prog 35 #[ptr Q, .int .i64 (k : Nat)] w fun e w' => e = .returned (tV (nthT l k)) ∧ Hid (∃ F' l', MQ w' Q F' l' q.most nx ∧ StepF w w' F F' ∧ l'.Perm (off l k) ∧ HeapOK l')) := Lib.hid (by
          rw [← hnx]
          refine (take_im k w hq hk (by omega) hh).mono ?_
          rintro e w' ⟨rfl, H⟩
          exact ⟨rfl, Lib.hid H⟩)
        have HA : Hid (∀ W, (∃ F' l', MQ W Q F' l' q.most nx ∧ StepF w W F F' ∧ l'.Perm (off l k) ∧ HeapOK l') → Calls Try.prog 34 #[ptr Q, .int .i64 due, .int .i64 (nthT l k).what] W fun e w' => e = .returned (.int .i64 nx) ∧ Hid (∃ F', HQ w' Q F' ⟨put (cut q.l (findK id q.l)) ⟨due, nx, (nthT l k).what⟩, q.most, nx + 1⟩ ∧ StepF w w' F F')) := Lib.hid (by
          rw [← hnx]
          rintro W ⟨F1, l1, h1, s1, p1, k1⟩
          have hpo := p1.trans (off_cut hh hp hg hk he)
          have hll := hpo.length_eq
          have hcl := (cut_sub q.l (findK id q.l)).length_le
          refine (add_im due (nthT l k).what W h1 (by omega) hg.next.1 hg.next.2 (fun x hx1 e => by have := (hg.ids x (mem_cut (hpo.mem_iff.1 hx1))).2; omega) k1).mono ?_
          rintro e w' ⟨rfl, F', l', h2, s2, p2, k2⟩
          exact ⟨rfl, Lib.hid ⟨F', ⟨l', h2, k2, p2.trans ((List.Perm.cons _ hpo).trans (perm_put _ _))⟩, s1.trans s2⟩⟩)
        obtain ⟨t, ht⟩ : ∃ t, nthT l k = t := ⟨_, rfl⟩
        rw [hnx] at c1 hxe ⊢
        rw [ht] at HT HA ⊢
        clear hq hh hp hln hle hmo hg hm0 hi hk he hf hnt hx hnx ht
        go_enter Try.func17, Try.ntmps17
        go_wp2_with (go_at_call 33; refine HM.out.mono ?_; rintro e w' ⟨rfl, rfl⟩)
        refine HT.out.mono ?_
        rintro e w1 ⟨rfl, H1⟩
        have hfw := field_what t w1
        go_wp2_with fail
        refine (HA.out _ H1.out).mono ?_
        rintro e w2 ⟨rfl, H2⟩
        go_wp2_with fail
        go_ret2
        exact ⟨rfl, H2.out⟩
  · have hi : move q id due = (q, 0, 3) := by unfold move; rw [if_neg (find_no hp hn)]
    rw [hi]
    clear hq hh hp hln hle hmo hg hm0 hi hn c1
    go_enter Try.func17, Try.ntmps17
    go_wp2_with (go_at_call 33; refine HM.out.mono ?_; rintro e w' ⟨rfl, rfl⟩)
    go_ret2
    exact ⟨rfl, F, HQ0.out, StepF.refl w F⟩
set_option maxRecDepth 100000 in
set_option maxHeartbeats 4000000 in
theorem get_im {Q : Nat} {F : Nat → Prop} {q : QS} (id : Int) (hid : Ints.I64 id) (w : World) (h : HQ w Q F q) (hg : Good q) :
    Calls Try.prog 19 #[ptr Q, .int .i64 id] w fun e w' => e = .returned (firstV (get q id)) ∧ Below w.heap.size w w' := by
  have hm0 : 0 < q.most := by have := hg.most; omega
  obtain ⟨R, hR⟩ : ∃ R, w.heap.size = R := ⟨_, rfl⟩
  obtain ⟨Y, hY⟩ : ∃ Y, w.alloc (.cells #[.int .i64 0, .int .i64 0, .int .i64 0] 45) = Y := ⟨_, rfl⟩
  have hbY : Below w.heap.size w Y := by rw [← hY]; exact (Below.refl _ w).alloc (Nat.le_refl _) _
  have hRY : Y.heap[R]? = some (.cells zeroTm.cells 45 (0, 0)) := by
    rw [← hY, ← hR]
    exact heap_alloc_new w _
  have HB := Lib.hid hbY; have HR := Lib.hid hRY; have HRR := Lib.hid hR
  obtain ⟨e0, e1, e2⟩ := tm_at hRY
  have f0 := free_block 0 hRY; have f1 := free_block 1 hRY; have f2 := free_block 2 hRY
  obtain ⟨l, hq, hh, hp⟩ := h.under hbY
  have HM : Hid (Calls Try.prog 33 #[ptr Q] Y fun e w' => e = .returned (.bool true) ∧ Y = w') := Lib.hid (made_im Y hq hm0)
  obtain ⟨b, c3, hc⟩ := hq.look hid
  rcases hc with ⟨k, hk, he, hr⟩ | ⟨hn, hr⟩
  · obtain ⟨hf, hnt⟩ := find_yes hp hg hk he
    have hi : get q id = (nthT l k, true) := by unfold get; rw [if_pos hf, hnt]
    rw [hi]
    obtain ⟨lv, ps, b', hv, _⟩ := hq
    obtain ⟨g, c, p, rfl, _, a0, _, hb0⟩ := hv.at_ hk
    have c2 := hv.c.2.2.1
    obtain ⟨t, ht⟩ : ∃ t, nthT l k = t := ⟨_, rfl⟩
    obtain ⟨n, hn⟩ : ∃ n, l.length = n := ⟨_, rfl⟩
    rw [ht] at hb0 ⊢
    rw [hn] at c2 hk
    have hk1 : (k : Int) < (n : Int) := by omega
    have hk0 : (0 : Int) ≤ (k : Int) := by omega
    obtain ⟨x0, x1, x2⟩ := tm_at hb0
    clear hbY hRY h hg hm0 hh hp hi hk he hf hnt hv hb0 ht hn
    go_enter Try.func19, Try.ntmps19
    go_wp2_with (go_at_call 33; refine HM.out.mono ?_; rintro e w' ⟨rfl, rfl⟩)
    exact ret_tm2 (t := t) rfl rfl rfl rfl (tm_set (k := zeroTm) (x := t) HR.out) ⟨rfl, below_cells HB.out (by rw [HRR.out]; exact Nat.le_refl _) _ _ _⟩
  · have hi : get q id = (zeroTm, false) := by unfold get; rw [if_neg (find_no hp hn)]
    rw [hi]
    clear hbY hRY h hg hm0 hq hh hp hi hn
    go_enter Try.func19, Try.ntmps19
    go_wp2_with (go_at_call 33; refine HM.out.mono ?_; rintro e w' ⟨rfl, rfl⟩)
    exact ret_tm2 (t := zeroTm) rfl rfl rfl rfl (tm_set (k := zeroTm) (x := zeroTm) HR.out) ⟨rfl, below_cells HB.out (by rw [HRR.out]; exact Nat.le_refl _) _ _ _⟩
set_option maxRecDepth 100000 in
set_option maxHeartbeats 4000000 in
theorem pop_im {Q : Nat} {F : Nat → Prop} {q : QS} (now : Int) (w : World) (h : HQ w Q F q) (hg : Good q) :
    Calls Try.prog 15 #[ptr Q, .int .i64 now] w fun e w' => e = .returned (firstV (pop q now).2) ∧ ∃ F', HQ w' Q F' (pop q now).1 ∧ StepF w w' F F' := by
  obtain ⟨R, hR⟩ : ∃ R, w.heap.size = R := ⟨_, rfl⟩
  obtain ⟨Y, hY⟩ : ∃ Y, w.alloc (.cells #[.int .i64 0, .int .i64 0, .int .i64 0] 45) = Y := ⟨_, rfl⟩
  have hbY : Below w.heap.size w Y := by rw [← hY]; exact (Below.refl _ w).alloc (Nat.le_refl _) _
  have hYs : Y.heap.size = R + 1 := by rw [← hY, ← hR]; simp
  have hRY : Y.heap[R]? = some (.cells zeroTm.cells 45 (0, 0)) := by
    rw [← hY, ← hR]
    exact heap_alloc_new w _
  have hqY := h.under hbY
  obtain ⟨u, hu⟩ : ∃ u, first q = u := ⟨_, rfl⟩
  have HF := Lib.hid (first_im Y hqY hg)
  rw [hu] at HF
  have hFlt : ∀ j, F j → j < R := fun j hj => by rw [← hR]; exact h.lt j hj
  -- behind First: the timer is put into a block of its own
  have HX : Hid (∀ W, Below Y.heap.size Y W → ∃ X T, W.alloc (.cells #[.int .i64 u.1.due, .int .i64 u.1.id, .int .i64 u.1.what] 45) = X ∧ W.heap.size = T ∧ (X.cell? ⟨T, 0, none⟩ = some (.int .i64 u.1.due) ∧ X.cell? ⟨T, 1, none⟩ = some (.int .i64 u.1.id) ∧ X.cell? ⟨T, 2, none⟩ = some (.int .i64 u.1.what)) ∧ Hid (Below Y.heap.size Y X)) := Lib.hid (fun W hW => by
    have hb := heap_alloc_new W (.cells #[.int .i64 u.1.due, .int .i64 u.1.id, .int .i64 u.1.what] 45)
    exact ⟨_, _, rfl, rfl, tm_at (t := u.1) hb, Lib.hid (hW.alloc hW.size _)⟩)
  have HRZ : Hid (∀ X, Below Y.heap.size Y X → X.heap[R]? = some (.cells zeroTm.cells 45 (0, 0))) := Lib.hid (fun X hX => (hX.block R (by omega)).trans hRY)
  have HNO : Hid (∀ X, Below Y.heap.size Y X → ∀ x y z, HQ (((X.setCell ⟨R, 0, none⟩ x).setCell ⟨R, 1, none⟩ y).setCell ⟨R, 2, none⟩ z) Q F q ∧ StepF w (((X.setCell ⟨R, 0, none⟩ x).setCell ⟨R, 1, none⟩ y).setCell ⟨R, 2, none⟩ z) F F) := Lib.hid (fun X hX x y z => by
    have hw : Below w.heap.size w X := below_then hbY hX
    have := below_cells hw (by omega : w.heap.size ≤ R) x y z
    exact ⟨h.under this, StepF.below F this⟩)
  rcases hl : q.l with _ | ⟨t, r⟩
  · have hf : u = (zeroTm, false) := by rw [← hu, first_nil hl]
    have hi : pop q now = (q, zeroTm, false) := by unfold pop; rw [hl]
    subst hf
    rw [hi]
    clear hbY hRY h hg hqY hFlt hi hl hu hYs
    go_enter Try.func15, Try.ntmps15
    go_wp2_with fail
    clear hY
    refine HF.out.mono ?_
    rintro e W ⟨rfl, hb⟩
    obtain ⟨X, T, hX, hT, ⟨x0, x1, x2⟩, HB⟩ := HX.out W hb
    have hz := HRZ.out X HB.out
    obtain ⟨e0, e1, e2⟩ := tm_at hz
    have f0 := free_block 0 hz; have f1 := free_block 1 hz; have f2 := free_block 2 hz
    have HZ := Lib.hid hz
    clear hb hz
    go_wp2_with fail
    exact ret_tm2 (t := zeroTm) rfl rfl rfl rfl (tm_set (k := zeroTm) (x := zeroTm) HZ.out) ⟨rfl, F, HNO.out X HB.out _ _ _⟩
  · have hf : u = (t, true) := by rw [← hu, first_cons hl]
    subst hf
    by_cases hn : now < t.due
    · have hi : pop q now = (q, zeroTm, false) := by unfold pop; rw [hl]; simp [hn]
      rw [hi]
      clear hbY hRY h hg hqY hFlt hi hl hu hYs
      go_enter Try.func15, Try.ntmps15
      go_wp2_with fail
      clear hY
      refine HF.out.mono ?_
      rintro e W ⟨rfl, hb⟩
      obtain ⟨X, T, hX, hT, ⟨x0, x1, x2⟩, HB⟩ := HX.out W hb
      have hz := HRZ.out X HB.out
      obtain ⟨e0, e1, e2⟩ := tm_at hz
      have f0 := free_block 0 hz; have f1 := free_block 1 hz; have f2 := free_block 2 hz
      have HZ := Lib.hid hz
      clear hb hz
      go_wp2_with fail
      exact ret_tm2 (t := zeroTm) rfl rfl rfl rfl (tm_set (k := zeroTm) (x := zeroTm) HZ.out) ⟨rfl, F, HNO.out X HB.out _ _ _⟩
    · have hi : pop q now = (⟨r, q.most, q.next⟩, t, true) := by unfold pop; rw [hl]; simp [hn]
      rw [hi]
      have HT : Hid (∀ X, Below Y.heap.size Y X → Calls Try.prog 35 #[ptr Q, .int .i64 0] X fun e w' => e = .returned (tV t) ∧ w'.heap[R]? = some (.cells zeroTm.cells 45 (0, 0)) ∧
          Hid (∀ x y z, ∃ F', HQ (((w'.setCell ⟨R, 0, none⟩ x).setCell ⟨R, 1, none⟩ y).setCell ⟨R, 2, none⟩ z) Q F' ⟨r, q.most, q.next⟩ ∧ StepF w (((w'.setCell ⟨R, 0, none⟩ x).setCell ⟨R, 1, none⟩ y).setCell ⟨R, 2, none⟩ z) F F')) := Lib.hid (fun X hX => by
        obtain ⟨l, hq, hh, hp⟩ := hqY.under hX
        have h0 : 0 < l.length := by rw [hp.length_eq, hl]; simp
        have hft := Rep.first ⟨hh, hp⟩ hg hl
        have hle := hg.len
        have hmo := hg.most.2
        have hln := hp.length_eq
        have hXs := hX.size
        refine (take_im 0 X hq h0 (by omega) hh).mono ?_
        rintro e w' ⟨rfl, F', l', h2, s2, p2, k2⟩
        have hRF : ¬ F R := fun e => by have := hFlt R e; omega
        have hRF' : ¬ F' R := fun e => by
          rcases s2.grows R e with h1 | h1
          · exact hRF h1
          · omega
        refine ⟨by rw [hft], (s2.block R (by omega) hRF).trans (HRZ.out X hX), Lib.hid (fun x y z => ?_)⟩
        have hgR : w'.grownBy (((w'.setCell ⟨R, 0, none⟩ x).setCell ⟨R, 1, none⟩ y).setCell ⟨R, 2, none⟩ z) (some R) := only_setCell (only_setCell (only_setCell (only_refl w' (some R)) _ _) _ _) _ _
        have hpr : l'.Perm r := by
          have h3 := (perm_off h0).trans hp
          rw [hft, hl] at h3
          exact p2.trans h3.cons_inv
        have s0 := (StepF.below F (below_then hbY hX)).trans s2
        refine ⟨F', ⟨l', h2.keep (fun k hk => hgR.block k (h2.lt k hk) (fun e => hRF' (by rw [← Option.some.inj e]; exact hk))), k2, hpr⟩, hgR.os.trans s0.os, hgR.tape.trans s0.tape, hgR.output.trans s0.output, Nat.le_trans s0.size hgR.size, fun j hj hne => ?_, s0.grows⟩
        exact (hgR.block j (Nat.lt_of_lt_of_le hj s0.size) (fun e => by have := Option.some.inj e; omega)).trans (s0.block j hj hne))
      clear hbY hRY h hg hqY hFlt hi hl hu hYs
      go_enter Try.func15, Try.ntmps15
      go_wp2_with fail
      clear hY
      refine HF.out.mono ?_
      rintro e W ⟨rfl, hb⟩
      obtain ⟨X, T, hX, hT, ⟨x0, x1, x2⟩, HB⟩ := HX.out W hb
      clear hb
      go_wp2_with fail
      refine (HT.out X HB.out).mono ?_
      rintro e w3 ⟨rfl, hz, HE⟩
      obtain ⟨e0, e1, e2⟩ := tm_at hz
      have f0 := free_block 0 hz; have f1 := free_block 1 hz; have f2 := free_block 2 hz
      have HZ := Lib.hid hz
      clear hz
      go_wp2_with fail
      exact ret_tm2 (t := t) rfl rfl rfl rfl (tm_set (k := zeroTm) (x := t) HZ.out) ⟨rfl, HE.out _ _ _⟩
end Go.Proofs.Ytfbdkafpfminlaa.Heap.Im
