/- The document's Move, Pop, Get. -/
import Derived.Test.YtfbdkafpfminlaaHeapD
namespace Go.Proofs.Ytfbdkafpfminlaa.Heap
open Go.RowKit Go.Lib

set_option maxRecDepth 100000 in
set_option maxHeartbeats 2000000 in
theorem dmove {Q : Nat} {G : Nat → Prop} {q : QS} (id due : Int) (w : World) (h : DQ w Q G q) (hl : q.l.length ≤ 4096) (hn1 : 1 ≤ q.next) (hn2 : q.next ≤ mt) :
    Calls Try.prog 25 #[ptr Q, .int .i64 id, .int .i64 due] w fun e w' => e = .returned (.tuple #[.int .i64 (move q id due).2.1, .int .i64 (move q id due).2.2]) ∧ ∃ G', DQ w' Q G' (move q id due).1 ∧ StepF w w' G G' := by
  have HQ0 := Lib.hid h
  have HF := Lib.hid (dfind id w h (by omega))
  by_cases hf : findK id q.l < q.l.length
  · have hv : findV q.l id = (findK id q.l : Nat) := by unfold findV; rw [if_pos hf]
    obtain ⟨k, hk⟩ : ∃ k, findK id q.l = k := ⟨_, rfl⟩
    rw [hv, hk] at HF
    have hk0 : ¬ (k : Int) < 0 := by omega
    obtain ⟨a, c, _, _, c2, _, _⟩ := h.c
    obtain ⟨nx, hnx⟩ : ∃ nx, q.next = nx := ⟨_, rfl⟩
    rw [hnx] at c2
    by_cases hd : due < 0
    · have hi : move q id due = (q, 0, 1) := by unfold move; rw [if_pos hf, if_pos hd]
      rw [hi]
      clear h hl hn1 hn2 hi hv hk hf hnx c2
      go_enter Try.func25, Try.ntmps25
      go_wp2_with fail
      refine HF.out.mono ?_
      rintro e w' ⟨rfl, rfl⟩
      go_wp2_with fail
      go_ret2
      exact ⟨rfl, G, HQ0.out, StepF.refl w G⟩
    · by_cases hx : q.next = mt
      · have hi : move q id due = (q, 0, 4) := by unfold move; rw [if_pos hf, if_neg hd, if_pos hx]
        rw [hi]
        rw [← hnx, hx] at c2
        unfold mt at c2
        clear h hl hn1 hn2 hi hv hk hf hnx hx
        go_enter Try.func25, Try.ntmps25
        go_wp2_with fail
        refine HF.out.mono ?_
        rintro e w' ⟨rfl, rfl⟩
        go_wp2_with fail
        go_ret2
        exact ⟨rfl, G, HQ0.out, StepF.refl w G⟩
      · have hi : move q id due = (⟨put (cut q.l k) ⟨due, nx, (nthT q.l k).what⟩, q.most, nx + 1⟩, nx, 0) := by unfold move; rw [if_pos hf, if_neg hd, if_neg hx, hk, hnx]
        have hxe : (nx == 1099511627776) = false := by unfold mt at hx; rw [← hnx]; simpa using hx
        rw [hi]
        rw [hk] at hf
        obtain ⟨t, ht⟩ : ∃ t, nthT q.l k = t := ⟨_, rfl⟩
        have hcl := (cut_sub q.l k).length_le
        have HT : Hid (Calls Try.prog 38 #[ptr Q, .int .i64 (k : Nat)] w fun e w1 => e = .returned (tV t) ∧ Hid (∃ X U, w1.alloc (.cells #[.int .i64 t.due, .int .i64 t.id, .int .i64 t.what] 45) = X ∧ w1.heap.size = U ∧ X.cell? ⟨Q, 2, none⟩ = some (.int .i64 nx) ∧ X.cell? ⟨U, 2, none⟩ = some (.int .i64 t.what) ∧
            Hid (Calls Try.prog 32 #[ptr Q, tV ⟨due, nx, t.what⟩] X.drew fun e w' => e = .returned (.tuple #[]) ∧ w'.cell? ⟨Q, 2, none⟩ = some (.int .i64 nx) ∧ w'.frozen? ⟨Q, 2, none⟩ = false ∧
              Hid (∀ m, (w'.setCell ⟨Q, 2, none⟩ (.int .i64 m)).cell? ⟨Q, 2, none⟩ = some (.int .i64 m) ∧ ∃ G', DQ (w'.setCell ⟨Q, 2, none⟩ (.int .i64 m)) Q G' ⟨put (cut q.l k) ⟨due, nx, t.what⟩, q.most, m⟩ ∧ StepF w (w'.setCell ⟨Q, 2, none⟩ (.int .i64 m)) G G')))) := Lib.hid (by
          have h1 := dtake k w h hf hl
          rw [ht] at h1
          refine h1.mono ?_
          rintro e w1 ⟨rfl, G1, h2, s2⟩
          have hal : Below w1.heap.size w1 (w1.alloc (.cells #[.int .i64 t.due, .int .i64 t.id, .int .i64 t.what] 45)) := (Below.refl _ w1).alloc (Nat.le_refl _) _
          have hdr : Below w1.heap.size w1 (w1.alloc (.cells #[.int .i64 t.due, .int .i64 t.id, .int .i64 t.what] 45)).drew := hal.drew
          obtain ⟨_, _, _, _, c2', _, _⟩ := (h2.under hal).c
          have hb := heap_alloc_new w1 (.cells #[.int .i64 t.due, .int .i64 t.id, .int .i64 t.what] 45)
          have hp := dadd (q0 := q) ⟨due, q.next, t.what⟩ _ (h2.under hdr) (s2.trans (StepF.below G1 hdr)) (by show (cut q.l k).length ≤ 4096; omega) rfl rfl
          rw [hnx] at hp
          exact ⟨rfl, Lib.hid ⟨_, _, rfl, rfl, by rw [c2', ← hnx], cell_block (j := 2) hb rfl, Lib.hid hp⟩⟩)
        rw [ht]
        have hn3 : nx ≤ 2 ^ 40 := by unfold mt at hn2; omega
        have hn4 : 1 ≤ nx := by omega
        clear h hl hn1 hn2 hi hv hk hf hnx hx hcl ht HQ0
        go_enter Try.func25, Try.ntmps25
        go_wp2_with fail
        refine HF.out.mono ?_
        rintro e w' ⟨rfl, rfl⟩
        go_wp2_with fail
        refine HT.out.mono ?_
        rintro e w1 ⟨rfl, H1⟩
        obtain ⟨X, U, hX, hU, x2, u2, HP⟩ := H1.out
        clear c2
        go_wp2_with fail
        clear hX hU H1
        go_still_tail 9, (by kernel_rfl)
        change wpList _ _ _ _ _ X.drew
        go_wp2_with fail
        refine HP.out.mono ?_
        rintro e w2 ⟨rfl, g2, g3, HE⟩
        obtain ⟨g4, _⟩ := HE.out (nx + 1)
        clear x2 u2
        go_wp2_with fail
        go_ret2
        exact ⟨by first | rfl | (congr 3; omega), (HE.out (nx + 1)).2⟩
  · have hi : move q id due = (q, 0, 3) := by unfold move; rw [if_neg hf]
    have hv : findV q.l id = -1 := by unfold findV; rw [if_neg hf]
    rw [hi]
    rw [hv] at HF
    clear h hl hn1 hn2 hi hv hf
    go_enter Try.func25, Try.ntmps25
    go_wp2_with fail
    refine HF.out.mono ?_
    rintro e w' ⟨rfl, rfl⟩
    go_wp2_with fail
    go_ret2
    exact ⟨rfl, G, HQ0.out, StepF.refl w G⟩
/-- A zero timer's block of the call's own, made at its start. -/
theorem zero_head (w : World) : ∃ R Y, w.heap.size = R ∧ w.alloc (.cells #[.int .i64 0, .int .i64 0, .int .i64 0] 45) = Y ∧ Y.heap[R]? = some (.cells zeroTm.cells 45 (0, 0)) ∧ Hid (Below w.heap.size w Y ∧ w.heap.size = R ∧ Y.heap.size = R + 1) :=
  ⟨_, _, rfl, rfl, heap_alloc_new w _, Lib.hid ⟨(Below.refl _ w).alloc (Nat.le_refl _) _, rfl, by simp⟩⟩
theorem cells_below {w W : World} {R : Nat} (hb : Below w.heap.size w W) (hR : w.heap.size ≤ R) (x y z : Value) : Below w.heap.size w (((W.setCell ⟨R, 0, none⟩ x).setCell ⟨R, 1, none⟩ y).setCell ⟨R, 2, none⟩ z) :=
  below_of_only hb hR (only_setCell (only_setCell (only_setCell (only_refl W (some R)) _ _) _ _) _ _)
set_option maxRecDepth 100000 in
set_option maxHeartbeats 2000000 in
theorem dpop {Q : Nat} {G : Nat → Prop} {q : QS} (now : Int) (w : World) (h : DQ w Q G q) (hl : q.l.length ≤ 4096) :
    Calls Try.prog 26 #[ptr Q, .int .i64 now] w fun e w' => e = .returned (answerV (pop q now).2) ∧ ∃ G', DQ w' Q G' (pop q now).1 ∧ StepF w w' G G' := by
  obtain ⟨R, Y, hR, hY, hRY, HB⟩ := zero_head w
  have hqY := h.under HB.out.1
  obtain ⟨a, c, c0, _, _, _, hat⟩ := hqY.c
  obtain ⟨e0, e1, e2⟩ := tm_at hRY
  have f0 := free_block 0 hRY; have f1 := free_block 1 hRY; have f2 := free_block 2 hRY
  have HRY := Lib.hid hRY
  have HNO : Hid (∀ x y z, ∃ G', DQ (((Y.setCell ⟨R, 0, none⟩ x).setCell ⟨R, 1, none⟩ y).setCell ⟨R, 2, none⟩ z) Q G' q ∧ StepF w (((Y.setCell ⟨R, 0, none⟩ x).setCell ⟨R, 1, none⟩ y).setCell ⟨R, 2, none⟩ z) G G') := Lib.hid (fun x y z => by
    have := cells_below HB.out.1 (by rw [HB.out.2.1]; exact Nat.le_refl _ : w.heap.size ≤ R) x y z
    exact ⟨G, h.under this, StepF.below G this⟩)
  rcases hq : q.l with _ | ⟨t, r⟩
  · have hi : pop q now = (q, zeroTm, false) := by unfold pop; rw [hq]
    rw [hi]
    rw [hq] at c0
    have c0' : Y.cell? ⟨Q, 0, none⟩ = some (.slice a 0 c) := c0
    clear h hl hRY hqY hat hi hq c0
    go_enter Try.func26, Try.ntmps26
    go_wp2_with fail
    exact ret_tm2 (t := zeroTm) rfl rfl rfl rfl (tm_set (k := zeroTm) (x := zeroTm) HRY.out) ⟨rfl, HNO.out _ _ _⟩
  · obtain ⟨g, rfl, x0, _, _⟩ := hat 0 t (by rw [hq]; rfl)
    obtain ⟨n, hn⟩ : ∃ n, q.l.length = n := ⟨_, rfl⟩
    have hn0 : 0 < n := by rw [← hn, hq]; simp
    rw [hn] at c0
    have hne : ((n : Int) == 0) = false := by simp; omega
    have hn1 : (0 : Int) < (n : Int) := by omega
    have x0' : Y.cell? ⟨g, 0, none⟩ = some (.int .i64 t.due) := by simpa using x0
    by_cases hd : now < t.due
    · have hi : pop q now = (q, zeroTm, false) := by unfold pop; rw [hq]; simp [hd]
      rw [hi]
      clear h hl hRY hqY hat hi hq hn hn0 x0
      go_enter Try.func26, Try.ntmps26
      go_wp2_with fail
      exact ret_tm2 (t := zeroTm) rfl rfl rfl rfl (tm_set (k := zeroTm) (x := zeroTm) HRY.out) ⟨rfl, HNO.out _ _ _⟩
    · have hi : pop q now = (⟨r, q.most, q.next⟩, t, true) := by unfold pop; rw [hq]; simp [hd]
      have hcut : cut q.l 0 = r := by rw [hq]; rfl
      have hnt : nthT q.l 0 = t := by rw [hq]; rfl
      have HT : Hid (Calls Try.prog 38 #[ptr Q, .int .i64 0] Y fun e w' => e = .returned (tV t) ∧ w'.heap[R]? = some (.cells zeroTm.cells 45 (0, 0)) ∧
          Hid (∀ x y z, ∃ G', DQ (((w'.setCell ⟨R, 0, none⟩ x).setCell ⟨R, 1, none⟩ y).setCell ⟨R, 2, none⟩ z) Q G' ⟨r, q.most, q.next⟩ ∧ StepF w (((w'.setCell ⟨R, 0, none⟩ x).setCell ⟨R, 1, none⟩ y).setCell ⟨R, 2, none⟩ z) G G')) := Lib.hid (by
        have h1 := dtake 0 Y hqY (by omega) hl
        rw [hnt, hcut] at h1
        refine h1.mono ?_
        rintro e w' ⟨rfl, G', h2, s2⟩
        have hGlt : ∀ j, G j → j < R := fun j hj => by rw [← hR]; exact h.lt j hj
        have hRG : ¬ G R := fun e => by have := hGlt R e; omega
        have hRG' : ¬ G' R := fun e => by
          rcases s2.grows R e with h3 | h3
          · exact hRG h3
          · have := HB.out.2.2; omega
        refine ⟨rfl, (s2.block R (by have := HB.out.2.2; omega) hRG).trans HRY.out, Lib.hid (fun x y z => ?_)⟩
        have hgR : w'.grownBy (((w'.setCell ⟨R, 0, none⟩ x).setCell ⟨R, 1, none⟩ y).setCell ⟨R, 2, none⟩ z) (some R) := only_setCell (only_setCell (only_setCell (only_refl w' (some R)) _ _) _ _) _ _
        have s0 := (StepF.below G HB.out.1).trans s2
        refine ⟨G', h2.keep (fun k hk => hgR.block k (h2.lt k hk) (fun e => hRG' (by rw [← Option.some.inj e]; exact hk))), hgR.os.trans s0.os, hgR.tape.trans s0.tape, hgR.output.trans s0.output, Nat.le_trans s0.size hgR.size, fun j hj hne => ?_, s0.grows⟩
        exact (hgR.block j (Nat.lt_of_lt_of_le hj s0.size) (fun e => by have := Option.some.inj e; omega)).trans (s0.block j hj hne))
      rw [hi]
      clear h hl hRY hqY hat hi hq hn hn0 x0 hcut hnt HNO e0 e1 e2 f0 f1 f2
      go_enter Try.func26, Try.ntmps26
      go_wp2_with fail
      refine HT.out.mono ?_
      rintro e w3 ⟨rfl, hz, HE⟩
      obtain ⟨e0, e1, e2⟩ := tm_at hz
      have f0 := free_block 0 hz; have f1 := free_block 1 hz; have f2 := free_block 2 hz
      have HZ := Lib.hid hz
      clear hz
      go_wp2_with fail
      exact ret_tm2 (t := t) rfl rfl rfl rfl (tm_set (k := zeroTm) (x := t) HZ.out) ⟨rfl, HE.out _ _ _⟩
set_option maxRecDepth 100000 in
set_option maxHeartbeats 2000000 in
theorem dget {Q : Nat} {G : Nat → Prop} {q : QS} (id : Int) (w : World) (h : DQ w Q G q) (hl : q.l.length ≤ 4096) :
    Calls Try.prog 27 #[ptr Q, .int .i64 id] w fun e w' => e = .returned (answerV (get q id)) ∧ Below w.heap.size w w' := by
  obtain ⟨R, Y, hR, hY, hRY, HB⟩ := zero_head w
  have hqY := h.under HB.out.1
  have HF := Lib.hid (dfind id Y hqY (by omega))
  obtain ⟨a, c, c0, _, _, _, hat⟩ := hqY.c
  obtain ⟨e0, e1, e2⟩ := tm_at hRY
  have f0 := free_block 0 hRY; have f1 := free_block 1 hRY; have f2 := free_block 2 hRY
  have HRY := Lib.hid hRY
  by_cases hf : findK id q.l < q.l.length
  · have hv : findV q.l id = (findK id q.l : Nat) := by unfold findV; rw [if_pos hf]
    have hi : get q id = (nthT q.l (findK id q.l), true) := by unfold get; rw [if_pos hf]
    obtain ⟨k, hk⟩ : ∃ k, findK id q.l = k := ⟨_, rfl⟩
    rw [hi]
    rw [hv] at HF
    rw [hk] at HF hf ⊢
    obtain ⟨t, ht⟩ : ∃ t, nthT q.l k = t := ⟨_, rfl⟩
    obtain ⟨g, rfl, x0, x1, x2⟩ := hat k t (by rw [← ht]; exact nthT_at hf)
    obtain ⟨n, hn⟩ : ∃ n, q.l.length = n := ⟨_, rfl⟩
    rw [hn] at c0 hf
    rw [ht]
    have hk0 : ¬ (k : Int) < 0 := by omega
    have hk1 : (k : Int) < (n : Int) := by omega
    have hk2 : (0 : Int) ≤ (k : Int) := by omega
    clear h hl hRY hqY hat hi hv hk hf hn ht
    go_enter Try.func27, Try.ntmps27
    go_wp2_with fail
    refine HF.out.mono ?_
    rintro e w' ⟨rfl, rfl⟩
    go_wp2_with fail
    exact ret_tm2 (t := t) rfl rfl rfl rfl (tm_set (k := zeroTm) (x := t) HRY.out) ⟨rfl, cells_below HB.out.1 (by rw [HB.out.2.1]; exact Nat.le_refl _) _ _ _⟩
  · have hv : findV q.l id = -1 := by unfold findV; rw [if_neg hf]
    have hi : get q id = (zeroTm, false) := by unfold get; rw [if_neg hf]
    rw [hi]
    rw [hv] at HF
    clear h hl hRY hqY hat hi hv hf
    go_enter Try.func27, Try.ntmps27
    go_wp2_with fail
    refine HF.out.mono ?_
    rintro e w' ⟨rfl, rfl⟩
    go_wp2_with fail
    exact ret_tm2 (t := zeroTm) rfl rfl rfl rfl (tm_set (k := zeroTm) (x := zeroTm) HRY.out) ⟨rfl, cells_below HB.out.1 (by rw [HB.out.2.1]; exact Nat.le_refl _) _ _ _⟩
end Go.Proofs.Ytfbdkafpfminlaa.Heap
