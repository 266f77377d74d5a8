/- The program's take, walked. -/
import Derived.Test.YtfbdkafpfminlaaHeapImG
namespace Go.Proofs.Ytfbdkafpfminlaa.Heap.Im
open Go.RowKit Go.Lib

set_option maxRecDepth 100000 in
set_option maxHeartbeats 8000000 in
theorem take_im {Q : Nat} {F : Nat → Prop} {l : List Tm} {most next : Int} (k : Nat) (w : World) (h : MQ w Q F l most next) (hk : k < l.length) (hl : l.length ≤ 2048) (hh : HeapOK l) :
    Calls Try.prog 35 #[ptr Q, .int .i64 (k : Nat)] w fun e w' => e = .returned (tV (nthT l k)) ∧ ∃ F' l', MQ w' Q F' l' most next ∧ StepF w w' F F' ∧ l'.Perm (off l k) ∧ HeapOK l' := by
  obtain ⟨i0, hi0, hz0, hz1, hz2⟩ := info_parts info_ptr2
  obtain ⟨n, hn⟩ : ∃ n, l.length = n + 1 := ⟨l.length - 1, by omega⟩
  obtain ⟨t, ht⟩ : ∃ t, nthT l k = t := ⟨_, rfl⟩
  obtain ⟨R, hR⟩ : ∃ R, w.heap.size = R := ⟨_, rfl⟩
  obtain ⟨Y, hY⟩ : ∃ Y, w.alloc (.cells #[.int .i64 0, .int .i64 0, .int .i64 0] 45) = Y := ⟨_, rfl⟩
  obtain ⟨X, hX⟩ : ∃ X, Y.alloc (.cells #[.int .i64 t.due, .int .i64 t.id, .int .i64 t.what] 45) = X := ⟨_, rfl⟩
  have hYs : Y.heap.size = R + 1 := by rw [← hY, ← hR]; simp
  have hXs : X.heap.size = R + 2 := by rw [← hX]; simp [hYs]
  have hbY : Below w.heap.size w Y := by rw [← hY]; exact (Below.refl _ w).alloc (Nat.le_refl _) _
  have hbX : Below w.heap.size w X := by rw [← hX]; exact hbY.alloc (by omega) _
  have hRX : X.heap[R]? = some (.cells zeroTm.cells 45 (0, 0)) := by
    rw [← hX, heap_alloc_old _ _ (by omega), ← hY, ← hR]
    exact heap_alloc_new w _
  have hTX : X.heap[R + 1]? = some (.cells t.cells 45 (0, 0)) := by
    have := heap_alloc_new Y (.cells #[.int .i64 t.due, .int .i64 t.id, .int .i64 t.what] 45)
    rw [hYs] at this
    rw [← hX]
    exact this
  have hqX := h.under hbX
  have hqY := h.under hbY
  have hFlt : ∀ j, F j → j < R := fun j hj => by rw [← hR]; exact h.lt j hj
  have hRn : ∀ F' W, StepF X W F F' → ¬ F' R ∧ ¬ F' (R + 1) := fun F' W hs => ⟨fun e => by
    rcases hs.grows R e with h1 | h1
    · have := hFlt R h1; omega
    · omega, fun e => by
    rcases hs.grows (R + 1) e with h1 | h1
    · have := hFlt (R + 1) h1; omega
    · omega⟩
  have hRT : ∀ F' W, StepF X W F F' → W.heap[R]? = some (.cells zeroTm.cells 45 (0, 0)) ∧ W.heap[R + 1]? = some (.cells t.cells 45 (0, 0)) := fun F' W hs =>
    ⟨(hs.block R (by omega) (fun e => by have := hFlt R e; omega)).trans hRX, (hs.block (R + 1) (by omega) (fun e => by have := hFlt (R + 1) e; omega)).trans hTX⟩
  -- what the first region reads
  have HY : Hid (∃ g c p, Y.cell? ⟨Q, 2, none⟩ = some (.slice (some ⟨g, 0, none⟩) (n + 1) c) ∧ Y.cell? ⟨g, k, none⟩ = some (ptr p) ∧ Y.cell? ⟨p, 0, none⟩ = some (.int .i64 t.due) ∧ Y.cell? ⟨p, 1, none⟩ = some (.int .i64 t.id) ∧ Y.cell? ⟨p, 2, none⟩ = some (.int .i64 t.what)) := Lib.hid (by
    obtain ⟨lv, ps, b, hv, _⟩ := hqY
    obtain ⟨g, c, p, rfl, _, a0, _, hb0⟩ := hv.at_ hk
    obtain ⟨x0, x1, x2⟩ := tm_at hb0
    rw [ht] at x0 x1 x2
    rw [← hn]
    exact ⟨g, c, p, hv.c.2.2.1, a0, x0, x1, x2⟩)
  have HYX : Hid (X.cell? ⟨Q, 2, none⟩ = X.cell? ⟨Q, 2, none⟩ ∧ ∃ a c, X.cell? ⟨Q, 2, none⟩ = some (.slice a (n + 1) c)) := Lib.hid ⟨rfl, by
    obtain ⟨lv, ps, b, hv, _⟩ := hqX
    obtain ⟨a, c, rfl, _⟩ := hv.slice
    rw [← hn]
    exact ⟨a, c, hv.c.2.2.1⟩⟩
  have HSW : Hid (Calls Try.prog 41 #[ptr Q, .int .i64 (k : Nat), .int .i64 (n : Nat)] X fun e w' => e = .returned (.tuple #[]) ∧ Hid (∃ F', MQ w' Q F' (sw l k n) most next ∧ StepF X w' F F')) := Lib.hid (by
    refine (swap_im k n X hqX hk (by omega) (by omega)).mono ?_
    rintro e w' ⟨rfl, F', h1, h2⟩
    exact ⟨rfl, Lib.hid ⟨F', h1, h2⟩⟩)
  have hoff : (sw l k n).take n = off l k := by unfold off; rw [hn]; rfl
  have HB : Hid (∀ W1, (∃ F', MQ W1 Q F' (sw l k n) most next ∧ StepF X W1 F F') → ∃ g c b v M W2 W3, W1.cell? ⟨Q, 2, none⟩ = some (.slice (some ⟨g, 0, none⟩) (n + 1) c) ∧ W1.cell? ⟨g, n, none⟩ = some v ∧ W1.frozen? ⟨g, n, none⟩ = false ∧
      W1.setCell ⟨g, n, none⟩ (.pointer none) = W2 ∧ W2.cell? ⟨Q, 2, none⟩ = some (.slice (some ⟨g, 0, none⟩) (n + 1) c) ∧ W2.frozen? ⟨Q, 2, none⟩ = false ∧
      (Instr.slice 50 (.slice (some ⟨g, 0, none⟩) (n + 1) c) none (some (.int .i64 (n : Nat))) none).run Try.prog W2 = .ok (.slice (some ⟨g, 0, none⟩) n c) W2 ∧
      W2.setCell ⟨Q, 2, none⟩ (.slice (some ⟨g, 0, none⟩) n c) = W3 ∧ W3.cell? ⟨Q, 3, none⟩ = some (.map (some b)) ∧ W3.cell? ⟨R + 1, 1, none⟩ = some (.int .i64 t.id) ∧ Hid (Ints.MapIs Try.prog 3 W3.drew b (n + 1) M ∧ (M t.id).isSome = true) ∧
      Hid (∀ W4, W3.drew.grownBy W4 (some b) → Ints.MapIs Try.prog 3 W4 b n (fun x => if x = t.id then none else M x) → ∃ F', MQ W4 Q F' (off l k) most next ∧ StepF X W4 F F')) := Lib.hid (fun W1 ⟨F1, ⟨lv, ps, b, hv, hF1⟩, hs1⟩ => by
    have hln : (sw l k n).length = n + 1 := by rw [length_sw, hn]
    obtain ⟨g, c, p, rfl, _, a0, f0, _⟩ := hv.at_ (i := n) (by omega)
    obtain ⟨M, hM, hPl⟩ := hv.map
    have hlast : nthT (sw l k n) n = t := by rw [nthT_sw l k n hk (by omega), if_pos rfl, ht]
    have hvh := hv.head
    have hvr := hv.row
    have hvs := hv.slice
    rw [hln] at hvh hvr hvs hM
    have hnc : n + 1 ≤ c := by
      obtain ⟨a', c', e, h1, _⟩ := hvs
      injection e with _ _ e3
      omega
    have hgQ : g ≠ Q := fun e => hv.lq (by rw [e]; rfl)
    have hgb : g ≠ b := fun e => hv.lb (by rw [e]; rfl)
    have hQl := hv.lt Q (.inl rfl)
    have hbl := hv.lt b (.inr (.inl rfl))
    obtain ⟨W2, hW2⟩ : ∃ W2, W1.setCell ⟨g, n, none⟩ (.pointer none) = W2 := ⟨_, rfl⟩
    have s2 : W1.grownBy W2 (some g) := by rw [← hW2]; exact only_setCell (only_refl W1 (some g)) n _
    have hQ2 := (s2.block Q hQl (fun e => hgQ (Option.some.inj e).symm)).trans hvh
    obtain ⟨W3, hW3⟩ : ∃ W3, W2.setCell ⟨Q, 2, none⟩ (.slice (some ⟨g, 0, none⟩) n c) = W3 := ⟨_, rfl⟩
    have s3 : W2.grownBy W3 (some Q) := by rw [← hW3]; exact only_setCell (only_refl W2 (some Q)) 2 _
    have hQ3 : W3.heap[Q]? = some (.cells #[.int .i64 most, .int .i64 next, .slice (some ⟨g, 0, none⟩) n c, .map (some b)] 53 (0, 0)) := by
      rw [← hW3]
      exact heap_setCell_same W2 Q 2 _ _ _ hQ2
    have hsz2 := s2.size
    have hsz3 := s3.size
    have hkeep3 : ∀ j, j < W1.heap.size → j ≠ g → j ≠ Q → W3.heap[j]? = W1.heap[j]? := fun j hj h1 h2 => (s3.block j (by omega) (fun e => h2 (Option.some.inj e))).trans (s2.block j hj (fun e => h1 (Option.some.inj e)))
    have hst : StepF X W3 F F1 := ⟨s3.os.trans (s2.os.trans hs1.os), s3.tape.trans (s2.tape.trans hs1.tape), s3.output.trans (s2.output.trans hs1.output), Nat.le_trans hs1.size (by omega), fun j hj hne => by
      have h1 : ¬ F1 j := fun e => by
        rcases hs1.grows j e with h2 | h2
        · exact hne h2
        · omega
      have h2 : ¬ foot Q (.slice (some ⟨g, 0, none⟩) (sw l k n).length c) ps b j := fun e => h1 ((hF1 j).2 e)
      exact (hkeep3 j (Nat.lt_of_lt_of_le hj hs1.size) (fun e => h2 (.inr (.inr (.inl (by rw [e]; rfl))))) (fun e => h2 (.inl e))).trans (hs1.block j hj hne), hs1.grows⟩
    have htr := trunc_ptr hvr
    rw [hW2] at htr
    have hrow3 := own_same htr (fun j hj => s3.block j (by have := (hvr.lt g rfl).2; have e : g = j := Option.some.inj hj; omega) (fun e => hgQ ((Option.some.inj hj).trans (Option.some.inj e))))
    have hMs : (M t.id).isSome = true := by
      have := hPl.at_ n _ (nthT_at (l := sw l k n) (by omega))
      rw [hlast] at this
      rw [this]
      rfl
    refine ⟨g, c, b, _, M, W2, W3, cell_block (j := 2) hvh rfl, a0, f0, hW2, cell_block (j := 2) hQ2 rfl, free_block 2 hQ2, run_take (P := Try.prog) W2 elem_ptr under_ptr hi0 _ _ c n (.inr ⟨g, rfl⟩) (by omega), hW3, cell_block (j := 3) hQ3 rfl, cell_block (j := 1) (hRT F1 W3 hst).2 rfl,
      Lib.hid ⟨hM.of_block (hkeep3 b hbl hgb.symm (fun e => hv.qb e.symm)), hMs⟩, Lib.hid (fun W4 hW4 hM4 => ?_)⟩
    have hk4 : ∀ j, j < W3.heap.size → j ≠ b → W4.heap[j]? = W3.heap[j]? := fun j hj hne => hW4.block j hj (fun e => hne (Option.some.inj e))
    have hdr := hPl.drop hln
    rw [hlast] at hdr
    have hmv := MV.cut (W := W4) hv hln (fun j hj h1 h2 h3 => (hk4 j (by omega) h2).trans (hkeep3 j hj h3 h1)) ((hk4 Q (by omega) hv.qb).trans hQ3)
      (own_same hrow3 (fun j hj => hk4 j (hrow3.lt j hj).2 (fun e => hgb ((Option.some.inj hj).trans e)))) ⟨_, hM4, hdr⟩
    rw [hoff] at hmv
    have hsz4 : W3.heap.size ≤ W4.heap.size := hW4.size
    refine ⟨_, ⟨_, _, _, hmv, fun j => Iff.rfl⟩, hW4.os.trans hst.os, hW4.tape.trans hst.tape, hW4.output.trans hst.output, Nat.le_trans hst.size hsz4, fun j hj hne => ?_, fun j hj => ?_⟩
    · have h1 : ¬ F1 j := fun e => by
        rcases hs1.grows j e with h2 | h2
        · exact hne h2
        · omega
      exact (hk4 j (Nat.lt_of_lt_of_le hj hst.size) (fun e => h1 ((hF1 j).2 (.inr (.inl e))))).trans (hst.block j hj hne)
    · refine hs1.grows j ((hF1 j).2 ?_)
      rcases hj with h1 | h1 | h1 | h1
      · exact .inl h1
      · exact .inr (.inl h1)
      · exact .inr (.inr (.inl h1))
      · exact .inr (.inr (.inr (List.mem_of_mem_take h1))))
  have hlo : (off l k).length = n := by rw [length_off, hn]; rfl
  have HRI : Hid (∀ W4, k < n → (∃ F', MQ W4 Q F' (off l k) most next ∧ StepF X W4 F F') → Calls Try.prog 39 #[ptr Q, .int .i64 (k : Nat)] W4 fun e w' => e = .returned (.tuple #[]) ∧ Hid (∃ F' l', MQ w' Q F' l' most next ∧ StepF X w' F F' ∧ l'.Perm (off l k) ∧ SinkInv l' k)) := Lib.hid (fun W4 hkn ⟨F4, h4, s4⟩ => by
    refine (rise_im k W4 h4 (by omega) (by omega) (rise_off hh (by omega))).mono ?_
    rintro e w' ⟨rfl, F5, l5, h5, s5, p5, k5⟩
    exact ⟨rfl, Lib.hid ⟨F5, l5, h5, s4.trans s5, p5, k5⟩⟩)
  have HSI : Hid (∀ W5, k < n → (∃ F' l', MQ W5 Q F' l' most next ∧ StepF X W5 F F' ∧ l'.Perm (off l k) ∧ SinkInv l' k) → Calls Try.prog 42 #[ptr Q, .int .i64 (k : Nat)] W5 fun e w' => e = .returned (.tuple #[]) ∧ Hid (∃ F' l', MQ w' Q F' l' most next ∧ StepF X w' F F' ∧ l'.Perm (off l k) ∧ HeapOK l')) := Lib.hid (fun W5 hkn ⟨F5, l5, h5, s5, p5, k5⟩ => by
    have := p5.length_eq
    refine (sink_im k W5 h5 (by omega) (by omega) k5).mono ?_
    rintro e w' ⟨rfl, F6, l6, h6, s6, p6, k6⟩
    exact ⟨rfl, Lib.hid ⟨F6, l6, h6, s5.trans s6, p6.trans p5, k6⟩⟩)
  have HLA : Hid (∀ W4, k = n → (∃ F', MQ W4 Q F' (off l k) most next ∧ StepF X W4 F F') → ∃ F' l', MQ W4 Q F' l' most next ∧ StepF X W4 F F' ∧ l'.Perm (off l k) ∧ HeapOK l') := Lib.hid (fun W4 hkn ⟨F4, h4, s4⟩ => ⟨F4, off l k, h4, s4, .refl _, heap_off hh (by omega)⟩)
  have HFI : Hid (∀ W, (∃ F' l', MQ W Q F' l' most next ∧ StepF X W F F' ∧ l'.Perm (off l k) ∧ HeapOK l') → W.heap[R]? = some (.cells zeroTm.cells 45 (0, 0)) ∧ W.heap[R + 1]? = some (.cells t.cells 45 (0, 0)) ∧
      ∃ F' l', MQ (((W.setCell ⟨R, 0, none⟩ (.int .i64 t.due)).setCell ⟨R, 1, none⟩ (.int .i64 t.id)).setCell ⟨R, 2, none⟩ (.int .i64 t.what)) Q F' l' most next ∧ StepF w (((W.setCell ⟨R, 0, none⟩ (.int .i64 t.due)).setCell ⟨R, 1, none⟩ (.int .i64 t.id)).setCell ⟨R, 2, none⟩ (.int .i64 t.what)) F F' ∧ l'.Perm (off l k) ∧ HeapOK l') := Lib.hid (fun W ⟨F6, l6, h6, s6, p6, k6⟩ => by
    obtain ⟨hr0, hr1⟩ := hRT F6 W s6
    have hg : W.grownBy (((W.setCell ⟨R, 0, none⟩ (.int .i64 t.due)).setCell ⟨R, 1, none⟩ (.int .i64 t.id)).setCell ⟨R, 2, none⟩ (.int .i64 t.what)) (some R) := only_setCell (only_setCell (only_setCell (only_refl W (some R)) _ _) _ _) _ _
    refine ⟨hr0, hr1, F6, l6, h6.keep (fun j hj => hg.block j (h6.lt j hj) (fun e => (hRn F6 W s6).1 (by rw [← Option.some.inj e]; exact hj))), ?_, p6, k6⟩
    have s0 := (StepF.below F hbX).trans s6
    exact ⟨hg.os.trans s0.os, hg.tape.trans s0.tape, hg.output.trans s0.output, Nat.le_trans s0.size hg.size, fun j hj hne => (hg.block j (Nat.lt_of_lt_of_le hj s0.size) (fun e => by have := Option.some.inj e; omega)).trans (s0.block j hj hne), s0.grows⟩)
  have HI : Hid (Ints.I64 t.id) := Lib.hid (by
    obtain ⟨lv, ps, b, hv, _⟩ := hqX
    rw [← ht]
    exact hv.ids _ (List.mem_of_getElem? (nthT_at hk)))
  have hk1 : (k : Int) < (n : Int) + 1 := by omega
  have hk0 : (0 : Int) ≤ (k : Int) := by omega
  have hn1 : (n : Int) ≤ 1048576 := by omega
  have hkn : k ≤ n := by omega
  rw [ht]
  clear hi0 hz0 hz1 hz2 hXs hbY hbX hRX hTX hqX hqY hFlt hRn hRT hoff hlo h hk hl hh hn ht
  obtain ⟨g0, c0, p0, y0, y1, y2, y3, y4⟩ := HY.out
  obtain ⟨_, a0, d0, x0⟩ := HYX.out
  go_enter Try.func35, Try.ntmps35
  go_wp2_with fail
  refine HSW.out.mono ?_
  rintro e W1 ⟨rfl, H1⟩
  obtain ⟨g, c, b, v, M, W2, W3, z0, z1, z2, hW2, z3, z4, z5, hW3, z6, z7, HM, HM4⟩ := HB.out W1 H1.out
  clear hX hY y0 y1 y2 y3 y4 x0
  go_wp2_with fail
  clear hW2 hW3 z0 z1 z2 z3 z4 z5
  go_still_tail 6, (by kernel_rfl)
  change wpList _ _ _ _ _ W3.drew
  have hM1 := HM.out.1
  by_cases hc : k < n
  · have hc2 : (k : Int) < (n : Int) := by omega
    go_wp2_with (at_delete; refine Ints.wpList_delete_int _ rfl _ _ 51 3 rfl 3 Try.underlying3 Try.underlying51 b (n + 1) M rfl hM1 t.id rfl HI.out ?_; intro W4 hM2 hg4 hs4)
    have hM3 : Ints.MapIs Try.prog 3 W4 b n (fun x => if x = t.id then none else M x) := by
      rw [HM.out.2, if_pos rfl] at hM2
      exact hM2
    have H4 := Lib.hid (HM4.out W4 hg4 hM3)
    clear hM1 hM2 hM3 hg4 hs4 z6 z7
    refine (HRI.out W4 hc H4.out).mono ?_
    rintro e W5 ⟨rfl, H5⟩
    go_wp2_with fail
    refine (HSI.out W5 hc H5.out).mono ?_
    rintro e W6 ⟨rfl, H6⟩
    obtain ⟨r0, r1, HE⟩ := HFI.out W6 H6.out
    have HE2 := Lib.hid HE
    obtain ⟨e0, e1, e2⟩ := tm_at r0
    obtain ⟨x0, x1, x2⟩ := tm_at r1
    have f0 := free_block 0 r0; have f1 := free_block 1 r0; have f2 := free_block 2 r0
    have HR0 := Lib.hid r0
    clear HE r0 r1
    go_wp2_with fail
    exact ret_tm rfl rfl rfl (tm_set (k := zeroTm) (x := t) HR0.out) ⟨rfl, HE2.out⟩
  · have hc2 : ¬ (k : Int) < (n : Int) := by omega
    have hc3 : k = n := by omega
    have HEQ := Lib.hid hc3
    have HKK : Hid (∀ W, W3.drew.grownBy W (some b) → Ints.MapIs Try.prog 3 W b (n + 1 - if (M t.id).isSome = true then 1 else 0) (fun x => if x = t.id then none else M x) →
        (W.cell? ⟨R, 0, none⟩ = some (.int .i64 0) ∧ W.cell? ⟨R, 1, none⟩ = some (.int .i64 0) ∧ W.cell? ⟨R, 2, none⟩ = some (.int .i64 0)) ∧ (W.cell? ⟨R + 1, 0, none⟩ = some (.int .i64 t.due) ∧ W.cell? ⟨R + 1, 1, none⟩ = some (.int .i64 t.id) ∧ W.cell? ⟨R + 1, 2, none⟩ = some (.int .i64 t.what)) ∧
        (W.frozen? ⟨R, 0, none⟩ = false ∧ W.frozen? ⟨R, 1, none⟩ = false ∧ W.frozen? ⟨R, 2, none⟩ = false) ∧ Hid (W.heap[R]? = some (.cells zeroTm.cells 45 (0, 0)) ∧ ∃ F' l', MQ (((W.setCell ⟨R, 0, none⟩ (.int .i64 t.due)).setCell ⟨R, 1, none⟩ (.int .i64 t.id)).setCell ⟨R, 2, none⟩ (.int .i64 t.what)) Q F' l' most next ∧ StepF w (((W.setCell ⟨R, 0, none⟩ (.int .i64 t.due)).setCell ⟨R, 1, none⟩ (.int .i64 t.id)).setCell ⟨R, 2, none⟩ (.int .i64 t.what)) F F' ∧ l'.Perm (off l k) ∧ HeapOK l')) := Lib.hid (fun W hg hM => by
      rw [HM.out.2, if_pos rfl] at hM
      obtain ⟨r0, r1, HE⟩ := HFI.out W (HLA.out W HEQ.out (HM4.out W hg hM))
      exact ⟨tm_at r0, tm_at r1, ⟨free_block 0 r0, free_block 1 r0, free_block 2 r0⟩, Lib.hid ⟨r0, HE⟩⟩)
    clear hc3
    go_wp2_with (at_delete; refine Ints.wpList_delete_int _ rfl _ _ 51 3 rfl 3 Try.underlying3 Try.underlying51 b (n + 1) M rfl hM1 t.id rfl HI.out ?_; intro W6 hM2 hg4 hs4; obtain ⟨⟨e0, e1, e2⟩, ⟨x0, x1, x2⟩, ⟨f0, f1, f2⟩, HE⟩ := HKK.out W6 hg4 hM2)
    exact ret_tm rfl rfl rfl (tm_set (k := zeroTm) (x := t) HE.out.1) ⟨rfl, HE.out.2⟩
end Go.Proofs.Ytfbdkafpfminlaa.Heap.Im
