/- The program's put and add. -/
import Derived.Test.YtfbdkafpfminlaaHeapImD
import Derived.Deep.AppendLies
namespace Go.Proofs.Ytfbdkafpfminlaa.Heap.Im
open Go.RowKit Go.Lib

theorem info_ptr : (Try.prog.info? 68).map (fun i => (i.zero, i.size, i.bytes)) = some (some (.pointer none), 1, 8) := by kernel_rfl
theorem app_ptr (w : World) (v : Value) (n : Nat) (ps : List Nat) (h : w.ownsRow 0 68 1 v n (ps.map ptr)) (hn : n ≤ 4096) (p : Nat) :
    ∃ g cap w', (Builtin.append_ #[50, 50] 50 #[v, .slice (some ⟨w.heap.size, 0, none⟩) 1 1]).run Try.prog (w.alloc (.cells #[ptr p] 68)) = .ok (.slice (some ⟨g, 0, none⟩) (n + 1) cap) w' ∧
      w'.ownsRow 0 68 1 (.slice (some ⟨g, 0, none⟩) (n + 1) cap) (n + 1) ((ps ++ [p]).map ptr) ∧ w.grownBy w' v.ownBlock ∧ (v.ownBlock = some g ∨ w.heap.size ≤ g) := by
  obtain ⟨i0, hi, hz0, hz1, hz2⟩ := info_parts info_ptr
  have hnew : (w.alloc (.cells #[ptr p] 68)).heap[w.heap.size]? = some (.cells #[ptr p] 68 (0, 0)) := heap_alloc_new w _
  obtain ⟨g, cap, w', hr, h2, h3, h4, _⟩ := run_append_lies (P := Try.prog) (w := w.alloc (.cells #[ptr p] 68)) 50 50 0 68 i0 (.pointer none) 1 8 Try.underlying50 hi hz0 hz1 hz2 rfl (by omega) v n (ps.map ptr) (h.alloc _)
    ⟨w.heap.size, 0, none⟩ 1 1 [ptr p] rfl (World.news_of_block hnew) (fun u hu => by rw [List.mem_singleton.1 hu]; rfl) (by omega) (by unfold maxLen; omega) (by omega) (Nat.zero_le _) _ rfl
  refine ⟨g, cap, w', hr, by rw [List.map_append]; exact h2, ?_, ?_⟩
  · have h5 : w.grownBy (w.alloc (.cells #[ptr p] 68)) v.ownBlock := ⟨rfl, rfl, rfl, by simp, fun k hk _ => heap_alloc_old w _ hk⟩
    exact only_trans h5 h3
  · rcases h4 with h4 | h4
    · exact .inl h4
    · right
      rw [h4]
      simp
theorem MV.added {w W : World} {Q : Nat} {l : List Tm} {most next : Int} {lv : Value} {ps : List Nat} {b : Nat} (h : MV w Q l most next lv ps b) {t : Tm} {g c : Nat} (hg : lv.ownBlock = some g ∨ w.heap.size < g) (hid : Ints.I64 t.id)
    (hb : ∀ j, j < w.heap.size → j ≠ Q → j ≠ b → lv.ownBlock ≠ some j → W.heap[j]? = w.heap[j]?) (ht : W.heap[w.heap.size]? = some (.cells t.cells 45 (0, 0)))
    (hQ : W.heap[Q]? = some (.cells #[.int .i64 most, .int .i64 next, .slice (some ⟨g, 0, none⟩) (l.length + 1) c, .map (some b)] 53 (0, 0)))
    (hrow : W.ownsRow 0 68 1 (.slice (some ⟨g, 0, none⟩) (l.length + 1) c) (l.length + 1) ((ps ++ [w.heap.size]).map ptr)) (hM : ∃ M, Ints.MapIs Try.prog 3 W b (l.length + 1) M ∧ Places M (l ++ [t])) :
    MV W Q (l ++ [t]) most next (.slice (some ⟨g, 0, none⟩) (l.length + 1) c) (ps ++ [w.heap.size]) b := by
  have hl := h.len
  have hlen : (l ++ [t]).length = l.length + 1 := by simp
  have hQl := h.lt Q (.inl rfl)
  have hbl := h.lt b (.inr (.inl rfl))
  have hgj : ∀ j, j < w.heap.size + 1 → lv.ownBlock ≠ some j → (Value.slice (some ⟨g, 0, none⟩) (l.length + 1) c).ownBlock ≠ some j := fun j hj hn e => by
    have e1 : g = j := Option.some.inj e
    rcases hg with h1 | h1
    · exact hn (by rw [h1, e1])
    · omega
  refine ⟨hQ, by rw [hlen]; exact hrow, fun i p u hp hu => ?_, by rw [hlen]; exact hM, fun u hu => ?_, h.qb, hgj Q (by omega) h.lq, hgj b (by omega) h.lb, fun p hp => ?_⟩
  · rcases Nat.lt_or_ge i l.length with h1 | h1
    · rw [List.getElem?_append_left (by omega)] at hp
      rw [List.getElem?_append_left h1] at hu
      have hm := List.mem_of_getElem? hp
      have ha := h.ap p hm
      exact (hb p (h.lt p (.inr (.inr (.inr hm)))) ha.1 ha.2.1 ha.2.2).trans (h.tms i p u hp hu)
    · rw [List.getElem?_append_right (by omega)] at hp
      rw [List.getElem?_append_right h1] at hu
      have h2 : i - l.length = 0 := by
        have := (List.getElem?_eq_some_iff.1 hu).1
        simpa using this
      rw [hl, h2] at hp
      rw [h2] at hu
      have e1 : w.heap.size = p := by simpa using hp
      have e2 : t = u := by simpa using hu
      subst e1; subst e2
      exact ht
  · rcases List.mem_append.1 hu with h1 | h1
    · exact h.ids u h1
    · rw [List.mem_singleton.1 h1]; exact hid
  · rcases List.mem_append.1 hp with h1 | h1
    · have ha := h.ap p h1
      have := h.lt p (.inr (.inr (.inr h1)))
      exact ⟨ha.1, ha.2.1, hgj p (by omega) ha.2.2⟩
    · obtain rfl : p = w.heap.size := List.mem_singleton.1 h1
      exact ⟨by omega, by omega, hgj _ (by omega) (fun e => by have := (h.row.lt _ e).2; omega)⟩
set_option maxRecDepth 100000 in
set_option maxHeartbeats 4000000 in
theorem put_im {Q : Nat} {F : Nat → Prop} {l : List Tm} {most next : Int} (t : Tm) (w : World) (h : MQ w Q F l most next) (hl : l.length ≤ 2048) (hid : Ints.I64 t.id) (hnew : ∀ x ∈ l, x.id ≠ t.id) (hh : HeapOK l) :
    Calls Try.prog 30 #[ptr Q, tV t] w fun e w' => e = .returned (.tuple #[]) ∧ ∃ F' l', MQ w' Q F' l' most next ∧ StepF w w' F F' ∧ l'.Perm (t :: l) ∧ HeapOK l' := by
  obtain ⟨lv, ps, b, h, hF⟩ := h
  obtain ⟨n, hn⟩ : ∃ n, l.length = n := ⟨_, rfl⟩
  obtain ⟨M, hM, hPl⟩ := h.map
  obtain ⟨X, hX⟩ : ∃ X, w.alloc (.cells #[.int .i64 t.due, .int .i64 t.id, .int .i64 t.what] 45) = X := ⟨_, rfl⟩
  have hbX : Below w.heap.size w X := by rw [← hX]; exact (Below.refl _ w).alloc (Nat.le_refl _) _
  have hkX : X.heap[w.heap.size]? = some (.cells t.cells 45 (0, 0)) := by rw [← hX]; exact heap_alloc_new w _
  have hXs : X.heap.size = w.heap.size + 1 := by rw [← hX]; simp
  have hx := h.under hbX
  obtain ⟨g, cap, W2, hr, hrow, hg2, hgl⟩ := app_ptr X lv l.length ps hx.row (by omega) w.heap.size
  obtain ⟨a, c, rfl, hlc, _⟩ := h.slice
  have hgl' : (Value.slice a l.length c).ownBlock = some g ∨ w.heap.size < g := by
    rcases hgl with h1 | h1
    · exact .inl h1
    · right; omega
  have hlt := hx.lt
  have hblk : ∀ j, j < X.heap.size → (Value.slice a l.length c).ownBlock ≠ some j → W2.heap[j]? = X.heap[j]? := fun j hj hne => hg2.block j hj (fun e => hne e.symm)
  have hQ2 := (hblk Q (hlt Q (.inl rfl)) hx.lq).trans hx.head
  have hb2 := hblk b (hlt b (.inr (.inl rfl))) hx.lb
  have hT2 := (hblk w.heap.size (by omega) (fun e => by have := (h.row.lt _ e).2; omega)).trans hkX
  have hgQ : g ≠ Q := fun e => by
    rcases hgl' with h1 | h1
    · exact h.lq (by rw [h1, e])
    · have := h.lt Q (.inl rfl); omega
  have hgb : g ≠ b := fun e => by
    rcases hgl' with h1 | h1
    · exact h.lb (by rw [h1, e])
    · have := h.lt b (.inr (.inl rfl)); omega
  obtain ⟨W3, hW3⟩ : ∃ W3, W2.setCell ⟨Q, 2, none⟩ (.slice (some ⟨g, 0, none⟩) (n + 1) cap) = W3 := ⟨_, rfl⟩
  have hs3 : W2.grownBy W3 (some Q) := by rw [← hW3]; exact only_setCell (only_refl W2 (some Q)) 2 _
  have hQ3 : W3.heap[Q]? = some (.cells #[.int .i64 most, .int .i64 next, .slice (some ⟨g, 0, none⟩) (n + 1) cap, .map (some b)] 53 (0, 0)) := by
    rw [← hW3]
    exact heap_setCell_same W2 Q 2 _ _ _ hQ2
  have hsz2 := hg2.size
  have hsz3 := hs3.size
  have hQl := h.lt Q (.inl rfl)
  have hbl := h.lt b (.inr (.inl rfl))
  have hb3 : W3.heap[b]? = w.heap[b]? := (hs3.block b (by omega) (fun e => h.qb (Option.some.inj e).symm)).trans (hb2.trans (hbX.block b hbl))
  have hT3 : W3.heap[w.heap.size]? = some (.cells t.cells 45 (0, 0)) := (hs3.block _ (by omega) (fun e => by have := Option.some.inj e; omega)).trans hT2
  have hrow3 := own_same hrow (fun j hj => hs3.block j (hrow.lt j hj).2 (fun e => hgQ ((Option.some.inj hj).trans (Option.some.inj e))))
  have HX : Hid (X.cell? ⟨Q, 2, none⟩ = some (.slice a n c)) := Lib.hid (by rw [← hn]; exact hx.c.2.2.1)
  have HR : Hid ((Builtin.append_ #[50, 50] 50 #[.slice a n c, .slice (some ⟨X.heap.size, 0, none⟩) 1 1]).run Try.prog (X.alloc (.cells #[ptr w.heap.size] 68)) = .ok (.slice (some ⟨g, 0, none⟩) (n + 1) cap) W2) := Lib.hid (by rw [← hn]; exact hr)
  have HC2 : Hid (W2.cell? ⟨Q, 2, none⟩ = some (.slice a n c) ∧ W2.frozen? ⟨Q, 2, none⟩ = false) := Lib.hid (by rw [← hn]; exact ⟨cell_block (j := 2) hQ2 rfl, free_block 2 hQ2⟩)
  have HC3 : Hid (W3.cell? ⟨Q, 3, none⟩ = some (.map (some b)) ∧ W3.cell? ⟨w.heap.size, 1, none⟩ = some (.int .i64 t.id)) := Lib.hid ⟨cell_block (j := 3) hQ3 rfl, cell_block (j := 1) hT3 rfl⟩
  have hMn : M t.id = none := hPl.no t.id hnew
  have HM : Hid (Ints.MapIs Try.prog 3 W3.drew b n M ∧ (M t.id).isSome = false) := Lib.hid ⟨by rw [← hn]; exact hM.of_block hb3, by rw [hMn]; rfl⟩
  have HZ : Hid (∀ W4, W3.drew.grownBy W4 (some b) → Ints.MapIs Try.prog 3 W4 b (n + 1) (fun x => if x = t.id then some (.int .i64 (n : Nat)) else M x) → ∃ F', MQ W4 Q F' (l ++ [t]) most next ∧ StepF w W4 F F') := Lib.hid (fun W4 hW4 hM4 => by
    have hkeep : ∀ j, j < W3.heap.size → j ≠ b → W4.heap[j]? = W3.heap[j]? := fun j hj hne => hW4.block j hj (fun e => hne (Option.some.inj e))
    have hall : ∀ j, j < w.heap.size → j ≠ Q → j ≠ b → (Value.slice a l.length c).ownBlock ≠ some j → W4.heap[j]? = w.heap[j]? := fun j hj h1 h2 h3 =>
      (hkeep j (by omega) h2).trans ((hs3.block j (by omega) (fun e => h1 (Option.some.inj e))).trans ((hblk j (by omega) h3).trans (hbX.block j hj)))
    have hmv := MV.added (W := W4) h hgl' hid hall ((hkeep _ (by omega) (by omega)).trans hT3) (by rw [hn]; exact (hkeep Q (by omega) h.qb).trans hQ3)
      (own_same hrow3 (fun j hj => hkeep j (hrow3.lt j hj).2 (fun e => hgb ((Option.some.inj hj).trans e)))) ⟨_, by rw [hn]; exact hM4, by rw [← hn]; exact hPl.app t hnew⟩
    refine ⟨_, ⟨_, _, _, hmv, fun j => Iff.rfl⟩, ?_⟩
    refine ⟨hW4.os.trans (hs3.os.trans (hg2.os.trans hbX.os)), hW4.tape.trans (hs3.tape.trans (hg2.tape.trans hbX.tape)), hW4.output.trans (hs3.output.trans (hg2.output.trans hbX.output)), ?_, fun j hj hne => ?_, fun j hj => ?_⟩
    · have h9 : W3.heap.size ≤ W4.heap.size := hW4.size
      omega
    · have h3 : ¬ foot Q (.slice a l.length c) ps b j := fun e => hne ((hF j).2 e)
      exact hall j hj (fun e => h3 (.inl e)) (fun e => h3 (.inr (.inl e))) (fun e => h3 (.inr (.inr (.inl e))))
    · rcases hj with h1 | h1 | h1 | h1
      · exact .inl ((hF j).2 (.inl h1))
      · exact .inl ((hF j).2 (.inr (.inl h1)))
      · have e1 : g = j := Option.some.inj h1
        rcases hgl' with h2 | h2
        · exact .inl ((hF j).2 (.inr (.inr (.inl (by rw [h2, e1])))))
        · right; omega
      · rcases List.mem_append.1 h1 with h2 | h2
        · exact .inl ((hF j).2 (.inr (.inr (.inr h2))))
        · right
          rw [List.mem_singleton.1 h2]
          exact Nat.le_refl _)
  have HI : Hid (Ints.I64 t.id) := Lib.hid hid
  have HN := Lib.hid hn
  have hl2 : (n : Int) ≤ 1048576 := by omega
  have HRI : Hid (∀ W, (∃ F', MQ W Q F' (l ++ [t]) most next ∧ StepF w W F F') → Calls Try.prog 39 #[ptr Q, .int .i64 (n : Nat)] W fun e w' => e = .returned (.tuple #[]) ∧ ∃ F' l', MQ w' Q F' l' most next ∧ StepF w w' F F' ∧ l'.Perm (t :: l) ∧ HeapOK l') := Lib.hid (fun W ⟨F1, h1, s1⟩ => by
    refine (rise_im n W h1 (by simp; omega) (by simp; omega) (by rw [← hn]; exact rise_app t hh)).mono ?_
    rintro e w' ⟨rfl, F2, l2, h2, s2, p2, k2⟩
    refine ⟨rfl, F2, l2, h2, s1.trans s2, p2.trans (List.perm_append_singleton _ _), sink_last k2 ?_⟩
    rw [p2.length_eq]
    simp [hn])
  have hnm : n < maxLen := by unfold maxLen; omega
  clear hh hnew hid hl hF h hn hM hPl hbX hkX hXs hx hr hrow hg2 hgl hgl' hlt hblk hQ2 hb2 hT2 hgQ hgb hs3 hQ3 hsz2 hsz3 hQl hbl hb3 hT3 hrow3 hMn hlc
  have x2 := HX.out
  obtain ⟨y2, z2⟩ := HC2.out
  go_enter Try.func30, Try.ntmps30
  go_wp2_with (at_builtin; refine walk_run rfl _ _ _ _ rfl _ _ rfl rfl HR.out ?_)
  obtain ⟨v3, v4⟩ := HC3.out
  clear hW3 x2 y2 z2 hX
  go_still_tail 7, (by kernel_rfl)
  change wpList _ _ _ _ _ W3.drew
  have hM1 := HM.out.1
  go_wp2_with (at_mapUpdate; refine Ints.wpList_store_int _ rfl _ _ _ 51 rfl 3 3 Try.underlying3 Try.underlying51 b n M rfl hM1 hnm t.id rfl HI.out _ rfl ?_; intro W4 hM2 hg4 hs4)
  rw [HM.out.2, if_neg (by decide)] at hM2
  have H4 := Lib.hid (HZ.out W4 hg4 hM2)
  clear hM1 hM2 hg4 hs4 v3 v4
  refine (HRI.out W4 H4.out).mono ?_
  rintro e w' ⟨rfl, HE⟩
  have HE2 := Lib.hid HE
  clear HE
  go_wp2_with fail
  go_end0
  exact ⟨rfl, HE2.out⟩
end Go.Proofs.Ytfbdkafpfminlaa.Heap.Im
