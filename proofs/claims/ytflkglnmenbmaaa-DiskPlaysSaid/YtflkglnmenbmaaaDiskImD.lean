/- The walks over drop and put. -/
import Derived.Test.YtflkglnmenbmaaaDiskImC
import Derived.RegionTactic
import Derived.Deep.RegionWith
namespace Go.Proofs.Ytflkglnmenbmaaa.Disk.Im
open Go.RowKit Go.Lib

theorem drop_end {w w' : World} {Q Mb : Nat} {fz : Int} {V : ByteArray → Value} {st : DS} {s : ByteArray} (h : PDX w Q Mb fz V st) (hg : StepF w w' (QM Q Mb) (QM Q Mb)) (hQ : w'.heap[Q]? = some (.cells (diskCells Mb ((st.room : Int) - (usedF (takeF st.fs s) : Int)) st.ops fz st.half st.dead) 57 (0, 0)))
    (hM : MapIs Try.prog 9 w' Mb (takeF st.fs s).length (mapM V (takeF st.fs s))) : PDX w' Q Mb fz V { st with fs := takeF st.fs s } := by
  have hsub : ∀ f ∈ takeF st.fs s, f ∈ st.fs := fun f hf => (List.mem_filter.1 hf).1
  refine ⟨hQ, hM, fun f hf => ?_, fun f hf g hg' => h.apart f (hsub f hf) g (hsub g hg'), sorted_take h.sorted s, h.fuse, h.fuseIn, fun f hf => h.names f (hsub f hf)⟩
  have hr := h.rows f (hsub f hf)
  have hn := h.own_ne hr
  exact own_moved hr (fun k hk => hg.block k (hr.lt k hk).2 (fun e => by
    rcases e with rfl | rfl
    · exact hn.1 hk
    · exact hn.2 hk))
theorem field_bytes (a : Option Addr) (n c : Nat) (u : Int) (W : World) : (Instr.field 63 (.agg #[.slice a n c, .int .i64 u]) 0).run Try.prog W = .ok (.slice a n c) W := by kernel_rfl
set_option maxRecDepth 100000 in
set_option maxHeartbeats 2000000 in
theorem drop_any (Q Mb : Nat) (fz : Int) (V : ByteArray → Value) (st : DS) (s : ByteArray) (w : World) (h : PDX w Q Mb fz V st) (hs : s.size ≤ 1099511627776) (hU : usedF st.fs ≤ 1099511627776) (hR : st.room ≤ 16777216) :
    Calls Try.prog 42 #[.pointer (some ⟨Q, 0, none⟩), .string s] w fun e w' => e = .returned (.tuple #[]) ∧ PDX w' Q Mb fz V { st with fs := takeF st.fs s } ∧ StepF w w' (QM Q Mb) (QM Q Mb) := by
  obtain ⟨q0, q1, q2, q3, q4, q5⟩ := h.q
  have f1 := h.free 1
  obtain ⟨a, c, u, hgot, _⟩ := h.got s
  have hus := used_take_is (s := s) h.sorted
  have hlen := length_take_is (s := s) h.sorted
  have hlook : (Instr.lookup 55 (.map (some Mb)) (.string s) false).run Try.prog w.drew = .ok (.agg #[.slice a (sizeAt st.fs s) c, .int .i64 u]) w.drew := by
    rw [← hgot]
    exact (h.map.of_block (w' := w.drew) rfl).look Try.underlying9 Try.underlying55 (zero_file _) (by unfold maxLen; omega)
  obtain ⟨m, hm⟩ : ∃ m, sizeAt st.fs s = m := ⟨_, rfl⟩
  obtain ⟨x, hx⟩ : ∃ x : Int, (st.room : Int) - (usedF st.fs : Int) = x := ⟨_, rfl⟩
  obtain ⟨y, hy⟩ : ∃ y : Int, x + (m : Int) = y := ⟨_, rfl⟩
  have hyy : (st.room : Int) - (usedF (takeF st.fs s) : Int) = y := by omega
  have hyw : IntKind.i64.wrap y = y := IntWalk.i64_in _ (by omega)
  rw [hm] at hlook
  rw [hx] at q1
  have hfd := field_bytes a m c u
  have HM := Lib.hid h.map
  have HB := Lib.hid h.block
  have HE := Lib.hid (fun (w' : World) => drop_end (w' := w') (s := s) h)
  have HL := Lib.hid hlen
  have HY := Lib.hid hyy
  have hne := h.neQM
  clear hgot hm hus hlen hyy hx h
  go_enter Try.func42, Try.ntmps42
  go_wp2_with fail
  go_region
  have hB1 := heap_setCell_same w Q 1 _ _ (.int .i64 y) HB.out
  have g1 := only_setCell (only_refl w (some Q)) 1 (.int .i64 y)
  obtain ⟨W1, hW1⟩ : ∃ W1, (w.setCell ⟨Q, 1, none⟩ (.int .i64 y)).drew = W1 := ⟨_, rfl⟩
  have G1 : w.grownBy W1 (some Q) := by
    rw [← hW1]
    exact ⟨g1.os, g1.tape, g1.output, g1.size, g1.block⟩
  have B1 : W1.heap[Q]? = some (.cells (diskCells Mb y st.ops fz st.half st.dead) 57 (0, 0)) := by
    rw [← hW1]
    exact hB1
  have hM1 := HM.out.of_block (G1.block Mb HM.out.lt (fun e => hne (Option.some.inj e).symm))
  have p0 : W1.cell? ⟨Q, 0, none⟩ = some (.map (some Mb)) := cell_block (j := 0) B1 rfl
  rw [hW1]
  have HG1 := Lib.hid G1; have HB1 := Lib.hid B1
  clear hB1 g1 hW1 G1 B1 q0 q1 q2 q3 q4 q5 f1 hlook hfd hyw
  go_wp2_with (at_delete; refine wpList_delete_text _ rfl _ _ 55 9 rfl _ Try.underlying9 Try.underlying55 Mb _ _ rfl hM1 s rfl ?hs ?_; (case hs => unfold maxLen; omega); intro W2 hM2 hg2 hs2)
  go_end0
  have hS : StepF w W2 (QM Q Mb) (QM Q Mb) := (step_q HG1.out).trans (step_m hg2)
  refine ⟨rfl, HE.out W2 hS ?_ (hM2.congr ?_ (fun x => mapM_take V st.fs s x)), hS⟩
  · rw [hg2.block Q ((Array.getElem?_eq_some_iff.1 HB1.out).1) (fun e => hne (Option.some.inj e)), HB1.out, HY.out]
  · rw [HL.out]
    simp [mapM]
/-- What is put into a disk that has no such file. -/
theorem put_end {w w' : World} {Q Mb : Nat} {fz : Int} {V : ByteArray → Value} {st : DS} {s b : ByteArray} {n : Nat} {v : Value} (h : PDX w Q Mb fz V { st with fs := takeF st.fs s }) (hg : StepF w w' (QM Q Mb) (QM Q Mb))
    (hrow : w.ownsRow 0 5 1 v b.size (strCells b)) (hfar : ∀ g ∈ st.fs, g.name ≠ s → ∀ k, v.ownBlock = some k → (V g.name).ownBlock ≠ some k) (hs : s.size ≤ 12)
    (hQ : w'.heap[Q]? = some (.cells (diskCells Mb ((st.room : Int) - (usedF (takeF st.fs s) : Int) - (b.size : Int)) st.ops fz st.half st.dead) 57 (0, 0)))
    (hM : MapIs Try.prog 9 w' Mb ((takeF st.fs s).length + 1) (mapM (upd V s v) (putF st.fs ⟨s, b, n⟩))) : PDX w' Q Mb fz (upd V s v) { st with fs := putF st.fs ⟨s, b, n⟩ } := by
  have hown : ∀ {v' : Value} {m : Nat} {xs : List Value}, w.ownsRow 0 5 1 v' m xs → w'.ownsRow 0 5 1 v' m xs := fun {v' m xs} hr => by
    have hn := h.own_ne hr
    exact own_moved hr (fun k hk => hg.block k (hr.lt k hk).2 (fun e => by
      rcases e with rfl | rfl
      · exact hn.1 hk
      · exact hn.2 hk))
  have hmem : ∀ f ∈ putF st.fs ⟨s, b, n⟩, f = ⟨s, b, n⟩ ∨ (f ∈ takeF st.fs s ∧ f.name ≠ s) := fun f hf => by
    rcases mem_ins hf with h1 | h1
    · exact .inl h1
    · exact .inr ⟨h1, takeF_ne f h1⟩
  have hsub : ∀ f ∈ takeF st.fs s, f ∈ st.fs := fun f hf => (List.mem_filter.1 hf).1
  have hu1 : upd V s v s = v := by simp [upd]
  have hu2 : ∀ x, x ≠ s → upd V s v x = V x := fun x hx => by simp [upd, hx]
  have hsrt : Sorted (putF st.fs ⟨s, b, n⟩) := sorted_ins h.sorted takeF_ne
  refine ⟨?_, hM.congr (by show _ = (putF st.fs ⟨s, b, n⟩).length; unfold putF; rw [ins_length]) (fun _ => rfl), fun f hf => ?_, fun f hf g hg' => ?_, hsrt, h.fuse, h.fuseIn, fun f hf => ?_⟩
  · rw [hQ]
    have : (st.room : Int) - (usedF (takeF st.fs s) : Int) - (b.size : Int) = (st.room : Int) - (usedF (putF st.fs ⟨s, b, n⟩) : Int) := by
      unfold putF
      rw [used_ins]
      show _ = (st.room : Int) - ((b.size + usedF (takeF st.fs s) : Nat) : Int)
      omega
    rw [this]
  · rcases hmem f hf with rfl | ⟨h1, h2⟩
    · rw [hu1]
      exact hown hrow
    · rw [hu2 _ h2]
      exact hown (h.rows f h1)
  · rcases hmem f hf with rfl | ⟨h1, h2⟩
    · rcases hmem g hg' with rfl | ⟨h3, h4⟩
      · exact fun h => absurd rfl h
      · intro _ k hk
        rw [hu1] at hk
        rw [hu2 _ h4]
        exact hfar g (hsub g h3) h4 k hk
    · rcases hmem g hg' with rfl | ⟨h3, h4⟩
      · intro _ k hk hk2
        rw [hu1] at hk2
        rw [hu2 _ h2] at hk
        exact hfar f (hsub f h1) h2 k hk2 hk
      · rw [hu2 _ h2, hu2 _ h4]
        exact h.apart f h1 g h3
  · rcases hmem f hf with rfl | ⟨h1, h2⟩
    · exact hs
    · exact h.names f h1
set_option maxRecDepth 100000 in
set_option maxHeartbeats 2000000 in
theorem put_any (Q Mb : Nat) (fz : Int) (V : ByteArray → Value) (st : DS) (s b : ByteArray) (n : Nat) (v : Value) (w : World) (h : PDX w Q Mb fz V st) (hs : s.size ≤ 12) (hU : usedF st.fs ≤ 1099511627776) (hR : st.room ≤ 16777216) (hL : st.fs.length ≤ 1099511627776)
    (hrow : w.ownsRow 0 5 1 v b.size (strCells b)) (hb : b.size ≤ 1099511627776) (hfar : ∀ g ∈ st.fs, g.name ≠ s → ∀ k, v.ownBlock = some k → (V g.name).ownBlock ≠ some k) :
    Calls Try.prog 39 #[.pointer (some ⟨Q, 0, none⟩), .string s, .agg #[v, .int .i64 (n : Int)]] w fun e w' => e = .returned (.tuple #[]) ∧ PDX w' Q Mb fz (upd V s v) { st with fs := putF st.fs ⟨s, b, n⟩ } ∧ StepF w w' (QM Q Mb) (QM Q Mb) := by
  obtain ⟨a, c, rfl⟩ := own_slice hrow
  have hal : Below w.heap.size w (w.alloc (.cells #[.slice a b.size c, .int .i64 (n : Int)] 63)) := (Below.refl _ w).alloc (Nat.le_refl _) _
  have HD := Lib.hid (drop_any Q Mb fz V st s _ (h.below hal) (by omega) hU hR)
  have hQb : w.heap.size ≠ Q := fun e => by have := h.ltQ; omega
  have hMb : w.heap.size ≠ Mb := fun e => by have := h.ltM; omega
  have hbox := heap_alloc_new w (.cells #[.slice a b.size c, .int .i64 (n : Int)] 63)
  have hut := used_take st.fs s
  have hlt : (takeF st.fs s).length ≤ 1099511627776 := Nat.le_trans (List.length_filter_le _ _) hL
  have HA := Lib.hid hal
  have HN := Lib.hid (h.own_ne hrow)
  have HROW := Lib.hid hrow
  have HFAR := Lib.hid hfar
  obtain ⟨m, hm⟩ : ∃ m, b.size = m := ⟨_, rfl⟩
  have hbs := hb
  rw [hm] at HD hbox HA hb
  clear hal h hrow hfar
  go_enter Try.func39, Try.ntmps39
  go_wp2_with fail
  refine HD.out.mono ?_
  rintro e W1 ⟨rfl, hp1, hs1⟩
  have B1 : W1.heap[w.heap.size]? = some (.cells #[.slice a m c, .int .i64 (n : Int)] 63 (0, 0)) := (hs1.block _ (by simp) (fun e => e.elim hQb hMb)).trans hbox
  have e0 : W1.cell? ⟨w.heap.size, 0, none⟩ = some (.slice a m c) := cell_block (j := 0) B1 rfl
  have e1 : W1.cell? ⟨w.heap.size, 1, none⟩ = some (.int .i64 (n : Int)) := cell_block (j := 1) B1 rfl
  obtain ⟨q0, q1, q2, q3, q4, q5⟩ := hp1.q
  have f1 := hp1.free 1
  dsimp only at q0 q1 q2 q3 q4 q5
  obtain ⟨x, hx⟩ : ∃ x : Int, (st.room : Int) - (usedF (takeF st.fs s) : Int) = x := ⟨_, rfl⟩
  rw [hx] at q1
  obtain ⟨y, hy⟩ : ∃ y : Int, x - (m : Int) = y := ⟨_, rfl⟩
  have hyw : IntKind.i64.wrap y = y := IntWalk.i64_in _ (by omega)
  have HP1 := Lib.hid hp1; have HS1 := Lib.hid hs1; have HB1 := Lib.hid B1; have HX := Lib.hid hx; have HY := Lib.hid hy
  clear hp1 hs1 B1 hx hQb hMb hbox
  go_wp2_with fail
  go_region
  have hBQ := heap_setCell_same W1 Q 1 _ _ (.int .i64 y) HP1.out.block
  have g1 := only_setCell (only_refl W1 (some Q)) 1 (.int .i64 y)
  obtain ⟨W2, hW2⟩ : ∃ W2, (W1.setCell ⟨Q, 1, none⟩ (.int .i64 y)).drew = W2 := ⟨_, rfl⟩
  have G2 : W1.grownBy W2 (some Q) := by
    rw [← hW2]
    exact ⟨g1.os, g1.tape, g1.output, g1.size, g1.block⟩
  have B2 : W2.heap[Q]? = some (.cells (diskCells Mb y st.ops fz st.half st.dead) 57 (0, 0)) := by
    rw [← hW2]
    exact hBQ
  have hne := HP1.out.neQM
  have hM2 := HP1.out.map.of_block (G2.block Mb HP1.out.ltM (fun e => hne (Option.some.inj e).symm))
  have hbq : w.heap.size ≠ Q := fun e => by
    have h1 := HP1.out.block.symm.trans (e ▸ HB1.out)
    simp at h1
  have C2 := (G2.block _ (Array.getElem?_eq_some_iff.1 HB1.out).1 (fun e => hbq (Option.some.inj e))).trans HB1.out
  have p0 : W2.cell? ⟨Q, 0, none⟩ = some (.map (some Mb)) := cell_block (j := 0) B2 rfl
  have p1 : W2.cell? ⟨w.heap.size, 0, none⟩ = some (.slice a m c) := cell_block (j := 0) C2 rfl
  have p2 : W2.cell? ⟨w.heap.size, 1, none⟩ = some (.int .i64 (n : Int)) := cell_block (j := 1) C2 rfl
  rw [hW2]
  have HM2 := Lib.hid hM2; have HG2 := Lib.hid G2; have HB2 := Lib.hid B2; have HC2 := Lib.hid C2
  clear hBQ g1 hW2 G2 B2 C2 hM2 q0 q1 q2 q3 q4 q5 f1 e0 e1 hyw hy hbq
  have HCL := Lib.hid (clone_any s W2.drew (by omega))
  have HST : Hid (∀ W3 : World, Below W2.heap.size W2.drew W3 → W3.cell? ⟨w.heap.size, 0, none⟩ = some (.slice a m c) ∧ W3.cell? ⟨w.heap.size, 1, none⟩ = some (.int .i64 (n : Int)) ∧ W3.cell? ⟨Q, 0, none⟩ = some (.map (some Mb)) ∧
      ∃ W4, (Instr.mapUpdate 55 (.map (some Mb)) (.string s) (.agg #[.slice a m c, .int .i64 (n : Int)])).run Try.prog W3 = .ok () W4 ∧ Below W2.heap.size W2 W3 ∧
        MapIs Try.prog 9 W4 Mb ((takeF st.fs s).length + 1) (fun x => if x = s then some (.agg #[.slice a m c, .int .i64 (n : Int)]) else mapM V (takeF st.fs s) x) ∧ W3.grownBy W4 (some Mb)) := Lib.hid (fun W3 hb3 => by
    have C3 := (hb3.block _ (Array.getElem?_eq_some_iff.1 HC2.out).1).trans HC2.out
    have hM3 := HM2.out.of_block (hb3.block Mb HM2.out.lt)
    obtain ⟨W4, hrun, hM4, hg4, _⟩ := hM3.store Try.underlying9 Try.underlying55 (by show _ < 9223372036854775807; dsimp only; omega) (s := s) (by unfold maxLen; omega) (.agg #[.slice a m c, .int .i64 (n : Int)])
    have D3 := (hb3.block _ (Array.getElem?_eq_some_iff.1 HB2.out).1).trans HB2.out
    refine ⟨cell_block (j := 0) C3 rfl, cell_block (j := 1) C3 rfl, cell_block (j := 0) D3 rfl, W4, hrun, ⟨hb3.os, hb3.tape, hb3.output, hb3.size, hb3.block⟩, hM4.congr ?_ (fun _ => rfl), hg4⟩
    have : mapM V (takeF st.fs s) s = none := by unfold mapM; rw [look_take]; rfl
    rw [this]
    rfl)
  have HEND : Hid (∀ W3 W4 : World, Below W2.heap.size W2 W3 → MapIs Try.prog 9 W4 Mb ((takeF st.fs s).length + 1) (fun x => if x = s then some (.agg #[.slice a m c, .int .i64 (n : Int)]) else mapM V (takeF st.fs s) x) → W3.grownBy W4 (some Mb) →
      PDX W4 Q Mb fz (upd V s (.slice a b.size c)) { st with fs := putF st.fs ⟨s, b, n⟩ } ∧ StepF w W4 (QM Q Mb) (QM Q Mb)) := Lib.hid (fun W3 W4 hb3 hM4 hg4 => by
    have s1 : StepF W1 W4 (QM Q Mb) (QM Q Mb) := ((step_q HG2.out).trans (StepF.below _ hb3)).trans (step_m hg4)
    have s0 : StepF w W1 (QM Q Mb) (QM Q Mb) := (StepF.below _ HA.out).trans HS1.out
    have hr1 : W1.ownsRow 0 5 1 (.slice a b.size c) b.size (strCells b) := own_moved HROW.out (fun k hk => by
      have h1 := HROW.out.lt k hk
      refine s0.block k h1.2 (fun e => ?_)
      have hn := HN.out
      rcases e with e | e
      · exact hn.1 (e ▸ hk)
      · exact hn.2 (e ▸ hk))
    refine ⟨put_end HP1.out s1 hr1 HFAR.out hs ?_ (hM4.congr rfl (fun x => ?_)), s0.trans s1⟩
    · have hQ2 := (Array.getElem?_eq_some_iff.1 HB2.out).1
      rw [hg4.block Q (Nat.lt_of_lt_of_le hQ2 hb3.size) (fun e => hne (Option.some.inj e)), hb3.block Q hQ2, HB2.out, HX.out, hm]
      rw [HY.out]
    · rw [← hm]
      exact mapM_put V st.fs s x b n (.slice a b.size c))
  clear hlt hut hm hbs
  go_wp2_with fail
  go_region_with (go_at_call 50; refine HCL.out.mono ?_; rintro e W3 ⟨rfl, hb3⟩; obtain ⟨e0, e1, e2, W4, hrun, hb4, hM4, hg4⟩ := HST.out W3 hb3; clear hb3)
  all_goals (go_wp2_with fail; go_end0; exact ⟨rfl, HEND.out W3 W4 hb4 hM4 hg4⟩)
end Go.Proofs.Ytflkglnmenbmaaa.Disk.Im
