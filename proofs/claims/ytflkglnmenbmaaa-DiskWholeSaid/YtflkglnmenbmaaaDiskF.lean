/- The walks over Sync and Cut of the document's disk: a file's cells are written in place. -/
import Derived.Test.YtflkglnmenbmaaaDiskE
namespace Go.Proofs.Ytflkglnmenbmaaa.Disk
open Go.RowKit Go.Lib

theorem cells_set : ∀ (l : List DF) (k : Nat) (f g : DF), l[k]? = some f → g.name = f.name → (((cells l).set (k * 3 + 1) (.string g.bytes)).set (k * 3 + 2) (.int .i64 (g.sure : Int))) = cells (l.set k g)
  | [], k, f, g, h, _ => by simp at h
  | a :: l, 0, f, g, h, hn => by
    have : a = f := by simpa using h
    subst this
    rw [List.set_cons_zero, cells_cons, cells_cons]
    simp [fileCells, hn]
  | a :: l, k + 1, f, g, h, hn => by
    have ih := cells_set l k f g (by simpa using h) hn
    rw [List.set_cons_succ, cells_cons, cells_cons, ← ih]
    rw [show (k + 1) * 3 + 1 = (fileCells a).length + (k * 3 + 1) by simp [fileCells]; omega, show (k + 1) * 3 + 2 = (fileCells a).length + (k * 3 + 2) by simp [fileCells]; omega]
    rw [List.set_append_right _ _ (by omega), List.set_append_right _ _ (by omega)]
    simp
theorem used_set : ∀ (l : List DF) (k : Nat) (f g : DF), l[k]? = some f → usedF (l.set k g) + f.bytes.size = usedF l + g.bytes.size
  | [], k, f, g, h => by simp at h
  | a :: l, 0, f, g, h => by
    have : a = f := by simpa using h
    subst this
    simp only [List.set_cons_zero, usedF]
    omega
  | a :: l, k + 1, f, g, h => by
    have := used_set l k f g (by simpa using h)
    simp only [List.set_cons_succ, usedF]
    omega
/-- One file's bytes and what of them is sure are written anew, in place. -/
theorem rd_write {w : World} {Q g cap k : Nat} {st : DS} {f f' : DF} (h : RD w Q (.slice (some ⟨g, 0, none⟩) st.fs.length cap) st) (hk : st.fs[k]? = some f) (hn : f'.name = f.name) (hb : f'.bytes.size ≤ f.bytes.size) (hs : f'.sure ≤ f'.bytes.size) :
    RD ((w.setCell ⟨g, k * 3 + 1, none⟩ (.string f'.bytes)).setCell ⟨g, k * 3 + 2, none⟩ (.int .i64 (f'.sure : Int))) Q (.slice (some ⟨g, 0, none⟩) st.fs.length cap) { st with fs := st.fs.set k f' } ∧
    Step w ((w.setCell ⟨g, k * 3 + 1, none⟩ (.string f'.bytes)).setCell ⟨g, k * 3 + 2, none⟩ (.int .i64 (f'.sure : Int))) Q (.slice (some ⟨g, 0, none⟩) st.fs.length cap) (.slice (some ⟨g, 0, none⟩) st.fs.length cap) := by
  have hne : g ≠ Q := fun e => h.ne (by rw [← e]; rfl)
  obtain ⟨o1, g1⟩ := h.row.stored (k * 3 + 1) (.string f'.bytes)
  obtain ⟨o2, g2⟩ := o1.stored (k * 3 + 2) (.int .i64 (f'.sure : Int))
  rw [cells_set st.fs k f f' hk hn] at o2
  have hu := used_set st.fs k f f' hk
  have gg := only_trans g1 g2
  refine ⟨⟨?_, ?_, ?_⟩, ⟨gg.os, gg.tape, gg.output, gg.size, fun i hi _ hv => gg.block i hi (fun e => hv (by rw [e]; rfl)), .inl rfl⟩⟩
  · rw [gg.block Q h.lt (fun e => hne (Option.some.inj e).symm)]
    exact h.block
  · show World.ownsRow _ 0 _ 3 _ (st.fs.set k f').length _
    rw [List.length_set]
    exact o2
  · refine ⟨h.good.room, ?_, fun x hx => ?_, by show (st.fs.set k f').length ≤ _; rw [List.length_set]; exact h.good.few, h.good.last⟩
    · show usedF (st.fs.set k f') ≤ st.room
      have := h.good.fit
      omega
    · rcases List.mem_or_eq_of_mem_set hx with hx | rfl
      · exact h.good.sure x hx
      · exact hs
theorem rd_cells {w : World} {Q g cap n k : Nat} {st : DS} {f : DF} (h : RD w Q (.slice (some ⟨g, 0, none⟩) n cap) st) (hk : st.fs[k]? = some f) :
    w.cell? ⟨g, k * 3, none⟩ = some (.string f.name) ∧ w.cell? ⟨g, k * 3 + 1, none⟩ = some (.string f.bytes) ∧ w.cell? ⟨g, k * 3 + 2, none⟩ = some (.int .i64 (f.sure : Int)) := by
  obtain ⟨a, cap', ha, _, _, hrow⟩ := h.rowed
  injection ha with ha1 _ _
  obtain ⟨g', hg', _, _, d⟩ := hrow k f hk
  rw [← ha1] at hg'
  injection hg' with h1
  injection h1 with h2
  rw [← h2] at d
  exact d
theorem set_same {l : List Value} {i : Nat} {a : Value} (h : l[i]? = some a) : l.set i a = l := by
  apply List.ext_getElem?
  intro j
  by_cases e : i = j
  · subst e
    have hi : i < l.length := (List.getElem?_eq_some_iff.1 h).1
    rw [List.getElem?_set_self hi, h]
  · rw [List.getElem?_set_ne e]
/-- What of one file's bytes is sure is written anew, in place. -/
theorem rd_sure {w : World} {Q g cap k : Nat} {st : DS} {f : DF} (x : Nat) (h : RD w Q (.slice (some ⟨g, 0, none⟩) st.fs.length cap) st) (hk : st.fs[k]? = some f) (hs : x ≤ f.bytes.size) :
    RD (w.setCell ⟨g, k * 3 + 2, none⟩ (.int .i64 (x : Int))) Q (.slice (some ⟨g, 0, none⟩) st.fs.length cap) { st with fs := st.fs.set k { f with sure := x } } ∧
    Step w (w.setCell ⟨g, k * 3 + 2, none⟩ (.int .i64 (x : Int))) Q (.slice (some ⟨g, 0, none⟩) st.fs.length cap) (.slice (some ⟨g, 0, none⟩) st.fs.length cap) := by
  have hne : g ≠ Q := fun e => h.ne (by rw [← e]; rfl)
  obtain ⟨o2, gg⟩ := h.row.stored (k * 3 + 2) (.int .i64 (x : Int))
  have hc := cells_set st.fs k f { f with sure := x } hk rfl
  rw [set_same (cells_at st.fs k f hk).2.1] at hc
  rw [hc] at o2
  have hu := used_set st.fs k f { f with sure := x } hk
  refine ⟨⟨?_, ?_, ?_⟩, ⟨gg.os, gg.tape, gg.output, gg.size, fun i hi _ hv => gg.block i hi (fun e => hv (by rw [e]; rfl)), .inl rfl⟩⟩
  · rw [gg.block Q h.lt (fun e => hne (Option.some.inj e).symm)]
    exact h.block
  · show World.ownsRow _ 0 _ 3 _ (st.fs.set k _).length _
    rw [List.length_set]
    exact o2
  · refine ⟨h.good.room, ?_, fun y hy => ?_, by show (st.fs.set k _).length ≤ _; rw [List.length_set]; exact h.good.few, h.good.last⟩
    · show usedF (st.fs.set k _) ≤ st.room
      have := h.good.fit
      simp only at hu
      omega
    · rcases List.mem_or_eq_of_mem_set hy with hy | rfl
      · exact h.good.sure y hy
      · exact hs
theorem drew_below (w : World) : Below w.heap.size w w.drew := (Below.refl _ w).drew
theorem opS_fs (st : DS) : (opS st).fs = st.fs := by
  unfold opS
  split
  · rfl
  · split <;> rfl
theorem opS_ops (st : DS) : (opS st).ops = st.ops + 1 := by
  unfold opS
  split
  · rfl
  · split <;> rfl
theorem opS_room (st : DS) : (opS st).room = st.room := by
  unfold opS
  split
  · rfl
  · split <;> rfl
set_option maxRecDepth 100000 in
set_option maxHeartbeats 2000000 in
theorem sync_any (Q : Nat) (v : Value) (st : DS) (s : ByteArray) (w : World) (h : RD w Q v st) (ho : st.ops + 1 ≤ 1048576) :
    Calls Try.prog 28 #[.pointer (some ⟨Q, 0, none⟩), .string s] w fun e w' => e = .returned (.int .i64 (syncE st s)) ∧ ∃ v', RD w' Q v' (syncS st s) ∧ Step w w' Q v v' := by
  have q5 := cell_block (j := 5) h.block rfl
  have HD := Lib.hid h
  cases hd : st.dead with
  | true =>
    have hE : syncE st s = 14 := by unfold syncE; rw [hd]; rfl
    have hS : syncS st s = st := by unfold syncS; rw [hd]; rfl
    rw [hE, hS]
    rw [hd] at q5
    clear hE hS h
    go_enter Try.func28, Try.ntmps28
    go_wp2_with fail
    go_ret
    exact ⟨rfl, v, HD.out, Step.refl _ _ _⟩
  | false =>
    rw [hd] at q5
    rcases look_pos (l := st.fs) (s := s) with ⟨k, f, hp, hfk, hfn, hl, hm⟩ | ⟨hp, hl⟩
    · obtain ⟨a, cap, rfl, hcap, _, hrow⟩ := h.rowed
      obtain ⟨g, rfl, hgl, hgq, c0, c1, c2⟩ := hrow k f hfk
      have HP := Lib.hid (posZ_some hp)
      have hE : syncE st s = opE st := by unfold syncE; rw [hd, hl]; rfl
      have hkn : k < st.fs.length := (List.getElem?_eq_some_iff.1 hfk).1
      have hfew := h.good.few
      rw [hE]
      cases hdo : opD st with
      | false =>
        have hS : syncS st s = opS st := by unfold syncS; rw [hd, hl, hdo]; rfl
        rw [hS]
        obtain ⟨e0, he0⟩ : ∃ e0, opE st = e0 := ⟨_, rfl⟩
        have HOp := Lib.hid (op_any Q _ st w HD.out (by omega))
        rw [show opV st = .tuple #[.bool false, .int .i64 e0] by unfold opV; rw [hdo, he0]] at HOp
        rw [he0]
        clear hE hS h hrow hp hl hm hdo he0
        go_enter Try.func28, Try.ntmps28
        go_wp2_with fail
        refine (find_any Q _ st s _ HD.out (by omega)).mono ?_
        rintro e w' ⟨rfl, rfl⟩
        rw [HP.out]
        go_wp2_with fail
        refine HOp.out.mono ?_
        rintro e w1 ⟨rfl, hr1, hs1⟩
        have HR1 := Lib.hid hr1; have HS1 := Lib.hid hs1
        clear hr1 hs1
        go_wp2_with fail
        go_ret
        exact ⟨rfl, _, HR1.out, HS1.out⟩
      | true =>
        have hS : syncS st s = { opS st with fs := (opS st).fs.set k (surely f) } := by unfold syncS; rw [hd, hl, hdo, opS_fs]; simp [hm]
        rw [hS]
        obtain ⟨e0, he0⟩ : ∃ e0, opE st = e0 := ⟨_, rfl⟩
        have HOp := Lib.hid (op_any Q _ st w HD.out (by omega))
        rw [show opV st = .tuple #[.bool true, .int .i64 e0] by unfold opV; rw [hdo, he0]] at HOp
        rw [he0]
        have hfk2 : (opS st).fs[k]? = some f := by rw [opS_fs]; exact hfk
        have hlen : st.fs.length = (opS st).fs.length := by rw [opS_fs]
        rw [hlen] at HOp hkn hfew
        have HL := Lib.hid hlen
        have HW := Lib.hid (fun (W : World) hR => rd_sure (w := W) (Q := Q) (g := g) (cap := cap) (k := k) (st := opS st) (f := f) f.bytes.size hR hfk2 (Nat.le_refl _))
        clear hE hS h hrow hp hl hm hdo he0 hlen
        go_enter Try.func28, Try.ntmps28
        go_wp2_with fail
        refine (find_any Q _ st s _ HD.out (by omega)).mono ?_
        rintro e w' ⟨rfl, rfl⟩
        rw [HP.out]
        go_wp2_with fail
        refine HOp.out.mono ?_
        rintro e w1 ⟨rfl, hr1, hs1⟩
        have q0 : w1.cell? ⟨Q, 0, none⟩ = some (.slice (some ⟨g, 0, none⟩) (opS st).fs.length cap) := cell_block hr1.block rfl
        obtain ⟨d0, d1, d2⟩ := rd_cells hr1 hfk2
        have hfz : w1.frozen? ⟨g, k * 3 + 2, none⟩ = false := hr1.row.frozenAt _
        obtain ⟨r2, s2⟩ := HW.out w1 hr1
        have hdr := drew_below (w1.setCell ⟨g, k * 3 + 2, none⟩ (.int .i64 (f.bytes.size : Int)))
        have HR2 := Lib.hid (r2.below hdr); have HS2 := Lib.hid ((hs1.trans s2).app hdr)
        clear hr1 hs1 r2 s2 hdr
        go_wp2_with fail
        go_region
        all_goals (go_wp2_with fail; go_ret; exact ⟨rfl, _, HR2.out, by rw [HL.out]; exact HS2.out⟩)
    · have hE : syncE st s = 3 := by unfold syncE; rw [hd, hl]; rfl
      have hS : syncS st s = st := by unfold syncS; rw [hd, hl]; rfl
      have HP := Lib.hid (posZ_none hp)
      rw [hE, hS]
      clear hE hS h hp hl
      go_enter Try.func28, Try.ntmps28
      go_wp2_with fail
      refine (find_any Q _ st s _ HD.out (by omega)).mono ?_
      rintro e w' ⟨rfl, rfl⟩
      rw [HP.out]
      go_wp2_with fail
      go_ret
      exact ⟨rfl, v, HD.out, Step.refl _ _ _⟩
end Go.Proofs.Ytflkglnmenbmaaa.Disk
