/- The walk over Append. -/
import Derived.Test.YtflkglnmenbmaaaDiskImD
import Derived.Test.YtflkglnmenbmaaaDiskImE
namespace Go.Proofs.Ytflkglnmenbmaaa.Disk.Im
open Go.RowKit Go.Lib

theorem strCells_append (a b : ByteArray) : strCells (a ++ b) = strCells a ++ strCells b := by
  unfold strCells
  rw [ByteArray.data_append, Array.toList_append, List.map_append]
set_option maxRecDepth 100000 in
/-- append(v, s...), v a row of one's own: a row that lies where v lies, or anew; v itself is as it was. -/
theorem run_app (w : World) (v : Value) (b s : ByteArray) (hown : w.ownsRow 0 5 1 v b.size (strCells b)) (hb : b.size ≤ 1099511627776) (hs : s.size ≤ 1099511627776) :
    ∃ v' w', (Builtin.append_ #[61, 9] 61 #[v, .string s]).run Try.prog w = .ok v' w' ∧ w'.ownsRow 0 5 1 v' (b ++ s).size (strCells (b ++ s)) ∧ w.grownBy w' v.ownBlock ∧
      w'.ownsRow 0 5 1 v b.size (strCells b) ∧ ∀ k, v'.ownBlock = some k → v.ownBlock = some k ∨ w.heap.size ≤ k := by
  obtain ⟨i0, hi, hz0, hz1, hz2⟩ := info_parts info_u8
  have hbs : (b ++ s).size = b.size + s.size := ByteArray.size_append
  have hxl : (strCells b).length = b.size := strCells_length b
  obtain ⟨v', w', hr, hown', hg, hnil⟩ := run_append_own_string (P := Try.prog) w 0 61 9 61 5 i0 Try.underlying61 Try.underlying9 hi hz0 hz1 hz2 v b.size (strCells b) hown s (by unfold maxLen; omega) (by omega) (Nat.zero_le _)
  rw [← hbs, ← strCells_append] at hown'
  rcases hown.2 with ⟨hv, h0⟩ | ⟨g, cap, cur, hv, _, hgc, hnc, hcm, hcs, htake⟩
  · have hx : strCells b = [] := List.eq_nil_of_length_eq_zero (hxl.trans h0)
    have hold : w'.ownsRow 0 5 1 v b.size (strCells b) := by
      rw [hv, h0, hx]
      exact World.ownsRow_nil _ _ _ _
    by_cases hm : s.size = 0
    · have : v' = .slice none 0 0 := hnil.2 ⟨hv, hm⟩
      exact ⟨v', w', hr, hown', hg, hold, fun k hk => by rw [this] at hk; cases hk⟩
    · have hr2 := run_append_nil_string (P := Try.prog) w 61 9 61 5 i0 (.int .u8 0) Try.underlying61 Try.underlying9 hi hz0 s (by omega) (by omega) (by rw [hz2]; omega)
      rw [hv] at hr
      have he := hr.symm.trans hr2
      injection he with e1 e2
      refine ⟨v', w', by rw [hv]; exact hr, hown', hg, hold, fun k hk => .inr ?_⟩
      rw [e1] at hk
      have : w.heap.size = k := by simpa [Value.ownBlock] using hk
      omega
  · by_cases hroom : b.size + s.size ≤ cap
    · have hcs' : cur.size = cap := by simpa using hcs
      have hr2 := run_append_room_string (P := Try.prog) w 61 9 61 5 i0 Try.underlying61 Try.underlying9 hi hz1 g b.size cap cur hgc s hroom (by omega)
      rw [hv] at hr
      have he := hr.symm.trans hr2
      injection he with e1 e2
      refine ⟨v', w', by rw [hv]; exact hr, hown', hg, ?_, fun k hk => .inl ?_⟩
      · rw [hv, e2]
        have ht' : cur.toList.take b.size = strCells b := by simpa using htake
        refine ⟨by simpa using hxl, .inr ⟨g, cap, _, rfl, Nat.zero_le _, setRow_heap w g cur _ _ _ hgc, hnc, hcm, ?_, ?_⟩⟩
        · simp only [List.size_toArray, List.length_append, List.length_take, List.length_drop, Array.length_toList, strCells_length]
          omega
        · rw [Nat.mul_one, ht', List.append_assoc, List.take_left' hxl]
      · rw [e1] at hk
        rw [hv]
        exact hk
    · have hcells : ∀ j u, (strCells b)[j]? = some u → w.cell? ((⟨g, 0, none⟩ : Addr).add j) = some u := hown.cells (g := g) (by rw [hv]; rfl)
      have hr2 := run_append_grow_string (P := Try.prog) w 61 9 61 5 i0 (.int .u8 0) Try.underlying61 Try.underlying9 hi hz0 ⟨g, 0, none⟩ b.size cap (strCells b) (by rw [hz1]; simpa using hxl) hcells s (by omega) (by omega) (by rw [hz2]; exact growslice_fits (by omega) (by omega))
      rw [hv] at hr
      have he := hr.symm.trans hr2
      injection he with e1 e2
      refine ⟨v', w', by rw [hv]; exact hr, hown', hg, ?_, fun k hk => .inr ?_⟩
      · have hlt := hown.lt g (by rw [hv]; rfl)
        refine own_moved hown (fun k hk => ?_)
        rw [hv] at hk
        have : g = k := by simpa [Value.ownBlock] using hk
        subst this
        rw [e2]
        exact heap_alloc_old w.drew _ hlt.2
      · rw [e1] at hk
        have : w.heap.size = k := by simpa [Value.ownBlock] using hk
        omega
theorem step_to {w w' : World} {F F' : Nat → Prop} (h : StepF w w' F F) (hg : ∀ k, F' k → F k ∨ w.heap.size ≤ k) : StepF w w' F F' := ⟨h.os, h.tape, h.output, h.size, h.block, hg⟩
theorem step_same {w w' : World} {Q Mb : Nat} {V : ByteArray → Value} {fs : List DF} (h : StepF w w' (QM Q Mb) (QM Q Mb)) : StepF w w' (FS Q Mb V fs) (FS Q Mb V fs) := step_qm h (fun _ hk => hk)
theorem opS_with (st : DS) (l : List DF) : opS { st with fs := l } = { opS st with fs := l } := by
  unfold Disk.opS
  dsimp only
  split
  · rfl
  · split
    · rfl
    · rfl
theorem st_op {st : DS} (hd : st.dead = false) : stE (opS st).dead = opE st := by
  unfold Disk.opS opE stE
  split
  · rw [hd]; rfl
  · split
    · rw [hd]; rfl
    · rfl
theorem opS_room (st : DS) : (opS st).room = st.room := by
  unfold Disk.opS
  split
  · rfl
  · split <;> rfl
/-- What the disk says of a file whose name is s, there or not. -/
theorem PDX.rowOf {w : World} {Q Mb : Nat} {fz : Int} {V : ByteArray → Value} {st : DS} (h : PDX w Q Mb fz V st) (s : ByteArray) :
    ∃ v, (mapM V st.fs s).getD zeroFile = .agg #[v, .int .i64 ((fileOf st s).sure : Int)] ∧ w.ownsRow 0 5 1 v (fileOf st s).bytes.size (strCells (fileOf st s).bytes) ∧ (fileOf st s).name = s ∧
      (∀ k, v.ownBlock = some k → ∃ f ∈ st.fs, f.name = s ∧ (V f.name).ownBlock = some k) := by
  unfold fileOf mapM
  cases hl : look st.fs s with
  | none => exact ⟨.slice none 0 0, rfl, World.ownsRow_nil _ _ _ _, rfl, fun k hk => by cases hk⟩
  | some f =>
    obtain ⟨hm, hn⟩ := look_mem hl
    exact ⟨V f.name, rfl, h.rows f hm, hn, fun k hk => ⟨f, hm, hn, hk⟩⟩
/-- The row of s has turned, behind what it held, or is left alone; other new blocks. -/
theorem PDX.appended {w w' : World} {Q Mb : Nat} {fz : Int} {V : ByteArray → Value} {st : DS} (h : PDX w Q Mb fz V st) {s : ByteArray} {v : Value} {n : Nat} {xs : List Value} (hv : ∀ k, v.ownBlock = some k → ∃ f ∈ st.fs, f.name = s ∧ (V f.name).ownBlock = some k)
    (hrow : w.ownsRow 0 5 1 v n xs) (hg : w.grownBy w' v.ownBlock) (hold : ∀ f ∈ st.fs, f.name = s → w'.ownsRow 0 5 1 (V f.name) f.bytes.size (strCells f.bytes)) : PDX w' Q Mb fz V st := by
  have hn := h.own_ne hrow
  refine ⟨(hg.block Q h.ltQ (fun e => hn.1 e.symm)).trans h.block, h.map.of_block (hg.block Mb h.ltM (fun e => hn.2 e.symm)), fun f hf => ?_, h.apart, h.sorted, h.fuse, h.fuseIn, h.names⟩
  by_cases hs : f.name = s
  · exact hold f hf hs
  · have hr := h.rows f hf
    refine own_moved hr (fun k hk => hg.block k (hr.lt k hk).2 (fun e => ?_))
    obtain ⟨g, hg1, hg2, hg3⟩ := hv k e.symm
    exact h.apart g hg1 f hf (fun e2 => hs (e2.symm.trans hg2)) k hg3 hk
set_option maxRecDepth 100000 in
set_option maxHeartbeats 4000000 in
theorem append_yes (Q Mb : Nat) (fz : Int) (V : ByteArray → Value) (st : DS) (s b : ByteArray) (w : World) (h : PDX w Q Mb fz V st) (hi : Inv st 1000) (hd : st.dead = false) (hn : isName s) (hb : b.size ≤ 200) (hfit : ¬ st.room < usedF st.fs + b.size) :
    Calls Try.prog 20 #[.pointer (some ⟨Q, 0, none⟩), .string s, .string b] w fun e w' => e = .returned (.int .i64 (opE st)) ∧ ∃ V' F', PDX w' Q Mb (fzS fz) V' (opS (put st (grown (fileOf st s) b))) ∧ F' = FS Q Mb V' (putF st.fs (grown (fileOf st s) b)) ∧ StepF w w' (FS Q Mb V st.fs) F' := by
  have hns := hn.2.2
  have hroom := hi.good.room
  have hused := hi.good.fit
  have hops := hi.ops
  have hfew := hi.few
  have hfs : (opS st).fs = st.fs := opS_fs' st
  obtain ⟨q0, q1, q2, q3, q4, q5⟩ := h.q
  rw [hd] at q5
  have HC1 := Lib.hid (state_any Q Mb false w q0 q5)
  have e2 : stE false = 0 := rfl
  rw [e2] at HC1
  have HC2 := Lib.hid (name_any s w (by omega))
  rw [decide_eq_true hn] at HC2
  obtain ⟨x, hx⟩ : ∃ x : Int, (st.room : Int) - (usedF st.fs : Int) = x := ⟨_, rfl⟩
  rw [hx] at q1
  have hbx : ¬ x < (b.size : Int) := by omega
  have HP := Lib.hid h
  have HD := Lib.hid hd
  have HOP := Lib.hid (st_op hd)
  clear h hi e2 hn hd
  go_enter Try.func20, Try.ntmps20
  go_wp2_with fail
  refine HC1.out.mono ?_
  rintro e W ⟨rfl, rfl⟩
  go_wp2_with fail
  refine HC2.out.mono ?_
  rintro e W1 ⟨rfl, hb1⟩
  have hp1 := HP.out.below hb1
  have q1' := (bcell hb1).1 Q 1 HP.out.ltQ
  rw [q1] at q1'
  have HB1 := Lib.hid hb1
  have HP1 := Lib.hid hp1
  clear hb1 hp1 q0 q1 q2 q3 q4 q5 hfit
  go_wp2_with fail
  refine (begin_any Q Mb fz V st _ HP1.out HD.out (by omega)).mono ?_
  rintro e W2 ⟨rfl, hp2, hg2⟩
  have hfo : fileOf (opS st) s = fileOf st s := by unfold fileOf; rw [hfs]
  obtain ⟨v, hgv, hrow, hname, hvF⟩ := hp2.rowOf s
  rw [hfo] at hgv hrow hname
  obtain ⟨f, hf⟩ : ∃ f, fileOf st s = f := ⟨_, rfl⟩
  rw [hf] at hgv hrow hname
  have hfsz : f.bytes.size ≤ st.room := by
    rw [← hf]
    unfold fileOf
    cases hl : look st.fs s with
    | none => exact Nat.zero_le _
    | some g => exact Nat.le_trans (used_mem (look_mem hl).1) hused
  obtain ⟨a, c, rfl⟩ := own_slice hrow
  obtain ⟨v', W4, hr4, hown4, hg4, hold4, hnew4⟩ := run_app (W2.alloc (.cells #[.slice a f.bytes.size c, .int .i64 (f.sure : Int)] 63)) (.slice a f.bytes.size c) f.bytes b (hrow.alloc _) (by omega) (by omega)
  obtain ⟨a', c', rfl⟩ := own_slice hown4
  have hlook : (Instr.lookup 55 (.map (some Mb)) (.string s) false).run Try.prog W2 = .ok (.agg #[.slice a f.bytes.size c, .int .i64 (f.sure : Int)]) W2 := by
    rw [← hgv]
    exact hp2.map.look Try.underlying9 Try.underlying55 (zero_file _) (by unfold maxLen; omega)
  have p0 := hp2.q.1
  have hL := heap_alloc_new W2 (.cells #[.slice a f.bytes.size c, .int .i64 (f.sure : Int)] 63)
  have hownL : (Value.slice a f.bytes.size c).ownBlock ≠ some W2.heap.size := fun e => by
    have := (hrow.lt _ e).2
    omega
  have hL4 := (hg4.block W2.heap.size (by simp) (fun e => hownL e.symm)).trans hL
  have l0 := cell_block (j := 0) hL4 rfl; have l1 := cell_block (j := 1) hL4 rfl
  have fl0 := free_block 0 hL4
  obtain ⟨n', hn'⟩ : ∃ n', (f.bytes ++ b).size = n' := ⟨_, rfl⟩
  have hp3 := hp2.below ((Below.refl _ W2).alloc (Nat.le_refl _) (.cells #[.slice a f.bytes.size c, .int .i64 (f.sure : Int)] 63))
  have hp4 : PDX W4 Q Mb (fzS fz) V (opS st) := hp3.appended hvF (hrow.alloc _) hg4 (fun g hg1 hg2 => by
    have hVg : V g.name = .slice a f.bytes.size c ∧ g.bytes = f.bytes := by
      rw [hfs] at hg1
      have hlk : ∃ y, look st.fs s = some y := by
        cases hl : look st.fs s with
        | none => exact absurd hg2 ((fun g' h' => (look_none_all hl) g' h') g hg1)
        | some y => exact ⟨y, rfl⟩
      obtain ⟨y, hy⟩ := hlk
      have hyg : y = g := sorted_unique HP.out.sorted (look_mem hy).1 hg1 ((look_mem hy).2.trans hg2.symm)
      subst hyg
      have hfy : f = y := by rw [← hf]; unfold fileOf; rw [hy]; rfl
      subst hfy
      refine ⟨?_, rfl⟩
      have h0 := hgv
      unfold mapM at h0
      rw [hfs, hy] at h0
      simp only [Option.map_some, Option.getD_some, fileV] at h0
      injection h0 with h0
      have h0 := Array.toList_inj.2 h0
      simp at h0
      rw [h0]
    rw [hVg.1, hVg.2]
    exact hold4)
  have hg5 := only_setCell (only_refl W4 (some W2.heap.size)) 0 (.slice a' n' c')
  have hlt4 : ∀ k, FS Q Mb V (opS st).fs k → k < W2.heap.size := hp2.ltF
  have hp5 : PDX (W4.setCell ⟨W2.heap.size, 0, none⟩ (.slice a' n' c')) Q Mb (fzS fz) V (opS st) := hp4.moved (fun k hk => hg5.block k (hp4.ltF k hk) (fun e => by have := hlt4 k hk; have := Option.some.inj e; omega))
  have hown5 : (W4.setCell ⟨W2.heap.size, 0, none⟩ (.slice a' n' c')).ownsRow 0 5 1 (.slice a' n' c') (f.bytes ++ b).size (strCells (f.bytes ++ b)) := by
    rw [← hn'] at hg5 ⊢
    exact hown4.kept hg5 (.inr (fun e => by
      obtain ⟨cur, hcur⟩ := own_block hown4 e
      have := hL4.symm.trans hcur
      simp at this))
  have hfar : ∀ g ∈ (opS st).fs, g.name ≠ s → ∀ k, (Value.slice a' n' c').ownBlock = some k → (V g.name).ownBlock ≠ some k := fun g hg1 hg2 k hk hk2 => by
    rcases hnew4 k (by rw [hn']; exact hk) with h1 | h1
    · obtain ⟨y, hy1, hy2, hy3⟩ := hvF k h1
      exact hp2.apart y hy1 g hg1 (fun e => hg2 (e.symm.trans hy2)) k hy3 hk2
    · have := hlt4 k (.inr (.inr ⟨g, hg1, hk2⟩))
      simp at h1
      omega
  have HPUT := Lib.hid (put_any Q Mb (fzS fz) V (opS st) s (f.bytes ++ b) f.sure (.slice a' n' c') _ hp5 hns (by rw [hfs]; omega) (by rw [opS_room]; exact hroom) (by rw [hfs]; omega) hown5 (by rw [ByteArray.size_append]; omega) hfar)
  have HEND : Hid (∀ W6, PDX W6 Q Mb (fzS fz) (upd V s (.slice a' n' c')) { opS st with fs := putF (opS st).fs ⟨s, f.bytes ++ b, f.sure⟩ } → StepF (W4.setCell ⟨W2.heap.size, 0, none⟩ (.slice a' n' c')) W6 (QM Q Mb) (QM Q Mb) →
      ∃ V' F', PDX W6 Q Mb (fzS fz) V' (opS (put st (grown (fileOf st s) b))) ∧ F' = FS Q Mb V' (putF st.fs (grown (fileOf st s) b)) ∧ StepF w W6 (FS Q Mb V st.fs) F') := Lib.hid (fun W6 h6 s6 => by
    have hgr : grown (fileOf st s) b = ⟨s, f.bytes ++ b, f.sure⟩ := by
      rw [hf]
      unfold grown
      obtain ⟨fn, fb, fu⟩ := f
      dsimp only at hname
      rw [hname]
    refine ⟨upd V s (.slice a' n' c'), _, ?_, rfl, ?_⟩
    · rw [hgr]
      unfold put
      rw [opS_with]
      rw [hfs] at h6
      exact h6
    · have hF2 : FS Q Mb V (opS st).fs = FS Q Mb V st.fs := by rw [hfs]
      have s12 : StepF w W2 (FS Q Mb V st.fs) (FS Q Mb V st.fs) := (StepF.below _ HB1.out).trans (step_same (step_q hg2))
      have s24 : StepF W2 W4 (FS Q Mb V st.fs) (FS Q Mb V st.fs) := (StepF.below _ ((Below.refl _ W2).alloc (Nat.le_refl _) _)).trans ⟨hg4.os, hg4.tape, hg4.output, hg4.size, fun k hk hn => hg4.block k hk (fun e => hn (by
        obtain ⟨y, hy1, hy2, hy3⟩ := hvF k e.symm
        rw [hfs] at hy1
        exact .inr (.inr ⟨y, hy1, hy3⟩))), fun _ hk => .inl hk⟩
      have s25 : StepF W2 (W4.setCell ⟨W2.heap.size, 0, none⟩ (.slice a' n' c')) (FS Q Mb V st.fs) (FS Q Mb V st.fs) :=
        ⟨hg5.os.trans s24.os, hg5.tape.trans s24.tape, hg5.output.trans s24.output, Nat.le_trans s24.size hg5.size, fun k hk hn => (hg5.block k (Nat.lt_of_lt_of_le hk s24.size) (fun e => by have := Option.some.inj e; omega)).trans (s24.block k hk hn), fun _ hk => .inl hk⟩
      have sall := (s12.trans s25).trans (step_same (V := V) (fs := st.fs) s6)
      refine step_to sall (fun k hk => ?_)
      rcases hk with hk | hk | ⟨y, hy, hk⟩
      · exact .inl (.inl hk)
      · exact .inl (.inr (.inl hk))
      · rw [hgr] at hy
        rcases mem_ins hy with rfl | hy
        · have hk : (Value.slice a' n' c').ownBlock = some k := by simpa [upd] using hk
          rcases hnew4 k (by rw [hn']; exact hk) with h1 | h1
          · obtain ⟨z, hz1, hz2, hz3⟩ := hvF k h1
            rw [hfs] at hz1
            exact .inl (.inr (.inr ⟨z, hz1, hz3⟩))
          · have := s12.size
            simp at h1
            exact .inr (by omega)
        · have hne := takeF_ne y hy
          have hk : (V y.name).ownBlock = some k := by
            have hne' : y.name ≠ s := hne
            simpa [upd, hne'] using hk
          exact .inl (.inr (.inr ⟨y, (List.mem_filter.1 hy).1, hk⟩)))
  rw [hn'] at hr4
  have HR4 := Lib.hid hr4
  have hq6 : Hid (∀ W6, PDX W6 Q Mb (fzS fz) (upd V s (.slice a' n' c')) { opS st with fs := putF (opS st).fs ⟨s, f.bytes ++ b, f.sure⟩ } → Calls Try.prog 35 #[.pointer (some ⟨Q, 0, none⟩)] W6 fun e w' => e = .returned (.int .i64 (opE st)) ∧ W6 = w') := Lib.hid (fun W6 h6 => by
    have hq := h6.q
    have := state_any Q Mb (opS st).dead W6 hq.1 hq.2.2.2.2.2
    rw [HOP.out] at this
    exact this)
  clear hr4 hown4 hg4 hold4 hnew4 hL hownL hL4 hp2 hp3 hp4 hp5 hown5 hfar hg5 hg2 hlt4 hrow hvF hgv hfo hfs hf hname hfsz
  go_wp2_with (at_builtin; refine wpList_append_run rfl _ _ _ _ rfl _ _ rfl rfl HR4.out ?_)
  refine HPUT.out.mono ?_
  rintro e W6 ⟨rfl, h6, s6⟩
  have HQ6 := Lib.hid (hq6.out W6 h6)
  have HE6 := Lib.hid (HEND.out W6 h6 s6)
  clear h6 s6
  go_wp2_with fail
  refine HQ6.out.mono ?_
  rintro e W7 ⟨rfl, rfl⟩
  go_wp2_with fail
  go_ret
  exact ⟨rfl, HE6.out⟩
set_option maxRecDepth 100000 in
set_option maxHeartbeats 2000000 in
/-- Append, where the state is no OK. -/
theorem append_state (p : Option Addr) (s b : ByteArray) (er : Int) (w : World) (h0 : er = 1 ∨ er = 14) (hc : Calls Try.prog 35 #[.pointer p] w fun e w' => e = .returned (.int .i64 er) ∧ w = w') :
    Calls Try.prog 20 #[.pointer p, .string s, .string b] w fun e w' => e = .returned (.int .i64 er) ∧ w = w' := by
  have HC := Lib.hid hc
  clear hc
  rcases h0 with rfl | rfl
  · go_enter Try.func20, Try.ntmps20
    go_wp2_with fail
    refine HC.out.mono ?_
    rintro e W ⟨rfl, rfl⟩
    go_wp2_with fail
    go_ret
    exact ⟨rfl, rfl⟩
  · go_enter Try.func20, Try.ntmps20
    go_wp2_with fail
    refine HC.out.mono ?_
    rintro e W ⟨rfl, rfl⟩
    go_wp2_with fail
    go_ret
    exact ⟨rfl, rfl⟩
set_option maxRecDepth 100000 in
set_option maxHeartbeats 2000000 in
theorem append_name (Q Mb : Nat) (fz : Int) (V : ByteArray → Value) (st : DS) (s b : ByteArray) (w : World) (h : PDX w Q Mb fz V st) (hd : st.dead = false) (hs : s.size ≤ 1099511627776) (hn : ¬ isName s) :
    Calls Try.prog 20 #[.pointer (some ⟨Q, 0, none⟩), .string s, .string b] w fun e w' => e = .returned (.int .i64 1) ∧ Below w.heap.size w w' := by
  obtain ⟨q0, q1, q2, q3, q4, q5⟩ := h.q
  rw [hd] at q5
  have HC1 := Lib.hid (state_any Q Mb false w q0 q5)
  have e2 : stE false = 0 := rfl
  rw [e2] at HC1
  have HC2 := Lib.hid (name_any s w (by omega))
  rw [decide_eq_false hn] at HC2
  clear h hn e2 q0 q1 q2 q3 q4 q5
  go_enter Try.func20, Try.ntmps20
  go_wp2_with fail
  refine HC1.out.mono ?_
  rintro e W ⟨rfl, rfl⟩
  go_wp2_with fail
  refine HC2.out.mono ?_
  rintro e W1 ⟨rfl, hb1⟩
  have HB := Lib.hid hb1
  clear hb1
  go_wp2_with fail
  go_ret
  exact ⟨rfl, HB.out⟩
set_option maxRecDepth 100000 in
set_option maxHeartbeats 2000000 in
theorem append_full (Q Mb : Nat) (fz : Int) (V : ByteArray → Value) (st : DS) (s b : ByteArray) (w : World) (h : PDX w Q Mb fz V st) (hd : st.dead = false) (hs : s.size ≤ 1099511627776) (hn : isName s) (hfit : st.room < usedF st.fs + b.size) :
    Calls Try.prog 20 #[.pointer (some ⟨Q, 0, none⟩), .string s, .string b] w fun e w' => e = .returned (.int .i64 4) ∧ Below w.heap.size w w' := by
  obtain ⟨q0, q1, q2, q3, q4, q5⟩ := h.q
  rw [hd] at q5
  have HC1 := Lib.hid (state_any Q Mb false w q0 q5)
  have e2 : stE false = 0 := rfl
  rw [e2] at HC1
  have HC2 := Lib.hid (name_any s w (by omega))
  rw [decide_eq_true hn] at HC2
  obtain ⟨x, hx⟩ : ∃ x : Int, (st.room : Int) - (usedF st.fs : Int) = x := ⟨_, rfl⟩
  rw [hx] at q1
  have hbx : x < (b.size : Int) := by omega
  have hQ := h.ltQ
  clear h hn e2 q0 q2 q3 q4 q5 hx hfit
  go_enter Try.func20, Try.ntmps20
  go_wp2_with fail
  refine HC1.out.mono ?_
  rintro e W ⟨rfl, rfl⟩
  go_wp2_with fail
  refine HC2.out.mono ?_
  rintro e W1 ⟨rfl, hb1⟩
  have q1' := (bcell hb1).1 Q 1 hQ
  rw [q1] at q1'
  have HB := Lib.hid hb1
  clear hb1
  go_wp2_with fail
  go_ret
  exact ⟨rfl, HB.out⟩
theorem append_any (Q : Nat) (F : Nat → Prop) (st : DS) (s b : ByteArray) (w : World) (h : PD w Q F st) (hi : Inv st 1000) (hs : s.size ≤ 200) (hb : b.size ≤ 200) :
    Calls Try.prog 20 #[.pointer (some ⟨Q, 0, none⟩), .string s, .string b] w fun e w' => e = .returned (.int .i64 (appE st s b)) ∧ ∃ F', PD w' Q F' (appS st s b) ∧ StepF w w' F F' := by
  obtain ⟨Mb, fz, V, hp, rfl⟩ := h
  unfold appE appS
  cases hd : st.dead with
  | true =>
    simp only [if_true]
    have hc := state_any Q Mb st.dead w hp.q.1 hp.q.2.2.2.2.2
    rw [hd] at hc
    refine (append_state _ s b 14 w (.inr rfl) hc).mono ?_
    rintro e w' ⟨rfl, rfl⟩
    exact ⟨rfl, _, ⟨Mb, fz, V, hp, rfl⟩, StepF.refl _ _⟩
  | false =>
    simp only [Bool.false_eq_true, if_false]
    by_cases hn : isName s
    · rw [if_neg (not_not_intro hn), if_neg (not_not_intro hn)]
      by_cases hfit : st.room < usedF st.fs + b.size
      · rw [if_pos hfit, if_pos hfit]
        refine (append_full Q Mb fz V st s b w hp hd (by omega) hn hfit).mono ?_
        rintro e w' ⟨rfl, hb'⟩
        exact ⟨rfl, _, ⟨Mb, fz, V, hp.below hb', rfl⟩, StepF.below _ hb'⟩
      · rw [if_neg hfit, if_neg hfit]
        refine (append_yes Q Mb fz V st s b w hp hi hd hn hb hfit).mono ?_
        rintro e w' ⟨rfl, V', F', hp', rfl, hst⟩
        exact ⟨rfl, _, ⟨Mb, fzS fz, V', hp', by rw [opS_fs']; rfl⟩, hst⟩
    · rw [if_pos hn, if_pos hn]
      refine (append_name Q Mb fz V st s b w hp hd (by omega) hn).mono ?_
      rintro e w' ⟨rfl, hb'⟩
      exact ⟨rfl, _, ⟨Mb, fz, V, hp.below hb', rfl⟩, StepF.below _ hb'⟩
end Go.Proofs.Ytflkglnmenbmaaa.Disk.Im
