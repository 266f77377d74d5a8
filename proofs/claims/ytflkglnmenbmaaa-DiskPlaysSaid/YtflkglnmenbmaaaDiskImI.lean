/- The walks over Sync and Cut. -/
import Derived.Test.YtflkglnmenbmaaaDiskImH
import Derived.Test.YtflkglnmenbmaaaDiskImG
namespace Go.Proofs.Ytflkglnmenbmaaa.Disk.Im
open Go.RowKit Go.Lib

theorem ins_front {f : DF} : ∀ {l : List DF}, (∀ g ∈ l, less f.name g.name = true) → ins f l = f :: l
  | [], _ => rfl
  | a :: l, h => by
    unfold ins
    rw [if_pos (h a (by simp))]
theorem put_mod {g : DF → DF} {s : ByteArray} (hg : ∀ f, (g f).name = f.name) : ∀ {l : List DF} {f : DF}, Sorted l → look l s = some f → putF l (g f) = modF g l s
  | [], f, _, h => by cases h
  | a :: l, f, hs, h => by
    unfold look at h
    by_cases ha : a.name = s
    · rw [if_pos ha] at h
      obtain rfl := Option.some.inj h
      unfold putF modF
      rw [if_pos ha, hg, ha, show takeF (a :: l) s = takeF l s by simp [takeF, ha], take_same (fun g' hg' => ha ▸ sorted_ne hs g' hg')]
      exact ins_front (fun g' hg' => by rw [hg]; exact (List.pairwise_cons.1 hs).1 g' hg')
    · rw [if_neg ha] at h
      have hfn := (look_mem h).2
      have ih := put_mod hg (List.pairwise_cons.1 hs).2 h
      unfold putF at ih
      rw [hg, hfn] at ih
      unfold putF modF
      rw [if_neg ha, hg, hfn, show takeF (a :: l) s = a :: takeF l s by simp [takeF, ha]]
      unfold ins
      have hlt : less a.name s = true := hfn ▸ (List.pairwise_cons.1 hs).1 f (look_mem h).1
      have hnl : ¬ less (g f).name a.name = true := fun e => by
        rw [hg, hfn] at e
        have := less_trans hlt e
        rw [less_irrefl] at this
        cases this
      rw [if_neg hnl, ih]
theorem step_put {w w' : World} {Q Mb : Nat} {V : ByteArray → Value} {fs fs0 : List DF} {s b : ByteArray} {n : Nat} {v : Value} (h : StepF w w' (FS Q Mb V fs) (FS Q Mb V fs)) (hsub : ∀ f ∈ fs0, f ∈ fs) (hv : ∀ k, v.ownBlock = some k → FS Q Mb V fs k ∨ w.heap.size ≤ k) :
    StepF w w' (FS Q Mb V fs) (FS Q Mb (upd V s v) (putF fs0 ⟨s, b, n⟩)) := by
  refine step_to h (fun k hk => ?_)
  rcases hk with hk | hk | ⟨y, hy, hk⟩
  · exact .inl (.inl hk)
  · exact .inl (.inr (.inl hk))
  · rcases mem_ins hy with rfl | hy
    · exact hv k (by simpa [upd] using hk)
    · have hne := takeF_ne y hy
      have hne' : y.name ≠ s := hne
      exact .inl (.inr (.inr ⟨y, hsub y (List.mem_filter.1 hy).1, by simpa [upd, hne'] using hk⟩))
/-- The state behind an operation. -/
theorem state_op {W : World} {Q Mb : Nat} {fz : Int} {V : ByteArray → Value} {st st' : DS} (h : PDX W Q Mb fz V st') (hd : st.dead = false) (he : st'.dead = (opS st).dead) :
    Calls Try.prog 35 #[.pointer (some ⟨Q, 0, none⟩)] W fun e w' => e = .returned (.int .i64 (opE st)) ∧ W = w' := by
  have hq := h.q
  have := state_any Q Mb st'.dead W hq.1 hq.2.2.2.2.2
  rw [he, st_op hd] at this
  exact this
set_option maxRecDepth 100000 in
set_option maxHeartbeats 2000000 in
/-- Sync, where file answers no file. -/
theorem sync_not (p : Option Addr) (s : ByteArray) (er : Int) (w : World) (h0 : er = 1 ∨ er = 3 ∨ er = 14) (hc : Calls Try.prog 40 #[.pointer p, .string s] w fun e w' => e = .returned (.tuple #[zeroFile, .int .i64 er]) ∧ Below w.heap.size w w') :
    Calls Try.prog 21 #[.pointer p, .string s] w fun e w' => e = .returned (.int .i64 er) ∧ Below w.heap.size w w' := by
  have HC := Lib.hid hc
  clear hc
  have hne : ¬ er = 0 := by omega
  have hne2 : (er != 0) = true := by simpa using hne
  have hne3 : (er == 0) = false := by simpa using hne
  clear h0
  go_enter Try.func21, Try.ntmps21
  go_wp2_with fail
  refine HC.out.mono ?_
  rintro e X ⟨rfl, hb⟩
  have HB := Lib.hid (hb.alloc hb.size (.cells #[.slice none 0 0, .int .i64 0] 63))
  clear hb
  go_wp2_with fail
  go_ret
  exact ⟨rfl, HB.out⟩
set_option maxRecDepth 100000 in
set_option maxHeartbeats 4000000 in
theorem sync_yes (Q Mb : Nat) (fz : Int) (V : ByteArray → Value) (st : DS) (s : ByteArray) (f : DF) (w : World) (h : PDX w Q Mb fz V st) (hi : Inv st 1000) (hd : st.dead = false) (hl : look st.fs s = some f) :
    Calls Try.prog 21 #[.pointer (some ⟨Q, 0, none⟩), .string s] w fun e w' => e = .returned (.int .i64 (opE st)) ∧ ∃ V' st', PDX w' Q Mb (fzS fz) V' st' ∧ st' = (if opD st then { opS st with fs := modF surely st.fs s } else opS st) ∧ StepF w w' (FS Q Mb V st.fs) (FS Q Mb V' st'.fs) := by
  obtain ⟨S, hS⟩ : ∃ S, (if opD st then { opS st with fs := modF surely st.fs s } else opS st) = S := ⟨_, rfl⟩
  rw [hS]
  have HS := Lib.hid hS
  clear hS
  obtain ⟨hfm, hfn⟩ := look_mem hl
  have hns : s.size ≤ 12 := hfn ▸ h.names f hfm
  have hroom := hi.good.room
  have hused := hi.good.fit
  have hops := hi.ops
  have hfew := hi.few
  have hfsz := used_mem hfm
  have hfs : (opS st).fs = st.fs := opS_fs' st
  have HF := Lib.hid (file_some Q Mb fz V st s f w h hd (by omega) hl)
  have hrow := h.rows f hfm
  rw [hfn] at hrow
  obtain ⟨a, c, hv⟩ := own_slice hrow
  rw [hv] at HF hrow
  have HP := Lib.hid h; have HD := Lib.hid hd; have HROW := Lib.hid hrow; have HV := Lib.hid hv; have HFM := Lib.hid hfm; have HFN := Lib.hid hfn; have HL := Lib.hid hl
  have HFS := Lib.hid hfs; have HMU := Lib.hid (put_mod (g := surely) (s := s) (fun _ => rfl) h.sorted hl)
  obtain ⟨n, hn⟩ : ∃ n, f.bytes.size = n := ⟨_, rfl⟩
  have HN := Lib.hid hn
  rw [hn] at HF
  clear h hi hd hrow hv hfm hfn hl hn hfs
  go_enter Try.func21, Try.ntmps21
  go_wp2_with fail
  refine HF.out.mono ?_
  rintro e X ⟨rfl, hb⟩
  have hbL : Below w.heap.size w (X.alloc (.cells #[.slice a n c, .int .i64 (f.sure : Int)] 63)) := hb.alloc hb.size _
  have hL := heap_alloc_new X (.cells #[.slice a n c, .int .i64 (f.sure : Int)] 63)
  have HBL := Lib.hid hbL; have HLL := Lib.hid hL
  have hXs := hb.size
  clear hb hbL hL
  go_wp2_with fail
  refine (begin_any Q Mb fz V st _ (HP.out.below HBL.out) HD.out (by omega)).mono ?_
  rintro e W2 ⟨rfl, hp2, hg2⟩
  have hQX : X.heap.size ≠ Q := fun e => by have := HP.out.ltQ; omega
  have hL2 := (hg2.block X.heap.size (by simp) (fun e => hQX (Option.some.inj e))).trans HLL.out
  have l0 := cell_block (j := 0) hL2 rfl; have l1 := cell_block (j := 1) hL2 rfl
  have fl1 := free_block 1 hL2
  have s02 : StepF w W2 (FS Q Mb V st.fs) (FS Q Mb V st.fs) := (StepF.below _ HBL.out).trans (step_same (step_q hg2))
  have HS02 := Lib.hid s02
  cases hD : opD st with
  | false =>
    have HQ := Lib.hid (state_op hp2 HD.out rfl)
    have HP2 := Lib.hid hp2
    have hS := HS.out
    rw [hD] at hS
    simp only [Bool.false_eq_true, if_false] at hS
    have HS2 := Lib.hid hS
    clear hS
    clear hp2 hg2 hL2 s02 hD
    go_wp2_with fail
    refine HQ.out.mono ?_
    rintro e W7 ⟨rfl, rfl⟩
    go_wp2_with fail
    go_ret
    exact ⟨rfl, V, _, HP2.out, HS2.out, by rw [HFS.out]; exact HS02.out⟩
  | true =>
    have hS := HS.out
    rw [hD] at hS
    simp only [if_true] at hS
    have HS2 := Lib.hid hS
    clear hS
    have g3 := only_setCell (only_refl W2 (some X.heap.size)) 1 (.int .i64 (n : Int))
    have hp3 : PDX (W2.setCell ⟨X.heap.size, 1, none⟩ (.int .i64 (n : Int))) Q Mb (fzS fz) V (opS st) := hp2.moved (fun k hk => g3.block k (hp2.ltF k hk) (fun e => by
      have e := Option.some.inj e
      rw [HFS.out] at hk
      have := HP.out.ltF k hk
      omega))
    have s03 : StepF w (W2.setCell ⟨X.heap.size, 1, none⟩ (.int .i64 (n : Int))) (FS Q Mb V st.fs) (FS Q Mb V st.fs) := ⟨g3.os.trans s02.os, g3.tape.trans s02.tape, g3.output.trans s02.output, Nat.le_trans s02.size g3.size,
      fun k hk hn => (g3.block k (Nat.lt_of_lt_of_le hk s02.size) (fun e => by have := Option.some.inj e; omega)).trans (s02.block k hk hn), fun _ hk => .inl hk⟩
    have hrow3 : (W2.setCell ⟨X.heap.size, 1, none⟩ (.int .i64 (n : Int))).ownsRow 0 5 1 (.slice a f.bytes.size c) f.bytes.size (strCells f.bytes) := by
      have := hp3.rows f (by rw [HFS.out]; exact HFM.out)
      rw [HFN.out, HV.out] at this
      exact this
    have HPUT := Lib.hid (put_any Q Mb (fzS fz) V (opS st) s f.bytes f.bytes.size (.slice a f.bytes.size c) _ hp3 hns (by rw [HFS.out]; omega) (by rw [opS_room]; exact hroom) (by rw [HFS.out]; omega) hrow3 (by omega) (fun g hg1 hg2 k hk => by
      rw [HFS.out] at hg1
      refine HP.out.apart f HFM.out g hg1 (fun e => hg2 (e.symm.trans HFN.out)) k ?_
      rw [HFN.out, HV.out]
      exact hk))
    rw [HN.out] at HPUT
    have HEND : Hid (∀ W6, PDX W6 Q Mb (fzS fz) (upd V s (.slice a n c)) { opS st with fs := putF (opS st).fs ⟨s, f.bytes, n⟩ } → StepF (W2.setCell ⟨X.heap.size, 1, none⟩ (.int .i64 (n : Int))) W6 (QM Q Mb) (QM Q Mb) →
        ∃ V' st', PDX W6 Q Mb (fzS fz) V' st' ∧ st' = S ∧ StepF w W6 (FS Q Mb V st.fs) (FS Q Mb V' st'.fs)) := Lib.hid (fun W6 h6 s6 => by
      have hm := HMU.out
      have hsf : surely f = ⟨s, f.bytes, n⟩ := by
        obtain ⟨fn, fb, fu⟩ := f
        have h1 := HFN.out; have h2 := HN.out
        dsimp only at h1 h2
        unfold surely
        rw [← h1, ← h2]
      rw [hsf] at hm
      rw [HFS.out, hm] at h6
      refine ⟨upd V s (.slice a n c), _, h6, HS2.out, ?_⟩
      show StepF w W6 _ (FS Q Mb _ (modF surely st.fs s))
      rw [← hm]
      refine step_put (s03.trans (step_same s6)) (fun _ hf => hf) (fun k hk => .inl (.inr (.inr ⟨f, HFM.out, ?_⟩)))
      rw [HFN.out, HV.out, HN.out]
      exact hk)
    clear hp2 hg2 hL2 s02 hD g3 hp3 s03 hrow3
    go_wp2_with fail
    refine HPUT.out.mono ?_
    rintro e W6 ⟨rfl, h6, s6⟩
    have HQ6 := Lib.hid (state_op h6 HD.out rfl)
    have HE6 := Lib.hid (HEND.out W6 h6 s6)
    clear h6 s6
    go_wp2_with fail
    refine HQ6.out.mono ?_
    rintro e W7 ⟨rfl, rfl⟩
    go_wp2_with fail
    go_ret
    exact ⟨rfl, HE6.out⟩
theorem sync_any (Q : Nat) (F : Nat → Prop) (st : DS) (s : ByteArray) (w : World) (h : PD w Q F st) (hi : Inv st 1000) (hs : s.size ≤ 200) :
    Calls Try.prog 21 #[.pointer (some ⟨Q, 0, none⟩), .string s] w fun e w' => e = .returned (.int .i64 (syncE st s)) ∧ ∃ F', PD w' Q F' (syncS st s) ∧ StepF w w' F F' := by
  obtain ⟨Mb, fz, V, hp, rfl⟩ := h
  unfold syncE syncS
  cases hd : st.dead with
  | true =>
    simp only [if_true]
    refine (sync_not _ s 14 w (.inr (.inr rfl)) (file_dead Q Mb fz V st s w hp hd)).mono ?_
    rintro e w' ⟨rfl, hb⟩
    exact ⟨rfl, _, ⟨Mb, fz, V, hp.below hb, rfl⟩, StepF.below _ hb⟩
  | false =>
    simp only [Bool.false_eq_true, if_false]
    cases hl : look st.fs s with
    | none =>
      simp only [Option.isNone_none, if_true]
      refine (sync_not _ s 3 w (.inr (.inl rfl)) (file_none Q Mb fz V st s w hp hd (by omega) hl)).mono ?_
      rintro e w' ⟨rfl, hb⟩
      exact ⟨rfl, _, ⟨Mb, fz, V, hp.below hb, rfl⟩, StepF.below _ hb⟩
    | some f =>
      simp only [Option.isNone_some, Bool.false_eq_true, if_false]
      refine (sync_yes Q Mb fz V st s f w hp hi hd hl).mono ?_
      rintro e w' ⟨rfl, V', st', hp', rfl, hst⟩
      exact ⟨rfl, _, ⟨Mb, fzS fz, V', hp', rfl⟩, hst⟩
end Go.Proofs.Ytflkglnmenbmaaa.Disk.Im
