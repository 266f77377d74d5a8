/- The walk over Cut. -/
import Derived.Test.YtflkglnmenbmaaaDiskImI
namespace Go.Proofs.Ytflkglnmenbmaaa.Disk.Im
open Go.RowKit Go.Lib

set_option maxRecDepth 100000 in
set_option maxHeartbeats 2000000 in
/-- Cut, where file answers no file. -/
theorem cut_not (p : Option Addr) (s : ByteArray) (n : Int) (er : Int) (w : World) (h0 : er = 1 ∨ er = 3 ∨ er = 14) (hc : Calls Try.prog 40 #[.pointer p, .string s] w fun e w' => e = .returned (.tuple #[zeroFile, .int .i64 er]) ∧ Below w.heap.size w w') :
    Calls Try.prog 26 #[.pointer p, .string s, .int .i64 n] w fun e w' => e = .returned (.int .i64 er) ∧ Below w.heap.size w w' := by
  have HC := Lib.hid hc
  clear hc
  have hne : ¬ er = 0 := by omega
  have hne2 : (er != 0) = true := by simpa using hne
  have hne3 : (er == 0) = false := by simpa using hne
  clear h0
  go_enter Try.func26, Try.ntmps26
  go_wp2_with fail
  refine HC.out.mono ?_
  rintro e X ⟨rfl, hb⟩
  have HB := Lib.hid (hb.alloc hb.size (.cells #[.slice none 0 0, .int .i64 0] 63))
  clear hb
  go_wp2_with fail
  go_ret
  exact ⟨rfl, HB.out⟩
set_option maxRecDepth 100000 in
set_option maxHeartbeats 2000000 in
theorem cut_bad (Q Mb : Nat) (fz : Int) (V : ByteArray → Value) (st : DS) (s : ByteArray) (k : Int) (f : DF) (w : World) (h : PDX w Q Mb fz V st) (hd : st.dead = false) (hs : s.size ≤ 1099511627776) (hl : look st.fs s = some f) (hk : k < 0 ∨ (f.bytes.size : Int) < k) :
    Calls Try.prog 26 #[.pointer (some ⟨Q, 0, none⟩), .string s, .int .i64 k] w fun e w' => e = .returned (.int .i64 1) ∧ Below w.heap.size w w' := by
  obtain ⟨hfm, hfn⟩ := look_mem hl
  have HF := Lib.hid (file_some Q Mb fz V st s f w h hd hs hl)
  have hrow := h.rows f hfm
  rw [hfn] at hrow
  obtain ⟨a, c, hv⟩ := own_slice hrow
  obtain ⟨n, hn⟩ : ∃ n, f.bytes.size = n := ⟨_, rfl⟩
  rw [hv, hn] at HF
  rw [hn] at hk
  clear h hd hrow hv hfm hfn hl hn
  rcases hk with hk | hk
  · go_enter Try.func26, Try.ntmps26
    go_wp2_with fail
    refine HF.out.mono ?_
    rintro e X ⟨rfl, hb⟩
    have HB := Lib.hid (hb.alloc hb.size (.cells #[.slice a n c, .int .i64 (f.sure : Int)] 63))
    clear hb
    go_wp2_with fail
    go_ret
    exact ⟨rfl, HB.out⟩
  · have hk0 : ¬ k < 0 := by omega
    go_enter Try.func26, Try.ntmps26
    go_wp2_with fail
    refine HF.out.mono ?_
    rintro e X ⟨rfl, hb⟩
    have HB := Lib.hid (hb.alloc hb.size (.cells #[.slice a n c, .int .i64 (f.sure : Int)] 63))
    clear hb
    go_wp2_with fail
    go_ret
    exact ⟨rfl, HB.out⟩
set_option maxRecDepth 100000 in
set_option maxHeartbeats 4000000 in
theorem cut_yes (Q Mb : Nat) (fz : Int) (V : ByteArray → Value) (st : DS) (s : ByteArray) (k : Nat) (f : DF) (w : World) (h : PDX w Q Mb fz V st) (hi : Inv st 1000) (hd : st.dead = false) (hl : look st.fs s = some f) (hk : k ≤ f.bytes.size) :
    Calls Try.prog 26 #[.pointer (some ⟨Q, 0, none⟩), .string s, .int .i64 (k : Int)] w fun e w' => e = .returned (.int .i64 (opE st)) ∧ ∃ V' st', PDX w' Q Mb (fzS fz) V' st' ∧ st' = (if opD st then { opS st with fs := modF (shorter k) st.fs s } else opS st) ∧ StepF w w' (FS Q Mb V st.fs) (FS Q Mb V' st'.fs) := by
  obtain ⟨S, hS⟩ : ∃ S, (if opD st then { opS st with fs := modF (shorter k) st.fs s } else opS st) = S := ⟨_, rfl⟩
  rw [hS]
  have HS := Lib.hid hS
  clear hS
  obtain ⟨hfm, hfn⟩ := look_mem hl
  have hns : s.size ≤ 12 := hfn ▸ h.names f hfm
  have hroom := hi.good.room
  have hused := hi.good.fit
  have hops := hi.ops
  have hfew := hi.few
  have hfsz := used_mem hfm
  have hsu := hi.good.sure f hfm
  have hkb := hk
  have hfs : (opS st).fs = st.fs := opS_fs' st
  have HF := Lib.hid (file_some Q Mb fz V st s f w h hd (by omega) hl)
  have hrow := h.rows f hfm
  rw [hfn] at hrow
  obtain ⟨a, c, hv⟩ := own_slice hrow
  rw [hv] at HF hrow
  have HP := Lib.hid h; have HD := Lib.hid hd; have HROW := Lib.hid hrow; have HV := Lib.hid hv; have HFM := Lib.hid hfm; have HFN := Lib.hid hfn; have HL := Lib.hid hl
  have HFS := Lib.hid hfs; have HMU := Lib.hid (put_mod (g := (shorter k)) (s := s) (fun _ => rfl) h.sorted hl)
  obtain ⟨n, hn⟩ : ∃ n, f.bytes.size = n := ⟨_, rfl⟩
  have HN := Lib.hid hn
  rw [hn] at HF hk
  have hk0 : ¬ (k : Int) < 0 := by omega
  have hk1 : ¬ (n : Int) < (k : Int) := by omega
  clear h hi hd hrow hv hfm hfn hl hn hfs
  go_enter Try.func26, Try.ntmps26
  go_wp2_with fail
  refine HF.out.mono ?_
  rintro e X ⟨rfl, hb⟩
  have hbL : Below w.heap.size w (X.alloc (.cells #[.slice a n c, .int .i64 (f.sure : Int)] 63)) := hb.alloc hb.size _
  have hL := heap_alloc_new X (.cells #[.slice a n c, .int .i64 (f.sure : Int)] 63)
  have HBL := Lib.hid hbL; have HLL := Lib.hid hL
  have hXs := hb.size
  clear hb hbL hL
  go_wp2_with fail
  refine (begin_any Q Mb fz V st _ (HP.out.below HBL.out) HD.out (by omega)).mono ?_
  rintro e W2 ⟨rfl, hp2, hg2⟩
  have hQX : X.heap.size ≠ Q := fun e => by have := HP.out.ltQ; omega
  have hL2 := (hg2.block X.heap.size (by simp) (fun e => hQX (Option.some.inj e))).trans HLL.out
  have l0 := cell_block (j := 0) hL2 rfl; have l1 := cell_block (j := 1) hL2 rfl
  have fl1 := free_block 1 hL2
  have s02 : StepF w W2 (FS Q Mb V st.fs) (FS Q Mb V st.fs) := (StepF.below _ HBL.out).trans (step_same (step_q hg2))
  have HS02 := Lib.hid s02
  cases hD : opD st with
  | false =>
    have HQ := Lib.hid (state_op hp2 HD.out rfl)
    have HP2 := Lib.hid hp2
    have hS := HS.out
    rw [hD] at hS
    simp only [Bool.false_eq_true, if_false] at hS
    have HS2 := Lib.hid hS
    clear hS
    clear hp2 hg2 hL2 s02 hD
    go_wp2_with fail
    refine HQ.out.mono ?_
    rintro e W7 ⟨rfl, rfl⟩
    go_wp2_with fail
    go_ret
    exact ⟨rfl, V, _, HP2.out, HS2.out, by rw [HFS.out]; exact HS02.out⟩
  | true =>
    have hS := HS.out
    rw [hD] at hS
    simp only [if_true] at hS
    have HS2 := Lib.hid hS
    clear hS
    have hrow2 := hp2.rows f (by rw [HFS.out]; exact HFM.out)
    rw [HFN.out, HV.out] at hrow2
    have HFI := Lib.hid (first_any a c f.bytes f.sure k W2 0 hrow2 (by omega) hsu hkb)
    rw [HN.out] at HFI
    have HP2 := Lib.hid hp2
    clear hp2 hg2 hL2 s02 hD hrow2
    go_wp2_with fail
    refine HFI.out.mono ?_
    rintro e W3 ⟨v, rfl, hrow3, hb3⟩
    obtain ⟨a', c', rfl⟩ := own_slice hrow3
    have hp3 := HP2.out.below hb3
    have s03 : StepF w W3 (FS Q Mb V st.fs) (FS Q Mb V st.fs) := HS02.out.trans (StepF.below _ hb3)
    have hes : (f.bytes.extract 0 k).size = k := extract_size f.bytes k hkb
    have hrow30 : W3.ownsRow 0 5 1 (.slice a' (f.bytes.extract 0 k).size c') (f.bytes.extract 0 k).size (strCells (f.bytes.extract 0 k)) := by
      rw [hes]
      exact World.ownsRow.mono hrow3 (Nat.zero_le _)
    have hnew : ∀ j, (Value.slice a' k c').ownBlock = some j → W2.heap.size ≤ j := fun j hj => (hrow3.lt j hj).1
    have hltF : ∀ j, FS Q Mb V (opS st).fs j → j < W2.heap.size := HP2.out.ltF
    have HPUT := Lib.hid (put_any Q Mb (fzS fz) V (opS st) s (f.bytes.extract 0 k) (min f.sure k) (.slice a' (f.bytes.extract 0 k).size c') _ hp3 hns (by rw [HFS.out]; omega) (by rw [opS_room]; exact hroom) (by rw [HFS.out]; omega) hrow30 (by omega) (fun g hg1 hg2 j hj hj2 => by
      have h1 := hnew j (by rw [hes] at hj; exact hj)
      have h2 := hltF j (.inr (.inr ⟨g, hg1, hj2⟩))
      omega))
    rw [hes] at HPUT
    have HEND : Hid (∀ W6, PDX W6 Q Mb (fzS fz) (upd V s (.slice a' k c')) { opS st with fs := putF (opS st).fs ⟨s, f.bytes.extract 0 k, min f.sure k⟩ } → StepF W3 W6 (QM Q Mb) (QM Q Mb) →
        ∃ V' st', PDX W6 Q Mb (fzS fz) V' st' ∧ st' = S ∧ StepF w W6 (FS Q Mb V st.fs) (FS Q Mb V' st'.fs)) := Lib.hid (fun W6 h6 s6 => by
      have hm := HMU.out
      have hsf : shorter k f = ⟨s, f.bytes.extract 0 k, min f.sure k⟩ := by
        obtain ⟨fn, fb, fu⟩ := f
        have h1 := HFN.out
        dsimp only at h1
        unfold shorter
        rw [← h1]
      rw [hsf] at hm
      rw [HFS.out, hm] at h6
      refine ⟨upd V s (.slice a' k c'), _, h6, HS2.out, ?_⟩
      show StepF w W6 _ (FS Q Mb _ (modF (shorter k) st.fs s))
      rw [← hm]
      exact step_put (s03.trans (step_same s6)) (fun _ hf => hf) (fun j hj => .inr (Nat.le_trans HS02.out.size (hnew j hj))))
    clear hp3 s03 hrow3 hrow30 hb3 hnew hltF
    go_wp2_with fail
    refine HPUT.out.mono ?_
    rintro e W6 ⟨rfl, h6, s6⟩
    have HQ6 := Lib.hid (state_op h6 HD.out rfl)
    have HE6 := Lib.hid (HEND.out W6 h6 s6)
    clear h6 s6
    go_wp2_with fail
    refine HQ6.out.mono ?_
    rintro e W7 ⟨rfl, rfl⟩
    go_wp2_with fail
    go_ret
    exact ⟨rfl, HE6.out⟩
theorem cut_any (Q : Nat) (F : Nat → Prop) (st : DS) (s : ByteArray) (n : Int) (w : World) (h : PD w Q F st) (hi : Inv st 1000) (hs : s.size ≤ 200) (hn : -9223372036854775808 ≤ n ∧ n ≤ 9223372036854775807) :
    Calls Try.prog 26 #[.pointer (some ⟨Q, 0, none⟩), .string s, .int .i64 n] w fun e w' => e = .returned (.int .i64 (cutE st s n)) ∧ ∃ F', PD w' Q F' (cutS st s n) ∧ StepF w w' F F' := by
  obtain ⟨Mb, fz, V, hp, rfl⟩ := h
  unfold cutE cutS
  cases hd : st.dead with
  | true =>
    simp only [if_true]
    refine (cut_not _ s n 14 w (.inr (.inr rfl)) (file_dead Q Mb fz V st s w hp hd)).mono ?_
    rintro e w' ⟨rfl, hb⟩
    exact ⟨rfl, _, ⟨Mb, fz, V, hp.below hb, rfl⟩, StepF.below _ hb⟩
  | false =>
    simp only [Bool.false_eq_true, if_false]
    cases hl : look st.fs s with
    | none =>
      simp only [Option.isNone_none, if_true]
      refine (cut_not _ s n 3 w (.inr (.inl rfl)) (file_none Q Mb fz V st s w hp hd (by omega) hl)).mono ?_
      rintro e w' ⟨rfl, hb⟩
      exact ⟨rfl, _, ⟨Mb, fz, V, hp.below hb, rfl⟩, StepF.below _ hb⟩
    | some f =>
      simp only [Option.isNone_some, Bool.false_eq_true, if_false]
      have hfo : fileOf st s = f := by unfold fileOf; rw [hl]; rfl
      by_cases hb : badCut st s n
      · rw [if_pos hb, if_pos hb]
        unfold badCut at hb
        rw [hfo] at hb
        refine (cut_bad Q Mb fz V st s n f w hp hd (by omega) hl hb).mono ?_
        rintro e w' ⟨rfl, hb'⟩
        exact ⟨rfl, _, ⟨Mb, fz, V, hp.below hb', rfl⟩, StepF.below _ hb'⟩
      · rw [if_neg hb, if_neg hb]
        unfold badCut at hb
        rw [hfo] at hb
        obtain ⟨k, rfl⟩ : ∃ k : Nat, n = (k : Int) := ⟨n.toNat, by omega⟩
        refine (cut_yes Q Mb fz V st s k f w hp hi hd hl (by omega)).mono ?_
        rintro e w' ⟨rfl, V', st', hp', rfl, hst⟩
        exact ⟨rfl, _, ⟨Mb, fzS fz, V', hp', rfl⟩, hst⟩
end Go.Proofs.Ytflkglnmenbmaaa.Disk.Im
