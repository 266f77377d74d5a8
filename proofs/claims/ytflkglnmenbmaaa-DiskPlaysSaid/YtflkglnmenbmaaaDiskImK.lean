/- The walk over Rename. -/
import Derived.Test.YtflkglnmenbmaaaDiskImI
namespace Go.Proofs.Ytflkglnmenbmaaa.Disk.Im
open Go.RowKit Go.Lib

set_option maxRecDepth 100000 in
set_option maxHeartbeats 2000000 in
/-- Rename, where the state is no OK. -/
theorem rename_state (p : Option Addr) (s t : ByteArray) (er : Int) (w : World) (h0 : er = 1 ∨ er = 14) (hc : Calls Try.prog 35 #[.pointer p] w fun e w' => e = .returned (.int .i64 er) ∧ w = w') :
    Calls Try.prog 25 #[.pointer p, .string s, .string t] w fun e w' => e = .returned (.int .i64 er) ∧ w = w' := by
  have HC := Lib.hid hc
  clear hc
  have hne : ¬ er = 0 := by omega
  have hne2 : (er != 0) = true := by simpa using hne
  have hne3 : (er == 0) = false := by simpa using hne
  clear h0
  go_enter Try.func25, Try.ntmps25
  go_wp2_with fail
  refine HC.out.mono ?_
  rintro e W ⟨rfl, rfl⟩
  go_wp2_with fail
  go_ret
  exact ⟨rfl, rfl⟩
set_option maxRecDepth 100000 in
set_option maxHeartbeats 2000000 in
theorem rename_name (Q Mb : Nat) (fz : Int) (V : ByteArray → Value) (st : DS) (s t : ByteArray) (w : World) (h : PDX w Q Mb fz V st) (hd : st.dead = false) (ht : t.size ≤ 1099511627776) (hn : ¬ isName t) :
    Calls Try.prog 25 #[.pointer (some ⟨Q, 0, none⟩), .string s, .string t] w fun e w' => e = .returned (.int .i64 1) ∧ Below w.heap.size w w' := by
  obtain ⟨q0, q1, q2, q3, q4, q5⟩ := h.q
  rw [hd] at q5
  have HC1 := Lib.hid (state_any Q Mb false w q0 q5)
  have e2 : stE false = 0 := rfl
  rw [e2] at HC1
  have HC2 := Lib.hid (name_any t w (by omega))
  rw [decide_eq_false hn] at HC2
  clear h hn e2 q0 q1 q2 q3 q4 q5
  go_enter Try.func25, Try.ntmps25
  go_wp2_with fail
  refine HC1.out.mono ?_
  rintro e W ⟨rfl, rfl⟩
  go_wp2_with fail
  refine HC2.out.mono ?_
  rintro e W1 ⟨rfl, hb1⟩
  have HB := Lib.hid hb1
  clear hb1
  go_wp2_with fail
  go_ret
  exact ⟨rfl, HB.out⟩
set_option maxRecDepth 100000 in
set_option maxHeartbeats 2000000 in
theorem rename_none (Q Mb : Nat) (fz : Int) (V : ByteArray → Value) (st : DS) (s t : ByteArray) (w : World) (h : PDX w Q Mb fz V st) (hd : st.dead = false) (hs : s.size ≤ 1099511627776) (ht : t.size ≤ 1099511627776) (hn : isName t) (hl : look st.fs s = none) :
    Calls Try.prog 25 #[.pointer (some ⟨Q, 0, none⟩), .string s, .string t] w fun e w' => e = .returned (.int .i64 3) ∧ Below w.heap.size w w' := by
  obtain ⟨q0, q1, q2, q3, q4, q5⟩ := h.q
  rw [hd] at q5
  have HC1 := Lib.hid (state_any Q Mb false w q0 q5)
  have e2 : stE false = 0 := rfl
  rw [e2] at HC1
  have HC2 := Lib.hid (name_any t w (by omega))
  rw [decide_eq_true hn] at HC2
  have HF := Lib.hid (fun (W1 : World) (hb : Below w.heap.size w W1) => file_none Q Mb fz V st s W1 (h.below hb) hd hs hl)
  clear h hn e2 q0 q1 q2 q3 q4 q5 hl
  go_enter Try.func25, Try.ntmps25
  go_wp2_with fail
  refine HC1.out.mono ?_
  rintro e W ⟨rfl, rfl⟩
  go_wp2_with fail
  refine HC2.out.mono ?_
  rintro e W1 ⟨rfl, hb1⟩
  have HB := Lib.hid hb1
  clear hb1
  go_wp2_with fail
  refine (HF.out W1 HB.out).mono ?_
  rintro e X ⟨rfl, hb2⟩
  have hb3 := below_then HB.out hb2
  have HB3 := Lib.hid (hb3.alloc hb3.size (.cells #[.slice none 0 0, .int .i64 0] 63))
  clear hb2 hb3
  go_wp2_with fail
  go_ret
  exact ⟨rfl, HB3.out⟩
set_option maxRecDepth 100000 in
set_option maxHeartbeats 4000000 in
theorem rename_yes (Q Mb : Nat) (fz : Int) (V : ByteArray → Value) (st : DS) (s t : ByteArray) (f : DF) (w : World) (h : PDX w Q Mb fz V st) (hi : Inv st 1000) (hd : st.dead = false) (hn : isName t) (hl : look st.fs s = some f) :
    Calls Try.prog 25 #[.pointer (some ⟨Q, 0, none⟩), .string s, .string t] w fun e w' => e = .returned (.int .i64 (opE st)) ∧ ∃ V' st', PDX w' Q Mb (fzS fz) V' st' ∧ st' = (if opD st then { opS st with fs := putF (takeF st.fs s) (called t f) } else opS st) ∧ StepF w w' (FS Q Mb V st.fs) (FS Q Mb V' st'.fs) := by
  obtain ⟨S, hS⟩ : ∃ S, (if opD st then { opS st with fs := putF (takeF st.fs s) (called t f) } else opS st) = S := ⟨_, rfl⟩
  rw [hS]
  have HS := Lib.hid hS
  clear hS
  obtain ⟨hfm, hfn⟩ := look_mem hl
  have hns : s.size ≤ 12 := hfn ▸ h.names f hfm
  have hnt := hn.2.2
  have hroom := hi.good.room
  have hused := hi.good.fit
  have hops := hi.ops
  have hfew := hi.few
  have hfsz := used_mem hfm
  have hfs : (opS st).fs = st.fs := opS_fs' st
  obtain ⟨q0, q1, q2, q3, q4, q5⟩ := h.q
  rw [hd] at q5
  have HC1 := Lib.hid (state_any Q Mb false w q0 q5)
  have e2 : stE false = 0 := rfl
  rw [e2] at HC1
  have HC2 := Lib.hid (name_any t w (by omega))
  rw [decide_eq_true hn] at HC2
  have hrow := h.rows f hfm
  rw [hfn] at hrow
  obtain ⟨a, c, hv⟩ := own_slice hrow
  have hFi : ∀ W1 : World, Below w.heap.size w W1 → Calls Try.prog 40 #[.pointer (some ⟨Q, 0, none⟩), .string s] W1 fun e w' => e = .returned (.tuple #[.agg #[.slice a f.bytes.size c, .int .i64 (f.sure : Int)], .int .i64 0]) ∧ Below W1.heap.size W1 w' := fun W1 hb => by
    have := file_some Q Mb fz V st s f W1 (h.below hb) hd (by omega) hl
    rw [hv] at this
    exact this
  have HP := Lib.hid h; have HD := Lib.hid hd; have HV := Lib.hid hv; have HFM := Lib.hid hfm; have HFN := Lib.hid hfn; have HFS := Lib.hid hfs
  obtain ⟨n, hnn⟩ : ∃ n, f.bytes.size = n := ⟨_, rfl⟩
  have HN := Lib.hid hnn
  rw [hnn] at hFi
  have HF := Lib.hid hFi
  clear h hi hd hrow hv hfm hfn hl hnn hfs hFi hn e2 q0 q1 q2 q3 q4 q5
  go_enter Try.func25, Try.ntmps25
  go_wp2_with fail
  refine HC1.out.mono ?_
  rintro e W ⟨rfl, rfl⟩
  go_wp2_with fail
  refine HC2.out.mono ?_
  rintro e W1 ⟨rfl, hb1⟩
  have HB := Lib.hid hb1
  clear hb1
  go_wp2_with fail
  refine (HF.out W1 HB.out).mono ?_
  rintro e X ⟨rfl, hbx⟩
  have hb := below_then HB.out hbx
  have hbL : Below w.heap.size w (X.alloc (.cells #[.slice a n c, .int .i64 (f.sure : Int)] 63)) := hb.alloc hb.size _
  have hL := heap_alloc_new X (.cells #[.slice a n c, .int .i64 (f.sure : Int)] 63)
  have HBL := Lib.hid hbL; have HLL := Lib.hid hL
  have hXs := hb.size
  clear hb hbx hbL hL
  go_wp2_with fail
  refine (begin_any Q Mb fz V st _ (HP.out.below HBL.out) HD.out (by omega)).mono ?_
  rintro e W2 ⟨rfl, hp2, hg2⟩
  have hQX : X.heap.size ≠ Q := fun e => by have := HP.out.ltQ; omega
  have hL2 := (hg2.block X.heap.size (by simp) (fun e => hQX (Option.some.inj e))).trans HLL.out
  have s02 : StepF w W2 (FS Q Mb V st.fs) (FS Q Mb V st.fs) := (StepF.below _ HBL.out).trans (step_same (step_q hg2))
  have HS02 := Lib.hid s02
  cases hD : opD st with
  | false =>
    have HQ := Lib.hid (state_op hp2 HD.out rfl)
    have HP2 := Lib.hid hp2
    have hS := HS.out
    rw [hD] at hS
    simp only [Bool.false_eq_true, if_false] at hS
    have HS2 := Lib.hid hS
    clear hS hp2 hg2 hL2 s02 hD
    go_wp2_with fail
    refine HQ.out.mono ?_
    rintro e W7 ⟨rfl, rfl⟩
    go_wp2_with fail
    go_ret
    exact ⟨rfl, V, _, HP2.out, HS2.out, by rw [HFS.out]; exact HS02.out⟩
  | true =>
    have hS := HS.out
    rw [hD] at hS
    simp only [if_true] at hS
    have HS2 := Lib.hid hS
    have HDR := Lib.hid (drop_any Q Mb (fzS fz) V (opS st) s W2 hp2 (by omega) (by rw [HFS.out]; omega) (by rw [opS_room]; exact hroom))
    have HP2 := Lib.hid hp2; have HL2 := Lib.hid hL2
    clear hS hp2 hg2 hL2 s02 hD
    go_wp2_with fail
    refine HDR.out.mono ?_
    rintro e W3 ⟨rfl, hp3, s3⟩
    have hMX : X.heap.size ≠ Mb := fun e => by have := HP.out.ltM; omega
    have hL3 := (s3.block X.heap.size (Array.getElem?_eq_some_iff.1 HL2.out).1 (fun e => e.elim hQX hMX)).trans HL2.out
    have l0 := cell_block (j := 0) hL3 rfl; have l1 := cell_block (j := 1) hL3 rfl
    have hrow2 := HP2.out.rows f (by rw [HFS.out]; exact HFM.out)
    rw [HFN.out, HV.out] at hrow2
    have hown2 := HP2.out.own_ne hrow2
    have hrow3 : W3.ownsRow 0 5 1 (.slice a f.bytes.size c) f.bytes.size (strCells f.bytes) := own_moved hrow2 (fun k hk => s3.block k (hrow2.lt k hk).2 (fun e => by
      rcases e with e | e
      · exact hown2.1 (e ▸ hk)
      · exact hown2.2 (e ▸ hk)))
    have s03 : StepF w W3 (FS Q Mb V st.fs) (FS Q Mb V st.fs) := HS02.out.trans (step_same s3)
    have hut := used_take st.fs s
    have hlt : (takeF st.fs s).length ≤ st.fs.length := List.length_filter_le _ _
    have HPUT := Lib.hid (put_any Q Mb (fzS fz) V { opS st with fs := takeF (opS st).fs s } t f.bytes f.sure (.slice a f.bytes.size c) W3 hp3 hnt (by dsimp only; rw [HFS.out]; omega) (by show (opS st).room ≤ _; rw [opS_room]; exact hroom) (by dsimp only; rw [HFS.out]; omega) hrow3 (by omega) (fun g hg1 hg2 k hk => by
      have hg1 : g ∈ takeF st.fs s := by rw [← HFS.out]; exact hg1
      refine HP.out.apart f HFM.out g (List.mem_filter.1 hg1).1 (fun e => takeF_ne g hg1 (e.symm.trans HFN.out)) k ?_
      rw [HFN.out, HV.out]
      exact hk))
    rw [HN.out] at HPUT
    have HEND : Hid (∀ W6, PDX W6 Q Mb (fzS fz) (upd V t (.slice a n c)) { opS st with fs := putF (takeF (opS st).fs s) ⟨t, f.bytes, f.sure⟩ } → StepF W3 W6 (QM Q Mb) (QM Q Mb) →
        ∃ V' st', PDX W6 Q Mb (fzS fz) V' st' ∧ st' = S ∧ StepF w W6 (FS Q Mb V st.fs) (FS Q Mb V' st'.fs)) := Lib.hid (fun W6 h6 s6 => by
      rw [HFS.out] at h6
      refine ⟨upd V t (.slice a n c), _, h6, HS2.out, ?_⟩
      show StepF w W6 _ (FS Q Mb _ (putF (takeF st.fs s) ⟨t, f.bytes, f.sure⟩))
      refine step_put (s03.trans (step_same s6)) (fun g hg => (List.mem_filter.1 hg).1) (fun k hk => .inl (.inr (.inr ⟨f, HFM.out, ?_⟩)))
      rw [HFN.out, HV.out, HN.out]
      exact hk)
    clear hp3 s3 hL3 hrow2 hrow3 s03 hut hlt hown2
    go_wp2_with fail
    refine HPUT.out.mono ?_
    rintro e W6 ⟨rfl, h6, s6⟩
    have HQ6 := Lib.hid (state_op h6 HD.out rfl)
    have HE6 := Lib.hid (HEND.out W6 h6 s6)
    clear h6 s6
    go_wp2_with fail
    refine HQ6.out.mono ?_
    rintro e W7 ⟨rfl, rfl⟩
    go_wp2_with fail
    go_ret
    exact ⟨rfl, HE6.out⟩
theorem rename_any (Q : Nat) (F : Nat → Prop) (st : DS) (s t : ByteArray) (w : World) (h : PD w Q F st) (hi : Inv st 1000) (hs : s.size ≤ 200) (ht : t.size ≤ 200) :
    Calls Try.prog 25 #[.pointer (some ⟨Q, 0, none⟩), .string s, .string t] w fun e w' => e = .returned (.int .i64 (renE st s t)) ∧ ∃ F', PD w' Q F' (renS st s t) ∧ StepF w w' F F' := by
  obtain ⟨Mb, fz, V, hp, rfl⟩ := h
  unfold renE renS
  cases hd : st.dead with
  | true =>
    simp only [if_true]
    have hc := state_any Q Mb st.dead w hp.q.1 hp.q.2.2.2.2.2
    rw [hd] at hc
    refine (rename_state _ s t 14 w (.inr rfl) hc).mono ?_
    rintro e w' ⟨rfl, rfl⟩
    exact ⟨rfl, _, ⟨Mb, fz, V, hp, rfl⟩, StepF.refl _ _⟩
  | false =>
    simp only [Bool.false_eq_true, if_false]
    by_cases hn : isName t
    · rw [if_neg (not_not_intro hn), if_neg (not_not_intro hn)]
      cases hl : look st.fs s with
      | none =>
        simp only [Option.isNone_none, if_true]
        refine (rename_none Q Mb fz V st s t w hp hd (by omega) (by omega) hn hl).mono ?_
        rintro e w' ⟨rfl, hb⟩
        exact ⟨rfl, _, ⟨Mb, fz, V, hp.below hb, rfl⟩, StepF.below _ hb⟩
      | some f =>
        simp only [Option.isNone_some, Bool.false_eq_true, if_false]
        have hfo : fileOf st s = f := by unfold fileOf; rw [hl]; rfl
        rw [hfo]
        refine (rename_yes Q Mb fz V st s t f w hp hi hd hn hl).mono ?_
        rintro e w' ⟨rfl, V', st', hp', rfl, hst⟩
        exact ⟨rfl, _, ⟨Mb, fzS fz, V', hp', rfl⟩, hst⟩
    · rw [if_pos hn, if_pos hn]
      refine (rename_name Q Mb fz V st s t w hp hd (by omega) hn).mono ?_
      rintro e w' ⟨rfl, hb'⟩
      exact ⟨rfl, _, ⟨Mb, fz, V, hp.below hb', rfl⟩, StepF.below _ hb'⟩
end Go.Proofs.Ytflkglnmenbmaaa.Disk.Im
