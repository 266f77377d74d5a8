/- The walks over Append, Sync, Cut, Rename of the document's disk. -/
import Derived.Test.YtflkglnmenbmaaaDiskD
import Derived.Deep.RegionWith
import Derived.Deep.QuietTactic
import Derived.Test.YtflkglnmenbmaaaSame
namespace Go.Proofs.Ytflkglnmenbmaaa.Disk
open Go.RowKit Go.Lib

theorem ret_e {a b : Int} (h : a = b) : Ending.returned (.int .i64 a) = .returned (.int .i64 b) := by rw [h]
theorem look_pos {l : List DF} {s : ByteArray} : (∃ k f, pos l s = some k ∧ l[k]? = some f ∧ f.name = s ∧ look l s = some f ∧ ∀ g, modF g l s = l.set k (g f)) ∨ (pos l s = none ∧ look l s = none) := by
  cases h : pos l s with
  | none => exact .inr ⟨rfl, (pos_none h).1⟩
  | some k =>
    obtain ⟨f, h1, h2, h3, h4⟩ := pos_some h
    exact .inl ⟨k, f, rfl, h1, h2, h3, h4⟩
theorem fileOf_some {st : DS} {s : ByteArray} {f : DF} (h : look st.fs s = some f) : fileOf st s = f := by unfold fileOf; rw [h]; rfl
theorem fileOf_none {st : DS} {s : ByteArray} (h : look st.fs s = none) : fileOf st s = ⟨s, ⟨#[]⟩, 0⟩ := by unfold fileOf; rw [h]; rfl
theorem Good.grow {st : DS} (h : Good st) (s b : ByteArray) (hb : usedF st.fs + b.size ≤ st.room) (hf : st.fs.length ≤ st.ops) : Good (put st (grown (fileOf st s) b)) := by
  have hname : (grown (fileOf st s) b).name = s := by
    unfold grown
    cases hl : look st.fs s with
    | none => rw [fileOf_none hl]
    | some f => rw [fileOf_some hl]; exact (look_mem hl).2
  have hu := used_take st.fs s
  have hsz : (grown (fileOf st s) b).bytes.size = sizeAt st.fs s + b.size := by
    unfold grown
    cases hl : look st.fs s with
    | none => rw [fileOf_none hl, ByteArray.size_append, sizeAt_none hl]; rfl
    | some f => rw [fileOf_some hl, ByteArray.size_append, sizeAt_some hl]
  have hsure : (grown (fileOf st s) b).sure ≤ (grown (fileOf st s) b).bytes.size := by
    unfold grown
    cases hl : look st.fs s with
    | none => rw [fileOf_none hl]; exact Nat.zero_le _
    | some f =>
      rw [fileOf_some hl, ByteArray.size_append]
      have := h.sure f (look_mem hl).1
      simp only
      omega
  refine ⟨h.room, ?_, fun x hx => ?_, ?_, h.last⟩
  · show usedF (putF st.fs _) ≤ st.room
    unfold putF
    rw [used_ins, hname, hsz]
    omega
  · rcases mem_ins hx with rfl | hx
    · exact hsure
    · exact h.sure x (List.mem_filter.1 hx).1
  · show (putF st.fs _).length ≤ st.ops + 1
    unfold putF
    rw [ins_length]
    have : (takeF st.fs (grown (fileOf st s) b).name).length ≤ st.fs.length := List.length_filter_le _ _
    omega
theorem Step.app {w w1 w2 : World} {Q : Nat} {v v1 : Value} (h : Step w w1 Q v v1) (hb : Below w1.heap.size w1 w2) : Step w w2 Q v v1 := h.trans (step_below Q v1 hb)
set_option maxRecDepth 100000 in
set_option maxHeartbeats 2000000 in
theorem append_any (Q : Nat) (v : Value) (st : DS) (s b : ByteArray) (w : World) (h : RD w Q v st) (ho : st.ops + 1 ≤ 1048576) (hf : st.fs.length ≤ st.ops) (hs : s.size ≤ maxLen) (hb : b.size ≤ maxLen) :
    Calls Try.prog 27 #[.pointer (some ⟨Q, 0, none⟩), .string s, .string b] w fun e w' => e = .returned (.int .i64 (appE st s b)) ∧ ∃ v', RD w' Q v' (appS st s b) ∧ Step w w' Q v v' := by
  have q5 := cell_block (j := 5) h.block rfl
  have q1 := cell_block (j := 1) h.block rfl
  have HD := Lib.hid h
  have HN := Lib.hid (fun W => name_any s W hs)
  unfold maxLen at hb
  have hroom := h.good.room; have hfit := h.good.fit
  cases hd : st.dead with
  | true =>
    have hE : appE st s b = 14 := by unfold appE; rw [hd]; rfl
    have hS : appS st s b = st := by unfold appS; rw [hd]; rfl
    rw [hE, hS]
    rw [hd] at q5
    clear hE hS h hroom hfit
    go_enter Try.func27, Try.ntmps27
    go_wp2_with fail
    go_ret
    exact ⟨rfl, v, HD.out, Step.refl _ _ _⟩
  | false =>
    rw [hd] at q5
    by_cases hname : isName s
    · have HU : Hid (∀ n, Calls Try.prog 14 #[.pointer (some ⟨Q, 0, none⟩)] (w.drewN n) fun e w' => e = .returned (.int .i64 (usedF st.fs : Nat)) ∧ ∃ m, w' = w.drewN m) := Lib.hid (fun n => by
        have hu := used_any Q v st (w.drewN n) (HD.out.below (drewN_below w n)) (by omega)
        rw [show used st = usedF st.fs by unfold used; rw [hd]; rfl] at hu
        exact quiet_same hu)
      obtain ⟨u, hu⟩ : ∃ u, usedF st.fs = u := ⟨_, rfl⟩
      rw [hu] at hfit HU
      rw [decide_eq_true hname] at HN
      by_cases hfull : st.room < u + b.size
      · have hE : appE st s b = 4 := by unfold appE; rw [hd, hu, if_neg (by simp), if_neg (by simpa using hname), if_pos hfull]
        have hS : appS st s b = st := by unfold appS; rw [hd, hu, if_neg (by simp), if_neg (by simpa using hname), if_pos hfull]
        rw [hE, hS]
        clear hE hS h
        have hc : decide ((st.room : Int) - (u : Int) < (b.size : Int)) = true := by simp; omega
        go_enter Try.func27, Try.ntmps27
        go_wp2_with fail
        refine (HN.out _).mono ?_
        rintro e w' ⟨rfl, rfl⟩
        go_wp2_with fail
        go_quiet (first | (go_at_call 14; exact HU.out _))
        go_wp2_with fail
        go_ret
        exact ⟨rfl, v, HD.out.below (drewN_below w _), step_below Q v (drewN_below w _)⟩
      · have hE : appE st s b = opE (put st (grown (fileOf st s) b)) := by unfold appE; rw [hd, hu, if_neg (by simp), if_neg (by simpa using hname), if_neg hfull]; rfl
        have hS : appS st s b = opS (put st (grown (fileOf st s) b)) := by unfold appS; rw [hd, hu, if_neg (by simp), if_neg (by simpa using hname), if_neg hfull]
        have hG := h.good.grow s b (by omega) hf
        rw [hE, hS]
        have hc : decide ((st.room : Int) - (u : Int) < (b.size : Int)) = false := by simp; omega
        have hblk := h.block
        rcases look_pos (l := st.fs) (s := s) with ⟨k, f0, hp, hfk, hfn0, hl, _⟩ | ⟨hp, hl⟩
        · rw [fileOf_some hl] at hG ⊢
          obtain ⟨a, cap, rfl, hcap, _, hrow⟩ := h.rowed
          obtain ⟨g, rfl, hgl, _, c0, c1, c2⟩ := hrow k f0 hfk
          obtain ⟨f, hff⟩ : ∃ f, grown f0 b = f := ⟨_, rfl⟩
          have hfn : f.name = s := by rw [← hff]; exact hfn0
          have hfb : f0.bytes ++ b = f.bytes := by rw [← hff]; rfl
          have hfs : f.sure = f0.sure := by rw [← hff]; rfl
          rw [hfn0] at c0
          have hkn : k < st.fs.length := (List.getElem?_eq_some_iff.1 hfk).1
          have hno : ¬ 9223372036854775807 < f0.bytes.size + b.size := by
            have := used_mem (look_mem hl).1
            omega
          obtain ⟨n, hn⟩ : ∃ n, st.fs.length = n := ⟨_, rfl⟩
          rw [hn] at hcap hkn hblk
          have HBlk := Lib.hid hblk
          have hQl := h.lt
          rw [hff] at hG ⊢
          have HPut := Lib.hid (fun (v : Value) (W : World) (hR : RD W Q v st) => put_any Q v st f W hR (by omega) hG)
          rw [hfn, hfs] at HPut
          have hgo : (put st f).ops ≤ 1048576 := by show st.ops ≤ _; omega
          have HGO := Lib.hid hgo; have HP := Lib.hid (posZ_some hp)
          clear hE hS hG hff h hl hp hblk hgo hfn hfs hrow hn hfk hfn0 q5 q1
          have q5 : w.cell? ⟨Q, 5, none⟩ = some (.bool false) := by have := cell_block (j := 5) HBlk.out rfl; rw [hd] at this; exact this
          have q1 := cell_block (j := 1) HBlk.out rfl
          go_enter Try.func27, Try.ntmps27
          go_wp2_with fail
          refine (HN.out _).mono ?_
          rintro e w' ⟨rfl, rfl⟩
          go_wp2_with fail
          go_quiet (first | (go_at_call 14; exact HU.out _))
          obtain ⟨W, hW, hWb⟩ : ∃ W, w.drewN nq = W ∧ Below w.heap.size w W := ⟨_, rfl, drewN_below w nq⟩
          rw [hW]
          have hR1 := HD.out.below hWb
          have hal : Below W.heap.size W (W.alloc (.cells #[.string s, .string ⟨#[]⟩, .int .i64 0] 65)) := (Below.refl _ W).alloc (Nat.le_refl _) _
          have HR2 := Lib.hid (hR1.below hal)
          have HA := Lib.hid (bcell (below_then hWb hal))
          have hal2 : Below W.heap.size W (W.alloc (.cells #[.string s, .string f.bytes, .int .i64 (f0.sure : Int)] 65)) := (Below.refl _ W).alloc (Nat.le_refl _) _
          have hP := HPut.out _ _ (hR1.below hal2)
          have HP2 := Lib.hid hP; have HWb := Lib.hid (below_then hWb hal2)
          clear hR1 hal hWb hW HU hal2 hP
          go_wp2_with fail
          refine (find_any Q _ st s _ HR2.out (by omega)).mono ?_
          rintro e w' ⟨rfl, rfl⟩
          rw [HP.out]
          have q0 := (HA.out.1 Q 0 hQl).trans (cell_block (j := 0) HBlk.out rfl)
          have e0 := (HA.out.1 g (k * 3) hgl).trans c0
          have e1 := (HA.out.1 g (k * 3 + 1) hgl).trans c1
          have e2 := (HA.out.1 g (k * 3 + 2) hgl).trans c2
          go_wp2_with fail
          refine HP2.out.mono ?_
          rintro e w2 ⟨rfl, v2, hr2, hs2⟩
          have HS2 := Lib.hid ((step_below Q _ HWb.out).trans hs2); have HR3 := Lib.hid hr2
          clear hs2 hr2
          go_wp2_with fail
          refine (op_any Q v2 _ _ HR3.out HGO.out).mono ?_
          rintro e w3 ⟨rfl, hr3, hs3⟩
          have HS3 := Lib.hid (HS2.out.trans hs3); have HR4 := Lib.hid hr3
          clear hs3 hr3
          go_wp2_with fail
          go_ret
          exact ⟨rfl, v2, HR4.out, HS3.out⟩
        · rw [fileOf_none hl] at hG ⊢
          obtain ⟨f, hff⟩ : ∃ f, grown ⟨s, ⟨#[]⟩, 0⟩ b = f := ⟨_, rfl⟩
          have hfn : f.name = s := by rw [← hff]; rfl
          have hfb : (⟨#[]⟩ : ByteArray) ++ b = f.bytes := by rw [← hff]; rfl
          have hfs : f.sure = 0 := by rw [← hff]; rfl
          rw [hff] at hG ⊢
          have HPut := Lib.hid (fun (v : Value) (W : World) (hR : RD W Q v st) => put_any Q v st f W hR (by omega) hG)
          rw [hfn, hfs] at HPut
          have hgo : (put st f).ops ≤ 1048576 := by show st.ops ≤ _; omega
          have HGO := Lib.hid hgo; have HP := Lib.hid (posZ_none hp)
          clear hE hS hG hff h hl hp hblk hgo hfn hfs
          go_enter Try.func27, Try.ntmps27
          go_wp2_with fail
          refine (HN.out _).mono ?_
          rintro e w' ⟨rfl, rfl⟩
          go_wp2_with fail
          go_quiet (first | (go_at_call 14; exact HU.out _))
          obtain ⟨W, hW, hWb⟩ : ∃ W, w.drewN nq = W ∧ Below w.heap.size w W := ⟨_, rfl, drewN_below w nq⟩
          rw [hW]
          have hR1 := HD.out.below hWb
          have hal : Below W.heap.size W (W.alloc (.cells #[.string s, .string ⟨#[]⟩, .int .i64 0] 65)) := (Below.refl _ W).alloc (Nat.le_refl _) _
          have HR2 := Lib.hid (hR1.below hal)
          have hal2 : Below W.heap.size W (W.alloc (.cells #[.string s, .string f.bytes, .int .i64 0] 65)) := (Below.refl _ W).alloc (Nat.le_refl _) _
          have hP := HPut.out _ _ (hR1.below hal2)
          have HP2 := Lib.hid hP; have HWb := Lib.hid (below_then hWb hal2)
          clear hR1 hal hWb hW HU hal2 hP
          go_wp2_with fail
          refine (find_any Q v st s _ HR2.out (by omega)).mono ?_
          rintro e w' ⟨rfl, rfl⟩
          rw [HP.out]
          go_wp2_with fail
          refine HP2.out.mono ?_
          rintro e w2 ⟨rfl, v2, hr2, hs2⟩
          have HS2 := Lib.hid ((step_below Q _ HWb.out).trans hs2); have HR3 := Lib.hid hr2
          clear hs2 hr2
          go_wp2_with fail
          refine (op_any Q v2 _ _ HR3.out HGO.out).mono ?_
          rintro e w3 ⟨rfl, hr3, hs3⟩
          have HS3 := Lib.hid (HS2.out.trans hs3); have HR4 := Lib.hid hr3
          clear hs3 hr3
          go_wp2_with fail
          go_ret
          exact ⟨rfl, v2, HR4.out, HS3.out⟩
    · have hE : appE st s b = 1 := by unfold appE; rw [hd, if_neg (by simp), if_pos hname]
      have hS : appS st s b = st := by unfold appS; rw [hd, if_neg (by simp), if_pos hname]
      rw [hE, hS]
      rw [decide_eq_false hname] at HN
      clear hE hS h hroom hfit
      go_enter Try.func27, Try.ntmps27
      go_wp2_with fail
      refine (HN.out _).mono ?_
      rintro e w' ⟨rfl, rfl⟩
      go_wp2_with fail
      go_ret
      exact ⟨rfl, v, HD.out, Step.refl _ _ _⟩
end Go.Proofs.Ytflkglnmenbmaaa.Disk
