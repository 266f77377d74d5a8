/- The walk over Rename of the document's disk. -/
import Derived.Test.YtflkglnmenbmaaaDiskH
namespace Go.Proofs.Ytflkglnmenbmaaa.Disk
open Go.RowKit Go.Lib

theorem Good.moved {st : DS} (h : Good st) {a : ByteArray} {f : DF} (hl : look st.fs a = some f) (b : ByteArray) : Good (put { Disk.opS st with fs := takeF st.fs a } (called b f)) := by
  have hu := used_take st.fs a
  rw [sizeAt_some hl] at hu
  have hu2 := used_take (takeF st.fs a) b
  have ho := h.opS
  refine ⟨ho.room, ?_, fun x hx => ?_, ?_, ho.last⟩
  · show usedF (putF (takeF st.fs a) (called b f)) ≤ (Disk.opS st).room
    unfold putF
    rw [used_ins, opS_room]
    have hfit := h.fit
    show f.bytes.size + usedF (takeF (takeF st.fs a) b) ≤ st.room
    omega
  · rcases mem_ins hx with rfl | hx
    · exact h.sure f (look_mem hl).1
    · exact h.sure x (List.mem_filter.1 (List.mem_filter.1 hx).1).1
  · show (putF (takeF st.fs a) (called b f)).length ≤ (Disk.opS st).ops + 1
    unfold putF
    rw [ins_length, opS_ops]
    have h1 : (takeF (takeF st.fs a) (called b f).name).length ≤ (takeF st.fs a).length := List.length_filter_le _ _
    have h2 : (takeF st.fs a).length ≤ st.fs.length := List.length_filter_le _ _
    have := h.few
    omega
set_option maxRecDepth 100000 in
set_option maxHeartbeats 2000000 in
theorem rename_any (Q : Nat) (v : Value) (st : DS) (s t : ByteArray) (w : World) (h : RD w Q v st) (ho : st.ops + 1 ≤ 1048576) (ht : t.size ≤ maxLen) :
    Calls Try.prog 30 #[.pointer (some ⟨Q, 0, none⟩), .string s, .string t] w fun e w' => e = .returned (.int .i64 (renE st s t)) ∧ ∃ v', RD w' Q v' (renS st s t) ∧ Step w w' Q v v' := by
  have q5 := cell_block (j := 5) h.block rfl
  have HD := Lib.hid h
  have HN := Lib.hid (name_any t w ht)
  cases hd : st.dead with
  | true =>
    have hE : renE st s t = 14 := by unfold renE; rw [hd]; rfl
    have hS : renS st s t = st := by unfold renS; rw [hd]; rfl
    rw [hE, hS]
    rw [hd] at q5
    clear hE hS h
    go_enter Try.func30, Try.ntmps30
    go_wp2_with fail
    go_ret
    exact ⟨rfl, v, HD.out, Step.refl _ _ _⟩
  | false =>
    rw [hd] at q5
    by_cases hname : isName t
    · rw [decide_eq_true hname] at HN
      rcases look_pos (l := st.fs) (s := s) with ⟨k, f, hp, hfk, hfn, hl, _⟩ | ⟨hp, hl⟩
      · obtain ⟨a, cap, rfl, hcap, _, hrow⟩ := h.rowed
        obtain ⟨g, rfl, hgl, hgq, c0, c1, c2⟩ := hrow k f hfk
        have HP := Lib.hid (posZ_some hp)
        have hkn : k < st.fs.length := (List.getElem?_eq_some_iff.1 hfk).1
        have hfew := h.good.few
        have hE : renE st s t = opE st := by unfold renE; rw [hd, hl, if_neg (by simp), if_neg (by simpa using hname), if_neg (by simp)]
        rw [hE]
        obtain ⟨e0, he0⟩ : ∃ e0, opE st = e0 := ⟨_, rfl⟩
        have HOp := Lib.hid (op_any Q _ st w HD.out (by omega))
        rw [he0]
        cases hdo : opD st with
        | false =>
          have hS : renS st s t = opS st := by unfold renS; rw [hd, hl, hdo, if_neg (by simp), if_neg (by simpa using hname), if_neg (by simp)]; rfl
          rw [hS]
          rw [show opV st = .tuple #[.bool false, .int .i64 e0] by unfold opV; rw [hdo, he0]] at HOp
          clear hE hS h hrow hp hl hdo he0
          go_enter Try.func30, Try.ntmps30
          go_wp2_with fail
          refine HN.out.mono ?_
          rintro e w' ⟨rfl, rfl⟩
          go_wp2_with fail
          refine (find_any Q _ st s _ HD.out (by omega)).mono ?_
          rintro e w' ⟨rfl, rfl⟩
          rw [HP.out]
          go_wp2_with fail
          refine HOp.out.mono ?_
          rintro e w1 ⟨rfl, hr1, hs1⟩
          have HR1 := Lib.hid hr1; have HS1 := Lib.hid hs1
          clear hr1 hs1
          go_wp2_with fail
          go_ret
          exact ⟨rfl, _, HR1.out, HS1.out⟩
        | true =>
          have hS : renS st s t = put { opS st with fs := takeF st.fs s } (called t f) := by
            unfold renS
            rw [hd, hl, hdo, fileOf_some hl, if_neg (by simp), if_neg (by simpa using hname), if_neg (by simp), if_pos rfl]
            rfl
          rw [hS]
          have hG := h.good.moved hl t
          obtain ⟨f', hf'⟩ : ∃ f', called t f = f' := ⟨_, rfl⟩
          have hn' : f'.name = t := by rw [← hf']; rfl
          have hb' : f'.bytes = f.bytes := by rw [← hf']; rfl
          have hs' : f'.sure = f.sure := by rw [← hf']; rfl
          rw [hf'] at hG ⊢
          rw [show opV st = .tuple #[.bool true, .int .i64 e0] by unfold opV; rw [hdo, he0]] at HOp
          have hfk2 : (opS st).fs[k]? = some f := by rw [opS_fs]; exact hfk
          have hlen : st.fs.length = (opS st).fs.length := by rw [opS_fs]
          have hops : (opS st).ops = st.ops + 1 := opS_ops st
          have hfs : takeF (opS st).fs s = takeF st.fs s := by rw [opS_fs]
          rw [hlen] at HOp hkn hfew
          have HL := Lib.hid hlen
          have HPut := Lib.hid (fun (v : Value) (W : World) hR => put_any Q v { opS st with fs := takeF st.fs s } f' W hR (by show (opS st).ops ≤ _; omega) hG)
          rw [hn', hb', hs'] at HPut
          have HT := Lib.hid (fun (v : Value) (W : World) (hR : RD W Q v (opS st)) => take_any Q v (opS st) s W hR (by omega))
          rw [hfs] at HT
          clear hE hS h hrow hp hl hdo he0 hlen hG hf' hn' hb' hs' hops hfs
          go_enter Try.func30, Try.ntmps30
          go_wp2_with fail
          refine HN.out.mono ?_
          rintro e w' ⟨rfl, rfl⟩
          go_wp2_with fail
          refine (find_any Q _ st s _ HD.out (by omega)).mono ?_
          rintro e w' ⟨rfl, rfl⟩
          rw [HP.out]
          go_wp2_with fail
          refine HOp.out.mono ?_
          rintro e w1 ⟨rfl, hr1, hs1⟩
          have p0 : w1.cell? ⟨Q, 0, none⟩ = some (.slice (some ⟨g, 0, none⟩) (opS st).fs.length cap) := cell_block hr1.block rfl
          obtain ⟨d0, d1, d2⟩ := rd_cells hr1 hfk2
          have hal : Below w1.heap.size w1 (w1.alloc (.cells #[.string s, .string f.bytes, .int .i64 (f.sure : Int)] 65)) := (Below.refl _ w1).alloc (Nat.le_refl _) _
          have hbox : (w1.alloc (.cells #[.string s, .string f.bytes, .int .i64 (f.sure : Int)] 65)).heap[w1.heap.size]? = some (.cells #[.string s, .string f.bytes, .int .i64 (f.sure : Int)] 65 (0, 0)) := heap_alloc_new w1 _
          have hT := HT.out _ _ (hr1.below hal)
          have HT2 := Lib.hid hT; have HS1 := Lib.hid (hs1.app hal); have HBox := Lib.hid hbox
          have hQ1 := hr1.lt
          have hle1 := hs1.size
          have hgl1 : g < w1.heap.size := Nat.lt_of_lt_of_le hgl hs1.size
          clear hr1 hs1 hal hbox hT
          go_wp2_with fail
          refine HT2.out.mono ?_
          rintro e w2 ⟨rfl, v2, hr2, hs2⟩
          have hbx2 : w2.heap[w1.heap.size]? = some (.cells #[.string s, .string f.bytes, .int .i64 (f.sure : Int)] 65 (0, 0)) := by
            rw [hs2.block _ (by simp) (by omega) (by intro e; simp [Value.ownBlock] at e; omega)]
            exact HBox.out
          have x0 : w2.cell? ⟨w1.heap.size, 0, none⟩ = some (.string s) := cell_block hbx2 rfl
          have z0 := free_block 0 hbx2
          have x1 : w2.cell? ⟨w1.heap.size, 1, none⟩ = some (.string f.bytes) := cell_block hbx2 rfl
          have x2 : w2.cell? ⟨w1.heap.size, 2, none⟩ = some (.int .i64 (f.sure : Int)) := cell_block hbx2 rfl
          have hs3 := HS1.out.trans hs2
          have hbx3 := heap_setCell_same w2 w1.heap.size 0 _ _ (.string t) hbx2
          have hg3 := only_setCell (only_refl w2 (some w1.heap.size)) 0 (.string t)
          have hQne : w1.heap.size ≠ Q := by omega
          have hvne : v2.ownBlock ≠ some w1.heap.size := by
            rcases hs2.fresh with e | e
            · rw [e]; simp [Value.ownBlock]; omega
            · intro e'; have := e _ e'; simp at this; omega
          have hr3 : RD (w2.setCell ⟨w1.heap.size, 0, none⟩ (.string t)) Q v2 { opS st with fs := takeF st.fs s } :=
            ⟨(hg3.block Q hr2.lt (fun e => hQne (Option.some.inj e).symm)).trans hr2.block, hr2.row.kept hg3 (.inr hvne), hr2.good⟩
          have hs4 : Step w (w2.setCell ⟨w1.heap.size, 0, none⟩ (.string t)) Q (.slice (some ⟨g, 0, none⟩) (opS st).fs.length cap) v2 :=
            ⟨hg3.os.trans hs3.os, hg3.tape.trans hs3.tape, hg3.output.trans hs3.output, Nat.le_trans hs3.size hg3.size, fun i hi hq hv => by
              rw [hg3.block i (Nat.lt_of_lt_of_le hi hs3.size) (by rintro e; injection e with e; omega)]
              exact hs3.block i hi hq hv, hs3.fresh⟩
          have HP3 := Lib.hid (HPut.out v2 _ hr3); have HS4 := Lib.hid hs4
          clear hs2 hs3 hr2 hr3 hs4 hbx2 hbx3 hg3 hvne hQne
          go_wp2_with fail
          refine HP3.out.mono ?_
          rintro e w3 ⟨rfl, v3, hr4, hs5⟩
          have HR4 := Lib.hid hr4; have HS5 := Lib.hid (HS4.out.trans hs5)
          clear hr4 hs5
          go_wp2_with fail
          go_ret
          exact ⟨rfl, _, HR4.out, by rw [HL.out]; exact HS5.out⟩
      · have hE : renE st s t = 3 := by unfold renE; rw [hd, hl, if_neg (by simp), if_neg (by simpa using hname), if_pos (by simp)]
        have hS : renS st s t = st := by unfold renS; rw [hd, hl, if_neg (by simp), if_neg (by simpa using hname), if_pos (by simp)]
        have HP := Lib.hid (posZ_none hp)
        rw [hE, hS]
        clear hE hS h hp hl
        go_enter Try.func30, Try.ntmps30
        go_wp2_with fail
        refine HN.out.mono ?_
        rintro e w' ⟨rfl, rfl⟩
        go_wp2_with fail
        refine (find_any Q _ st s _ HD.out (by omega)).mono ?_
        rintro e w' ⟨rfl, rfl⟩
        rw [HP.out]
        go_wp2_with fail
        go_ret
        exact ⟨rfl, v, HD.out, Step.refl _ _ _⟩
    · have hE : renE st s t = 1 := by unfold renE; rw [hd, if_neg (by simp), if_pos hname]
      have hS : renS st s t = st := by unfold renS; rw [hd, if_neg (by simp), if_pos hname]
      rw [hE, hS]
      rw [decide_eq_false hname] at HN
      clear hE hS h
      go_enter Try.func30, Try.ntmps30
      go_wp2_with fail
      refine HN.out.mono ?_
      rintro e w' ⟨rfl, rfl⟩
      go_wp2_with fail
      go_ret
      exact ⟨rfl, v, HD.out, Step.refl _ _ _⟩
end Go.Proofs.Ytflkglnmenbmaaa.Disk
