/- The walks over names and Names. -/
import Derived.Test.YtflkglnmenbmaaaDiskImL
namespace Go.Proofs.Ytflkglnmenbmaaa.Disk.Im
open Go.RowKit Go.Lib

theorem going_iter {P : Program} {k : TypeId} {w : World} {b r n cnt : Nat} {M : ByteArray → Option Value} {left : ByteArray → Bool} (h : Going P k w b r n M left cnt) : ∃ a s c d, w.heap[r]? = some (.mapIter a s c d) := by
  obtain ⟨D, lf, ⟨es, clock, since, seen, c0, h1, h2, h3, h4, h5, h6⟩, h7⟩ := h
  exact ⟨_, _, _, _, h5⟩
theorem names_rise {l : List DF} (h : Sorted l) : (namesF l).Pairwise fun a b => Op.bytesLess a.toList b.toList = true := by
  unfold namesF
  rw [List.pairwise_map]
  exact h
set_option maxRecDepth 100000 in
set_option maxHeartbeats 4000000 in
theorem names_any (Q Mb : Nat) (fz : Int) (V : ByteArray → Value) (st : DS) (w : World) (h : PDX w Q Mb fz V st) (hL : st.fs.length ≤ 1000) :
    Calls Try.prog 36 #[.pointer (some ⟨Q, 0, none⟩)] w fun e w' => ∃ o, e = .returned o ∧ Texts w' w.heap.size o (namesF st.fs) ∧ Below w.heap.size w w' := by
  obtain ⟨i0, hi, hz0, hz1, hz2⟩ := info_parts info_str
  obtain ⟨q0, q1, q2, q3, q4, q5⟩ := h.q
  have hM := h.map
  have hS := h.sorted
  have HML := Lib.hid h.ltM
  clear h q1 q2 q3 q4 q5
  go_enter Try.func36, Try.ntmps36
  go_wp2_with (first | (at_range; refine wpList_range_text _ rfl _ 55 rfl 9 _ Try.underlying9 Try.underlying55 Mb _ _ rfl hM ?_; intro w0 hG0 hg0 hs0) | fail)
  go_frame
  have HB0 : Hid (Below w.heap.size w w0) := Lib.hid (below_of_only (Below.refl _ w) (Nat.le_refl _) (World.grownBy.but hg0 (some w.heap.size)))
  go_loopw [3] (fun t wr => ∃ (ss : List ByteArray) (cnt : Nat) (left : ByteArray → Bool), Texts wr w.heap.size t ss ∧ Going Try.prog 9 wr Mb w.heap.size st.fs.length (mapM V st.fs) left cnt ∧ Hid (ss.Perm (namesF (gone left st.fs))) ∧ Below w.heap.size w wr) (fun _ wr => wr.rangeLeft Mb w.heap.size)
  case atStart =>
    refine ⟨[], _, _, World.ownsRow_nil _ _ _ _, hG0, Lib.hid ?_, HB0.out⟩
    rw [gone_none (fun f hf => mapM_left f hf)]
    exact List.Perm.refl _
  case round =>
    obtain ⟨ss, cnt, left, hown, hG, HK, hbel⟩ := hrel
    have hlen : ss.length ≤ 1000 := by
      have h1 := HK.out.length_eq
      have h2 : (gone left st.fs).length ≤ st.fs.length := List.length_filter_le _ _
      unfold namesF at h1
      rw [List.length_map] at h1
      omega
    clear hs0 hg0 hG0
    go_wp2_with (first | (at_next; refine wpList_next_text _ rfl _ rfl 9 Try.underlying9 Mb w.heap.size _ _ left cnt rfl hG ?_ ?_) | fail)
    · intro hc0 hl0
      have hp : ss.Perm (namesF st.fs) := by have := HK.out; rw [gone_all hl0] at this; exact this
      have HC := Lib.hid (sort_texts wr w.heap.size _ ss (namesF st.fs) hown (by omega) hp (names_rise hS))
      have HE : Hid (∀ W, wr.grownBy W u3.ownBlock → Below w.heap.size w W) := Lib.hid (fun W hg => below_grown hbel hown hg)
      clear hc0 hl0 hp
      go_wp2_with fail
      refine HC.out.mono ?_
      rintro e W ⟨rfl, hown2, hgw⟩
      go_wp2_with fail
      go_ret
      exact ⟨_, rfl, hown2, HE.out W hgw⟩
    · intro s v w1 cnt1 hsz hlk hMv hG1 hlt hg1 hs1 hen
      obtain ⟨f, hf, hfn, rfl⟩ := mapM_some hMv
      obtain ⟨y, hy⟩ : ∃ y, fileV V f = y := ⟨_, rfl⟩
      rw [hy] at hen
      have hkn : (ss ++ [s]).Perm (namesF (gone (fun x => left x && !decide (x = s)) st.fs)) := by
        subst hfn
        have h1 := (gone_more hS hf hlk).map DF.name
        refine List.Perm.trans ?_ h1.symm
        refine (List.perm_append_singleton _ _).trans ?_
        rw [List.map_cons]
        exact HK.out.cons _
      obtain ⟨ia, ib, ic, id, hit⟩ := going_iter hG
      have hne : some w.heap.size ≠ Value.ownBlock u3 := fun e => by
        obtain ⟨cur, hcur⟩ := own_block hown e.symm
        have := hit.symm.trans hcur
        simp at this
      have hneM : some Mb ≠ Value.ownBlock u3 := fun e => by
        have := (hown.lt _ e.symm).1
        have := HML.out
        omega
      have hown1 := hown.kept hg1 (.inr hne.symm)
      have hb1 : Below w.heap.size w w1 := below_of_only hbel (Nat.le_refl _) hg1
      have HG1 := Lib.hid hG1; have HB1 := Lib.hid hb1; have HLT := Lib.hid hlt; have HKN := Lib.hid hkn
      have HLO := Lib.hid hG.left_eq
      have HNE := Lib.hid hne; have HNM := Lib.hid hneM
      clear hs1 hg1 hG1 hMv hfn hlk hkn hb1 hsz hlt hit hne hneM hy
      go_wp2_with (at_builtin; refine wpList_append_own _ rfl _ _ 43 rfl w.heap.size 9 i0 (.string ⟨#[]⟩) 1 16 Try.underlying43 hi hz0 hz1 hz2 rfl (by decide) _ _ _ rfl (hown1.alloc _) ⟨w1.heap.size, 0, none⟩ 1 1 [.string s] rfl rfl ?c1 ?c2 ?c3 ?c4 ?c5 ?_)
      case c1 =>
        intro j u hj
        match j, hj with
        | 0, hj => simp at hj; subst hj; simp [Addr.add]
      case c2 => intro u hu; simp at hu; subst hu; rfl
      case c3 => unfold maxLen; omega
      case c4 => omega
      case c5 => have := HB1.out.size; simp; omega
      intro v' w2 hown' hgrow _
      have ht := texts_append hown'
      have hal : Below w.heap.size w (w1.alloc (.cells #[.string s] 9)) := HB1.out.alloc HB1.out.size _
      have hbel1 : Below w.heap.size w w2 := hal.grown hgrow hal.size (fun q hq => (hown1.lt q hq).1)
      have hGa := HG1.out.of_blocks (w' := w1.alloc (.cells #[.string s] 9)) (heap_alloc_old _ _ HG1.out.map.lt) (heap_alloc_old _ _ HG1.out.lt.1)
      have hG2 := hGa.of_blocks (w' := w2) (hgrow.block _ hGa.map.lt HNM.out) (hgrow.block _ hGa.lt.1 HNE.out)
      have HG2 := Lib.hid hG2; have HT := Lib.hid ht; have HBL := Lib.hid hbel1
      clear hgrow hown hbel hown' hown1 ht hal hGa hG2 hbel1 hen
      go_wp2_with fail
      go_roundw
      case rel => exact ⟨ss ++ [s], cnt1, _, HT.out, HG2.out, HKN, HBL.out⟩
      case measure =>
        rw [HG2.out.left_eq, HLO.out]
        exact HLT.out
set_option maxRecDepth 100000 in
set_option maxHeartbeats 2000000 in
theorem names_dead (Q Mb : Nat) (w : World) (q0 : w.cell? ⟨Q, 0, none⟩ = some (.map (some Mb))) (q5 : w.cell? ⟨Q, 5, none⟩ = some (.bool true)) :
    Calls Try.prog 18 #[.pointer (some ⟨Q, 0, none⟩)] w fun e w' => e = .returned (.slice none 0 0) ∧ w = w' := by
  have HC := Lib.hid (dead_any Q Mb true w q0 q5)
  go_enter Try.func18, Try.ntmps18
  go_wp2_with fail
  refine HC.out.mono ?_
  rintro e W ⟨rfl, rfl⟩
  go_wp2_with fail
  go_ret
  exact ⟨rfl, rfl⟩
set_option maxRecDepth 100000 in
set_option maxHeartbeats 2000000 in
theorem names_nobody (p : Option Addr) (w : World) (hm : Calls Try.prog 34 #[.pointer p] w fun e w' => e = .returned (.bool false) ∧ w = w') :
    Calls Try.prog 18 #[.pointer p] w fun e w' => e = .returned (.slice none 0 0) ∧ w = w' := by
  have HC := Lib.hid (dead_nobody p w hm)
  clear hm
  go_enter Try.func18, Try.ntmps18
  go_wp2_with fail
  refine HC.out.mono ?_
  rintro e W ⟨rfl, rfl⟩
  go_wp2_with fail
  go_ret
  exact ⟨rfl, rfl⟩
set_option maxRecDepth 100000 in
set_option maxHeartbeats 2000000 in
theorem names_awake (Q Mb : Nat) (fz : Int) (V : ByteArray → Value) (st : DS) (w : World) (h : PDX w Q Mb fz V st) (hd : st.dead = false) (hL : st.fs.length ≤ 1000) :
    Calls Try.prog 18 #[.pointer (some ⟨Q, 0, none⟩)] w fun e w' => ∃ o, e = .returned o ∧ Texts w' w.heap.size o (namesF st.fs) ∧ Below w.heap.size w w' := by
  obtain ⟨q0, q1, q2, q3, q4, q5⟩ := h.q
  rw [hd] at q5
  have HC := Lib.hid (dead_any Q Mb false w q0 q5)
  have HN := Lib.hid (names_any Q Mb fz V st w h hL)
  clear h q0 q1 q2 q3 q4 q5
  go_enter Try.func18, Try.ntmps18
  go_wp2_with fail
  refine HC.out.mono ?_
  rintro e W ⟨rfl, rfl⟩
  go_wp2_with fail
  refine HN.out.mono ?_
  rintro e W ⟨o, rfl, ht, hb⟩
  go_wp2_with fail
  go_ret
  exact ⟨_, rfl, ht, hb⟩
set_option maxRecDepth 100000 in
set_option maxHeartbeats 2000000 in
theorem used_dead (Q Mb : Nat) (w : World) (q0 : w.cell? ⟨Q, 0, none⟩ = some (.map (some Mb))) (q5 : w.cell? ⟨Q, 5, none⟩ = some (.bool true)) :
    Calls Try.prog 13 #[.pointer (some ⟨Q, 0, none⟩)] w fun e w' => e = .returned (.int .i64 0) ∧ w = w' := by
  have HC := Lib.hid (dead_any Q Mb true w q0 q5)
  go_enter Try.func13, Try.ntmps13
  go_wp2_with fail
  refine HC.out.mono ?_
  rintro e W ⟨rfl, rfl⟩
  go_wp2_with fail
  go_ret
  exact ⟨rfl, rfl⟩
set_option maxRecDepth 100000 in
set_option maxHeartbeats 2000000 in
theorem used_nobody (p : Option Addr) (w : World) (hm : Calls Try.prog 34 #[.pointer p] w fun e w' => e = .returned (.bool false) ∧ w = w') :
    Calls Try.prog 13 #[.pointer p] w fun e w' => e = .returned (.int .i64 0) ∧ w = w' := by
  have HC := Lib.hid (dead_nobody p w hm)
  clear hm
  go_enter Try.func13, Try.ntmps13
  go_wp2_with fail
  refine HC.out.mono ?_
  rintro e W ⟨rfl, rfl⟩
  go_wp2_with fail
  go_ret
  exact ⟨rfl, rfl⟩
end Go.Proofs.Ytflkglnmenbmaaa.Disk.Im
