/- Both queues, side by side; the laws' own do. -/
import Derived.Test.YtfbdkafpfminlaaHeapF
import Derived.Test.YtfbdkafpfminlaaHeapImN
import Derived.Test.YtfbdkafpfminlaaHeapImL
import Derived.Deep.RegionHeld3
namespace Go.Proofs.Ytfbdkafpfminlaa.Heap
open Go.RowKit Go.Lib Go.Proofs.Ytfbdkafpfminlaa.Heap.Im

abbrev Kept := List (Nat × Array Value × TypeId)
/-- The program's queue at Q, the document's at X, all of the call's own, apart; blocks K that neither turns. -/
structure TWF (w W : World) (Q X : Nat) (qp qd : QS) (K : Kept) (F G : Nat → Prop) : Prop where
  hq : HQ W Q F qp
  dq : DQ W X G qd
  ap : ∀ k, F k → ¬ G k
  below : Below w.heap.size w W
  newF : ∀ k, F k → w.heap.size ≤ k
  newG : ∀ k, G k → w.heap.size ≤ k
  kept : ∀ p ∈ K, ¬ F p.1 ∧ ¬ G p.1 ∧ W.heap[p.1]? = some (.cells p.2.1 p.2.2 (0, 0))
def TW (w W : World) (Q X : Nat) (qp qd : QS) (K : Kept) : Prop := ∃ F G, TWF w W Q X qp qd K F G
section
variable {w W : World} {Q X : Nat} {qp qd : QS} {K : Kept}
theorem TW.below (h : TW w W Q X qp qd K) : Below w.heap.size w W := by
  obtain ⟨F, G, h⟩ := h
  exact h.below
theorem TW.under {W' : World} (h : TW w W Q X qp qd K) (hb : Below W.heap.size W W') : TW w W' Q X qp qd K := by
  obtain ⟨F, G, h⟩ := h
  exact ⟨F, G, h.hq.under hb, h.dq.under hb, h.ap, below_then h.below hb, h.newF, h.newG, fun p hp => ⟨(h.kept p hp).1, (h.kept p hp).2.1, (hb.block p.1 (Array.getElem?_eq_some_iff.1 (h.kept p hp).2.2).1).trans (h.kept p hp).2.2⟩⟩
theorem TW.add (h : TW w W Q X qp qd K) (cs : Array Value) (T : TypeId) : TW w (W.alloc (.cells cs T)) Q X qp qd ((W.heap.size, cs, T) :: K) := by
  obtain ⟨F, G, h1⟩ := h.under ((Below.refl _ W).alloc (Nat.le_refl _) (.cells cs T))
  obtain ⟨F0, G0, h0⟩ := h
  refine ⟨F0, G0, h0.hq.under ((Below.refl _ W).alloc (Nat.le_refl _) _), h0.dq.under ((Below.refl _ W).alloc (Nat.le_refl _) _), h0.ap, h1.below, h0.newF, h0.newG, fun p hp => ?_⟩
  rcases List.mem_cons.1 hp with rfl | hp
  · exact ⟨fun e => by have := h0.hq.lt _ e; simp at this, fun e => by have := h0.dq.lt _ e; simp at this, heap_alloc_new W _⟩
  · have := h0.kept p hp
    exact ⟨this.1, this.2.1, (heap_alloc_old W _ (Array.getElem?_eq_some_iff.1 this.2.2).1).trans this.2.2⟩
theorem TW.none (h : TW w W Q X qp qd K) : TW w W Q X qp qd [] := by
  obtain ⟨F, G, h⟩ := h
  exact ⟨F, G, h.hq, h.dq, h.ap, h.below, h.newF, h.newG, fun p hp => by simp at hp⟩
theorem TW.cells (h : TW w W Q X qp qd K) {B : Nat} {cs : Array Value} {T : TypeId} (hp : (B, cs, T) ∈ K) : W.heap[B]? = some (.cells cs T (0, 0)) := by
  obtain ⟨F, G, h⟩ := h
  exact (h.kept _ hp).2.2
theorem TWF.prog {F G F' : Nat → Prop} {W' : World} {qp' : QS} (h : TWF w W Q X qp qd K F G) (h1 : HQ W' Q F' qp') (s : StepF W W' F F') : TW w W' Q X qp' qd K := by
  have hF' : ∀ k, F' k → k < W.heap.size → F k := fun k hk hlt => by
    rcases s.grows k hk with h2 | h2
    · exact h2
    · omega
  refine ⟨F', G, h1, h.dq.keep (fun k hk => s.block k (h.dq.lt k hk) (fun e => h.ap k e hk)), fun k hk hg => h.ap k (hF' k hk (h.dq.lt k hg)) hg, ?_, fun k hk => ?_, h.newG, fun p hp => ?_⟩
  · exact (s.fresh h.below h.newF).1
  · exact (s.fresh h.below h.newF).2 k hk
  · have h2 := h.kept p hp
    have hlt := (Array.getElem?_eq_some_iff.1 h2.2.2).1
    exact ⟨fun e => h2.1 (hF' _ e hlt), h2.2.1, (s.block p.1 hlt h2.1).trans h2.2.2⟩
theorem TWF.doc {F G G' : Nat → Prop} {W' : World} {qd' : QS} (h : TWF w W Q X qp qd K F G) (h1 : DQ W' X G' qd') (s : StepF W W' G G') : TW w W' Q X qp qd' K := by
  have hG' : ∀ k, G' k → k < W.heap.size → G k := fun k hk hlt => by
    rcases s.grows k hk with h2 | h2
    · exact h2
    · omega
  refine ⟨F, G', h.hq.keep (fun k hk => s.block k (h.hq.lt k hk) (fun e => h.ap k hk e)), h1, fun k hk hg => h.ap k hk (hG' k hg (h.hq.lt k hk)), ?_, h.newF, fun k hk => ?_, fun p hp => ?_⟩
  · exact (s.fresh h.below h.newG).1
  · exact (s.fresh h.below h.newG).2 k hk
  · have h2 := h.kept p hp
    have hlt := (Array.getElem?_eq_some_iff.1 h2.2.2).1
    exact ⟨h2.1, fun e => h2.2.1 (hG' _ e hlt), (s.block p.1 hlt h2.2.1).trans h2.2.2⟩
end
theorem good_len {q : QS} (h : Good q) : q.l.length ≤ 4096 := by have := h.len; have := h.most.2; omega
section
variable {w W : World} {Q X : Nat} {q qd qp : QS} {K : Kept}
theorem tw_insert (due what : Int) (h : TW w W Q X q qd K) (hg : Good q) : Calls Try.prog 14 #[ptr Q, .int .i64 due, .int .i64 what] W fun e w' => e = .returned (.tuple #[.int .i64 (ins q due what).2.1, .int .i64 (ins q due what).2.2]) ∧ Hid (TW w w' Q X (ins q due what).1 qd K) := by
  obtain ⟨F, G, h⟩ := h
  exact (insert_im due what W h.hq hg).mono fun _ _ ⟨e, F', h1, s⟩ => ⟨e, Lib.hid (h.prog h1 s)⟩
theorem td_insert (due what : Int) (h : TW w W Q X qp q K) (hg : Good q) : Calls Try.prog 23 #[ptr X, .int .i64 due, .int .i64 what] W fun e w' => e = .returned (.tuple #[.int .i64 (ins q due what).2.1, .int .i64 (ins q due what).2.2]) ∧ Hid (TW w w' Q X qp (ins q due what).1 K) := by
  obtain ⟨F, G, h⟩ := h
  exact (dinsert due what W h.dq (good_len hg) hg.next.1 hg.next.2).mono fun _ _ ⟨e, F', h1, s⟩ => ⟨e, Lib.hid (h.doc h1 s)⟩
theorem tw_cancel (id : Int) (hid : Ints.I64 id) (h : TW w W Q X q qd K) (hg : Good q) : Calls Try.prog 20 #[ptr Q, .int .i64 id] W fun e w' => e = .returned (.int .i64 (cancel q id).2) ∧ Hid (TW w w' Q X (cancel q id).1 qd K) := by
  obtain ⟨F, G, h⟩ := h
  exact (cancel_im id hid W h.hq hg).mono fun _ _ ⟨e, F', h1, s⟩ => ⟨e, Lib.hid (h.prog h1 s)⟩
theorem td_cancel (id : Int) (h : TW w W Q X qp q K) (hg : Good q) : Calls Try.prog 24 #[ptr X, .int .i64 id] W fun e w' => e = .returned (.int .i64 (cancel q id).2) ∧ Hid (TW w w' Q X qp (cancel q id).1 K) := by
  obtain ⟨F, G, h⟩ := h
  exact (dcancel id W h.dq (good_len hg)).mono fun _ _ ⟨e, F', h1, s⟩ => ⟨e, Lib.hid (h.doc h1 s)⟩
theorem tw_move (id due : Int) (hid : Ints.I64 id) (h : TW w W Q X q qd K) (hg : Good q) : Calls Try.prog 17 #[ptr Q, .int .i64 id, .int .i64 due] W fun e w' => e = .returned (.tuple #[.int .i64 (move q id due).2.1, .int .i64 (move q id due).2.2]) ∧ Hid (TW w w' Q X (move q id due).1 qd K) := by
  obtain ⟨F, G, h⟩ := h
  exact (move_im id due hid W h.hq hg).mono fun _ _ ⟨e, F', h1, s⟩ => ⟨e, Lib.hid (h.prog h1 s)⟩
theorem td_move (id due : Int) (h : TW w W Q X qp q K) (hg : Good q) : Calls Try.prog 25 #[ptr X, .int .i64 id, .int .i64 due] W fun e w' => e = .returned (.tuple #[.int .i64 (move q id due).2.1, .int .i64 (move q id due).2.2]) ∧ Hid (TW w w' Q X qp (move q id due).1 K) := by
  obtain ⟨F, G, h⟩ := h
  exact (dmove id due W h.dq (good_len hg) hg.next.1 hg.next.2).mono fun _ _ ⟨e, F', h1, s⟩ => ⟨e, Lib.hid (h.doc h1 s)⟩
theorem tw_pop (now : Int) (h : TW w W Q X q qd K) (hg : Good q) : Calls Try.prog 15 #[ptr Q, .int .i64 now] W fun e w' => e = .returned (answerV (pop q now).2) ∧ Hid (TW w w' Q X (pop q now).1 qd K) := by
  obtain ⟨F, G, h⟩ := h
  exact (pop_im now W h.hq hg).mono fun _ _ ⟨e, F', h1, s⟩ => ⟨e, Lib.hid (h.prog h1 s)⟩
theorem td_pop (now : Int) (h : TW w W Q X qp q K) (hg : Good q) : Calls Try.prog 26 #[ptr X, .int .i64 now] W fun e w' => e = .returned (answerV (pop q now).2) ∧ Hid (TW w w' Q X qp (pop q now).1 K) := by
  obtain ⟨F, G, h⟩ := h
  exact (dpop now W h.dq (good_len hg)).mono fun _ _ ⟨e, F', h1, s⟩ => ⟨e, Lib.hid (h.doc h1 s)⟩
theorem tw_get (id : Int) (hid : Ints.I64 id) (h : TW w W Q X q qd K) (hg : Good q) : Calls Try.prog 19 #[ptr Q, .int .i64 id] W fun e w' => e = .returned (answerV (get q id)) ∧ Hid (TW w w' Q X q qd K) := by
  have h0 := h
  obtain ⟨F, G, h⟩ := h
  exact (get_im id hid W h.hq hg).mono fun _ _ ⟨e, hb⟩ => ⟨e, Lib.hid (h0.under hb)⟩
theorem td_get (id : Int) (h : TW w W Q X qp q K) (hg : Good q) : Calls Try.prog 27 #[ptr X, .int .i64 id] W fun e w' => e = .returned (answerV (get q id)) ∧ Hid (TW w w' Q X qp q K) := by
  have h0 := h
  obtain ⟨F, G, h⟩ := h
  exact (dget id W h.dq (good_len hg)).mono fun _ _ ⟨e, hb⟩ => ⟨e, Lib.hid (h0.under hb)⟩
end
/-- What an act makes of a queue. -/
def actQ (q : QS) (kind id due : Int) : QS := if kind = 1 then (ins q due id).1 else if kind = 2 then (cancel q id).1 else if kind = 3 then (move q id due).1 else if kind = 4 then (pop q due).1 else q
theorem good_act {q : QS} (h : Good q) (kind id due : Int) : Good (actQ q kind id due) := by
  unfold actQ
  split
  · exact good_ins h _ _
  split
  · exact good_cancel h _
  split
  · exact good_move h _ _
  split
  · exact good_pop h _
  exact h
set_option maxRecDepth 100000 in
set_option maxHeartbeats 4000000 in
theorem do_in {w W : World} {Q X : Nat} {q : QS} (kind id due : Int) (hid : Ints.I64 id) (h : TW w W Q X q q []) (hg : Good q) :
    Calls Try.prog 10 #[ptr Q, ptr X, .agg #[.int .i64 kind, .int .i64 id, .int .i64 due]] W fun e w' => e = .returned (.bool true) ∧ TW w w' Q X (actQ q kind id due) (actQ q kind id due) [] := by
  obtain ⟨A, hA⟩ : ∃ A, W.heap.size = A := ⟨_, rfl⟩
  obtain ⟨Z, hZ⟩ : ∃ Z, W.alloc (.cells #[.int .i64 kind, .int .i64 id, .int .i64 due] 33) = Z := ⟨_, rfl⟩
  have B0 : Hid (TW w Z Q X q q [(A, #[.int .i64 kind, .int .i64 id, .int .i64 due], 33)]) := Lib.hid (by rw [← hA, ← hZ]; exact h.add _ _)
  have HC : Hid (∀ W qp qd K', TW w W Q X qp qd (K' ++ [(A, #[.int .i64 kind, .int .i64 id, .int .i64 due], 33)]) → W.cell? ⟨A, 0, none⟩ = some (.int .i64 kind) ∧ W.cell? ⟨A, 1, none⟩ = some (.int .i64 id) ∧ W.cell? ⟨A, 2, none⟩ = some (.int .i64 due)) := Lib.hid (fun W qp qd K' h => by
    have := h.cells (B := A) (cs := #[.int .i64 kind, .int .i64 id, .int .i64 due]) (T := 33) (by simp)
    exact ⟨cell_block (j := 0) this rfl, cell_block (j := 1) this rfl, cell_block (j := 2) this rfl⟩)
  obtain ⟨a0, a1, a2⟩ := HC.out Z q q [] B0.out
  have HG := Lib.hid hg
  have HID := Lib.hid hid
  clear h hg hid
  by_cases k1 : kind = 1
  · have hq : actQ q kind id due = (ins q due id).1 := by unfold actQ; rw [if_pos k1]
    rw [hq]
    obtain ⟨m, hm⟩ : ∃ m, (ins q due id).2.1 = m := ⟨_, rfl⟩
    obtain ⟨f, hf⟩ : ∃ f, (ins q due id).2.2 = f := ⟨_, rfl⟩
    have H1 := Lib.hid (tw_insert due id B0.out HG.out)
    have H2 : Hid (∀ W, TW w W Q X (ins q due id).1 q [(A, #[.int .i64 kind, .int .i64 id, .int .i64 due], 33)] → Calls Try.prog 23 #[ptr X, .int .i64 due, .int .i64 id] W fun e w' => e = .returned (.tuple #[.int .i64 m, .int .i64 f]) ∧ Hid (TW w w' Q X (ins q due id).1 (ins q due id).1 [(A, #[.int .i64 kind, .int .i64 id, .int .i64 due], 33)])) := Lib.hid (fun W hW => by rw [← hm, ← hf]; exact td_insert due id hW HG.out)
    rw [hm, hf] at H1
    have HK := Lib.hid k1
    subst k1
    clear hq hm hf
    go_enter Try.func10, Try.ntmps10
    go_wp2_with fail
    clear hZ hA
    refine H1.out.mono ?_
    rintro e w1 ⟨rfl, B1⟩
    obtain ⟨b0, b1, b2⟩ := HC.out w1 _ _ [] B1.out
    clear a0 a1 a2
    go_wp2_with fail
    refine (H2.out w1 B1.out).mono ?_
    rintro e w2 ⟨rfl, B2⟩
    go_wp2_with fail
    go_ret
    exact ⟨rfl, B2.out.none⟩
  by_cases k2 : kind = 2
  · have hq : actQ q kind id due = (cancel q id).1 := by unfold actQ; rw [if_neg k1, if_pos k2]
    rw [hq]
    subst k2
    obtain ⟨f, hf⟩ : ∃ f, (cancel q id).2 = f := ⟨_, rfl⟩
    have H1 : Hid (∀ W qd, TW w W Q X q qd [(A, #[.int .i64 2, .int .i64 id, .int .i64 due], 33)] → Calls Try.prog 20 #[ptr Q, .int .i64 id] W fun e w' => e = .returned (.int .i64 f) ∧ Hid (TW w w' Q X (cancel q id).1 qd [(A, #[.int .i64 2, .int .i64 id, .int .i64 due], 33)])) := Lib.hid (fun W qd hW => by rw [← hf]; exact tw_cancel id HID.out hW HG.out)
    have H2 : Hid (∀ W qp, TW w W Q X qp q [(A, #[.int .i64 2, .int .i64 id, .int .i64 due], 33)] → Calls Try.prog 24 #[ptr X, .int .i64 id] W fun e w' => e = .returned (.int .i64 f) ∧ Hid (TW w w' Q X qp (cancel q id).1 [(A, #[.int .i64 2, .int .i64 id, .int .i64 due], 33)])) := Lib.hid (fun W qp hW => by rw [← hf]; exact td_cancel id hW HG.out)
    have D0 : TW w Z.drew Q X q q [(A, #[.int .i64 2, .int .i64 id, .int .i64 due], 33)] := B0.out.under (bel_drew Z 1)
    clear hq hf k1
    go_enter Try.func10, Try.ntmps10
    go_wp2_with fail
    clear hZ hA
    go_region_held3 (fun V => V.cell? ⟨A, 1, none⟩ = some (.int .i64 id))
      (first | exact (HC.out _ _ _ [] D0).2.1 | exact (HC.out _ _ _ [] h3.out).2.1 | exact (HC.out _ _ _ [] h4.out).2.1)
      (first
        | (go_at_call 20; (first | (with_reducible (refine (H1.out _ _ D0).mono ?_); rintro e w3 ⟨rfl, h3⟩) | (refine (H1.out _ _ h4.out).mono ?_; rintro e w3 ⟨rfl, h3⟩)))
        | (go_at_call 24; (first | (with_reducible (refine (H2.out _ _ D0).mono ?_); rintro e w4 ⟨rfl, h4⟩) | (refine (H2.out _ _ h3.out).mono ?_; rintro e w4 ⟨rfl, h4⟩))))
    all_goals
      go_wp2_with fail
      go_ret
      first | exact ⟨rfl, h4.out.none⟩ | exact ⟨rfl, h3.out.none⟩
  by_cases k3 : kind = 3
  · have hq : actQ q kind id due = (move q id due).1 := by unfold actQ; rw [if_neg k1, if_neg k2, if_pos k3]
    rw [hq]
    obtain ⟨m, hm⟩ : ∃ m, (move q id due).2.1 = m := ⟨_, rfl⟩
    obtain ⟨f, hf⟩ : ∃ f, (move q id due).2.2 = f := ⟨_, rfl⟩
    have H1 := Lib.hid (tw_move id due HID.out B0.out HG.out)
    have H2 : Hid (∀ W, TW w W Q X (move q id due).1 q [(A, #[.int .i64 kind, .int .i64 id, .int .i64 due], 33)] → Calls Try.prog 25 #[ptr X, .int .i64 id, .int .i64 due] W fun e w' => e = .returned (.tuple #[.int .i64 m, .int .i64 f]) ∧ Hid (TW w w' Q X (move q id due).1 (move q id due).1 [(A, #[.int .i64 kind, .int .i64 id, .int .i64 due], 33)])) := Lib.hid (fun W hW => by rw [← hm, ← hf]; exact td_move id due hW HG.out)
    rw [hm, hf] at H1
    subst k3
    clear hq hm hf k1 k2
    go_enter Try.func10, Try.ntmps10
    go_wp2_with fail
    clear hZ hA
    refine H1.out.mono ?_
    rintro e w1 ⟨rfl, B1⟩
    obtain ⟨b0, b1, b2⟩ := HC.out w1 _ _ [] B1.out
    clear a0 a1 a2
    go_wp2_with fail
    refine (H2.out w1 B1.out).mono ?_
    rintro e w2 ⟨rfl, B2⟩
    go_wp2_with fail
    go_ret
    exact ⟨rfl, B2.out.none⟩
  by_cases k4 : kind = 4
  · have hq : actQ q kind id due = (pop q due).1 := by unfold actQ; rw [if_neg k1, if_neg k2, if_neg k3, if_pos k4]
    rw [hq]
    obtain ⟨u, hu⟩ : ∃ u, (pop q due).2 = u := ⟨_, rfl⟩
    obtain ⟨t, b⟩ := u
    have H1 := Lib.hid (tw_pop due B0.out HG.out)
    have H2 : Hid (∀ W K, TW w W Q X (pop q due).1 q K → Calls Try.prog 26 #[ptr X, .int .i64 due] W fun e w' => e = .returned (.tuple #[tV t, .bool b]) ∧ Hid (TW w w' Q X (pop q due).1 (pop q due).1 K)) := Lib.hid (fun W K hW => by
      have := td_pop due hW HG.out
      rw [hu] at this
      exact this)
    rw [hu] at H1
    subst k4
    clear hq hu k1 k2 k3
    go_enter Try.func10, Try.ntmps10
    go_wp2_with fail
    clear hZ hA
    refine H1.out.mono ?_
    rintro e w1 ⟨rfl, B1⟩
    obtain ⟨U, hU⟩ : ∃ U, w1.heap.size = U := ⟨_, rfl⟩
    obtain ⟨Y, hY⟩ : ∃ Y, w1.alloc (.cells #[.int .i64 t.due, .int .i64 t.id, .int .i64 t.what] 45) = Y := ⟨_, rfl⟩
    have B2 : Hid (TW w Y Q X (pop q due).1 q [(U, t.cells, 45), (A, #[.int .i64 4, .int .i64 id, .int .i64 due], 33)]) := Lib.hid (by rw [← hU, ← hY]; exact B1.out.add t.cells _)
    obtain ⟨b0, b1, b2⟩ := HC.out Y _ _ [_] B2.out
    clear a0 a1 a2
    go_wp2_with fail
    clear hY hU
    refine (H2.out Y _ B2.out).mono ?_
    rintro e w2 ⟨rfl, B3⟩
    obtain ⟨V, hV⟩ : ∃ V, w2.heap.size = V := ⟨_, rfl⟩
    obtain ⟨T, hT⟩ : ∃ T, w2.alloc (.cells #[.int .i64 t.due, .int .i64 t.id, .int .i64 t.what] 45) = T := ⟨_, rfl⟩
    have B4 : Hid (TW w T Q X (pop q due).1 (pop q due).1 [(V, t.cells, 45), (U, t.cells, 45), (A, #[.int .i64 4, .int .i64 id, .int .i64 due], 33)]) := Lib.hid (by rw [← hV, ← hT]; exact B3.out.add t.cells _)
    obtain ⟨u0, u1, u2⟩ := tm_at (B4.out.cells (B := U) (cs := t.cells) (T := 45) (by simp))
    obtain ⟨v0, v1, v2⟩ := tm_at (B4.out.cells (B := V) (cs := t.cells) (T := 45) (by simp))
    clear b0 b1 b2
    go_wp2_with fail
    go_ret
    exact ⟨by simp, B4.out.none⟩
  · have hq : actQ q kind id due = q := by unfold actQ; rw [if_neg k1, if_neg k2, if_neg k3, if_neg k4]
    rw [hq]
    obtain ⟨u, hu⟩ : ∃ u, get q id = u := ⟨_, rfl⟩
    obtain ⟨t, b⟩ := u
    have H1 := Lib.hid (tw_get id HID.out B0.out HG.out)
    have H2 : Hid (∀ W K, TW w W Q X q q K → Calls Try.prog 27 #[ptr X, .int .i64 id] W fun e w' => e = .returned (.tuple #[tV t, .bool b]) ∧ Hid (TW w w' Q X q q K)) := Lib.hid (fun W K hW => by
      have := td_get id hW HG.out
      rw [hu] at this
      exact this)
    rw [hu] at H1
    have e1 : (kind == 1) = false := by simpa using k1
    have e2 : (kind == 2) = false := by simpa using k2
    have e3 : (kind == 3) = false := by simpa using k3
    have e4 : (kind == 4) = false := by simpa using k4
    clear hq hu k1 k2 k3 k4
    go_enter Try.func10, Try.ntmps10
    go_wp2_with fail
    clear hZ hA
    refine H1.out.mono ?_
    rintro e w1 ⟨rfl, B1⟩
    obtain ⟨U, hU⟩ : ∃ U, w1.heap.size = U := ⟨_, rfl⟩
    obtain ⟨Y, hY⟩ : ∃ Y, w1.alloc (.cells #[.int .i64 t.due, .int .i64 t.id, .int .i64 t.what] 45) = Y := ⟨_, rfl⟩
    have B2 : Hid (TW w Y Q X q q [(U, t.cells, 45), (A, #[.int .i64 kind, .int .i64 id, .int .i64 due], 33)]) := Lib.hid (by rw [← hU, ← hY]; exact B1.out.add t.cells _)
    obtain ⟨b0, b1, b2⟩ := HC.out Y _ _ [_] B2.out
    clear a0 a1 a2
    go_wp2_with fail
    clear hY hU
    refine (H2.out Y _ B2.out).mono ?_
    rintro e w2 ⟨rfl, B3⟩
    obtain ⟨V, hV⟩ : ∃ V, w2.heap.size = V := ⟨_, rfl⟩
    obtain ⟨T, hT⟩ : ∃ T, w2.alloc (.cells #[.int .i64 t.due, .int .i64 t.id, .int .i64 t.what] 45) = T := ⟨_, rfl⟩
    have B4 : Hid (TW w T Q X q q [(V, t.cells, 45), (U, t.cells, 45), (A, #[.int .i64 kind, .int .i64 id, .int .i64 due], 33)]) := Lib.hid (by rw [← hV, ← hT]; exact B3.out.add t.cells _)
    obtain ⟨u0, u1, u2⟩ := tm_at (B4.out.cells (B := U) (cs := t.cells) (T := 45) (by simp))
    obtain ⟨v0, v1, v2⟩ := tm_at (B4.out.cells (B := V) (cs := t.cells) (T := 45) (by simp))
    clear b0 b1 b2
    go_wp2_with fail
    go_ret
    exact ⟨by simp, B4.out.none⟩
end Go.Proofs.Ytfbdkafpfminlaa.Heap
