/- The walks over what changes the document's disk in place: an operation counted, Fuse. -/
import Derived.Test.YtflkglnmenbmaaaDiskA
namespace Go.Proofs.Ytflkglnmenbmaaa.Disk
open Go.RowKit Go.Lib

/-- What stands of a world behind a call on a disk: all but its block and its row. -/
structure Step (w w' : World) (Q : Nat) (v v' : Value) : Prop where
  os : w'.os = w.os
  tape : w'.tape = w.tape
  output : w'.output = w.output
  size : w.heap.size ≤ w'.heap.size
  block : ∀ k, k < w.heap.size → k ≠ Q → v.ownBlock ≠ some k → w'.heap[k]? = w.heap[k]?
  fresh : v'.ownBlock = v.ownBlock ∨ ∀ g, v'.ownBlock = some g → w.heap.size ≤ g
theorem Step.refl (w : World) (Q : Nat) (v : Value) : Step w w Q v v := ⟨rfl, rfl, rfl, Nat.le_refl _, fun _ _ _ _ => rfl, .inl rfl⟩
theorem Step.trans {w w1 w2 : World} {Q : Nat} {v v1 v2 : Value} (h : Step w w1 Q v v1) (k : Step w1 w2 Q v1 v2) : Step w w2 Q v v2 := by
  refine ⟨k.os.trans h.os, k.tape.trans h.tape, k.output.trans h.output, Nat.le_trans h.size k.size, fun i hi hq hv => ?_, ?_⟩
  · rw [k.block i (Nat.lt_of_lt_of_le hi h.size) hq, h.block i hi hq hv]
    rcases h.fresh with e | e
    · rw [e]; exact hv
    · intro e'; have := e i e'; omega
  · rcases k.fresh with e | e
    · rw [e]; exact h.fresh
    · exact .inr (fun g hg => Nat.le_trans h.size (e g hg))
theorem step_below {w w' : World} (Q : Nat) (v : Value) (h : Below w.heap.size w w') : Step w w' Q v v := ⟨h.os, h.tape, h.output, h.size, fun i hi _ _ => h.block i hi, .inl rfl⟩
theorem step_grown {w w' : World} {Q : Nat} (v : Value) (h : w.grownBy w' (some Q)) : Step w w' Q v v := ⟨h.os, h.tape, h.output, h.size, fun i hi hq _ => h.block i hi (by rintro e; exact hq (Option.some.inj e)), .inl rfl⟩
theorem RD.ne {w : World} {Q : Nat} {v : Value} {st : DS} (h : RD w Q v st) : v.ownBlock ≠ some Q := by
  rcases h.row.2 with ⟨hv, _⟩ | ⟨g, cap, cur, hv, _, hg, _⟩
  · rw [hv]; simp [Value.ownBlock]
  · rw [hv]
    intro e
    simp only [Value.ownBlock, Option.some.injEq] at e
    rw [e] at hg
    have := h.block.symm.trans hg
    simp at this
theorem RD.inBlock {w w' : World} {Q : Nat} {v : Value} {st st' : DS} (h : RD w Q v st) (hg : w.grownBy w' (some Q)) (hfs : st'.fs = st.fs) (hgood : Good st')
    (hb : w'.heap[Q]? = some (.cells #[v, .int .i64 (st'.room : Int), .int .i64 (st'.ops : Int), .int .i64 (st'.last : Int), .bool st'.half, .bool st'.dead] 41 (0, 0))) : RD w' Q v st' :=
  ⟨hb, by rw [hfs]; exact h.row.kept hg (.inr h.ne), hgood⟩
theorem RD.below {w w' : World} {Q : Nat} {v : Value} {st : DS} (h : RD w Q v st) (hb : Below w.heap.size w w') : RD w' Q v st :=
  ⟨(hb.block Q h.lt).trans h.block, h.row.kept (row := none) ⟨hb.os, hb.tape, hb.output, hb.size, fun i hi _ => hb.block i hi⟩ (Classical.em _), h.good⟩
theorem grown_set {w w' : World} {Q : Nat} (h : w.grownBy w' (some Q)) (o : Nat) (u : Value) : w.grownBy (w'.setCell ⟨Q, o, none⟩ u) (some Q) := only_setCell h o u
theorem Good.opS {st : DS} (h : Good st) : Good (opS st) := by
  unfold Disk.opS
  split
  · exact ⟨h.room, h.fit, h.sure, Nat.le_succ_of_le h.few, h.last⟩
  · split
    · exact ⟨h.room, h.fit, h.sure, Nat.le_succ_of_le h.few, by have := h.last; simp only; omega⟩
    · exact ⟨h.room, h.fit, h.sure, Nat.le_succ_of_le h.few, by simp⟩
theorem ret_val {a b : Value} (h : a = b) : Ending.returned a = .returned b := by rw [h]
abbrev opV (st : DS) : Value := .tuple #[.bool (opD st), .int .i64 (opE st)]
set_option maxRecDepth 100000 in
set_option maxHeartbeats 1000000 in
theorem op_any (Q : Nat) (v : Value) (st : DS) (w : World) (h : RD w Q v st) (ho : st.ops ≤ 1048576) :
    Calls Try.prog 47 #[.pointer (some ⟨Q, 0, none⟩)] w fun e w' => e = .returned (opV st) ∧ RD w' Q v (opS st) ∧ Step w w' Q v v := by
  have q2 := cell_block (j := 2) h.block rfl
  have q3 := cell_block (j := 3) h.block rfl
  have q4 := cell_block (j := 4) h.block rfl
  have q5 := cell_block (j := 5) h.block rfl
  have f2 := free_block 2 h.block
  have f3 := free_block 3 h.block
  have f5 := free_block 5 h.block
  have hlast := h.good.last
  have HD := Lib.hid h
  have g0 := only_setCell (only_refl w (some Q)) 2 (.int .i64 ((st.ops : Int) + 1))
  have b0 := heap_setCell_same w Q 2 _ _ (.int .i64 ((st.ops : Int) + 1)) h.block
  by_cases h0 : st.last = 0
  · have hE : opV st = .tuple #[.bool true, .int .i64 0] := by unfold opV opD opE; rw [if_pos h0, if_pos h0]
    have hS : opS st = { st with ops := st.ops + 1 } := by unfold opS; rw [if_pos h0]
    have hG := h.good.opS
    rw [hS] at hG ⊢
    rw [hE]
    have hR : RD (w.setCell ⟨Q, 2, none⟩ (.int .i64 ((st.ops : Int) + 1))) Q v { st with ops := st.ops + 1 } := h.inBlock g0 rfl hG b0
    have HR := Lib.hid hR; have HS := Lib.hid (step_grown v g0)
    rw [h0] at q3
    clear hR hG g0 b0 hS hE h
    go_enter Try.func47, Try.ntmps47
    go_wp2_with fail
    go_ret2
    exact ⟨rfl, HR.out, HS.out⟩
  · obtain ⟨m, hm⟩ : ∃ m, st.last = m + 1 := ⟨st.last - 1, by omega⟩
    have g1 := only_setCell g0 3 (.int .i64 (m : Int))
    have b1 := heap_setCell_same _ Q 3 _ _ (.int .i64 (m : Int)) b0
    by_cases h1 : 1 < st.last
    · have hE : opV st = .tuple #[.bool true, .int .i64 0] := by unfold opV opD opE; rw [if_neg h0, if_pos h1, if_neg h0, if_pos h1]
      have hS : opS st = { st with ops := st.ops + 1, last := m } := by unfold opS; rw [if_neg h0, if_pos h1, hm]; rfl
      have hG := h.good.opS
      rw [hS] at hG ⊢
      rw [hE]
      have hR := h.inBlock (st' := { st with ops := st.ops + 1, last := m }) g1 rfl hG b1
      have HR := Lib.hid hR; have HS := Lib.hid (step_grown v g1)
      rw [hm] at q3
      have hm0 : 0 < m := by omega
      clear hR hG g0 b0 g1 b1 hS hE h
      go_enter Try.func47, Try.ntmps47
      go_wp2_with fail
      go_ret2
      exact ⟨rfl, HR.out, HS.out⟩
    · obtain rfl : m = 0 := by omega
      have hE : opV st = .tuple #[.bool st.half, .int .i64 14] := by unfold opV opD opE; rw [if_neg h0, if_neg h1, if_neg h0, if_neg h1]
      have hS : opS st = { st with ops := st.ops + 1, last := 0, dead := true } := by unfold opS; rw [if_neg h0, if_neg h1]
      have g2 := only_setCell g1 5 (.bool true)
      have b2 := heap_setCell_same _ Q 5 _ _ (.bool true) b1
      have hG := h.good.opS
      rw [hS] at hG ⊢
      rw [hE]
      have hR := h.inBlock (st' := { st with ops := st.ops + 1, last := 0, dead := true }) g2 rfl hG b2
      have HR := Lib.hid hR; have HS := Lib.hid (step_grown v g2)
      rw [hm] at q3
      clear hR hG g0 b0 g1 b1 g2 b2 hS hE h
      go_enter Try.func47, Try.ntmps47
      go_wp2_with fail
      go_ret2
      exact ⟨rfl, HR.out, HS.out⟩
end Go.Proofs.Ytflkglnmenbmaaa.Disk
