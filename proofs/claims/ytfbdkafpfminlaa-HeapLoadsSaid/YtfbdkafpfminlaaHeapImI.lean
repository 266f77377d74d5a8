/- The program's queue as the document's; made, Len, Next, First, Get. -/
import Derived.Test.YtfbdkafpfminlaaHeapImF
import Derived.Test.YtfbdkafpfminlaaHeapImH
namespace Go.Proofs.Ytfbdkafpfminlaa.Heap.Im
open Go.RowKit Go.Lib

/-- The program's queue at block Q has the timers that the document's queue has. -/
def HQ (w : World) (Q : Nat) (F : Nat → Prop) (q : QS) : Prop := ∃ l, MQ w Q F l q.most q.next ∧ HeapOK l ∧ l.Perm q.l
theorem HQ.lt {w : World} {Q : Nat} {F : Nat → Prop} {q : QS} (h : HQ w Q F q) : ∀ k, F k → k < w.heap.size := by
  obtain ⟨l, h, _⟩ := h
  exact h.lt
theorem HQ.keep {w w' : World} {Q : Nat} {F : Nat → Prop} {q : QS} (h : HQ w Q F q) (hk : ∀ k, F k → w'.heap[k]? = w.heap[k]?) : HQ w' Q F q := by
  obtain ⟨l, h, h2⟩ := h
  exact ⟨l, h.keep hk, h2⟩
theorem HQ.under {w w' : World} {Q : Nat} {F : Nat → Prop} {q : QS} (h : HQ w Q F q) (hb : Below w.heap.size w w') : HQ w' Q F q := h.keep fun k hk => hb.block k (h.lt k hk)
theorem MQ.c {w : World} {Q : Nat} {F : Nat → Prop} {l : List Tm} {most next : Int} (h : MQ w Q F l most next) : w.cell? ⟨Q, 0, none⟩ = some (.int .i64 most) ∧ w.cell? ⟨Q, 1, none⟩ = some (.int .i64 next) ∧ ∃ a c, w.cell? ⟨Q, 2, none⟩ = some (.slice a l.length c) := by
  obtain ⟨lv, ps, b, h, _⟩ := h
  obtain ⟨a, c, rfl, _⟩ := h.slice
  exact ⟨h.c.1, h.c.2.1, a, c, h.c.2.2.1⟩
set_option maxRecDepth 100000 in
theorem made_im {Q : Nat} {F : Nat → Prop} {l : List Tm} {most next : Int} (w : World) (h : MQ w Q F l most next) (hm : 0 < most) :
    Calls Try.prog 33 #[ptr Q] w fun e w' => e = .returned (.bool true) ∧ w = w' := by
  obtain ⟨c0, -, -⟩ := h.c
  clear h
  go_enter Try.func33, Try.ntmps33
  go_wp2_with fail
  go_ret
  exact ⟨rfl, rfl⟩
set_option maxRecDepth 100000 in
theorem len_im {Q : Nat} {F : Nat → Prop} {q : QS} (w : World) (h : HQ w Q F q) (hm : 0 < q.most) :
    Calls Try.prog 16 #[ptr Q] w fun e w' => e = .returned (.int .i64 q.l.length) ∧ w = w' := by
  obtain ⟨l, h, _, hp⟩ := h
  have HM := Lib.hid (made_im w h hm)
  obtain ⟨-, -, a, c, c2⟩ := h.c
  obtain ⟨n, hn⟩ : ∃ n, l.length = n := ⟨_, rfl⟩
  rw [← hp.length_eq, hn]
  rw [hn] at c2
  clear h hm hp hn
  go_enter Try.func16, Try.ntmps16
  go_wp2_with (go_at_call 33; refine HM.out.mono ?_; rintro e w' ⟨rfl, rfl⟩)
  go_ret
  exact ⟨rfl, rfl⟩
set_option maxRecDepth 100000 in
theorem next_im {Q : Nat} {F : Nat → Prop} {q : QS} (w : World) (h : HQ w Q F q) (hm : 0 < q.most) :
    Calls Try.prog 22 #[ptr Q] w fun e w' => e = .returned (.int .i64 q.next) ∧ w = w' := by
  obtain ⟨l, h, _, hp⟩ := h
  have HM := Lib.hid (made_im w h hm)
  obtain ⟨-, c1, -⟩ := h.c
  obtain ⟨n, hn⟩ : ∃ n, q.next = n := ⟨_, rfl⟩
  rw [hn] at c1 ⊢
  clear h hm hp hn
  go_enter Try.func22, Try.ntmps22
  go_wp2_with (go_at_call 33; refine HM.out.mono ?_; rintro e w' ⟨rfl, rfl⟩)
  go_ret
  exact ⟨rfl, rfl⟩
theorem first_cons {q : QS} {t : Tm} {r : List Tm} (h : q.l = t :: r) : first q = (t, true) := by unfold first; rw [h]
theorem first_nil {q : QS} (h : q.l = []) : first q = (zeroTm, false) := by unfold first; rw [h]
abbrev firstV (x : Tm × Bool) : Value := .tuple #[tV x.1, .bool x.2]
theorem below_cells {w W : World} {R : Nat} (hb : Below w.heap.size w W) (hR : w.heap.size ≤ R) (x y z : Value) : Below w.heap.size w (((W.setCell ⟨R, 0, none⟩ x).setCell ⟨R, 1, none⟩ y).setCell ⟨R, 2, none⟩ z) :=
  below_of_only hb hR (only_setCell (only_setCell (only_setCell (only_refl W (some R)) _ _) _ _) _ _)
set_option maxRecDepth 100000 in
set_option maxHeartbeats 2000000 in
theorem first_im {Q : Nat} {F : Nat → Prop} {q : QS} (w : World) (h : HQ w Q F q) (hg : Good q) :
    Calls Try.prog 18 #[ptr Q] w fun e w' => e = .returned (firstV (first q)) ∧ Below w.heap.size w w' := by
  have hm : 0 < q.most := by have := hg.most; omega
  obtain ⟨R, hR⟩ : ∃ R, w.heap.size = R := ⟨_, rfl⟩
  obtain ⟨Y, hY⟩ : ∃ Y, w.alloc (.cells #[.int .i64 0, .int .i64 0, .int .i64 0] 45) = Y := ⟨_, rfl⟩
  have hbY : Below w.heap.size w Y := by rw [← hY]; exact (Below.refl _ w).alloc (Nat.le_refl _) _
  have hRY : Y.heap[R]? = some (.cells zeroTm.cells 45 (0, 0)) := by
    rw [← hY, ← hR]
    exact heap_alloc_new w _
  have HL := Lib.hid (len_im Y (h.under hbY) hm)
  have HB := Lib.hid hbY; have HR := Lib.hid hRY; have HRR := Lib.hid hR
  obtain ⟨e0, e1, e2⟩ := tm_at hRY
  have f0 := free_block 0 hRY; have f1 := free_block 1 hRY; have f2 := free_block 2 hRY
  obtain ⟨l, hq, hh, hp⟩ := h.under hbY
  rcases hl : q.l with _ | ⟨t, r⟩
  · rw [first_nil hl]
    rw [hl] at HL
    clear hbY hRY h hg hm hq hh hp hl
    go_enter Try.func18, Try.ntmps18
    go_wp2_with (go_at_call 16; refine HL.out.mono ?_; rintro e w' ⟨rfl, rfl⟩)
    exact ret_tm2 (t := zeroTm) rfl rfl rfl rfl (tm_set (k := zeroTm) (x := zeroTm) HR.out) ⟨rfl, below_cells HB.out (by rw [HRR.out]; exact Nat.le_refl _) _ _ _⟩
  · have hf := Rep.first ⟨hh, hp⟩ hg hl
    have h0 : 0 < l.length := by rw [hp.length_eq, hl]; simp
    rw [first_cons hl]
    obtain ⟨n, hn⟩ : ∃ n, q.l.length = n := ⟨_, rfl⟩
    have hln : l.length = n := by rw [hp.length_eq, hn]
    rw [hn] at HL
    have hne : ((n : Int) == 0) = false := by simp; omega
    have hn0 : (0 : Int) < (n : Int) := by omega
    obtain ⟨lv, ps, b, hv, _⟩ := hq
    obtain ⟨g, c, p, rfl, _, a0, _, hb0⟩ := hv.at_ h0
    have c2 := hv.c.2.2.1
    rw [hf] at hb0
    obtain ⟨x0, x1, x2⟩ := tm_at hb0
    rw [hln] at c2
    clear hbY hRY h hg hm hh hp hl hv hf hn hln hb0 h0
    go_enter Try.func18, Try.ntmps18
    go_wp2_with (go_at_call 16; refine HL.out.mono ?_; rintro e w' ⟨rfl, rfl⟩)
    exact ret_tm2 (t := t) rfl rfl rfl rfl (tm_set (k := zeroTm) (x := t) HR.out) ⟨rfl, below_cells HB.out (by rw [HRR.out]; exact Nat.le_refl _) _ _ _⟩
end Go.Proofs.Ytfbdkafpfminlaa.Heap.Im
