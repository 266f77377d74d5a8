/- The program's New; a queue of the call's own; the laws' awake. -/
import Derived.Test.YtfbdkafpfminlaaHeapImK
namespace Go.Proofs.Ytfbdkafpfminlaa.Heap.Im
open Go.RowKit Go.Lib

set_option maxRecDepth 100000 in
theorem new_bad (m : Int) (w : World) (h : m < 1 ∨ 1024 < m) :
    Calls Try.prog 8 #[.int .i64 m] w fun e w' => e = .returned (.tuple #[.pointer none, .int .i64 1]) ∧ w = w' := by
  rcases h with h | h
  · go_enter Try.func8, Try.ntmps8
    go_wp2_with fail
    go_ret2
    exact ⟨rfl, rfl⟩
  · have h1 : ¬ m < 1 := by omega
    go_enter Try.func8, Try.ntmps8
    go_wp2_with fail
    go_ret2
    exact ⟨rfl, rfl⟩
theorem good_new {m : Int} (h : 1 ≤ m ∧ m ≤ 1024) : Good ⟨[], m, 1⟩ := ⟨.nil, .nil, fun _ h => by simp at h, fun _ h => by simp at h, h, by show (0 : Int) ≤ m; omega, by show (1 : Int) ≤ 1; omega, by show (1 : Int) ≤ mt; unfold mt; omega⟩
/-- A queue of the call's own: all that it lies in is new. -/
def FQ (w W : World) (Q : Nat) (q : QS) : Prop := ∃ F, HQ W Q F q ∧ Below w.heap.size w W ∧ ∀ k, F k → w.heap.size ≤ k
theorem FQ.below {w W : World} {Q : Nat} {q : QS} (h : FQ w W Q q) : Below w.heap.size w W := by
  obtain ⟨F, _, h, _⟩ := h
  exact h
theorem FQ.step {w W W' : World} {Q : Nat} {q' : QS} {F F' : Nat → Prop} (hb : Below w.heap.size w W) (hF : ∀ k, F k → w.heap.size ≤ k) (h : HQ W' Q F' q') (hs : StepF W W' F F') : FQ w W' Q q' := by
  obtain ⟨h1, h2⟩ := hs.fresh hb hF
  exact ⟨F', h, h1, h2⟩
theorem FQ.under {w W W' : World} {Q : Nat} {q : QS} (h : FQ w W Q q) (hb : Below W.heap.size W W') : FQ w W' Q q := by
  obtain ⟨F, h1, h2, h3⟩ := h
  exact ⟨F, h1.under hb, below_then h2 hb, h3⟩
set_option maxRecDepth 100000 in
set_option maxHeartbeats 1000000 in
theorem new_im (m : Int) (w : World) (h : 1 ≤ m ∧ m ≤ 1024) :
    Calls Try.prog 8 #[.int .i64 m] w fun e w' => ∃ Q, e = .returned (.tuple #[ptr Q, .int .i64 0]) ∧ FQ w w' Q ⟨[], m, 1⟩ := by
  have h1 : ¬ m < 1 := by omega
  have h2 : ¬ 1024 < m := by omega
  have HZ : Hid (FQ w ((w.alloc (.map #[] 0)).alloc (.cells #[.int .i64 m, .int .i64 1, .slice none 0 0, .map (some w.heap.size)] 53)) (w.heap.size + 1) ⟨[], m, 1⟩) := Lib.hid (by
    have hb : Below w.heap.size w ((w.alloc (.map #[] 0)).alloc (.cells #[.int .i64 m, .int .i64 1, .slice none 0 0, .map (some w.heap.size)] 53)) := ((Below.refl _ w).alloc (Nat.le_refl _) _).alloc (by simp) _
    have hq := heap_alloc_new (w.alloc (.map #[] 0)) (.cells #[.int .i64 m, .int .i64 1, .slice none 0 0, .map (some w.heap.size)] 53)
    rw [show (w.alloc (.map #[] 0)).heap.size = w.heap.size + 1 by simp] at hq
    have hm := (Ints.mapIs_made Try.prog 3 w).of_block (w' := (w.alloc (.map #[] 0)).alloc (.cells #[.int .i64 m, .int .i64 1, .slice none 0 0, .map (some w.heap.size)] 53)) (heap_alloc_old _ _ (by simp))
    refine ⟨foot (w.heap.size + 1) (.slice none 0 0) [] w.heap.size, ⟨[], ⟨_, [], _, ⟨hq, World.ownsRow_nil _ _ _ _, fun i p t hp => by simp at hp, ⟨_, hm, fun i t h => by simp at h, fun _ _ => rfl⟩, fun t h => by simp at h, by omega, fun e => (by cases e), fun e => (by cases e), fun p hp => (by simp at hp)⟩, fun _ => Iff.rfl⟩, fun i _ hi => by simp at hi, .refl _⟩, hb, fun k hk => ?_⟩
    rcases hk with h | h | h | h
    · omega
    · omega
    · cases h
    · simp at h)
  have hmk := run_makeMap (P := Try.prog) 51 w
  go_enter Try.func8, Try.ntmps8
  go_wp2_with fail
  go_ret2
  exact ⟨w.heap.size + 1, by first | rfl | simp, HZ.out⟩
theorem fq_insert {w W : World} {Q : Nat} {q : QS} (due what : Int) (h : FQ w W Q q) (hg : Good q) :
    Calls Try.prog 14 #[ptr Q, .int .i64 due, .int .i64 what] W fun e w' => e = .returned (.tuple #[.int .i64 (ins q due what).2.1, .int .i64 (ins q due what).2.2]) ∧ FQ w w' Q (ins q due what).1 := by
  obtain ⟨F, h1, h2, h3⟩ := h
  exact (insert_im due what W h1 hg).mono fun _ _ ⟨e, F', h4, h5⟩ => ⟨e, FQ.step h2 h3 h4 h5⟩
theorem fq_move {w W : World} {Q : Nat} {q : QS} (id due : Int) (hid : Ints.I64 id) (h : FQ w W Q q) (hg : Good q) :
    Calls Try.prog 17 #[ptr Q, .int .i64 id, .int .i64 due] W fun e w' => e = .returned (.tuple #[.int .i64 (move q id due).2.1, .int .i64 (move q id due).2.2]) ∧ FQ w w' Q (move q id due).1 := by
  obtain ⟨F, h1, h2, h3⟩ := h
  exact (move_im id due hid W h1 hg).mono fun _ _ ⟨e, F', h4, h5⟩ => ⟨e, FQ.step h2 h3 h4 h5⟩
theorem fq_pop {w W : World} {Q : Nat} {q : QS} (now : Int) (h : FQ w W Q q) (hg : Good q) :
    Calls Try.prog 15 #[ptr Q, .int .i64 now] W fun e w' => e = .returned (firstV (pop q now).2) ∧ FQ w w' Q (pop q now).1 := by
  obtain ⟨F, h1, h2, h3⟩ := h
  exact (pop_im now W h1 hg).mono fun _ _ ⟨e, F', h4, h5⟩ => ⟨e, FQ.step h2 h3 h4 h5⟩
theorem fq_first {w W : World} {Q : Nat} {q : QS} (h : FQ w W Q q) (hg : Good q) :
    Calls Try.prog 18 #[ptr Q] W fun e w' => e = .returned (firstV (first q)) ∧ FQ w w' Q q ∧ Below W.heap.size W w' := by
  have h0 := h
  obtain ⟨F, h1, h2, h3⟩ := h
  exact (first_im W h1 hg).mono fun _ _ ⟨e, h4⟩ => ⟨e, h0.under h4, h4⟩
theorem fq_len {w W : World} {Q : Nat} {q : QS} (h : FQ w W Q q) (hg : Good q) :
    Calls Try.prog 16 #[ptr Q] W fun e w' => e = .returned (.int .i64 q.l.length) ∧ W = w' := by
  obtain ⟨F, h1, h2, h3⟩ := h
  exact len_im W h1 (by have := hg.most; omega)
theorem fq_next {w W : World} {Q : Nat} {q : QS} (h : FQ w W Q q) (hg : Good q) :
    Calls Try.prog 22 #[ptr Q] W fun e w' => e = .returned (.int .i64 q.next) ∧ W = w' := by
  obtain ⟨F, h1, h2, h3⟩ := h
  exact next_im W h1 (by have := hg.most; omega)
def aw1 : QS := ⟨[⟨5, 1, 50⟩], 4, 2⟩
def aw2 : QS := ⟨[⟨3, 2, 30⟩, ⟨5, 1, 50⟩], 4, 3⟩
def aw3 : QS := ⟨[⟨3, 2, 30⟩, ⟨4, 3, 50⟩], 4, 4⟩
def aw4 : QS := ⟨[⟨4, 3, 50⟩], 4, 4⟩
theorem aw_1 : ins ⟨[], 4, 1⟩ 5 50 = (aw1, 1, 0) := rfl
theorem aw_2 : ins aw1 3 30 = (aw2, 2, 0) := rfl
theorem aw_3 : move aw2 1 4 = (aw3, 3, 0) := rfl
theorem aw_4 : pop aw3 9 = (aw4, ⟨3, 2, 30⟩, true) := rfl
theorem aw_5 : first aw4 = (⟨4, 3, 50⟩, true) := rfl
set_option maxRecDepth 100000 in
set_option maxHeartbeats 4000000 in
theorem awake_im (w : World) : Calls Try.prog 7 #[] w fun e w' => e = .returned (.bool true) ∧ Below w.heap.size w w' := by
  have g0 : Good ⟨[], 4, 1⟩ := good_new (by omega)
  have g1 : Good aw1 := by have := good_ins g0 5 50; rw [aw_1] at this; exact this
  have g2 : Good aw2 := by have := good_ins g1 3 30; rw [aw_2] at this; exact this
  have g3 : Good aw3 := by have := good_move g2 1 4; rw [aw_3] at this; exact this
  have g4 : Good aw4 := by have := good_pop g3 9; rw [aw_4] at this; exact this
  have h0 := new_im 4 w (by omega)
  have h1 : ∀ W Q, FQ w W Q ⟨[], 4, 1⟩ → Calls Try.prog 14 #[ptr Q, .int .i64 5, .int .i64 50] W fun e w' => e = .returned (.tuple #[.int .i64 1, .int .i64 0]) ∧ FQ w w' Q aw1 := fun W Q h => by have := fq_insert 5 50 h g0; rw [aw_1] at this; exact this
  have h2 : ∀ W Q, FQ w W Q aw1 → Calls Try.prog 14 #[ptr Q, .int .i64 3, .int .i64 30] W fun e w' => e = .returned (.tuple #[.int .i64 2, .int .i64 0]) ∧ FQ w w' Q aw2 := fun W Q h => by have := fq_insert 3 30 h g1; rw [aw_2] at this; exact this
  have h3 : ∀ W Q, FQ w W Q aw2 → Calls Try.prog 17 #[ptr Q, .int .i64 1, .int .i64 4] W fun e w' => e = .returned (.tuple #[.int .i64 3, .int .i64 0]) ∧ FQ w w' Q aw3 := fun W Q h => by have := fq_move 1 4 (by unfold Ints.I64; omega) h g2; rw [aw_3] at this; exact this
  have h4 : ∀ W Q, FQ w W Q aw3 → Calls Try.prog 15 #[ptr Q, .int .i64 9] W fun e w' => e = .returned (.tuple #[.agg #[.int .i64 3, .int .i64 2, .int .i64 30], .bool true]) ∧ FQ w w' Q aw4 := fun W Q h => by have := fq_pop 9 h g3; rw [aw_4] at this; exact this
  have h5 : ∀ W Q, FQ w W Q aw4 → Calls Try.prog 18 #[ptr Q] W fun e w' => e = .returned (.tuple #[.agg #[.int .i64 4, .int .i64 3, .int .i64 50], .bool true]) ∧ FQ w w' Q aw4 ∧ Below W.heap.size W w' := fun W Q h => by have := fq_first h g4; rw [aw_5] at this; exact this
  have h6 : ∀ W Q, FQ w W Q aw4 → Calls Try.prog 16 #[ptr Q] W fun e w' => e = .returned (.int .i64 1) ∧ W = w' := fun W Q h => fq_len h g4
  have h7 : ∀ W Q, FQ w W Q aw4 → Calls Try.prog 22 #[ptr Q] W fun e w' => e = .returned (.int .i64 4) ∧ W = w' := fun W Q h => fq_next h g4
  have H0 := Lib.hid h0; have H1 := Lib.hid h1; have H2 := Lib.hid h2; have H3 := Lib.hid h3; have H4 := Lib.hid h4; have H5 := Lib.hid h5; have H6 := Lib.hid h6; have H7 := Lib.hid h7
  clear g0 g1 g2 g3 g4 h0 h1 h2 h3 h4 h5 h6 h7
  go_enter Try.func7, Try.ntmps7
  go_wp2_with fail
  refine H0.out.mono ?_
  rintro e w1 ⟨Q, rfl, hq⟩
  have B1 := Lib.hid hq
  clear hq
  go_wp2_with fail
  refine (H1.out _ _ B1.out).mono ?_
  rintro e w2 ⟨rfl, hq⟩
  have B2 := Lib.hid hq
  clear hq
  go_wp2_with fail
  refine (H2.out _ _ B2.out).mono ?_
  rintro e w3 ⟨rfl, hq⟩
  have B3 := Lib.hid hq
  clear hq
  go_wp2_with fail
  refine (H3.out _ _ B3.out).mono ?_
  rintro e w4 ⟨rfl, hq⟩
  have B4 := Lib.hid hq
  clear hq
  go_wp2_with fail
  refine (H4.out _ _ B4.out).mono ?_
  rintro e w5 ⟨rfl, hq⟩
  obtain ⟨X, hX⟩ : ∃ X, w5.alloc (.cells #[.int .i64 3, .int .i64 2, .int .i64 30] 45) = X := ⟨_, rfl⟩
  obtain ⟨T, hT⟩ : ∃ T, w5.heap.size = T := ⟨_, rfl⟩
  have hTX : X.heap[T]? = some (.cells (Tm.cells ⟨3, 2, 30⟩) 45 (0, 0)) := by rw [← hX, ← hT]; exact heap_alloc_new w5 _
  have B5 : Hid (FQ w X Q aw4) := Lib.hid (by rw [← hX]; exact hq.under ((Below.refl _ w5).alloc (Nat.le_refl _) _))
  have HT := Lib.hid hTX
  clear hq hTX
  go_wp2_with fail
  clear hX hT
  refine (H5.out _ _ B5.out).mono ?_
  rintro e w6 ⟨rfl, hq⟩
  obtain ⟨Y, hY⟩ : ∃ Y, w6.alloc (.cells #[.int .i64 4, .int .i64 3, .int .i64 50] 45) = Y := ⟨_, rfl⟩
  obtain ⟨U, hU⟩ : ∃ U, w6.heap.size = U := ⟨_, rfl⟩
  have hUY : Y.heap[U]? = some (.cells (Tm.cells ⟨4, 3, 50⟩) 45 (0, 0)) := by rw [← hY, ← hU]; exact heap_alloc_new w6 _
  have hb6 := hq.2
  have B6 : Hid (FQ w Y Q aw4) := Lib.hid (by rw [← hY]; exact hq.1.under ((Below.refl _ w6).alloc (Nat.le_refl _) _))
  have hTY : Y.heap[T]? = some (.cells (Tm.cells ⟨3, 2, 30⟩) 45 (0, 0)) := by
    have hlt := (Array.getElem?_eq_some_iff.1 HT.out).1
    rw [← hY, heap_alloc_old _ _ (Nat.lt_of_lt_of_le hlt hb6.size), hb6.block T hlt]
    exact HT.out
  obtain ⟨t0, t1, t2⟩ := tm_at hTY
  obtain ⟨u0, u1, u2⟩ := tm_at hUY
  clear hq hb6 hTY hUY
  go_wp2_with (first | (go_at_call 16; refine (H6.out _ _ B6.out).mono ?_; rintro e w' ⟨rfl, rfl⟩) | (go_at_call 22; refine (H7.out _ _ B6.out).mono ?_; rintro e w' ⟨rfl, rfl⟩))
  go_ret
  exact ⟨rfl, B6.out.below⟩
end Go.Proofs.Ytfbdkafpfminlaa.Heap.Im
