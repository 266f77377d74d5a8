/- The program's purse as the laws ask for it. -/
import Derived.Test.YteglahogimdnfaaPurImF
namespace Go.Proofs.Yteglahogimdnfaa.Purse
open Go.RowKit Go.Lib

/-! a nil purse -/
set_option maxRecDepth 100000 in
theorem open_nil (o : Int) (w : World) : Calls Try.prog 20 #[.pointer none, .int .i64 o] w fun e w' => e = .returned (.int .i64 1) ∧ Below w.heap.size w w' := by
  go_enter Try.func20, Try.ntmps20
  go_wp2_with fail
  go_ret
  exact ⟨rfl, Below.refl _ _⟩
set_option maxRecDepth 100000 in
theorem give_nil (o n : Int) (w : World) : Calls Try.prog 21 #[.pointer none, .int .i64 o, .int .i64 n] w fun e w' => e = .returned (.int .i64 1) ∧ Below w.heap.size w w' := by
  have HM := Lib.hid (money_nil o w)
  go_enter Try.func21, Try.ntmps21
  go_wp2_with fail
  refine HM.out.mono ?_
  rintro e w' ⟨rfl, rfl⟩
  go_wp2_with fail
  go_ret
  exact ⟨rfl, Below.refl _ _⟩
set_option maxRecDepth 100000 in
theorem take_nil (o n : Int) (w : World) : Calls Try.prog 33 #[.pointer none, .int .i64 o, .int .i64 n] w fun e w' => e = .returned (.int .i64 1) ∧ Below w.heap.size w w' := by
  have HM := Lib.hid (money_nil o w)
  go_enter Try.func33, Try.ntmps33
  go_wp2_with fail
  refine HM.out.mono ?_
  rintro e w' ⟨rfl, rfl⟩
  go_wp2_with fail
  go_ret
  exact ⟨rfl, Below.refl _ _⟩
set_option maxRecDepth 100000 in
theorem move_nil (f t n : Int) (w : World) : Calls Try.prog 19 #[.pointer none, .int .i64 f, .int .i64 t, .int .i64 n] w fun e w' => e = .returned (.int .i64 1) ∧ Below w.heap.size w w' := by
  have HM := Lib.hid (money_nil t w)
  go_enter Try.func19, Try.ntmps19
  go_wp2_with fail
  refine HM.out.mono ?_
  rintro e w' ⟨rfl, rfl⟩
  go_wp2_with fail
  go_ret
  exact ⟨rfl, Below.refl _ _⟩
set_option maxRecDepth 100000 in
theorem moves_nil (b : Option Addr) (m d : Nat) (w : World) : Calls Try.prog 16 #[.pointer none, .slice b m d] w fun e w' => e = .returned (.tuple #[.int .i64 0, .int .i64 1]) ∧ Below w.heap.size w w' := by
  go_enter Try.func16, Try.ntmps16
  go_wp2_with fail
  go_ret2
  exact ⟨rfl, Below.refl _ _⟩
set_option maxRecDepth 100000 in
theorem total_nil (w : World) : Calls Try.prog 14 #[.pointer none] w fun e w' => e = .returned (.int .i64 0) ∧ Below w.heap.size w w' := by
  go_enter Try.func14, Try.ntmps14
  go_wp2_with fail
  go_ret
  exact ⟨rfl, Below.refl _ _⟩
set_option maxRecDepth 100000 in
theorem list_nil (w : World) : Calls Try.prog 13 #[.pointer none] w fun e w' => ∃ a c, e = .returned (.slice a 0 c) ∧ Below w.heap.size w w' := by
  go_enter Try.func13, Try.ntmps13
  go_wp2_with fail
  go_ret
  exact ⟨none, 0, rfl, Below.refl _ _⟩
theorem pt_new (w : World) : PT (w.alloc (.cells #[.slice none 0 0, .slice none 0 0] 59)) w.heap.size (fun k => k = w.heap.size) [] :=
  ⟨_, _, ⟨_, heap_alloc_new w _⟩, World.ownsRow_nil _ _ _ _, World.ownsRow_nil _ _ _ _, rfl, fun q hq => (by cases hq), fun q hq => (by cases hq), fun k hk => by subst hk; simp⟩
set_option maxRecDepth 100000 in
theorem clone_nil (w : World) : Calls Try.prog 18 #[.pointer none] w fun e w' => ∃ Q, e = .returned (ptr Q) ∧ ∃ R, PT w' Q R [] ∧ Below w.heap.size w w' ∧ w.heap.size ≤ Q := by
  have HP := Lib.hid (pt_new w)
  have HB : Hid (Below w.heap.size w (w.alloc (.cells #[.slice none 0 0, .slice none 0 0] 59))) := Lib.hid ((Below.refl _ w).alloc (Nat.le_refl _) _)
  go_enter Try.func18, Try.ntmps18
  go_wp2_with fail
  go_ret
  exact ⟨_, rfl, _, HP.out, HB.out, Nat.le_refl _⟩
/-! all of it -/
def PQ (w : World) (Q : Nat) (F R : Nat → Prop) (l : List Ac) : Prop := F = (fun k => k = Q) ∧ PT w Q R l
theorem pq_up {w w' : World} {Q : Nat} {F R R' : Nat → Prop} {l l' : List Ac} (h : PQ w Q F R l) (h1 : PT w' Q R' l') (h2 : Up w w' Q R R') : ∃ F' R', PQ w' Q F' R' l' ∧ StepF w w' F F' := by
  obtain ⟨rfl, _⟩ := h
  exact ⟨_, R', ⟨rfl, h1⟩, h2.step⟩
theorem pq_below {w w' : World} {Q : Nat} {F R : Nat → Prop} {l : List Ac} (h : PQ w Q F R l) (hb : Below w.heap.size w w') : ∃ F' R', PQ w' Q F' R' l ∧ StepF w w' F F' := ⟨F, R, ⟨h.1, h.2.under hb⟩, StepF.below _ hb⟩
noncomputable def impl : Impl where
  PQ := PQ
  lt := fun {w Q F R l} h k hk => by
    obtain ⟨rfl, h⟩ := h
    rcases hk with rfl | hk
    · exact h.lt _ h.self
    · exact h.lt k hk
  keep := fun {w w' Q F R l} h hs hk => ⟨h.1, h.2.keep hs fun k hr => hk k (.inr hr)⟩
  zero := fun w => ⟨rfl, pt_new w⟩
  load := fun a n c l w h hn hn2 _ => (load_im a n c l w h hn hn2).mono fun _ _ ⟨p, e, H⟩ => ⟨p, e, H.out.1, H.out.2.1, fun h0 => by
    obtain ⟨Q, R, h1, h2, h3⟩ := H.out.2.2 h0
    exact ⟨Q, _, R, h1, ⟨rfl, h2⟩, fun k hk => by subst hk; exact h3⟩⟩
  open_ := fun o w h hg hl _ => (open_im o w h.2 hg hl).mono fun _ _ ⟨e, _, h1, h2⟩ => ⟨e, pq_up h h1 h2⟩
  money := fun o w h hg hl _ => (money_im o w h.2 hg.rise hl).mono fun _ _ ⟨e, hb⟩ => ⟨e, pq_below h hb⟩
  give := fun o n w h hg hl _ hn => (give_im o n w h.2 hg hl hn.2).mono fun _ _ ⟨e, _, h1, h2⟩ => ⟨e, pq_up h h1 h2⟩
  take := fun o n w h hg hl _ _ => (take_im o n w h.2 hg hl).mono fun _ _ ⟨e, _, h1, h2⟩ => ⟨e, pq_up h h1 h2⟩
  move := fun f t n w h hg hl _ _ hn => (move_im f t n w h.2 hg hl hn.2).mono fun _ _ ⟨e, _, h1, h2⟩ => ⟨e, pq_up h h1 h2⟩
  moves := fun b m d ps w h hg hl hp hm hm2 hi _ => (moves_im b m d ps w h.2 hg hl hp hm hm2 hi).mono fun _ _ ⟨e, _, h1, h2⟩ => ⟨e, pq_up h h1 h2⟩
  total := fun w h hg hl => (total_im w h.2 hg hl).mono fun _ _ ⟨e, hb⟩ => ⟨e, pq_below h hb⟩
  list := fun {Q F R l} w h hg hl => (list_im w h.2 hl).mono fun _ _ ⟨v, e, ho, hb⟩ => by
    obtain ⟨a, c, rfl, _, _, _, _⟩ := rowA ho
    refine ⟨a, _, c, e, F, R, ⟨h.1, h.2.under hb⟩, StepF.below _ hb, ho, fun k hk hf => ?_⟩
    have h1 := (ho.lt k hk).1
    rw [h.1] at hf
    have h2 := h.2.lt Q h.2.self
    have h3 : k = Q := hf
    omega
  clone := fun {Q F R l} w h hg hl => (clone_im w h.2).mono fun _ _ ⟨Q2, e, R2, h1, h2, hb, h3⟩ => by
    have hq := h.2.lt Q h.2.self
    refine ⟨Q2, e, fun k => k = Q2, R2, F, R, ⟨h.1, h.2.under hb⟩, StepF.below _ hb, ⟨rfl, h1⟩, fun k hk => by subst hk; exact h2, fun k hk hf => ?_⟩
    rw [h.1] at hf
    have hf2 : k = Q := hf
    rcases hk with hk | hk
    · have : k = Q2 := hk
      omega
    · rcases h3 k hk with h4 | h4
      · exact h4.2 hf2
      · omega
  n_open := open_nil
  n_money := fun o w => (money_nil o w).mono fun _ _ ⟨e, h⟩ => ⟨e, by subst h; exact Below.refl _ _⟩
  n_give := give_nil
  n_take := take_nil
  n_move := move_nil
  n_moves := fun b m d _ w _ _ _ => moves_nil b m d w
  n_total := total_nil
  n_list := list_nil
  n_clone := fun w => (clone_nil w).mono fun _ _ ⟨Q, e, R, h1, hb, h2⟩ => ⟨Q, e, _, R, ⟨rfl, h1⟩, hb, fun k hk => by subst hk; exact h2⟩
end Go.Proofs.Yteglahogimdnfaa.Purse
