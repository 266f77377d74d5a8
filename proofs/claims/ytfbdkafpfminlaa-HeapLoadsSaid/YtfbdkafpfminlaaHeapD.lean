/- The document's Insert, Cancel, Move, Pop, Get. -/
import Derived.Test.YtfbdkafpfminlaaHeapC
import Derived.IntWalk
namespace Go.Proofs.Ytfbdkafpfminlaa.Heap
open Go.RowKit Go.Lib

abbrev answerV (x : Tm × Bool) : Value := .tuple #[tV x.1, .bool x.2]
theorem bel_drew (w : World) (n : Nat) : Below w.heap.size w (w.drewN n) := below_drewN (Below.refl _ w) n
/-- A timer put in, and the next number. -/
theorem dadd {Q : Nat} {G G0 : Nat → Prop} {q0 q : QS} {w0 : World} (t : Tm) (W : World) (h : DQ W Q G q) (hs : StepF w0 W G0 G) (hl : q.l.length ≤ 4096) (hn : q.next = q0.next) (hm : q.most = q0.most) :
    Calls Try.prog 32 #[ptr Q, tV t] W fun e w' => e = .returned (.tuple #[]) ∧ w'.cell? ⟨Q, 2, none⟩ = some (.int .i64 q0.next) ∧ w'.frozen? ⟨Q, 2, none⟩ = false ∧
      Hid (∀ m, (w'.setCell ⟨Q, 2, none⟩ (.int .i64 m)).cell? ⟨Q, 2, none⟩ = some (.int .i64 m) ∧ ∃ G', DQ (w'.setCell ⟨Q, 2, none⟩ (.int .i64 m)) Q G' ⟨put q.l t, q0.most, m⟩ ∧ StepF w0 (w'.setCell ⟨Q, 2, none⟩ (.int .i64 m)) G0 G') := by
  refine (dput t W h hl).mono ?_
  rintro e w' ⟨rfl, G1, h1, s1⟩
  obtain ⟨a, c, _, _, c2, f2, _⟩ := h1.c
  refine ⟨rfl, by rw [c2]; show some (Value.int .i64 q.next) = _; rw [hn], f2, Lib.hid (fun m => ?_)⟩
  obtain ⟨h2, s2⟩ := h1.bump m
  refine ⟨World.cell?_setCell_same _ _ _ c2, G1, ?_, (hs.trans s1).trans s2⟩
  rw [← hm]
  exact h2
set_option maxRecDepth 100000 in
set_option maxHeartbeats 2000000 in
theorem dinsert {Q : Nat} {G : Nat → Prop} {q : QS} (due what : Int) (w : World) (h : DQ w Q G q) (hl : q.l.length ≤ 4096) (hn1 : 1 ≤ q.next) (hn2 : q.next ≤ mt) :
    Calls Try.prog 23 #[ptr Q, .int .i64 due, .int .i64 what] w fun e w' => e = .returned (.tuple #[.int .i64 (ins q due what).2.1, .int .i64 (ins q due what).2.2]) ∧ ∃ G', DQ w' Q G' (ins q due what).1 ∧ StepF w w' G G' := by
  have HQ0 := Lib.hid h
  by_cases hd : due < 0
  · have hi : ins q due what = (q, 0, 1) := by unfold ins; rw [if_pos hd]
    rw [hi]
    clear h hl hn1 hn2 hi
    go_enter Try.func23, Try.ntmps23
    go_wp2_with fail
    go_ret2
    exact ⟨rfl, G, HQ0.out, StepF.refl w G⟩
  · obtain ⟨a, c, c0, c1, c2, _, _⟩ := h.c
    obtain ⟨n, hn⟩ : ∃ n, q.l.length = n := ⟨_, rfl⟩
    obtain ⟨m, hm⟩ : ∃ m, q.most = m := ⟨_, rfl⟩
    obtain ⟨nx, hnx⟩ : ∃ nx, q.next = nx := ⟨_, rfl⟩
    rw [hn] at c0
    rw [hm] at c1
    rw [hnx] at c2
    by_cases hf : q.most ≤ q.l.length
    · have hi : ins q due what = (q, 0, 4) := by unfold ins; rw [if_neg hd, if_pos (.inl hf)]
      have he : decide (m ≤ (n : Int)) = true := decide_eq_true (by omega)
      have he2 : m ≤ (n : Int) := by omega
      rw [hi]
      clear h hl hn1 hn2 hi hf hn hm hnx
      go_enter Try.func23, Try.ntmps23
      go_wp2_with fail
      go_quiet (fail)
      go_wp2_with fail
      go_ret2
      exact ⟨rfl, G, HQ0.out.under (bel_drew w _), StepF.below G (bel_drew w _)⟩
    · have he : decide (m ≤ (n : Int)) = false := decide_eq_false (by omega)
      by_cases hx : q.next = mt
      · have hi : ins q due what = (q, 0, 4) := by unfold ins; rw [if_neg hd, if_pos (.inr hx)]
        rw [hi]
        rw [← hnx, hx] at c2
        unfold mt at c2
        clear h hl hn1 hn2 hi hf hn hm hnx hx
        go_enter Try.func23, Try.ntmps23
        go_wp2_with fail
        go_quiet (fail)
        go_wp2_with fail
        go_ret2
        exact ⟨rfl, G, HQ0.out.under (bel_drew w _), StepF.below G (bel_drew w _)⟩
      · have hi : ins q due what = (⟨put q.l ⟨due, q.next, what⟩, q.most, q.next + 1⟩, q.next, 0) := by unfold ins; rw [if_neg hd, if_neg (by rintro (h1 | h1); exact hf h1; exact hx h1)]
        have hxe : (nx == 1099511627776) = false := by unfold mt at hx; rw [← hnx]; simpa using hx
        rw [hi]
        have HP : Hid (∀ W, Below w.heap.size w W → Calls Try.prog 32 #[ptr Q, tV ⟨due, nx, what⟩] W fun e w' => e = .returned (.tuple #[]) ∧ w'.cell? ⟨Q, 2, none⟩ = some (.int .i64 nx) ∧ w'.frozen? ⟨Q, 2, none⟩ = false ∧
            Hid (∀ m, (w'.setCell ⟨Q, 2, none⟩ (.int .i64 m)).cell? ⟨Q, 2, none⟩ = some (.int .i64 m) ∧ ∃ G', DQ (w'.setCell ⟨Q, 2, none⟩ (.int .i64 m)) Q G' ⟨put q.l ⟨due, nx, what⟩, q.most, m⟩ ∧ StepF w (w'.setCell ⟨Q, 2, none⟩ (.int .i64 m)) G G')) := Lib.hid (fun W hW => by
          have := dadd (q0 := q) ⟨due, q.next, what⟩ W (h.under hW) (StepF.below G hW) hl rfl rfl
          rw [hnx] at this
          exact this)
        have hn3 : nx ≤ 2 ^ 40 := by unfold mt at hn2; omega
        have hn4 : 1 ≤ nx := by omega
        rw [hnx]
        have HD : Hid (∀ W, Below w.heap.size w W → W.cell? ⟨Q, 2, none⟩ = some (.int .i64 nx)) := Lib.hid (fun W hW => by
          obtain ⟨_, _, _, _, c2', _, _⟩ := (h.under hW).c
          rw [hnx] at c2'
          exact c2')
        clear h hl hn1 hn2 hi hf hn hm hnx hx HQ0
        go_enter Try.func23, Try.ntmps23
        go_wp2_with fail
        go_quiet (fail)
        generalize hW : w.drewN _ = W
        have HB : Hid (Below w.heap.size w W) := Lib.hid (by rw [← hW]; exact bel_drew w _)
        have d2 := HD.out W HB.out
        clear hW c0 c1 c2 he hxe
        go_wp2_with fail
        refine (HP.out W HB.out).mono ?_
        rintro e w1 ⟨rfl, g2, g3, HE⟩
        obtain ⟨g4, _⟩ := HE.out (nx + 1)
        clear d2
        go_wp2_with fail
        go_ret2
        exact ⟨by first | rfl | (congr 3; omega), (HE.out (nx + 1)).2⟩
set_option maxRecDepth 100000 in
set_option maxHeartbeats 2000000 in
theorem dcancel {Q : Nat} {G : Nat → Prop} {q : QS} (id : Int) (w : World) (h : DQ w Q G q) (hl : q.l.length ≤ 4096) :
    Calls Try.prog 24 #[ptr Q, .int .i64 id] w fun e w' => e = .returned (.int .i64 (cancel q id).2) ∧ ∃ G', DQ w' Q G' (cancel q id).1 ∧ StepF w w' G G' := by
  have HQ0 := Lib.hid h
  have HF := Lib.hid (dfind id w h (by omega))
  by_cases hf : findK id q.l < q.l.length
  · have hi : cancel q id = (⟨cut q.l (findK id q.l), q.most, q.next⟩, 0) := by unfold cancel; rw [if_pos hf]
    have hv : findV q.l id = (findK id q.l : Nat) := by unfold findV; rw [if_pos hf]
    obtain ⟨k, hk⟩ : ∃ k, findK id q.l = k := ⟨_, rfl⟩
    rw [hi]
    rw [hv] at HF
    rw [hk] at HF hf ⊢
    have HT := Lib.hid (dtake k w h hf hl)
    have hk0 : ¬ (k : Int) < 0 := by omega
    clear h hl hi hv hk hf HQ0
    go_enter Try.func24, Try.ntmps24
    go_wp2_with fail
    refine HF.out.mono ?_
    rintro e w' ⟨rfl, rfl⟩
    go_wp2_with fail
    refine HT.out.mono ?_
    rintro e w1 ⟨rfl, H⟩
    have HH := Lib.hid H
    clear H
    go_wp2_with fail
    go_ret
    exact ⟨rfl, HH.out⟩
  · have hi : cancel q id = (q, 3) := by unfold cancel; rw [if_neg hf]
    have hv : findV q.l id = -1 := by unfold findV; rw [if_neg hf]
    rw [hi]
    rw [hv] at HF
    clear h hl hi hv hf
    go_enter Try.func24, Try.ntmps24
    go_wp2_with fail
    refine HF.out.mono ?_
    rintro e w' ⟨rfl, rfl⟩
    go_wp2_with fail
    go_ret
    exact ⟨rfl, G, HQ0.out, StepF.refl w G⟩
end Go.Proofs.Ytfbdkafpfminlaa.Heap
