/- The program's small questions: whether a number, an owner, a use, a draft may be. -/
import Derived.Test.YtfebaiefoonncaaDraMath
namespace Go.Proofs.Ytfebaiefoonncaa.Draft
open Go.RowKit Go.Lib

set_option maxRecDepth 100000 in
theorem in_is (n a b : Int) (w : World) : Calls Try.prog 20 #[.int .i64 n, .int .i64 a, .int .i64 b] w fun e w' => e = .returned (.bool (decide (a ≤ n ∧ n ≤ b))) ∧ w = w' := by
  obtain ⟨q, hq⟩ : ∃ q, decide (a ≤ n ∧ n ≤ b) = q := ⟨_, rfl⟩
  rw [hq]
  by_cases h1 : a ≤ n
  · by_cases h2 : n ≤ b
    · have HE : Hid (q = true) := Lib.hid (hq.symm.trans (decide_eq_true ⟨h1, h2⟩))
      clear hq
      go_enter Try.func20, Try.ntmps20
      go_wp2_with fail
      go_ret
      exact ⟨ret_bool HE.out.symm, rfl⟩
    · have HE : Hid (q = false) := Lib.hid (hq.symm.trans (decide_eq_false fun h => h2 h.2))
      clear hq
      have d1 : decide (a ≤ n) = true := decide_eq_true h1
      have d2 : decide (n ≤ b) = false := decide_eq_false h2
      go_enter Try.func20, Try.ntmps20
      go_wp2_with fail
      go_ret
      exact ⟨ret_bool HE.out.symm, rfl⟩
  · have HE : Hid (q = false) := Lib.hid (hq.symm.trans (decide_eq_false fun h => h1 h.1))
    clear hq
    have d1 : decide (a ≤ n) = false := decide_eq_false h1
    go_enter Try.func20, Try.ntmps20
    go_wp2_with fail
    go_ret
    exact ⟨ret_bool HE.out.symm, rfl⟩
theorem in_as {n a b : Int} {r : Bool} (h : decide (a ≤ n ∧ n ≤ b) = r) : Hid (∀ w : World, Calls Try.prog 20 #[.int .i64 n, .int .i64 a, .int .i64 b] w fun e w' => e = .returned (.bool r) ∧ w = w') := Lib.hid fun w => by
  rw [← h]
  exact in_is n a b w
set_option maxRecDepth 100000 in
theorem mayHave_is (o v : Int) (w : World) : Calls Try.prog 34 #[.int .i64 o, .int .i64 v] w fun e w' => e = .returned (.bool (decide ((0 ≤ o ∧ o ≤ mt) ∧ 0 ≤ v ∧ v ≤ 4))) ∧ w = w' := by
  obtain ⟨b0, h0⟩ : ∃ b, decide (0 ≤ o ∧ o ≤ mt) = b := ⟨_, rfl⟩
  obtain ⟨b1, h1⟩ : ∃ b, decide (0 ≤ v ∧ v ≤ 4) = b := ⟨_, rfl⟩
  have H0 := in_as h0; have H1 := in_as h1
  obtain ⟨q, hq⟩ : ∃ q, decide ((0 ≤ o ∧ o ≤ mt) ∧ 0 ≤ v ∧ v ≤ 4) = q := ⟨_, rfl⟩
  have HE : Hid (q = (b0 && b1)) := Lib.hid (by rw [← hq, ← h0, ← h1, ← Bool.decide_and])
  rw [hq]
  clear h0 h1 hq
  go_enter Try.func34, Try.ntmps34
  go_wp2_with fail
  refine (H0.out _).mono ?_
  rintro e w' ⟨rfl, rfl⟩
  cases b0 with
  | false =>
    go_wp2_with fail
    go_ret
    exact ⟨ret_bool HE.out.symm, rfl⟩
  | true =>
    go_wp2_with fail
    refine (H1.out _).mono ?_
    rintro e w' ⟨rfl, rfl⟩
    go_wp2_with fail
    go_ret
    exact ⟨ret_bool (by rw [HE.out]; rfl), rfl⟩
theorem mayHave_as {o v : Int} {q : Bool} (h : decide ((0 ≤ o ∧ o ≤ mt) ∧ 0 ≤ v ∧ v ≤ 4) = q) : Hid (∀ w : World, Calls Try.prog 34 #[.int .i64 o, .int .i64 v] w fun e w' => e = .returned (.bool q) ∧ w = w') := Lib.hid fun w => by
  rw [← h]
  exact mayHave_is o v w
set_option maxRecDepth 100000 in
theorem mayUse_is (j r : Int) (w : World) : Calls Try.prog 31 #[.int .i64 j, .int .i64 r] w fun e w' => e = .returned (.bool (decide (MayUse j r))) ∧ w = w' := by
  obtain ⟨b0, h0⟩ : ∃ b, decide (1 ≤ j ∧ j ≤ mt) = b := ⟨_, rfl⟩
  obtain ⟨b1, h1⟩ : ∃ b, decide (0 ≤ r ∧ r ≤ 1000) = b := ⟨_, rfl⟩
  have H0 := in_as h0; have H1 := in_as h1
  obtain ⟨q, hq⟩ : ∃ q, decide (MayUse j r) = q := ⟨_, rfl⟩
  have HE : Hid (q = (b0 && b1)) := Lib.hid (by rw [← hq, ← h0, ← h1, ← Bool.decide_and]; exact decide_eq_decide.2 Iff.rfl)
  rw [hq]
  clear h0 h1 hq
  go_enter Try.func31, Try.ntmps31
  go_wp2_with fail
  refine (H0.out _).mono ?_
  rintro e w' ⟨rfl, rfl⟩
  cases b0 with
  | false =>
    go_wp2_with fail
    go_ret
    exact ⟨ret_bool HE.out.symm, rfl⟩
  | true =>
    go_wp2_with fail
    refine (H1.out _).mono ?_
    rintro e w' ⟨rfl, rfl⟩
    go_wp2_with fail
    go_ret
    exact ⟨ret_bool (by rw [HE.out]; rfl), rfl⟩
theorem mayUse_as {j r : Int} {q : Bool} (h : decide (MayUse j r) = q) : Hid (∀ w : World, Calls Try.prog 31 #[.int .i64 j, .int .i64 r] w fun e w' => e = .returned (.bool q) ∧ w = w') := Lib.hid fun w => by
  rw [← h]
  exact mayUse_is j r w
set_option maxRecDepth 100000 in
set_option maxHeartbeats 2000000 in
theorem mayBe_is (d : Dr) (w : World) : Calls Try.prog 21 #[elV d] w fun e w' => e = .returned (.bool (decide (Ok d))) ∧ Below w.heap.size w w' := by
  obtain ⟨X, hX⟩ : ∃ X, w.alloc (.cells #[.int .i64 d.id, .int .i64 d.owner, .int .i64 d.div, .int .i64 d.place, .int .i64 d.blue, .int .i64 d.me, .int .i64 d.te, .int .i64 d.runs, .int .i64 d.busy] 36) = X := ⟨_, rfl⟩
  have HB : Hid (Below w.heap.size w X) := Lib.hid (by rw [← hX]; exact (Below.refl _ w).alloc (Nat.le_refl _) _)
  obtain ⟨k0, k1, k2, k3, k4, k5, k6, k7, k8⟩ := el_at (w := X) (g := w.heap.size) (x := d) (t := 36) (by rw [← hX]; exact heap_alloc_new w _)
  obtain ⟨b0, h0⟩ : ∃ b, decide ((0 ≤ d.owner ∧ d.owner ≤ mt) ∧ 0 ≤ d.div ∧ d.div ≤ 4) = b := ⟨_, rfl⟩
  obtain ⟨b1, h1⟩ : ∃ b, decide (1 ≤ d.place ∧ d.place ≤ 8) = b := ⟨_, rfl⟩
  obtain ⟨b2, h2⟩ : ∃ b, decide (1 ≤ d.blue ∧ d.blue ≤ 16) = b := ⟨_, rfl⟩
  obtain ⟨b3, h3⟩ : ∃ b, decide (0 ≤ d.me ∧ d.me ≤ 10) = b := ⟨_, rfl⟩
  obtain ⟨b4, h4⟩ : ∃ b, decide (0 ≤ d.te ∧ d.te ≤ 10) = b := ⟨_, rfl⟩
  obtain ⟨b5, h5⟩ : ∃ b, (d.runs == -1) = b := ⟨_, rfl⟩
  obtain ⟨b6, h6⟩ : ∃ b, decide (0 ≤ d.runs ∧ d.runs ≤ 1000) = b := ⟨_, rfl⟩
  obtain ⟨b7, h7⟩ : ∃ b, decide (0 ≤ d.busy ∧ d.busy ≤ mt) = b := ⟨_, rfl⟩
  have H0 := mayHave_as h0; have H1 := in_as h1; have H2 := in_as h2; have H3 := in_as h3; have H4 := in_as h4; have H6 := in_as h6; have H7 := in_as h7
  obtain ⟨q, hq⟩ : ∃ q, decide (Ok d) = q := ⟨_, rfl⟩
  have HE : Hid (q = (b0 && (b1 && (b2 && (b3 && (b4 && ((b5 || b6) && b7))))))) := Lib.hid (by
    have h5' : decide (d.runs = -1) = b5 := by rw [← h5]; rfl
    rw [← hq, ← h0, ← h1, ← h2, ← h3, ← h4, ← h5', ← h6, ← h7, ← Bool.decide_or, ← Bool.decide_and, ← Bool.decide_and, ← Bool.decide_and, ← Bool.decide_and, ← Bool.decide_and, ← Bool.decide_and]
    exact decide_eq_decide.2 ⟨fun h => ⟨⟨h.owner, h.div⟩, h.place, h.blue, h.me, h.te, h.runs, h.busy⟩, fun ⟨⟨a1, a2⟩, a3, a4, a5, a6, a7, a8⟩ => ⟨a1, a2, a3, a4, a5, a6, a7, a8⟩⟩)
  rw [hq]
  clear h0 h1 h2 h3 h4 h6 h7 hq
  go_enter Try.func21, Try.ntmps21
  go_wp2_with fail
  clear hX
  refine (H0.out _).mono ?_
  rintro e w' ⟨rfl, rfl⟩
  cases b0 with
  | false =>
    go_wp2_with fail
    go_ret
    exact ⟨ret_bool HE.out.symm, HB.out⟩
  | true =>
    go_wp2_with fail
    refine (H1.out _).mono ?_
    rintro e w' ⟨rfl, rfl⟩
    cases b1 with
    | false =>
      go_wp2_with fail
      go_ret
      exact ⟨ret_bool HE.out.symm, HB.out⟩
    | true =>
      go_wp2_with fail
      refine (H2.out _).mono ?_
      rintro e w' ⟨rfl, rfl⟩
      cases b2 with
      | false =>
        go_wp2_with fail
        go_ret
        exact ⟨ret_bool HE.out.symm, HB.out⟩
      | true =>
        go_wp2_with fail
        refine (H3.out _).mono ?_
        rintro e w' ⟨rfl, rfl⟩
        cases b3 with
        | false =>
          go_wp2_with fail
          go_ret
          exact ⟨ret_bool HE.out.symm, HB.out⟩
        | true =>
          go_wp2_with fail
          refine (H4.out _).mono ?_
          rintro e w' ⟨rfl, rfl⟩
          cases b4 with
          | false =>
            go_wp2_with fail
            go_ret
            exact ⟨ret_bool HE.out.symm, HB.out⟩
          | true =>
            cases b5 with
            | true =>
              go_wp2_with fail
              refine (H7.out _).mono ?_
              rintro e w' ⟨rfl, rfl⟩
              go_wp2_with fail
              go_ret
              exact ⟨ret_bool (by rw [HE.out]; rfl), HB.out⟩
            | false =>
              go_wp2_with fail
              refine (H6.out _).mono ?_
              rintro e w' ⟨rfl, rfl⟩
              cases b6 with
              | false =>
                go_wp2_with fail
                go_ret
                exact ⟨ret_bool HE.out.symm, HB.out⟩
              | true =>
                go_wp2_with fail
                refine (H7.out _).mono ?_
                rintro e w' ⟨rfl, rfl⟩
                go_wp2_with fail
                go_ret
                exact ⟨ret_bool (by rw [HE.out]; rfl), HB.out⟩
theorem mayBe_as {d : Dr} {r : Bool} (h : decide (Ok d) = r) : Hid (∀ w : World, Calls Try.prog 21 #[elV d] w fun e w' => e = .returned (.bool r) ∧ Below w.heap.size w w') := Lib.hid fun w => by
  rw [← h]
  exact mayBe_is d w
end Go.Proofs.Ytfebaiefoonncaa.Draft
