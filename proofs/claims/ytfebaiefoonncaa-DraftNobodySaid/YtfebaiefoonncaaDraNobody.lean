/- DraftNobody: nil drafts. -/
import Derived.Test.YtfebaiefoonncaaDraAwake
namespace Go.Proofs.Ytfebaiefoonncaa.Draft
open Go.RowKit Go.Lib IRows

set_option maxRecDepth 100000 in
set_option maxHeartbeats 4000000 in
theorem draftNobody_in (x : Act) (w : World) : Calls Try.prog 5 #[actV x] w fun e w' => e = .returned (.bool true) ∧ Below w.heap.size w w' := by
  have HAW := awake_at w
  obtain ⟨X, hX, HB, HK⟩ := box_act w x
  obtain ⟨k0, k1, k2, k3, k4, k5, k6, k7, k8, k9, k10, k11, k12⟩ := HK.out X (Below.refl _ _)
  have HD : Hid (Calls Try.prog 11 #[.pointer none, actV x] X fun e w' => ∃ a n c, e = .returned (.tuple #[.slice a n c, .int .i64 1]) ∧ Hid (Below w.heap.size w w')) := Lib.hid (by
    refine (do_nil x X).mono ?_
    rintro e w' ⟨a, n, c, rfl, h⟩
    exact ⟨a, n, c, rfl, Lib.hid (below_then HB.out h.out)⟩)
  have HC : Hid (∀ W, Below w.heap.size w W → Calls Try.prog 8 #[.pointer none] W fun e w' => ∃ Q, e = .returned (ptr Q) ∧ Hid (DS w w' Q [] 0 [] [] [])) := Lib.hid (fun W hW => by
    refine (clone_nil W).mono ?_
    rintro e w' ⟨rfl, h1, h2⟩
    exact ⟨_, rfl, Lib.hid ⟨_, h1, good_nil, below_then hW h2, hW.size, fun r hr => (by cases hr), fun c hc => (by cases hc), fun b hb => (by cases hb)⟩⟩)
  have HL := Lib.hid (fun W => list_nil W)
  have HN := Lib.hid (fun W => next_nil W)
  have HN2 : Hid (∀ W Q, DS w W Q [] 0 [] [] [] → Calls Try.prog 10 #[ptr Q] W fun e w' => e = .returned (.int .i64 1) ∧ W = w') := Lib.hid (fun W Q h => ds_next h)
  have HL2 : Hid (∀ W Q, DS w W Q [] 0 [] [] [] → Calls Try.prog 9 #[ptr Q] W fun e w' => ∃ a c, e = .returned (.slice a 0 c) ∧ Hid (Below w.heap.size w w')) := Lib.hid (fun W Q h => by
    refine (ds_list h).mono ?_
    rintro e w' ⟨a, n, c, rfl, H⟩
    obtain ⟨g1, g2⟩ := H.out
    obtain rfl : n = 0 := g2.symm
    exact ⟨a, c, rfl, Lib.hid g1.below⟩)
  clear HB HK
  go_enter Try.func5, Try.ntmps5
  go_wp2_with fail
  clear hX
  refine HD.out.mono ?_
  rintro e w1 ⟨a, n, c, rfl, B1⟩
  go_wp2_with fail
  refine (HC.out w1 B1.out).mono ?_
  rintro e w2 ⟨Q, rfl, P2⟩
  go_wp2_with fail
  refine (HL.out w2).mono ?_
  rintro e w' ⟨rfl, rfl⟩
  go_wp2_with fail
  refine (HN.out w2).mono ?_
  rintro e w' ⟨rfl, rfl⟩
  go_wp2_with fail
  refine (HN2.out w2 Q P2.out).mono ?_
  rintro e w' ⟨rfl, rfl⟩
  go_wp2_with fail
  refine (HL2.out w2 Q P2.out).mono ?_
  rintro e w3 ⟨a3, c3, rfl, B3⟩
  go_wp2_with fail
  refine (HAW.out w3 B3.out).mono ?_
  rintro e w4 ⟨rfl, B4⟩
  go_wp2_with fail
  go_ret
  exact ⟨rfl, B4.out⟩
end Go.Proofs.Ytfebaiefoonncaa.Draft
