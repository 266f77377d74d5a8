/- The walk of TableNobody. -/
import Derived.Test.YtighjiiaplihjaaTabImQ
import Derived.Test.YtighjiiaplihjaaTabP
import Derived.Test.YtighjiiaplihjaaTabL
namespace Go.Proofs.Ytighjiiaplihjaa.Tab.Im
open Go.RowKit Go.Lib

set_option maxRecDepth 100000 in
set_option maxHeartbeats 8000000 in
theorem nobody_in (k : Key) (n : Int) (w : World) (hn : -9223372036854775808 ≤ n ∧ n ≤ 9223372036854775807) :
    Calls Try.prog 7 #[kV k, .int .i64 n] w fun e w' => e = .returned (.bool true) ∧ Below w.heap.size w w' := by
  obtain ⟨X, hX⟩ : ∃ X, w.alloc (.cells #[.int .i64 k.a, .int .i64 k.b, .int .i64 k.c, .int .i64 k.d] 38) = X := ⟨_, rfl⟩
  have hbX : Below w.heap.size w X := by rw [← hX]; exact (Below.refl _ w).alloc (Nat.le_refl _) _
  have hkX : X.heap[w.heap.size]? = some (.cells k.cells 38 (0, 0)) := by rw [← hX]; exact heap_alloc_new w _
  have HB := Lib.hid hbX
  have HK : Hid (∀ W, Below X.heap.size X W → W.cell? ⟨w.heap.size, 0, none⟩ = some (.int .i64 k.a) ∧ W.cell? ⟨w.heap.size, 1, none⟩ = some (.int .i64 k.b) ∧ W.cell? ⟨w.heap.size, 2, none⟩ = some (.int .i64 k.c) ∧ W.cell? ⟨w.heap.size, 3, none⟩ = some (.int .i64 k.d)) := Lib.hid (fun W hW => by
    have h1 := (hW.block _ (Array.getElem?_eq_some_iff.1 hkX).1).trans hkX
    exact ⟨key_at h1 0 (by omega), key_at h1 1 (by omega), key_at h1 2 (by omega), key_at h1 3 (by omega)⟩)
  have HGET : Hid (∀ W, Below X.heap.size X W → Calls Try.prog 25 #[.pointer none, kV k] W fun e w' => e = .returned (.tuple #[.int .i64 0, .bool false]) ∧ Hid (Below X.heap.size X w')) := Lib.hid (fun W hW => (get_nil k W).mono (fun e w' ⟨h1, h2⟩ => ⟨h1, Lib.hid (below_then hW h2)⟩))
  have HPL : Hid (∀ W, Below X.heap.size X W → Calls Try.prog 26 #[.pointer none, kV k] W fun e w' => e = .returned (.tuple #[.int .i64 0, .bool false]) ∧ Hid (Below X.heap.size X w')) := Lib.hid (fun W hW => (place_tl k W (tl_nil W) rising_nil (by simp)).mono (fun e w' ⟨h1, h2⟩ => ⟨h1, Lib.hid (below_then hW h2)⟩))
  have HAT : Hid (∀ W, Below X.heap.size X W → Calls Try.prog 15 #[.pointer none, .int .i64 n] W fun e w' => e = .returned (.tuple #[.agg #[.int .i64 0, .int .i64 0, .int .i64 0, .int .i64 0], .int .i64 0, .bool false]) ∧ Hid (Below X.heap.size X w')) := Lib.hid (fun W hW => (at_nil n W).mono (fun e w' ⟨h1, h2⟩ => ⟨h1, Lib.hid (below_then hW h2)⟩))
  have HCL : Hid (∀ W, Below X.heap.size X W → Calls Try.prog 20 #[.pointer none] W fun e w' => ∃ Q, e = .returned (ptr Q) ∧ Hid (Below X.heap.size X w' ∧ X.heap.size ≤ Q ∧ ∃ F, PT w' Q F [])) := Lib.hid (fun W hW => (clone_tl W (tl_nil W)).mono (fun e w' ⟨Q, F, h1, h2, h3, h4⟩ => ⟨Q, h1, Lib.hid ⟨below_then hW h4, by rw [h3]; exact hW.size, F, _, _, h2⟩⟩))
  have HPN : Hid (∀ W, Below X.heap.size X W → Calls Try.prog 22 #[.pointer none, kV k, .int .i64 n] W fun e w' => e = .returned (.bool false) ∧ Hid (Below X.heap.size X w' ∧ Below W.heap.size W w')) := Lib.hid (fun W hW => (put_nil k n W).mono (fun e w' ⟨h1, h2⟩ => ⟨h1, Lib.hid ⟨below_then hW h2, h2⟩⟩))
  have HDE : Hid (∀ W, Below X.heap.size X W → Calls Try.prog 21 #[.pointer none, kV k] W fun e w' => e = .returned (.bool false) ∧ Hid (Below X.heap.size X w' ∧ Below W.heap.size W w')) := Lib.hid (fun W hW => (del_no k W (tl_nil W) rising_nil (by simp) rfl).mono (fun e w' ⟨h1, h2⟩ => ⟨h1, Lib.hid ⟨below_then hW h2, h2⟩⟩))
  have HLN : Hid (∀ W, Below X.heap.size X W → Calls Try.prog 24 #[.pointer none] W fun e w' => e = .returned (.int .i64 0) ∧ Hid (Below X.heap.size X w' ∧ Below W.heap.size W w')) := Lib.hid (fun W hW => (len_nil W).mono (fun e w' ⟨h1, h2⟩ => ⟨h1, Lib.hid ⟨below_then hW (below_drawn h2), below_drawn h2⟩⟩))
  have HKY : Hid (∀ W, Below X.heap.size X W → Calls Try.prog 13 #[.pointer none] W fun e w' => ∃ a c, e = .returned (.slice a 0 c) ∧ Hid (Below X.heap.size X w' ∧ Below W.heap.size W w')) := Lib.hid (fun W hW => (keys_tl W (tl_nil W) (by simp)).mono (fun e w' ⟨v, h1, h2, h3⟩ => by
    obtain ⟨a, c, rfl, _⟩ := rowK h2
    exact ⟨a, c, h1, Lib.hid ⟨below_then hW h3, h3⟩⟩))
  have HAL : Hid (∀ W, Below X.heap.size X W → Calls Try.prog 11 #[.pointer none] W fun e w' => ∃ a c, e = .returned (.slice a 0 c) ∧ Hid (Below X.heap.size X w' ∧ Below W.heap.size W w')) := Lib.hid (fun W hW => (all_go none (Two (.slice none 0 0) (.slice none 0 0)) [] W (fun j hj => by rcases hj with hj | hj <;> cases hj) (fun V _ => all_tl V (tl_nil V) (by simp)) (by simp)).mono (fun e w' ⟨v, h1, h2, h3⟩ => by
    obtain ⟨a, c, rfl, _⟩ := pairs_slice h2
    exact ⟨a, c, h1, Lib.hid ⟨below_then hW h3, h3⟩⟩))
  have HSO : Hid (∀ W, Below X.heap.size X W → Calls Try.prog 16 #[.pointer none, kV k, kV k, .int .i64 n] W fun e w' => ∃ a c, e = .returned (.slice a 0 c) ∧ Hid (Below X.heap.size X w' ∧ Below W.heap.size W w')) := Lib.hid (fun W hW => (some_go none (Two (.slice none 0 0) (.slice none 0 0)) [] k k n W (fun j hj => by rcases hj with hj | hj <;> cases hj) (fun V _ => range_tl k k V (tl_nil V) rising_nil (by simp)) (by simp)).mono (fun e w' ⟨v, h1, h2, h3⟩ => by
    have h4 : ranged [] k k n = [] := by unfold ranged; simp
    rw [h4] at h2
    obtain ⟨a, c, rfl, _⟩ := pairs_slice h2
    exact ⟨a, c, h1, Lib.hid ⟨below_then hW h3, h3⟩⟩))
  have HCN : Hid (∀ W Q (l : List Pair) m, (∃ F, PT W Q F l) → l.length = m → Below X.heap.size X W → Calls Try.prog 24 #[ptr Q] W fun e w' => e = .returned (.int .i64 (m : Nat)) ∧ Hid (Below X.heap.size X w' ∧ ∃ F, PT w' Q F l)) := Lib.hid (fun W Q l m ⟨F, hF⟩ hm hW => by
    subst hm
    exact (len_im W hF).mono (fun e w' ⟨h1, h2⟩ => ⟨h1, Lib.hid ⟨below_then hW (below_drawn h2), F, hF.keep (below_drawn h2).size (fun j hj => (below_drawn h2).block j (hF.lt j hj))⟩⟩))
  have HCP : Hid (∀ W Q, (∃ F, PT W Q F []) → X.heap.size ≤ Q → Below X.heap.size X W → Calls Try.prog 22 #[ptr Q, kV k, .int .i64 n] W fun e w' => e = .returned (.bool true) ∧ Hid (Below X.heap.size X w' ∧ ∃ F, PT w' Q F [⟨k, n⟩])) := Lib.hid (fun W Q ⟨F, hF⟩ hQ hW => (put_im k n W hF rising_nil (by simp)).mono (fun e w' ⟨h1, F', h2, h3, _⟩ => ⟨h1, Lib.hid ⟨below_of_only hW hQ h3, F', h2⟩⟩))
  have HAW : Hid (∀ W, Below X.heap.size X W → Calls Try.prog 8 #[] W fun e w' => e = .returned (.bool true) ∧ Hid (Below X.heap.size X w')) := Lib.hid (fun W hW => (awake_any iters W).mono (fun e w' ⟨h1, h2⟩ => ⟨h1, Lib.hid (below_then hW h2)⟩))
  have up : ∀ {W w' : World} {Q : Nat} {l : List Pair}, (∃ F, PT W Q F l) → Below W.heap.size W w' → ∃ F, PT w' Q F l := fun ⟨F, hF⟩ hb => ⟨F, hF.keep hb.size (fun j hj => hb.block j (hF.lt j hj))⟩
  have HUP : Hid (∀ (W w' : World) (Q : Nat) (l : List Pair), (∃ F, PT W Q F l) → Below W.heap.size W w' → ∃ F, PT w' Q F l) := Lib.hid (fun _ _ _ _ h hb => up h hb)
  obtain ⟨a0, a1, a2, a3⟩ := HK.out X (Below.refl _ _)
  clear hbX hkX up
  go_enter Try.func7, Try.ntmps7
  go_wp2_with fail
  clear hX
  refine (HGET.out X (Below.refl _ _)).mono ?_
  rintro e w1 ⟨rfl, h1⟩
  obtain ⟨b0, b1, b2, b3⟩ := HK.out w1 h1.out
  go_wp2_with fail
  refine (HPL.out w1 h1.out).mono ?_
  rintro e w2 ⟨rfl, h2⟩
  go_wp2_with fail
  refine (HAT.out w2 h2.out).mono ?_
  rintro e w3 ⟨rfl, h3⟩
  go_wp2_with fail
  obtain ⟨Z, hZ⟩ : ∃ Z, w3.alloc (.cells #[.int .i64 0, .int .i64 0, .int .i64 0, .int .i64 0] 38) = Z := ⟨_, rfl⟩
  rw [hZ]
  have HZ : Hid (Below X.heap.size X Z) := Lib.hid (by rw [← hZ]; exact h3.out.alloc h3.out.size _)
  clear hZ
  refine (HCL.out Z HZ.out).mono ?_
  rintro e w4 ⟨Q, rfl, h4⟩
  obtain ⟨c0, c1, c2, c3⟩ := HK.out w4 h4.out.1
  go_wp2_with fail
  refine (HPN.out w4 h4.out.1).mono ?_
  rintro e w5 ⟨rfl, h5⟩
  have C5 := Lib.hid (HUP.out _ _ _ _ h4.out.2.2 h5.out.2)
  obtain ⟨d0, d1, d2, d3⟩ := HK.out w5 h5.out.1
  go_wp2_with fail
  refine (HDE.out w5 h5.out.1).mono ?_
  rintro e w6 ⟨rfl, h6⟩
  have C6 := Lib.hid (HUP.out _ _ _ _ C5.out h6.out.2)
  go_wp2_with fail
  refine (HLN.out w6 h6.out.1).mono ?_
  rintro e w7 ⟨rfl, h7⟩
  have C7 := Lib.hid (HUP.out _ _ _ _ C6.out h7.out.2)
  go_wp2_with fail
  refine (HKY.out w7 h7.out.1).mono ?_
  rintro e w8 ⟨ka, kc, rfl, h8⟩
  have C8 := Lib.hid (HUP.out _ _ _ _ C7.out h8.out.2)
  go_wp2_with fail
  refine (HAL.out w8 h8.out.1).mono ?_
  rintro e w9 ⟨va, vc, rfl, h9⟩
  have C9 := Lib.hid (HUP.out _ _ _ _ C8.out h9.out.2)
  obtain ⟨e0, e1, e2, e3⟩ := HK.out w9 h9.out.1
  go_wp2_with fail
  refine (HSO.out w9 h9.out.1).mono ?_
  rintro e w10 ⟨sa, sc, rfl, h10⟩
  have C10 := Lib.hid (HUP.out _ _ _ _ C9.out h10.out.2)
  go_wp2_with fail
  refine (HCN.out w10 Q [] 0 C10.out rfl h10.out.1).mono ?_
  rintro e w11 ⟨rfl, h11⟩
  obtain ⟨f0, f1, f2, f3⟩ := HK.out w11 h11.out.1
  go_wp2_with fail
  refine (HCP.out w11 Q h11.out.2 h4.out.2.1 h11.out.1).mono ?_
  rintro e w12 ⟨rfl, h12⟩
  go_wp2_with fail
  refine (HCN.out w12 Q [⟨k, n⟩] 1 h12.out.2 rfl h12.out.1).mono ?_
  rintro e w13 ⟨rfl, h13⟩
  go_wp2_with fail
  refine (HAW.out w13 h13.out.1).mono ?_
  rintro e w14 ⟨rfl, h14⟩
  go_wp2_with fail
  go_ret
  exact ⟨rfl, below_then HB.out h14.out⟩
end Go.Proofs.Ytighjiiaplihjaa.Tab.Im
