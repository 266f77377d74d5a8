/- What must come, whatever the arguments are. -/
import Derived.Test.YtfebaiefoonncaaDraDS
import Derived.Test.YtfebaiefoonncaaIntSame
namespace Go.Proofs.Ytfebaiefoonncaa.Draft
open Go.RowKit Go.Lib IRows

def awd : Dr := ⟨0, 1, 0, 1, 2, 0, 0, -1, 0⟩
def aw1 : List Dr := [⟨1, 1, 0, 1, 2, 0, 0, -1, 0⟩]
def aw2 : List Dr := [⟨1, 1, 0, 1, 2, 0, 0, -1, 0⟩, ⟨2, 1, 0, 1, 2, 0, 0, 5, 0⟩, ⟨3, 1, 0, 1, 2, 0, 0, 5, 0⟩]
def aw3 : List Dr := [⟨1, 1, 0, 1, 2, 0, 0, -1, 0⟩, ⟨2, 1, 0, 1, 2, 0, 0, 2, 9⟩, ⟨3, 1, 0, 1, 2, 0, 0, 5, 0⟩]
theorem aw_add : addE [] 0 awd = 0 ∧ addL [] 0 awd = aw1 ∧ addZ [] 0 awd = 1 := ⟨rfl, rfl, rfl⟩
theorem aw_cop : copE aw1 1 1 2 5 = 0 ∧ copL aw1 1 1 2 5 = aw2 ∧ copZ aw1 1 1 2 5 = 3 := ⟨rfl, rfl, rfl⟩
theorem aw_u1 : chE aw2 2 (useE 9 6) = 11 ∧ chL aw2 2 (useE 9 6) (useD 9 6) = aw2 := ⟨rfl, rfl⟩
theorem aw_u2 : chE aw2 2 (useE 9 3) = 0 ∧ chL aw2 2 (useE 9 3) (useD 9 3) = aw3 := ⟨rfl, rfl⟩
theorem aw_u3 : chE aw3 2 (useE 8 1) = 12 ∧ chL aw3 2 (useE 8 1) (useD 8 1) = aw3 := ⟨rfl, rfl⟩
theorem aw_get : (find aw3 2).getD default = ⟨2, 1, 0, 1, 2, 0, 0, 2, 9⟩ ∧ (find aw3 2).isSome = true := ⟨rfl, rfl⟩
set_option maxRecDepth 100000 in
set_option maxHeartbeats 8000000 in
theorem awake_in (w : World) : Calls Try.prog 6 #[] w fun e w' => e = .returned (.bool true) ∧ Below w.heap.size w w' := by
  obtain ⟨Q, hQ⟩ : ∃ Q, w.heap.size = Q := ⟨_, rfl⟩
  obtain ⟨Z, hZ⟩ : ∃ Z, w.alloc (.cells zeroD 47) = Z := ⟨_, rfl⟩
  have H0 : Hid (DS w Z Q [] 0 [] [] []) := Lib.hid (by rw [← hZ, ← hQ]; exact ds_zero w w (Below.refl _ _))
  have H1 : Hid (∀ W, DS w W Q [] 0 [] [] [] → Calls Try.prog 13 #[ptr Q, .agg #[.int .i64 0, .int .i64 1, .int .i64 0, .int .i64 1, .int .i64 2, .int .i64 0, .int .i64 0, .int .i64 (-1), .int .i64 0]] W fun e w' => e = .returned (.tuple #[.int .i64 1, .int .i64 0]) ∧ Hid (DS w w' Q aw1 1 [] [] [])) := Lib.hid (fun W h => by
    have := ds_add awd h
    rw [aw_add.1, aw_add.2.1, aw_add.2.2] at this
    exact this)
  have H2 : Hid (∀ W, DS w W Q aw1 1 [] [] [] → Calls Try.prog 18 #[ptr Q, .int .i64 1, .int .i64 2, .int .i64 5] W fun e w' => ∃ a c, e = .returned (.tuple #[.slice a 2 c, .int .i64 0]) ∧ Hid (DS w w' Q aw2 3 [] [] [] ∧ KS w' 0 (.slice a 2 c) [2, 3])) := Lib.hid (fun W h => by
    have := ds_copies 1 2 5 h
    rw [aw_cop.1, aw_cop.2.1, aw_cop.2.2] at this
    refine this.mono ?_
    rintro e w' ⟨a, n, c, rfl, H⟩
    obtain ⟨g1, g2⟩ := H.out
    obtain ⟨rfl, g3⟩ := g2 rfl
    exact ⟨a, c, rfl, Lib.hid ⟨g1, g3⟩⟩)
  have H3 : Hid (∀ W a c, DS w W Q aw2 3 [] [] [] → KS W 0 (.slice a 2 c) [2, 3] → Calls Try.prog 19 #[.slice a 2 c, .slice (some ⟨W.heap.size, 0, none⟩) 2 2] (W.alloc (.cells #[.int .i64 2, .int .i64 3] 3)) fun e w' => e = .returned (.bool true) ∧ Hid (DS w w' Q aw2 3 [] [] [])) := Lib.hid (fun W a c h hk => by
    have hb := (Below.refl _ W).alloc (Nat.le_refl _) (.cells #[.int .i64 2, .int .i64 3] 3)
    obtain ⟨a', c', e1, g1⟩ := irow_own (hk.under hb)
    injection e1 with e1 _ _
    subst e1
    have := dsame a 2 c [2, 3] (some ⟨W.heap.size, 0, none⟩) 2 2 [2, 3] (W.alloc (.cells #[.int .i64 2, .int .i64 3] 3)) rfl g1 (by omega) rfl (irow_lit [2, 3] (heap_alloc_new W (.cells #[.int .i64 2, .int .i64 3] 3)) rfl) (by omega)
    refine this.mono ?_
    rintro e w' ⟨rfl, hb2⟩
    exact ⟨by simp, Lib.hid ((h.under hb).under hb2)⟩)
  have H4 : Hid (∀ W, DS w W Q aw2 3 [] [] [] → Calls Try.prog 15 #[ptr Q, .int .i64 2, .int .i64 9, .int .i64 6] W fun e w' => e = .returned (.int .i64 11) ∧ Hid (DS w w' Q aw2 3 [] [] [])) := Lib.hid (fun W h => by
    have := ds_use 2 9 6 h
    rw [aw_u1.1, aw_u1.2] at this
    exact this)
  have H5 : Hid (∀ W, DS w W Q aw2 3 [] [] [] → Calls Try.prog 15 #[ptr Q, .int .i64 2, .int .i64 9, .int .i64 3] W fun e w' => e = .returned (.int .i64 0) ∧ Hid (DS w w' Q aw3 3 [] [] [])) := Lib.hid (fun W h => by
    have := ds_use 2 9 3 h
    rw [aw_u2.1, aw_u2.2] at this
    exact this)
  have H6 : Hid (∀ W, DS w W Q aw3 3 [] [] [] → Calls Try.prog 15 #[ptr Q, .int .i64 2, .int .i64 8, .int .i64 1] W fun e w' => e = .returned (.int .i64 12) ∧ Hid (DS w w' Q aw3 3 [] [] [])) := Lib.hid (fun W h => by
    have := ds_use 2 8 1 h
    rw [aw_u3.1, aw_u3.2] at this
    exact this)
  have H7 : Hid (∀ W, DS w W Q aw3 3 [] [] [] → Calls Try.prog 14 #[ptr Q, .int .i64 2] W fun e w' => e = .returned (.tuple #[.agg #[.int .i64 2, .int .i64 1, .int .i64 0, .int .i64 1, .int .i64 2, .int .i64 0, .int .i64 0, .int .i64 2, .int .i64 9], .int .i64 0]) ∧ Hid (DS w w' Q aw3 3 [] [] [])) := Lib.hid (fun W h => by
    have := ds_get 2 h
    rw [aw_get.1, aw_get.2] at this
    exact this)
  have H8 : Hid (∀ W, DS w W Q aw3 3 [] [] [] → Calls Try.prog 10 #[ptr Q] W fun e w' => e = .returned (.int .i64 4) ∧ W = w') := Lib.hid (fun W h => ds_next h)
  have H9 : Hid (∀ W, DS w W Q aw3 3 [] [] [] → Calls Try.prog 9 #[ptr Q] W fun e w' => ∃ a c, e = .returned (.slice a 3 c) ∧ Hid (Below w.heap.size w w')) := Lib.hid (fun W h => by
    refine (ds_list h).mono ?_
    rintro e w' ⟨a, n, c, rfl, H⟩
    obtain ⟨g1, g2⟩ := H.out
    obtain rfl : n = 3 := g2.symm
    exact ⟨a, c, rfl, Lib.hid g1.below⟩)
  have HX : Hid (∀ W, DS w W Q aw3 3 [] [] [] → ∃ X T, W.alloc (.cells #[.int .i64 2, .int .i64 1, .int .i64 0, .int .i64 1, .int .i64 2, .int .i64 0, .int .i64 0, .int .i64 2, .int .i64 9] 36) = X ∧ W.heap.size = T ∧ (X.cell? ⟨T, 0, none⟩ = some (.int .i64 2) ∧ X.cell? ⟨T, 1, none⟩ = some (.int .i64 1) ∧ X.cell? ⟨T, 2, none⟩ = some (.int .i64 0) ∧ X.cell? ⟨T, 3, none⟩ = some (.int .i64 1) ∧ X.cell? ⟨T, 4, none⟩ = some (.int .i64 2) ∧ X.cell? ⟨T, 5, none⟩ = some (.int .i64 0) ∧ X.cell? ⟨T, 6, none⟩ = some (.int .i64 0) ∧ X.cell? ⟨T, 7, none⟩ = some (.int .i64 2) ∧ X.cell? ⟨T, 8, none⟩ = some (.int .i64 9)) ∧ Hid (DS w X Q aw3 3 [] [] [])) := Lib.hid (fun W h => by
    have hb := (Below.refl _ W).alloc (Nat.le_refl _) (.cells #[.int .i64 2, .int .i64 1, .int .i64 0, .int .i64 1, .int .i64 2, .int .i64 0, .int .i64 0, .int .i64 2, .int .i64 9] 36)
    have hT := heap_alloc_new W (.cells #[.int .i64 2, .int .i64 1, .int .i64 0, .int .i64 1, .int .i64 2, .int .i64 0, .int .i64 0, .int .i64 2, .int .i64 9] 36)
    exact ⟨_, _, rfl, rfl, ⟨cell_block (j := 0) hT rfl, cell_block (j := 1) hT rfl, cell_block (j := 2) hT rfl, cell_block (j := 3) hT rfl, cell_block (j := 4) hT rfl, cell_block (j := 5) hT rfl, cell_block (j := 6) hT rfl, cell_block (j := 7) hT rfl, cell_block (j := 8) hT rfl⟩, Lib.hid (h.under hb)⟩)
  go_enter Try.func6, Try.ntmps6
  go_wp2_with fail
  clear hZ hQ
  refine (H1.out _ H0.out).mono ?_
  rintro e w1 ⟨rfl, P1⟩
  go_wp2_with fail
  refine (H2.out _ P1.out).mono ?_
  rintro e w2 ⟨a, c, rfl, P2⟩
  go_wp2_with fail
  refine (H3.out _ _ _ P2.out.1 P2.out.2).mono ?_
  rintro e w3 ⟨rfl, P3⟩
  go_wp2_with fail
  refine (H4.out _ P3.out).mono ?_
  rintro e w4 ⟨rfl, P4⟩
  go_wp2_with fail
  refine (H5.out _ P4.out).mono ?_
  rintro e w5 ⟨rfl, P5⟩
  go_wp2_with fail
  refine (H6.out _ P5.out).mono ?_
  rintro e w6 ⟨rfl, P6⟩
  go_wp2_with fail
  refine (H7.out _ P6.out).mono ?_
  rintro e w7 ⟨rfl, P7⟩
  obtain ⟨X, T, hX, hT, ⟨x0, x1, x2, x3, x4, x5, x6, x7, x8⟩, P8⟩ := HX.out _ P7.out
  go_wp2_with fail
  clear hX hT
  refine (H8.out _ P8.out).mono ?_
  rintro e w8 ⟨rfl, rfl⟩
  go_wp2_with fail
  refine (H9.out _ P8.out).mono ?_
  rintro e w9 ⟨a9, c9, rfl, P9⟩
  go_wp2_with fail
  go_ret
  exact ⟨rfl, P9.out⟩
theorem awake_at (w : World) : Hid (∀ W, Below w.heap.size w W → Calls Try.prog 6 #[] W fun e w' => e = .returned (.bool true) ∧ Hid (Below w.heap.size w w')) := Lib.hid (fun W hW => (awake_in W).mono fun _ _ ⟨e, h⟩ => ⟨e, Lib.hid (below_then hW h)⟩)
end Go.Proofs.Ytfebaiefoonncaa.Draft
