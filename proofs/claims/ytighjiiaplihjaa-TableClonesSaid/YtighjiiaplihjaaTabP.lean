/- What must come, whatever the arguments are: awake. -/
import Derived.Test.YtighjiiaplihjaaTabK
namespace Go.Proofs.Ytighjiiaplihjaa.Tab
open Go.RowKit Go.Lib
variable {I : Impl}

def k2 : Key := ⟨2, 0, 0, 0⟩
def k15 : Key := ⟨1, 5, 0, 0⟩
def k1 : Key := ⟨1, 0, 0, 0⟩
def k11 : Key := ⟨1, 1, 0, 0⟩
def l1 : List Pair := [⟨k2, 7⟩]
def l2 : List Pair := [⟨k15, 8⟩, ⟨k2, 7⟩]
def l3 : List Pair := [⟨k15, 8⟩, ⟨k2, 9⟩]
theorem put1 : put [] k2 7 = l1 ∧ has [] k2 = false := by decide
theorem put2 : put l1 k15 8 = l2 ∧ has l1 k15 = false := by decide
theorem put3 : put l2 k2 9 = l3 ∧ has l2 k2 = true := by decide
theorem rise1 : Rising l1 := put1.1 ▸ rising_put rising_nil _ _
theorem rise2 : Rising l2 := put2.1 ▸ rising_put rise1 _ _
theorem rise3 : Rising l3 := put3.1 ▸ rising_put rise2 _ _
theorem cmp1 : cmp k1 k11 = -1 := by decide
/-- A table of the call's own turns: what was there stays. -/
structure Mine (I : Impl) (W w : World) (Q : Nat) (F : Nat → Prop) (l : List Pair) : Prop where
  pt : I.PT w Q F l
  far : ∀ k, F k → W.heap.size ≤ k
  below : Below W.heap.size W w
theorem Mine.under {W w w' : World} {Q : Nat} {F : Nat → Prop} {l : List Pair} (h : Mine I W w Q F l) (hb : Below w.heap.size w w') : Mine I W w' Q F l :=
  ⟨I.keep h.pt hb.size (fun k hk => hb.block k (I.lt h.pt k hk)), h.far, below_then h.below hb⟩
theorem Mine.step {W w w' : World} {Q : Nat} {F F' : Nat → Prop} {l l' : List Pair} (h : Mine I W w Q F l) (hp : I.PT w' Q F' l') (hs : StepF w w' F F') : Mine I W w' Q F' l' := by
  obtain ⟨h1, h2⟩ := hs.fresh h.below h.far
  exact ⟨hp, h2, h1⟩
theorem Mine.start (I : Impl) (W w : World) (h : Below W.heap.size W w) : Mine I W (w.alloc (.cells zeroT 28)) w.heap.size (fun k => k = w.heap.size) [] :=
  ⟨I.zero w, fun k hk => by rw [hk]; exact h.size, h.alloc h.size _⟩
set_option maxRecDepth 100000 in
set_option maxHeartbeats 4000000 in
theorem awake_any (J : Iters I) (w : World) : Calls Try.prog 8 #[] w fun e w' => e = .returned (.bool true) ∧ Below w.heap.size w w' := by
  have H0 := Lib.hid (Mine.start I w w (Below.refl _ w))
  have HP1 : Hid (Calls Try.prog 22 #[ptr w.heap.size, kV k2, .int .i64 7] (w.alloc (.cells zeroT 28)) fun e w' => e = .returned (.bool true) ∧ ∃ F, Hid (Mine I w w' w.heap.size F l1)) := Lib.hid (by
    refine (I.put w.heap.size _ [] k2 7 _ H0.out.pt rising_nil (by simp)).mono ?_
    rintro e w' ⟨rfl, F, hp, hs⟩
    rw [put1.1] at hp
    rw [put1.2]
    exact ⟨rfl, F, Lib.hid (H0.out.step hp hs)⟩)
  have HP2 : Hid (∀ W F, Hid (Mine I w W w.heap.size F l1) → Calls Try.prog 22 #[ptr w.heap.size, kV k15, .int .i64 8] W fun e w' => e = .returned (.bool true) ∧ ∃ F, Hid (Mine I w w' w.heap.size F l2)) := Lib.hid (fun W F h => by
    refine (I.put w.heap.size _ l1 k15 8 _ h.out.pt rise1 (by simp [l1])).mono ?_
    rintro e w' ⟨rfl, F, hp, hs⟩
    rw [put2.1] at hp
    rw [put2.2]
    exact ⟨rfl, F, Lib.hid (h.out.step hp hs)⟩)
  have HAT : Hid (∀ W F, Hid (Mine I w W w.heap.size F l2) → Calls Try.prog 15 #[ptr w.heap.size, .int .i64 0] W fun e w' => e = .returned (.tuple #[.agg #[.int .i64 1, .int .i64 5, .int .i64 0, .int .i64 0], .int .i64 8, .bool true]) ∧ Hid (Mine I w w' w.heap.size F l2)) := Lib.hid (fun W F h => by
    refine (I.at' w.heap.size _ l2 0 _ h.out.pt rise2 (by simp [l2])).mono ?_
    rintro e w' ⟨rfl, hb⟩
    exact ⟨rfl, Lib.hid (h.out.under hb)⟩)
  have HP3 : Hid (∀ W F, Hid (Mine I w W w.heap.size F l2) → Calls Try.prog 22 #[ptr w.heap.size, kV k2, .int .i64 9] W fun e w' => e = .returned (.bool false) ∧ ∃ F', Hid (Mine I w w' w.heap.size F' l3 ∧ ∀ g, g < W.heap.size → ¬ F g → w'.heap[g]? = W.heap[g]?)) := Lib.hid (fun W F h => by
    refine (I.put w.heap.size _ l2 k2 9 _ h.out.pt rise2 (by simp [l2])).mono ?_
    rintro e w' ⟨rfl, F, hp, hs⟩
    rw [put3.1] at hp
    rw [put3.2]
    exact ⟨rfl, _, Lib.hid ⟨h.out.step hp hs, hs.block⟩⟩)
  go_enter Try.func8, Try.ntmps8
  go_wp2_with fail
  refine HP1.out.mono ?_
  rintro e w1 ⟨rfl, F1, h1⟩
  clear HP1
  go_wp2_with fail
  refine (HP2.out w1 F1 h1).mono ?_
  rintro e w2 ⟨rfl, F2, h2⟩
  clear HP2
  go_wp2_with fail
  refine (HAT.out w2 F2 h2).mono ?_
  rintro e w3 ⟨rfl, h3⟩
  clear HAT
  go_wp2_with fail
  obtain ⟨w4, hw4⟩ : ∃ w4, w3.alloc (.cells #[.int .i64 1, .int .i64 5, .int .i64 0, .int .i64 0] 38) = w4 := ⟨_, rfl⟩
  have b4 : Below w3.heap.size w3 w4 := by rw [← hw4]; exact (Below.refl _ w3).alloc (Nat.le_refl _) _
  have g4 : w4.heap[w3.heap.size]? = some (.cells (Key.cells ⟨1, 5, 0, 0⟩) 38 (0, 0)) := by rw [← hw4]; exact heap_alloc_new w3 _
  have s4 : w4.heap.size = w3.heap.size + 1 := by rw [← hw4]; simp
  have h4 := Lib.hid (h3.out.under b4)
  have G4 := Lib.hid (And.intro g4 (And.intro s4 (fun h => by have := I.lt h3.out.pt _ h; omega : ¬ F2 w3.heap.size)))
  clear g4 s4 b4
  rw [hw4]
  clear hw4
  refine (HP3.out w4 F2 h4).mono ?_
  rintro e w5 ⟨rfl, F5, h5⟩
  clear HP3
  have g5 : w5.heap[w3.heap.size]? = some (.cells (Key.cells ⟨1, 5, 0, 0⟩) 38 (0, 0)) := (h5.out.2 w3.heap.size (by have := G4.out.2.1; omega) G4.out.2.2).trans G4.out.1
  have k0 : w5.cell? ⟨w3.heap.size, 0, none⟩ = some (.int .i64 1) := key_at g5 0 (by omega)
  have k1 : w5.cell? ⟨w3.heap.size, 1, none⟩ = some (.int .i64 5) := key_at g5 1 (by omega)
  have k2 : w5.cell? ⟨w3.heap.size, 2, none⟩ = some (.int .i64 0) := key_at g5 2 (by omega)
  have k3 : w5.cell? ⟨w3.heap.size, 3, none⟩ = some (.int .i64 0) := key_at g5 3 (by omega)
  have hkk : ∀ W, (Op.equalIn 10000 38 (.agg #[.int .i64 1, .int .i64 5, .int .i64 0, .int .i64 0]) (.agg #[.int .i64 1, .int .i64 5, .int .i64 0, .int .i64 0])).run Try.prog W = .ok true W := fun W => by
    have := run_keys ⟨1, 5, 0, 0⟩ ⟨1, 5, 0, 0⟩ 9998 W
    simpa using this
  have HLE : Hid (Calls Try.prog 24 #[ptr w.heap.size] w5 fun e w' => e = .returned (.int .i64 2) ∧ Hid (Mine I w w' w.heap.size F5 l3)) := Lib.hid (by
    refine (I.len w.heap.size _ l3 _ h5.out.1.pt rise3 (by simp [l3])).mono ?_
    rintro e w' ⟨rfl, hb⟩
    exact ⟨rfl, Lib.hid (h5.out.1.under hb)⟩)
  clear g5
  go_wp2_with fail
  refine HLE.out.mono ?_
  rintro e w6 ⟨rfl, h6⟩
  clear HLE hkk k0 k1 k2 k3
  have HCM : Hid (Calls Try.prog 18 #[.agg #[.int .i64 1, .int .i64 0, .int .i64 0, .int .i64 0], .agg #[.int .i64 1, .int .i64 1, .int .i64 0, .int .i64 0]] w6 fun e w' => ∃ r : Int, e = .returned (.int .i64 r) ∧ r < 0 ∧ Hid (Mine I w w' w.heap.size F5 l3)) := Lib.hid (by
    refine (I.compare k1 k11 w6).mono ?_
    rintro e w' ⟨r, rfl, ⟨h, _⟩, hb⟩
    exact ⟨r, rfl, h.2 (by rw [cmp1]; decide), Lib.hid (h6.out.under hb)⟩)
  go_wp2_with fail
  refine HCM.out.mono ?_
  rintro e w7 ⟨r, rfl, hr, h7⟩
  clear HCM
  have HAL : Hid (Calls Try.prog 11 #[ptr w.heap.size] w7 fun e w' => ∃ a c, e = .returned (.slice a 2 c) ∧ Hid (Own w' w7.heap.size (.slice a 2 c) l3 ∧ Below w.heap.size w w')) := Lib.hid (by
    refine (all_any J w.heap.size _ l3 w7 h7.out.pt rise3 (by simp [l3])).mono ?_
    rintro e w' ⟨v, rfl, ho, hb⟩
    obtain ⟨a, c, rfl, _⟩ := pairs_slice ho
    exact ⟨a, c, rfl, Lib.hid ⟨ho, below_then h7.out.below hb⟩⟩)
  go_wp2_with fail
  refine HAL.out.mono ?_
  rintro e w8 ⟨a, c, rfl, h8⟩
  have HSM : Hid (Calls Try.prog 10 #[.slice a 2 c, .slice (some ⟨w8.heap.size, 0, none⟩) 2 2] (w8.alloc (.cells #[.int .i64 1, .int .i64 5, .int .i64 0, .int .i64 0, .int .i64 8, .int .i64 2, .int .i64 0, .int .i64 0, .int .i64 0, .int .i64 9] 42)) fun e w' => e = .returned (.bool true) ∧ Hid (Below w.heap.size w w')) := Lib.hid (by
    have hlit : Pairs (w8.alloc (.cells #[.int .i64 1, .int .i64 5, .int .i64 0, .int .i64 0, .int .i64 8, .int .i64 2, .int .i64 0, .int .i64 0, .int .i64 0, .int .i64 9] 42)) (.slice (some ⟨w8.heap.size, 0, none⟩) 2 2) l3 := World.ownsRow_lit w8 _ 2 (Nat.zero_le _) (by decide) rfl
    refine (same_yes (.slice a 2 c) _ l3 _ (World.ownsRow.mono (h8.out.1.alloc _) (Nat.zero_le _)) hlit (by simp [l3])).mono ?_
    rintro e w' ⟨rfl, hb⟩
    exact ⟨rfl, Lib.hid (below_then (h8.out.2.alloc h8.out.2.size _) hb)⟩)
  go_wp2_with fail
  refine HSM.out.mono ?_
  rintro e w9 ⟨rfl, h9⟩
  go_wp2_with fail
  go_ret
  exact ⟨rfl, h9.out⟩
end Go.Proofs.Ytighjiiaplihjaa.Tab
