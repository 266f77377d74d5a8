/- Acts: what the law's 'do' answers of any drafts, and of nobody's. -/
import Derived.Test.YtfebaiefoonncaaDraNil
namespace Go.Proofs.Ytfebaiefoonncaa.Draft
open Go.RowKit Go.Lib IRows

structure Act where
  kind : Int
  i : Int
  a : Int
  b : Int
  d : Dr
abbrev actV (x : Act) : Value := .agg #[.int .i64 x.kind, .int .i64 x.i, .int .i64 x.a, .int .i64 x.b, .int .i64 x.d.id, .int .i64 x.d.owner, .int .i64 x.d.div, .int .i64 x.d.place, .int .i64 x.d.blue, .int .i64 x.d.me, .int .i64 x.d.te, .int .i64 x.d.runs, .int .i64 x.d.busy]
def actCells (x : Act) : List Value := [.int .i64 x.kind, .int .i64 x.i, .int .i64 x.a, .int .i64 x.b, .int .i64 x.d.id, .int .i64 x.d.owner, .int .i64 x.d.div, .int .i64 x.d.place, .int .i64 x.d.blue, .int .i64 x.d.me, .int .i64 x.d.te, .int .i64 x.d.runs, .int .i64 x.d.busy]
def InAct (x : Act) : Prop := I64 x.kind ∧ I64 x.i ∧ I64 x.a ∧ I64 x.b
def doE (l : List Dr) (z : Int) (x : Act) : Int :=
  if x.kind = 1 then addE l z x.d else if x.kind = 2 then chE l x.i (useE x.a x.b) else if x.kind = 3 then chE l x.i (freeE x.a x.b) else if x.kind = 4 then chE l x.i (learnE x.a x.b) else if x.kind = 5 then copE l z x.i x.a x.b else if x.kind = 6 then chE l x.i (giveE x.a x.b) else if (find l x.i).isSome then 0 else 3
def doL (l : List Dr) (z : Int) (x : Act) : List Dr :=
  if x.kind = 1 then addL l z x.d else if x.kind = 2 then chL l x.i (useE x.a x.b) (useD x.a x.b) else if x.kind = 3 then chL l x.i (freeE x.a x.b) (freeD x.a x.b) else if x.kind = 4 then chL l x.i (learnE x.a x.b) (learnD x.a x.b) else if x.kind = 5 then copL l z x.i x.a x.b else if x.kind = 6 then chL l x.i (giveE x.a x.b) (giveD x.a x.b) else l
def doZ (l : List Dr) (z : Int) (x : Act) : Int := if x.kind = 1 then addZ l z x.d else if x.kind = 5 then copZ l z x.i x.a x.b else z
theorem do_refused {l : List Dr} {z : Int} {x : Act} (h : doE l z x ≠ 0) : doL l z x = l ∧ doZ l z x = z := by
  unfold doE at h
  unfold doL doZ
  by_cases h1 : x.kind = 1
  · rw [if_pos h1] at h ⊢
    rw [if_pos h1]
    exact ⟨if_neg h, if_neg h⟩
  rw [if_neg h1] at h ⊢
  rw [if_neg h1]
  by_cases h2 : x.kind = 2
  · rw [if_pos h2] at h ⊢
    exact ⟨ch_refused h, if_neg (by omega)⟩
  rw [if_neg h2] at h ⊢
  by_cases h3 : x.kind = 3
  · rw [if_pos h3] at h ⊢
    exact ⟨ch_refused h, if_neg (by omega)⟩
  rw [if_neg h3] at h ⊢
  by_cases h4 : x.kind = 4
  · rw [if_pos h4] at h ⊢
    exact ⟨ch_refused h, if_neg (by omega)⟩
  rw [if_neg h4] at h ⊢
  by_cases h5 : x.kind = 5
  · rw [if_pos h5] at h ⊢
    rw [if_pos h5]
    exact cop_refused h
  rw [if_neg h5] at h ⊢
  by_cases h6 : x.kind = 6
  · rw [if_pos h6] at h ⊢
    exact ⟨ch_refused h, if_neg (by omega)⟩
  rw [if_neg h6]
  exact ⟨rfl, if_neg h5⟩
theorem good_do {l : List Dr} {z : Int} (h : Good l z) (x : Act) : Good (doL l z x) (doZ l z x) ∧ z ≤ doZ l z x := by
  unfold doL doZ
  by_cases h1 : x.kind = 1
  · rw [if_pos h1, if_pos h1]
    refine ⟨good_addL h _, ?_⟩
    unfold addZ
    split <;> omega
  rw [if_neg h1, if_neg h1]
  by_cases h5 : x.kind = 5
  · rw [if_neg (by omega), if_neg (by omega), if_neg (by omega), if_pos h5, if_pos h5]
    refine ⟨good_cop h _ _ _, ?_⟩
    unfold copZ
    split
    · rename_i e
      obtain ⟨_, _, h2, _⟩ := copE_zero e
      omega
    · omega
  have hz5 : (if x.kind = 5 then copZ l z x.i x.a x.b else z) = z := if_neg h5
  rw [hz5]
  refine ⟨?_, Int.le_refl _⟩
  by_cases h2 : x.kind = 2
  · rw [if_pos h2]
    exact good_ch h _ use_ok
  rw [if_neg h2]
  by_cases h3 : x.kind = 3
  · rw [if_pos h3]
    exact good_ch h _ free_ok
  rw [if_neg h3]
  by_cases h4 : x.kind = 4
  · rw [if_pos h4]
    exact good_ch h _ learn_ok
  rw [if_neg h4, if_neg h5]
  by_cases h6 : x.kind = 6
  · rw [if_pos h6]
    exact good_ch h _ give_ok
  rw [if_neg h6]
  exact h
/-- Numbers that lie somewhere, from one on, rising. -/
def Row (w : World) (a : Option Addr) (n : Nat) (z : Int) : Prop := ∀ k, k < n → ∃ g off, a = some ⟨g, off, none⟩ ∧ g < w.heap.size ∧ w.cell? ⟨g, off + k, none⟩ = some (.int .i64 (z + k + 1))
theorem Row.under {w w' : World} {a : Option Addr} {n : Nat} {z : Int} (h : Row w a n z) (hb : Below w.heap.size w w') : Row w' a n z := fun k hk => by
  obtain ⟨g, off, e, hg, hc⟩ := h k hk
  exact ⟨g, off, e, Nat.lt_of_lt_of_le hg hb.size, ((bcell hb).1 g _ hg).trans hc⟩
theorem row_ks {w : World} {B : Nat} {v : Value} {n : Nat} {z : Int} (h : KS w B v (nums n z)) : ∃ a c, v = .slice a n c ∧ Row w a n z := by
  obtain ⟨a, c, e, _, hat⟩ := h.at
  rw [nums_length] at e
  refine ⟨a, c, e, fun k hk => ?_⟩
  obtain ⟨g, e2, hg, hc, _⟩ := hat k _ (nums_at n z k hk)
  exact ⟨g, 0, e2, hg, by rw [Nat.zero_add]; exact hc⟩
/-- What 'do' leaves behind. -/
def DoR (l : List Dr) (z : Int) (x : Act) (w w' : World) (Q : Nat) (F : Nat → Prop) (a : Option Addr) (n : Nat) : Prop :=
  (∃ F', DP w' Q F' (doL l z x) (doZ l z x) ∧ Up w w' Q F F') ∧ n ≤ 10 ∧ (doE l z x = 0 → x.kind = 1 ∨ x.kind = 5 → Row w' a n z)
/-- The act in a box. -/
theorem box_act (w : World) (x : Act) : ∃ X, w.alloc (.cells #[.int .i64 x.kind, .int .i64 x.i, .int .i64 x.a, .int .i64 x.b, .int .i64 x.d.id, .int .i64 x.d.owner, .int .i64 x.d.div, .int .i64 x.d.place, .int .i64 x.d.blue, .int .i64 x.d.me, .int .i64 x.d.te, .int .i64 x.d.runs, .int .i64 x.d.busy] 38) = X ∧ Hid (Below w.heap.size w X) ∧ Hid (∀ W, Below X.heap.size X W → W.cell? ⟨w.heap.size, 0, none⟩ = some (.int .i64 x.kind) ∧ W.cell? ⟨w.heap.size, 1, none⟩ = some (.int .i64 x.i) ∧ W.cell? ⟨w.heap.size, 2, none⟩ = some (.int .i64 x.a) ∧ W.cell? ⟨w.heap.size, 3, none⟩ = some (.int .i64 x.b) ∧ W.cell? ⟨w.heap.size, 4, none⟩ = some (.int .i64 x.d.id) ∧ W.cell? ⟨w.heap.size, 5, none⟩ = some (.int .i64 x.d.owner) ∧ W.cell? ⟨w.heap.size, 6, none⟩ = some (.int .i64 x.d.div) ∧ W.cell? ⟨w.heap.size, 7, none⟩ = some (.int .i64 x.d.place) ∧ W.cell? ⟨w.heap.size, 8, none⟩ = some (.int .i64 x.d.blue) ∧ W.cell? ⟨w.heap.size, 9, none⟩ = some (.int .i64 x.d.me) ∧ W.cell? ⟨w.heap.size, 10, none⟩ = some (.int .i64 x.d.te) ∧ W.cell? ⟨w.heap.size, 11, none⟩ = some (.int .i64 x.d.runs) ∧ W.cell? ⟨w.heap.size, 12, none⟩ = some (.int .i64 x.d.busy)) := by
  have h := heap_alloc_new w (.cells #[.int .i64 x.kind, .int .i64 x.i, .int .i64 x.a, .int .i64 x.b, .int .i64 x.d.id, .int .i64 x.d.owner, .int .i64 x.d.div, .int .i64 x.d.place, .int .i64 x.d.blue, .int .i64 x.d.me, .int .i64 x.d.te, .int .i64 x.d.runs, .int .i64 x.d.busy] 38)
  refine ⟨_, rfl, Lib.hid ((Below.refl _ w).alloc (Nat.le_refl _) _), Lib.hid fun W hW => ?_⟩
  have h2 := (hW.block _ (Array.getElem?_eq_some_iff.1 h).1).trans h
  exact ⟨cell_block (j := 0) h2 rfl, cell_block (j := 1) h2 rfl, cell_block (j := 2) h2 rfl, cell_block (j := 3) h2 rfl, cell_block (j := 4) h2 rfl, cell_block (j := 5) h2 rfl, cell_block (j := 6) h2 rfl, cell_block (j := 7) h2 rfl, cell_block (j := 8) h2 rfl, cell_block (j := 9) h2 rfl, cell_block (j := 10) h2 rfl, cell_block (j := 11) h2 rfl, cell_block (j := 12) h2 rfl⟩
set_option maxRecDepth 100000 in
set_option maxHeartbeats 2000000 in
theorem do_one {Q : Nat} {F : Nat → Prop} {l : List Dr} {z : Int} (x : Act) (w : World) (h : DP w Q F l z) (hg : Good l z) (_ : InAct x) (hk : x.kind = 1) :
    Calls Try.prog 11 #[ptr Q, actV x] w fun e w' => ∃ a n c, e = .returned (.tuple #[.slice a n c, .int .i64 (doE l z x)]) ∧ Hid (DoR l z x w w' Q F a n) := by
  obtain ⟨X, hX, HB, HK⟩ := box_act w x
  obtain ⟨k0, k1, k2, k3, k4, k5, k6, k7, k8, k9, k10, k11, k12⟩ := HK.out X (Below.refl _ _)
  have hX2 := h.under HB.out
  have hE : doE l z x = addE l z x.d := by unfold doE; rw [if_pos hk]
  have hL : doL l z x = addL l z x.d := by unfold doL; rw [if_pos hk]
  have hZ : doZ l z x = addZ l z x.d := by unfold doZ; rw [if_pos hk]
  have e1 : (x.kind == 1) = true := by simp [hk]
  obtain ⟨q, hq⟩ : ∃ q, addE l z x.d = q := ⟨_, rfl⟩
  obtain ⟨y, hy⟩ : ∃ y, (if addE l z x.d = 0 then z + 1 else 0) = y := ⟨_, rfl⟩
  have HY : Hid (q = 0 → y = z + 1) := Lib.hid fun e => by rw [← hy, if_pos (hq.trans e)]
  have HC : Hid (Calls Try.prog 13 #[ptr Q, elV x.d] X fun e w' => e = .returned (.tuple #[.int .i64 y, .int .i64 q]) ∧ Hid (∃ F', DP w' Q F' (doL l z x) (doZ l z x) ∧ Up w w' Q F F')) := Lib.hid (by
    rw [← hy, ← hq, hL, hZ]
    refine (add_im x.d X hX2 hg).mono ?_
    rintro e w' ⟨rfl, F', h1, h2⟩
    exact ⟨rfl, Lib.hid ⟨F', h1, (Up.of_below HB.out).trans h2⟩⟩)
  have HE := Lib.hid (hE.trans hq)
  rw [hE, hq]
  clear h hg hk hX2 hE hL hZ hq hy
  go_enter Try.func11, Try.ntmps11
  go_wp2_with fail
  clear hX
  refine HC.out.mono ?_
  rintro e w1 ⟨rfl, H1⟩
  have HR : Hid (DoR l z x w (w1.alloc (.cells #[.int .i64 y] 3)) Q F (some ⟨w1.heap.size, 0, none⟩) 1) := Lib.hid (by
    obtain ⟨F', h1, h2⟩ := H1.out
    have hb := (Below.refl _ w1).alloc (Nat.le_refl _) (.cells #[.int .i64 y] 3)
    refine ⟨⟨F', h1.under hb, h2.trans (Up.of_below hb)⟩, by omega, fun e _ k hk => ⟨w1.heap.size, 0, rfl, by simp, ?_⟩⟩
    obtain rfl : k = 0 := by omega
    rw [HY.out (HE.out.symm.trans e)]
    have h3 := heap_alloc_new w1 (.cells #[.int .i64 (z + 1)] 3)
    have h4 : z + ((0 : Nat) : Int) + 1 = z + 1 := by omega
    rw [h4]
    exact cell_block (j := 0) h3 rfl)
  clear H1
  go_wp2_with fail
  go_ret2
  exact ⟨_, 1, 1, rfl, HR⟩
set_option maxRecDepth 100000 in
set_option maxHeartbeats 2000000 in
theorem do_use {Q : Nat} {F : Nat → Prop} {l : List Dr} {z : Int} (x : Act) (w : World) (h : DP w Q F l z) (hg : Good l z) (_ : InAct x) (hk : x.kind = 2) :
    Calls Try.prog 11 #[ptr Q, actV x] w fun e w' => ∃ a n c, e = .returned (.tuple #[.slice a n c, .int .i64 (doE l z x)]) ∧ Hid (DoR l z x w w' Q F a n) := by
  obtain ⟨X, hX, HB, HK⟩ := box_act w x
  obtain ⟨k0, k1, k2, k3, k4, k5, k6, k7, k8, k9, k10, k11, k12⟩ := HK.out X (Below.refl _ _)
  have hX2 := h.under HB.out
  have hE : doE l z x = chE l x.i (useE x.a x.b) := by unfold doE; rw [if_neg (by omega : ¬ x.kind = 1), if_pos hk]
  have hL : doL l z x = chL l x.i (useE x.a x.b) (useD x.a x.b) := by unfold doL; rw [if_neg (by omega : ¬ x.kind = 1), if_pos hk]
  have hZ : doZ l z x = z := by unfold doZ; rw [if_neg (by omega : ¬ x.kind = 1), if_neg (by omega : ¬ x.kind = 5)]
  have e1 : (x.kind == 1) = false := by simp [hk]
  have e2 : (x.kind == 2) = true := by simp [hk]
  obtain ⟨q, hq⟩ : ∃ q, chE l x.i (useE x.a x.b) = q := ⟨_, rfl⟩
  have HC : Hid (Calls Try.prog 15 #[ptr Q, .int .i64 x.i, .int .i64 x.a, .int .i64 x.b] X fun e w' => e = .returned (.int .i64 q) ∧ Hid (DoR l z x w w' Q F none 0)) := Lib.hid (by
    rw [← hq]
    refine (use_is x.i x.a x.b X hX2 hg).mono ?_
    rintro e w' ⟨rfl, F', h1, h2⟩
    exact ⟨rfl, Lib.hid ⟨⟨F', by rw [hL, hZ]; exact h1, (Up.of_below HB.out).trans h2⟩, by omega, fun _ e => by omega⟩⟩)
  rw [hE, hq]
  clear h hg hk hX2 hE hL hZ hq
  go_enter Try.func11, Try.ntmps11
  go_wp2_with fail
  clear hX
  refine HC.out.mono ?_
  rintro e w1 ⟨rfl, H1⟩
  go_wp2_with fail
  go_ret2
  exact ⟨none, 0, 0, rfl, H1⟩
set_option maxRecDepth 100000 in
set_option maxHeartbeats 2000000 in
theorem do_free {Q : Nat} {F : Nat → Prop} {l : List Dr} {z : Int} (x : Act) (w : World) (h : DP w Q F l z) (hg : Good l z) (_ : InAct x) (hk : x.kind = 3) :
    Calls Try.prog 11 #[ptr Q, actV x] w fun e w' => ∃ a n c, e = .returned (.tuple #[.slice a n c, .int .i64 (doE l z x)]) ∧ Hid (DoR l z x w w' Q F a n) := by
  obtain ⟨X, hX, HB, HK⟩ := box_act w x
  obtain ⟨k0, k1, k2, k3, k4, k5, k6, k7, k8, k9, k10, k11, k12⟩ := HK.out X (Below.refl _ _)
  have hX2 := h.under HB.out
  have hE : doE l z x = chE l x.i (freeE x.a x.b) := by unfold doE; rw [if_neg (by omega : ¬ x.kind = 1), if_neg (by omega : ¬ x.kind = 2), if_pos hk]
  have hL : doL l z x = chL l x.i (freeE x.a x.b) (freeD x.a x.b) := by unfold doL; rw [if_neg (by omega : ¬ x.kind = 1), if_neg (by omega : ¬ x.kind = 2), if_pos hk]
  have hZ : doZ l z x = z := by unfold doZ; rw [if_neg (by omega : ¬ x.kind = 1), if_neg (by omega : ¬ x.kind = 5)]
  have e1 : (x.kind == 1) = false := by simp [hk]
  have e2 : (x.kind == 2) = false := by simp [hk]
  have e3 : (x.kind == 3) = true := by simp [hk]
  obtain ⟨q, hq⟩ : ∃ q, chE l x.i (freeE x.a x.b) = q := ⟨_, rfl⟩
  have HC : Hid (Calls Try.prog 17 #[ptr Q, .int .i64 x.i, .int .i64 x.a, .int .i64 x.b] X fun e w' => e = .returned (.int .i64 q) ∧ Hid (DoR l z x w w' Q F none 0)) := Lib.hid (by
    rw [← hq]
    refine (free_is x.i x.a x.b X hX2 hg).mono ?_
    rintro e w' ⟨rfl, F', h1, h2⟩
    exact ⟨rfl, Lib.hid ⟨⟨F', by rw [hL, hZ]; exact h1, (Up.of_below HB.out).trans h2⟩, by omega, fun _ e => by omega⟩⟩)
  rw [hE, hq]
  clear h hg hk hX2 hE hL hZ hq
  go_enter Try.func11, Try.ntmps11
  go_wp2_with fail
  clear hX
  refine HC.out.mono ?_
  rintro e w1 ⟨rfl, H1⟩
  go_wp2_with fail
  go_ret2
  exact ⟨none, 0, 0, rfl, H1⟩
set_option maxRecDepth 100000 in
set_option maxHeartbeats 2000000 in
theorem do_learn {Q : Nat} {F : Nat → Prop} {l : List Dr} {z : Int} (x : Act) (w : World) (h : DP w Q F l z) (hg : Good l z) (hi : InAct x) (hk : x.kind = 4) :
    Calls Try.prog 11 #[ptr Q, actV x] w fun e w' => ∃ a n c, e = .returned (.tuple #[.slice a n c, .int .i64 (doE l z x)]) ∧ Hid (DoR l z x w w' Q F a n) := by
  obtain ⟨X, hX, HB, HK⟩ := box_act w x
  obtain ⟨k0, k1, k2, k3, k4, k5, k6, k7, k8, k9, k10, k11, k12⟩ := HK.out X (Below.refl _ _)
  have hX2 := h.under HB.out
  have hE : doE l z x = chE l x.i (learnE x.a x.b) := by unfold doE; rw [if_neg (by omega : ¬ x.kind = 1), if_neg (by omega : ¬ x.kind = 2), if_neg (by omega : ¬ x.kind = 3), if_pos hk]
  have hL : doL l z x = chL l x.i (learnE x.a x.b) (learnD x.a x.b) := by unfold doL; rw [if_neg (by omega : ¬ x.kind = 1), if_neg (by omega : ¬ x.kind = 2), if_neg (by omega : ¬ x.kind = 3), if_pos hk]
  have hZ : doZ l z x = z := by unfold doZ; rw [if_neg (by omega : ¬ x.kind = 1), if_neg (by omega : ¬ x.kind = 5)]
  have e1 : (x.kind == 1) = false := by simp [hk]
  have e2 : (x.kind == 2) = false := by simp [hk]
  have e3 : (x.kind == 3) = false := by simp [hk]
  have e4 : (x.kind == 4) = true := by simp [hk]
  obtain ⟨q, hq⟩ : ∃ q, chE l x.i (learnE x.a x.b) = q := ⟨_, rfl⟩
  have HC : Hid (Calls Try.prog 25 #[ptr Q, .int .i64 x.i, .int .i64 x.a, .int .i64 x.b] X fun e w' => e = .returned (.int .i64 q) ∧ Hid (DoR l z x w w' Q F none 0)) := Lib.hid (by
    rw [← hq]
    refine (learn_is x.i x.a x.b X hX2 hg (by have := hi.2.2.1; unfold I64 at this; omega) (by have := hi.2.2.2; unfold I64 at this; omega)).mono ?_
    rintro e w' ⟨rfl, F', h1, h2⟩
    exact ⟨rfl, Lib.hid ⟨⟨F', by rw [hL, hZ]; exact h1, (Up.of_below HB.out).trans h2⟩, by omega, fun _ e => by omega⟩⟩)
  rw [hE, hq]
  clear h hg hi hk hX2 hE hL hZ hq
  go_enter Try.func11, Try.ntmps11
  go_wp2_with fail
  clear hX
  refine HC.out.mono ?_
  rintro e w1 ⟨rfl, H1⟩
  go_wp2_with fail
  go_ret2
  exact ⟨none, 0, 0, rfl, H1⟩
set_option maxRecDepth 100000 in
set_option maxHeartbeats 2000000 in
theorem do_give {Q : Nat} {F : Nat → Prop} {l : List Dr} {z : Int} (x : Act) (w : World) (h : DP w Q F l z) (hg : Good l z) (_ : InAct x) (hk : x.kind = 6) :
    Calls Try.prog 11 #[ptr Q, actV x] w fun e w' => ∃ a n c, e = .returned (.tuple #[.slice a n c, .int .i64 (doE l z x)]) ∧ Hid (DoR l z x w w' Q F a n) := by
  obtain ⟨X, hX, HB, HK⟩ := box_act w x
  obtain ⟨k0, k1, k2, k3, k4, k5, k6, k7, k8, k9, k10, k11, k12⟩ := HK.out X (Below.refl _ _)
  have hX2 := h.under HB.out
  have hE : doE l z x = chE l x.i (giveE x.a x.b) := by unfold doE; rw [if_neg (by omega : ¬ x.kind = 1), if_neg (by omega : ¬ x.kind = 2), if_neg (by omega : ¬ x.kind = 3), if_neg (by omega : ¬ x.kind = 4), if_neg (by omega : ¬ x.kind = 5), if_pos hk]
  have hL : doL l z x = chL l x.i (giveE x.a x.b) (giveD x.a x.b) := by unfold doL; rw [if_neg (by omega : ¬ x.kind = 1), if_neg (by omega : ¬ x.kind = 2), if_neg (by omega : ¬ x.kind = 3), if_neg (by omega : ¬ x.kind = 4), if_neg (by omega : ¬ x.kind = 5), if_pos hk]
  have hZ : doZ l z x = z := by unfold doZ; rw [if_neg (by omega : ¬ x.kind = 1), if_neg (by omega : ¬ x.kind = 5)]
  have e1 : (x.kind == 1) = false := by simp [hk]
  have e2 : (x.kind == 2) = false := by simp [hk]
  have e3 : (x.kind == 3) = false := by simp [hk]
  have e4 : (x.kind == 4) = false := by simp [hk]
  have e5 : (x.kind == 5) = false := by simp [hk]
  have e6 : (x.kind == 6) = true := by simp [hk]
  obtain ⟨q, hq⟩ : ∃ q, chE l x.i (giveE x.a x.b) = q := ⟨_, rfl⟩
  have HC : Hid (Calls Try.prog 16 #[ptr Q, .int .i64 x.i, .int .i64 x.a, .int .i64 x.b] X fun e w' => e = .returned (.int .i64 q) ∧ Hid (DoR l z x w w' Q F none 0)) := Lib.hid (by
    rw [← hq]
    refine (give_is x.i x.a x.b X hX2 hg).mono ?_
    rintro e w' ⟨rfl, F', h1, h2⟩
    exact ⟨rfl, Lib.hid ⟨⟨F', by rw [hL, hZ]; exact h1, (Up.of_below HB.out).trans h2⟩, by omega, fun _ e => by omega⟩⟩)
  rw [hE, hq]
  clear h hg hk hX2 hE hL hZ hq
  go_enter Try.func11, Try.ntmps11
  go_wp2_with fail
  clear hX
  refine HC.out.mono ?_
  rintro e w1 ⟨rfl, H1⟩
  go_wp2_with fail
  go_ret2
  exact ⟨none, 0, 0, rfl, H1⟩
set_option maxRecDepth 100000 in
set_option maxHeartbeats 2000000 in
theorem do_copies {Q : Nat} {F : Nat → Prop} {l : List Dr} {z : Int} (x : Act) (w : World) (h : DP w Q F l z) (hg : Good l z) (_ : InAct x) (hk : x.kind = 5) :
    Calls Try.prog 11 #[ptr Q, actV x] w fun e w' => ∃ a n c, e = .returned (.tuple #[.slice a n c, .int .i64 (doE l z x)]) ∧ Hid (DoR l z x w w' Q F a n) := by
  obtain ⟨X, hX, HB, HK⟩ := box_act w x
  obtain ⟨k0, k1, k2, k3, k4, k5, k6, k7, k8, k9, k10, k11, k12⟩ := HK.out X (Below.refl _ _)
  have hX2 := h.under HB.out
  have hE : doE l z x = copE l z x.i x.a x.b := by unfold doE; rw [if_neg (by omega : ¬ x.kind = 1), if_neg (by omega : ¬ x.kind = 2), if_neg (by omega : ¬ x.kind = 3), if_neg (by omega : ¬ x.kind = 4), if_pos hk]
  have hL : doL l z x = copL l z x.i x.a x.b := by unfold doL; rw [if_neg (by omega : ¬ x.kind = 1), if_neg (by omega : ¬ x.kind = 2), if_neg (by omega : ¬ x.kind = 3), if_neg (by omega : ¬ x.kind = 4), if_pos hk]
  have hZ : doZ l z x = copZ l z x.i x.a x.b := by unfold doZ; rw [if_neg (by omega : ¬ x.kind = 1), if_pos hk]
  have e1 : (x.kind == 1) = false := by simp [hk]
  have e2 : (x.kind == 2) = false := by simp [hk]
  have e3 : (x.kind == 3) = false := by simp [hk]
  have e4 : (x.kind == 4) = false := by simp [hk]
  have e5 : (x.kind == 5) = true := by simp [hk]
  obtain ⟨q, hq⟩ : ∃ q, copE l z x.i x.a x.b = q := ⟨_, rfl⟩
  have HC : Hid (Calls Try.prog 18 #[ptr Q, .int .i64 x.i, .int .i64 x.a, .int .i64 x.b] X fun e w' => ∃ a n c, e = .returned (.tuple #[.slice a n c, .int .i64 q]) ∧ Hid (DoR l z x w w' Q F a n)) := Lib.hid (by
    rw [← hq]
    refine (copies_im x.i x.a x.b X hX2 hg).mono ?_
    rintro e w' ⟨a, n, c, rfl, H⟩
    obtain ⟨h1, h2, F', h3, h4⟩ := H.out
    refine ⟨a, n, c, rfl, Lib.hid ⟨⟨F', by rw [hL, hZ]; exact h3, (Up.of_below HB.out).trans h4⟩, ?_, fun e _ => ?_⟩⟩
    · by_cases he : copE l z x.i x.a x.b = 0
      · have := (h1 he).1
        obtain ⟨_, _, h5, _⟩ := copE_zero he
        omega
      · rw [h2 he]
        omega
    · obtain ⟨e1, e2⟩ := h1 (hE.symm.trans e)
      subst e1
      obtain ⟨a', c', e3, h5⟩ := row_ks e2
      injection e3 with e4 _ _
      rw [e4]
      exact h5)
  rw [hE, hq]
  clear h hg hk hX2 hE hL hZ hq
  go_enter Try.func11, Try.ntmps11
  go_wp2_with fail
  clear hX
  refine HC.out.mono ?_
  rintro e w1 ⟨a, n, c, rfl, H1⟩
  go_wp2_with fail
  go_ret2
  exact ⟨a, n, c, rfl, H1⟩
set_option maxRecDepth 100000 in
set_option maxHeartbeats 2000000 in
theorem do_get {Q : Nat} {F : Nat → Prop} {l : List Dr} {z : Int} (x : Act) (w : World) (h : DP w Q F l z) (hg : Good l z) (_ : InAct x) (n1 : ¬ x.kind = 1) (n2 : ¬ x.kind = 2) (n3 : ¬ x.kind = 3) (n4 : ¬ x.kind = 4) (n5 : ¬ x.kind = 5) (n6 : ¬ x.kind = 6) :
    Calls Try.prog 11 #[ptr Q, actV x] w fun e w' => ∃ a n c, e = .returned (.tuple #[.slice a n c, .int .i64 (doE l z x)]) ∧ Hid (DoR l z x w w' Q F a n) := by
  obtain ⟨X, hX, HB, HK⟩ := box_act w x
  obtain ⟨k0, k1, k2, k3, k4, k5, k6, k7, k8, k9, k10, k11, k12⟩ := HK.out X (Below.refl _ _)
  have hX2 := h.under HB.out
  have hE : doE l z x = if (find l x.i).isSome then 0 else 3 := by unfold doE; rw [if_neg n1, if_neg n2, if_neg n3, if_neg n4, if_neg n5, if_neg n6]
  have hL : doL l z x = l := by unfold doL; rw [if_neg n1, if_neg n2, if_neg n3, if_neg n4, if_neg n5, if_neg n6]
  have hZ : doZ l z x = z := by unfold doZ; rw [if_neg n1, if_neg n5]
  have e1 : (x.kind == 1) = false := by simpa using n1
  have e2 : (x.kind == 2) = false := by simpa using n2
  have e3 : (x.kind == 3) = false := by simpa using n3
  have e4 : (x.kind == 4) = false := by simpa using n4
  have e5 : (x.kind == 5) = false := by simpa using n5
  have e6 : (x.kind == 6) = false := by simpa using n6
  obtain ⟨q, hq⟩ : ∃ q : Int, (if (find l x.i).isSome then 0 else 3) = q := ⟨_, rfl⟩
  obtain ⟨d, hd⟩ : ∃ d, (find l x.i).getD default = d := ⟨_, rfl⟩
  have HC := Lib.hid (get_is x.i X hX2 hg.rise (by have := hg.len; omega))
  rw [hd, hq] at HC
  have HX : Hid (∀ W, Below X.heap.size X W → ∃ Y T, W.alloc (.cells #[.int .i64 d.id, .int .i64 d.owner, .int .i64 d.div, .int .i64 d.place, .int .i64 d.blue, .int .i64 d.me, .int .i64 d.te, .int .i64 d.runs, .int .i64 d.busy] 36) = Y ∧ W.heap.size = T ∧ (Y.cell? ⟨T, 4, none⟩ = some (.int .i64 d.blue) ∧ Y.cell? ⟨T, 7, none⟩ = some (.int .i64 d.runs) ∧ Y.cell? ⟨T, 8, none⟩ = some (.int .i64 d.busy)) ∧ Hid (∀ o, DoR l z x w (Y.alloc o) Q F (some ⟨Y.heap.size, 0, none⟩) 3)) := Lib.hid (fun W hW => by
    have hb := hW.alloc hW.size (.cells #[.int .i64 d.id, .int .i64 d.owner, .int .i64 d.div, .int .i64 d.place, .int .i64 d.blue, .int .i64 d.me, .int .i64 d.te, .int .i64 d.runs, .int .i64 d.busy] 36)
    have hT : (W.alloc (.cells #[.int .i64 d.id, .int .i64 d.owner, .int .i64 d.div, .int .i64 d.place, .int .i64 d.blue, .int .i64 d.me, .int .i64 d.te, .int .i64 d.runs, .int .i64 d.busy] 36)).heap[W.heap.size]? = some (.cells d.cells 36 (0, 0)) := heap_alloc_new W _
    refine ⟨_, _, rfl, rfl, ⟨cell_block (j := 4) hT rfl, cell_block (j := 7) hT rfl, cell_block (j := 8) hT rfl⟩, Lib.hid fun o => ?_⟩
    have hb2 := hb.alloc hb.size o
    refine ⟨⟨F, ?_, Up.of_below (below_then HB.out hb2)⟩, by omega, fun _ e => by omega⟩
    rw [hL, hZ]
    exact hX2.under hb2)
  rw [hE, hq]
  clear h hg hX2 hE hL hZ hq hd n1 n2 n3 n4 n5 n6
  go_enter Try.func11, Try.ntmps11
  go_wp2_with fail
  clear hX
  refine HC.out.mono ?_
  rintro e w1 ⟨rfl, hb1⟩
  obtain ⟨Y, T, hY, hT, ⟨y4, y7, y8⟩, HR⟩ := HX.out w1 hb1
  clear hb1
  go_wp2_with fail
  go_ret2
  exact ⟨_, 3, 3, rfl, Lib.hid (HR.out _)⟩
theorem do_im {Q : Nat} {F : Nat → Prop} {l : List Dr} {z : Int} (x : Act) (w : World) (h : DP w Q F l z) (hg : Good l z) (hi : InAct x) :
    Calls Try.prog 11 #[ptr Q, actV x] w fun e w' => ∃ a n c, e = .returned (.tuple #[.slice a n c, .int .i64 (doE l z x)]) ∧ Hid (DoR l z x w w' Q F a n) := by
  by_cases h1 : x.kind = 1
  · exact do_one x w h hg hi h1
  by_cases h2 : x.kind = 2
  · exact do_use x w h hg hi h2
  by_cases h3 : x.kind = 3
  · exact do_free x w h hg hi h3
  by_cases h4 : x.kind = 4
  · exact do_learn x w h hg hi h4
  by_cases h5 : x.kind = 5
  · exact do_copies x w h hg hi h5
  by_cases h6 : x.kind = 6
  · exact do_give x w h hg hi h6
  exact do_get x w h hg hi h1 h2 h3 h4 h5 h6
set_option maxRecDepth 100000 in
set_option maxHeartbeats 2000000 in
theorem do_nil (x : Act) (w : World) :
    Calls Try.prog 11 #[.pointer none, actV x] w fun e w' => ∃ a n c, e = .returned (.tuple #[.slice a n c, .int .i64 1]) ∧ Hid (Below w.heap.size w w') := by
  obtain ⟨X, hX, HB, HK⟩ := box_act w x
  obtain ⟨k0, k1, k2, k3, k4, k5, k6, k7, k8, k9, k10, k11, k12⟩ := HK.out X (Below.refl _ _)
  by_cases hk : x.kind = 1
  · have e1 : (x.kind == 1) = true := by simp [hk]
    have HC := Lib.hid (add_nil x.d X)
    clear hk
    go_enter Try.func11, Try.ntmps11
    go_wp2_with fail
    clear hX
    refine HC.out.mono ?_
    rintro e w1 ⟨rfl, hb1⟩
    have HE := Lib.hid (below_then HB.out (hb1.alloc hb1.size (.cells #[.int .i64 0] 3)))
    clear hb1
    go_wp2_with fail
    go_ret2
    exact ⟨_, 1, 1, rfl, HE⟩
  have n1 := hk
  clear hk
  by_cases hk : x.kind = 2
  · have e1 : (x.kind == 1) = false := by simp [hk]
    have e2 : (x.kind == 2) = true := by simp [hk]
    have HC := Lib.hid (use_nil x.i x.a x.b X)
    clear hk
    go_enter Try.func11, Try.ntmps11
    go_wp2_with fail
    clear hX
    refine HC.out.mono ?_
    rintro e w1 ⟨rfl, hb1⟩
    have HE := Lib.hid (below_then HB.out hb1)
    clear hb1
    go_wp2_with fail
    go_ret2
    exact ⟨none, 0, 0, rfl, HE⟩
  have n2 := hk
  clear hk
  by_cases hk : x.kind = 3
  · have e1 : (x.kind == 1) = false := by simp [hk]
    have e2 : (x.kind == 2) = false := by simp [hk]
    have e3 : (x.kind == 3) = true := by simp [hk]
    have HC := Lib.hid (free_nil x.i x.a x.b X)
    clear hk
    go_enter Try.func11, Try.ntmps11
    go_wp2_with fail
    clear hX
    refine HC.out.mono ?_
    rintro e w1 ⟨rfl, hb1⟩
    have HE := Lib.hid (below_then HB.out hb1)
    clear hb1
    go_wp2_with fail
    go_ret2
    exact ⟨none, 0, 0, rfl, HE⟩
  have n3 := hk
  clear hk
  by_cases hk : x.kind = 4
  · have e1 : (x.kind == 1) = false := by simp [hk]
    have e2 : (x.kind == 2) = false := by simp [hk]
    have e3 : (x.kind == 3) = false := by simp [hk]
    have e4 : (x.kind == 4) = true := by simp [hk]
    have HC := Lib.hid (learn_nil x.i x.a x.b X)
    clear hk
    go_enter Try.func11, Try.ntmps11
    go_wp2_with fail
    clear hX
    refine HC.out.mono ?_
    rintro e w1 ⟨rfl, hb1⟩
    have HE := Lib.hid (below_then HB.out hb1)
    clear hb1
    go_wp2_with fail
    go_ret2
    exact ⟨none, 0, 0, rfl, HE⟩
  have n4 := hk
  clear hk
  by_cases hk : x.kind = 5
  · have e1 : (x.kind == 1) = false := by simp [hk]
    have e2 : (x.kind == 2) = false := by simp [hk]
    have e3 : (x.kind == 3) = false := by simp [hk]
    have e4 : (x.kind == 4) = false := by simp [hk]
    have e5 : (x.kind == 5) = true := by simp [hk]
    have HC := Lib.hid (copies_nil x.i x.a x.b X)
    clear hk
    go_enter Try.func11, Try.ntmps11
    go_wp2_with fail
    clear hX
    refine HC.out.mono ?_
    rintro e w1 ⟨rfl, hb1⟩
    have HE := Lib.hid (below_then HB.out hb1)
    clear hb1
    go_wp2_with fail
    go_ret2
    exact ⟨none, 0, 0, rfl, HE⟩
  have n5 := hk
  clear hk
  by_cases hk : x.kind = 6
  · have e1 : (x.kind == 1) = false := by simp [hk]
    have e2 : (x.kind == 2) = false := by simp [hk]
    have e3 : (x.kind == 3) = false := by simp [hk]
    have e4 : (x.kind == 4) = false := by simp [hk]
    have e5 : (x.kind == 5) = false := by simp [hk]
    have e6 : (x.kind == 6) = true := by simp [hk]
    have HC := Lib.hid (give_nil x.i x.a x.b X)
    clear hk
    go_enter Try.func11, Try.ntmps11
    go_wp2_with fail
    clear hX
    refine HC.out.mono ?_
    rintro e w1 ⟨rfl, hb1⟩
    have HE := Lib.hid (below_then HB.out hb1)
    clear hb1
    go_wp2_with fail
    go_ret2
    exact ⟨none, 0, 0, rfl, HE⟩
  have n6 := hk
  clear hk
  have e1 : (x.kind == 1) = false := by simpa using n1
  have e2 : (x.kind == 2) = false := by simpa using n2
  have e3 : (x.kind == 3) = false := by simpa using n3
  have e4 : (x.kind == 4) = false := by simpa using n4
  have e5 : (x.kind == 5) = false := by simpa using n5
  have e6 : (x.kind == 6) = false := by simpa using n6
  obtain ⟨dz, hdz⟩ : ∃ dz : Dr, dz = default := ⟨_, rfl⟩
  have HC := Lib.hid (get_nil x.i X)
  rw [← hdz] at HC
  have HX : Hid (∀ W, Below X.heap.size X W → ∃ Y T, W.alloc (.cells #[.int .i64 dz.id, .int .i64 dz.owner, .int .i64 dz.div, .int .i64 dz.place, .int .i64 dz.blue, .int .i64 dz.me, .int .i64 dz.te, .int .i64 dz.runs, .int .i64 dz.busy] 36) = Y ∧ W.heap.size = T ∧ (Y.cell? ⟨T, 4, none⟩ = some (.int .i64 dz.blue) ∧ Y.cell? ⟨T, 7, none⟩ = some (.int .i64 dz.runs) ∧ Y.cell? ⟨T, 8, none⟩ = some (.int .i64 dz.busy)) ∧ Hid (∀ o, Below w.heap.size w (Y.alloc o))) := Lib.hid (fun W hW => by
    have hb := hW.alloc hW.size (.cells #[.int .i64 dz.id, .int .i64 dz.owner, .int .i64 dz.div, .int .i64 dz.place, .int .i64 dz.blue, .int .i64 dz.me, .int .i64 dz.te, .int .i64 dz.runs, .int .i64 dz.busy] 36)
    have hT : (W.alloc (.cells #[.int .i64 dz.id, .int .i64 dz.owner, .int .i64 dz.div, .int .i64 dz.place, .int .i64 dz.blue, .int .i64 dz.me, .int .i64 dz.te, .int .i64 dz.runs, .int .i64 dz.busy] 36)).heap[W.heap.size]? = some (.cells dz.cells 36 (0, 0)) := heap_alloc_new W _
    exact ⟨_, _, rfl, rfl, ⟨cell_block (j := 4) hT rfl, cell_block (j := 7) hT rfl, cell_block (j := 8) hT rfl⟩, Lib.hid fun o => below_then HB.out (hb.alloc hb.size o)⟩)
  clear hdz
  go_enter Try.func11, Try.ntmps11
  go_wp2_with fail
  clear hX
  refine HC.out.mono ?_
  rintro e w1 ⟨rfl, hb1⟩
  obtain ⟨Y, T, hY, hT, ⟨y4, y7, y8⟩, HR⟩ := HX.out w1 hb1
  clear hb1
  go_wp2_with fail
  go_ret2
  exact ⟨_, 3, 3, rfl, Lib.hid (HR.out _)⟩
end Go.Proofs.Ytfebaiefoonncaa.Draft
