/- What the laws ask of the program's disk, said once: an implementation; its acts; the laws' awake. -/
import Derived.Test.YtflkglnmenbmaaaDiskM
namespace Go.Proofs.Ytflkglnmenbmaaa.Disk
open Go.RowKit Go.Lib

/-- What stands of a world behind a call: all but what lies in F, and F grows by new blocks alone. -/
structure StepF (w w' : World) (F F' : Nat → Prop) : Prop where
  os : w'.os = w.os
  tape : w'.tape = w.tape
  output : w'.output = w.output
  size : w.heap.size ≤ w'.heap.size
  block : ∀ k, k < w.heap.size → ¬ F k → w'.heap[k]? = w.heap[k]?
  grows : ∀ k, F' k → F k ∨ w.heap.size ≤ k
theorem StepF.refl (w : World) (F : Nat → Prop) : StepF w w F F := ⟨rfl, rfl, rfl, Nat.le_refl _, fun _ _ _ => rfl, fun _ h => .inl h⟩
theorem StepF.trans {w w1 w2 : World} {F F1 F2 : Nat → Prop} (h : StepF w w1 F F1) (k : StepF w1 w2 F1 F2) : StepF w w2 F F2 := by
  refine ⟨k.os.trans h.os, k.tape.trans h.tape, k.output.trans h.output, Nat.le_trans h.size k.size, fun i hi hF => ?_, fun i hi => ?_⟩
  · rw [k.block i (Nat.lt_of_lt_of_le hi h.size) (fun h1 => by rcases h.grows i h1 with h2 | h2; · exact hF h2
                                                               · omega), h.block i hi hF]
  · rcases k.grows i hi with h1 | h1
    · exact h.grows i h1
    · exact .inr (Nat.le_trans h.size h1)
theorem StepF.below {w w' : World} (F : Nat → Prop) (h : Below w.heap.size w w') : StepF w w' F F := ⟨h.os, h.tape, h.output, h.size, fun i hi _ => h.block i hi, fun _ h => .inl h⟩
/-- A call on what is new leaves alone what was there. -/
theorem StepF.fresh {W w w' : World} {F F' : Nat → Prop} (hb : Below W.heap.size W w) (h : StepF w w' F F') (hF : ∀ k, F k → W.heap.size ≤ k) : Below W.heap.size W w' ∧ ∀ k, F' k → W.heap.size ≤ k :=
  ⟨⟨h.os.trans hb.os, h.tape.trans hb.tape, h.output.trans hb.output, Nat.le_trans hb.size h.size, fun i hi => (h.block i (Nat.lt_of_lt_of_le hi hb.size) (fun h1 => by have := hF i h1; omega)).trans (hb.block i hi)⟩,
    fun k hk => by rcases h.grows k hk with h1 | h1; · exact hF k h1
                   · exact Nat.le_trans hb.size h1⟩
/-- A disk of the program's: where it lies, what it is, and what its calls do. Bounds are those of the laws. -/
structure Impl where
  PD : World → Nat → (Nat → Prop) → DS → Prop
  lt : ∀ {w Q F st}, PD w Q F st → ∀ k, F k → k < w.heap.size
  keep : ∀ {w w' : World} {Q F st}, PD w Q F st → w.heap.size ≤ w'.heap.size → (∀ k, F k → w'.heap[k]? = w.heap[k]?) → PD w' Q F st
  new_bad : ∀ (n : Int) (w : World), (-9223372036854775808 ≤ n ∧ n ≤ 9223372036854775807) → (n < 0 ∨ 16777216 < n) →
    Calls Try.prog 9 #[.int .i64 n] w fun e w' => e = .returned (.tuple #[.pointer none, .int .i64 1]) ∧ Below w.heap.size w w'
  new : ∀ (n : Nat) (w : World), n ≤ 16777216 →
    Calls Try.prog 9 #[.int .i64 (n : Int)] w fun e w' => ∃ Q F, e = .returned (.tuple #[.pointer (some ⟨Q, 0, none⟩), .int .i64 0]) ∧ PD w' Q F (newS n) ∧ Below w.heap.size w w' ∧ ∀ k, F k → w.heap.size ≤ k
  append : ∀ (Q : Nat) (F : Nat → Prop) (st : DS) (s b : ByteArray) (w : World), PD w Q F st → Inv st 1000 → s.size ≤ 200 → b.size ≤ 200 →
    Calls Try.prog 20 #[.pointer (some ⟨Q, 0, none⟩), .string s, .string b] w fun e w' => e = .returned (.int .i64 (appE st s b)) ∧ ∃ F', PD w' Q F' (appS st s b) ∧ StepF w w' F F'
  sync : ∀ (Q : Nat) (F : Nat → Prop) (st : DS) (s : ByteArray) (w : World), PD w Q F st → Inv st 1000 → s.size ≤ 200 →
    Calls Try.prog 21 #[.pointer (some ⟨Q, 0, none⟩), .string s] w fun e w' => e = .returned (.int .i64 (syncE st s)) ∧ ∃ F', PD w' Q F' (syncS st s) ∧ StepF w w' F F'
  cut : ∀ (Q : Nat) (F : Nat → Prop) (st : DS) (s : ByteArray) (n : Int) (w : World), PD w Q F st → Inv st 1000 → s.size ≤ 200 → (-9223372036854775808 ≤ n ∧ n ≤ 9223372036854775807) →
    Calls Try.prog 26 #[.pointer (some ⟨Q, 0, none⟩), .string s, .int .i64 n] w fun e w' => e = .returned (.int .i64 (cutE st s n)) ∧ ∃ F', PD w' Q F' (cutS st s n) ∧ StepF w w' F F'
  rename : ∀ (Q : Nat) (F : Nat → Prop) (st : DS) (s t : ByteArray) (w : World), PD w Q F st → Inv st 1000 → s.size ≤ 200 → t.size ≤ 200 →
    Calls Try.prog 25 #[.pointer (some ⟨Q, 0, none⟩), .string s, .string t] w fun e w' => e = .returned (.int .i64 (renE st s t)) ∧ ∃ F', PD w' Q F' (renS st s t) ∧ StepF w w' F F'
  read : ∀ (Q : Nat) (F : Nat → Prop) (st : DS) (s : ByteArray) (w : World), PD w Q F st → Inv st 1000 → s.size ≤ 200 →
    Calls Try.prog 23 #[.pointer (some ⟨Q, 0, none⟩), .string s] w fun e w' => e = .returned (readV st s) ∧ ∃ F', PD w' Q F' st ∧ StepF w w' F F'
  fuse : ∀ (Q : Nat) (F : Nat → Prop) (st : DS) (n : Int) (h : Bool) (w : World), PD w Q F st → Inv st 1000 → (-9223372036854775808 ≤ n ∧ n ≤ 9223372036854775807) →
    Calls Try.prog 24 #[.pointer (some ⟨Q, 0, none⟩), .int .i64 n, .bool h] w fun e w' => e = .returned (.tuple #[]) ∧ ∃ F', PD w' Q F' (fuseS st n h) ∧ StepF w w' F F'
  crash : ∀ (Q : Nat) (F : Nat → Prop) (st : DS) (ka : Option Addr) (kn kc : Nat) (Z : Nat → Int) (w : World), PD w Q F st → Inv st 1000 → Ints w ka kn Z → kn ≤ 20 →
    Calls Try.prog 22 #[.pointer (some ⟨Q, 0, none⟩), .slice ka kn kc] w fun e w' => e = .returned (.int .i64 0) ∧ ∃ F', PD w' Q F' (crashS st (keepOf kn Z)) ∧ StepF w w' F F'
  used : ∀ (Q : Nat) (F : Nat → Prop) (st : DS) (w : World), PD w Q F st → Inv st 1000 →
    Calls Try.prog 13 #[.pointer (some ⟨Q, 0, none⟩)] w fun e w' => e = .returned (.int .i64 (used st : Nat)) ∧ ∃ F', PD w' Q F' st ∧ StepF w w' F F'
  ops : ∀ (Q : Nat) (F : Nat → Prop) (st : DS) (w : World), PD w Q F st → Inv st 1000 →
    Calls Try.prog 15 #[.pointer (some ⟨Q, 0, none⟩)] w fun e w' => e = .returned (.int .i64 (st.ops : Nat)) ∧ ∃ F', PD w' Q F' st ∧ StepF w w' F F'
  dead : ∀ (Q : Nat) (F : Nat → Prop) (st : DS) (w : World), PD w Q F st → Inv st 1000 →
    Calls Try.prog 16 #[.pointer (some ⟨Q, 0, none⟩)] w fun e w' => e = .returned (.bool st.dead) ∧ ∃ F', PD w' Q F' st ∧ StepF w w' F F'
  names : ∀ (Q : Nat) (F : Nat → Prop) (st : DS) (w : World), PD w Q F st → Inv st 1000 →
    Calls Try.prog 18 #[.pointer (some ⟨Q, 0, none⟩)] w fun e w' => ∃ o F', e = .returned o ∧ Texts w' w.heap.size o (names st) ∧ PD w' Q F' st ∧ StepF w w' F F'
variable (I : Impl)
set_option maxRecDepth 100000 in
set_option maxHeartbeats 2000000 in
/-- The law's own do: an act, whatever it is. -/
theorem pdo_any (Q : Nat) (F : Nat → Prop) (st : DS) (a : AC) (ka : Option Addr) (kn kc : Nat) (Z : Nat → Int) (w : World) (h : I.PD w Q F st) (hi : Inv st 1000) (hA : ActIs w a ka kn Z) (hn : a.name.size ≤ 40) (ha : a.arg.size ≤ 200) (hk : kn ≤ 20) :
    Calls Try.prog 11 #[.pointer (some ⟨Q, 0, none⟩), .agg #[.int .i64 a.kind, .int .i64 a.n, .string a.name, .string a.arg, .bool a.half, .slice ka kn kc]] w fun e w' => e = .returned (doV st a) ∧ ∃ F', I.PD w' Q F' (doS st a) ∧ StepF w w' F F' := by
  have hal : Below w.heap.size w (w.alloc (.cells #[.int .i64 a.kind, .int .i64 a.n, .string a.name, .string a.arg, .bool a.half, .slice ka kn kc] 36)) := (Below.refl _ w).alloc (Nat.le_refl _) _
  have hr0 := I.keep h hal.size (fun k hk => hal.block k (I.lt h k hk))
  have HS0 := Lib.hid (StepF.below F hal)
  have hints := ints_below hA.ints hal
  by_cases k1 : a.kind = 1
  · have hV : doV st a = .tuple #[.string ⟨#[]⟩, .int .i64 (appE st a.name a.arg)] := by unfold doV doR doE; rw [if_pos (by omega), if_pos k1]
    have hS : doS st a = appS st a.name a.arg := by unfold doS; rw [if_pos k1]
    rw [hV, hS]
    rw [k1] at hr0 HS0 hints ⊢
    have HC := Lib.hid (I.append Q F st a.name a.arg _ hr0 hi (by omega) ha)
    clear hal hr0 hints hV hS h
    go_enter Try.func11, Try.ntmps11
    go_wp2_with fail
    refine HC.out.mono ?_
    rintro e w1 ⟨rfl, F1, hr1, hs1⟩
    have HR1 := Lib.hid hr1; have HS1 := Lib.hid (HS0.out.trans hs1)
    clear hr1 hs1
    go_wp2_with fail
    go_ret2
    exact ⟨rfl, F1, HR1.out, HS1.out⟩
  by_cases k2 : a.kind = 2
  · have hV : doV st a = .tuple #[.string ⟨#[]⟩, .int .i64 (syncE st a.name)] := by unfold doV doR doE; rw [if_pos (by omega), if_neg k1, if_pos k2]
    have hS : doS st a = syncS st a.name := by unfold doS; rw [if_neg k1, if_pos k2]
    rw [hV, hS]
    rw [k2] at hr0 HS0 hints ⊢
    have HC := Lib.hid (I.sync Q F st a.name _ hr0 hi (by omega))
    clear hal hr0 hints hV hS h k1
    go_enter Try.func11, Try.ntmps11
    go_wp2_with fail
    refine HC.out.mono ?_
    rintro e w1 ⟨rfl, F1, hr1, hs1⟩
    have HR1 := Lib.hid hr1; have HS1 := Lib.hid (HS0.out.trans hs1)
    clear hr1 hs1
    go_wp2_with fail
    go_ret2
    exact ⟨rfl, F1, HR1.out, HS1.out⟩
  by_cases k3 : a.kind = 3
  · have hV : doV st a = .tuple #[.string ⟨#[]⟩, .int .i64 (cutE st a.name a.n)] := by unfold doV doR doE; rw [if_pos (by omega), if_neg k1, if_neg k2, if_pos k3]
    have hS : doS st a = cutS st a.name a.n := by unfold doS; rw [if_neg k1, if_neg k2, if_pos k3]
    rw [hV, hS]
    rw [k3] at hr0 HS0 hints ⊢
    have HC := Lib.hid (I.cut Q F st a.name a.n _ hr0 hi (by omega) hA.n)
    clear hal hr0 hints hV hS h k1 k2
    go_enter Try.func11, Try.ntmps11
    go_wp2_with fail
    refine HC.out.mono ?_
    rintro e w1 ⟨rfl, F1, hr1, hs1⟩
    have HR1 := Lib.hid hr1; have HS1 := Lib.hid (HS0.out.trans hs1)
    clear hr1 hs1
    go_wp2_with fail
    go_ret2
    exact ⟨rfl, F1, HR1.out, HS1.out⟩
  by_cases k4 : a.kind = 4
  · have hV : doV st a = .tuple #[.string ⟨#[]⟩, .int .i64 (renE st a.name a.arg)] := by unfold doV doR doE; rw [if_pos (by omega), if_neg k1, if_neg k2, if_neg k3, if_pos k4]
    have hS : doS st a = renS st a.name a.arg := by unfold doS; rw [if_neg k1, if_neg k2, if_neg k3, if_pos k4]
    rw [hV, hS]
    rw [k4] at hr0 HS0 hints ⊢
    have HC := Lib.hid (I.rename Q F st a.name a.arg _ hr0 hi (by omega) ha)
    clear hal hr0 hints hV hS h k1 k2 k3
    go_enter Try.func11, Try.ntmps11
    go_wp2_with fail
    refine HC.out.mono ?_
    rintro e w1 ⟨rfl, F1, hr1, hs1⟩
    have HR1 := Lib.hid hr1; have HS1 := Lib.hid (HS0.out.trans hs1)
    clear hr1 hs1
    go_wp2_with fail
    go_ret2
    exact ⟨rfl, F1, HR1.out, HS1.out⟩
  by_cases k5 : a.kind = 5
  · have hV : doV st a = .tuple #[.string ⟨#[]⟩, .int .i64 (0)] := by unfold doV doR doE; rw [if_pos (by omega), if_neg k1, if_neg k2, if_neg k3, if_neg k4, if_pos k5]
    have hS : doS st a = fuseS st a.n a.half := by unfold doS; rw [if_neg k1, if_neg k2, if_neg k3, if_neg k4, if_pos k5]
    rw [hV, hS]
    rw [k5] at hr0 HS0 hints ⊢
    have HC := Lib.hid (I.fuse Q F st a.n a.half _ hr0 hi hA.n)
    clear hal hr0 hints hV hS h k1 k2 k3 k4
    go_enter Try.func11, Try.ntmps11
    go_wp2_with fail
    refine HC.out.mono ?_
    rintro e w1 ⟨rfl, F1, hr1, hs1⟩
    have HR1 := Lib.hid hr1; have HS1 := Lib.hid (HS0.out.trans hs1)
    clear hr1 hs1
    go_wp2_with fail
    go_ret2
    exact ⟨rfl, F1, HR1.out, HS1.out⟩
  by_cases k6 : a.kind = 6
  · have hV : doV st a = .tuple #[.string ⟨#[]⟩, .int .i64 (0)] := by unfold doV doR doE; rw [if_pos (by omega), if_neg k1, if_neg k2, if_neg k3, if_neg k4, if_neg k5, if_pos k6]
    have hS : doS st a = crashS st (keepOf kn Z) := by unfold doS; rw [if_neg k1, if_neg k2, if_neg k3, if_neg k4, if_neg k5, if_pos k6, hA.keep]
    rw [hV, hS]
    rw [k6] at hr0 HS0 hints ⊢
    have HC := Lib.hid (I.crash Q F st ka kn kc Z _ hr0 hi hints hk)
    clear hal hr0 hints hV hS h k1 k2 k3 k4 k5
    go_enter Try.func11, Try.ntmps11
    go_wp2_with fail
    refine HC.out.mono ?_
    rintro e w1 ⟨rfl, F1, hr1, hs1⟩
    have HR1 := Lib.hid hr1; have HS1 := Lib.hid (HS0.out.trans hs1)
    clear hr1 hs1
    go_wp2_with fail
    go_ret2
    exact ⟨rfl, F1, HR1.out, HS1.out⟩
  · have hV : doV st a = readV st a.name := by unfold doV doR doE; rw [if_neg (by omega), if_neg k1, if_neg k2, if_neg k3, if_neg k4, if_neg k5, if_neg k6]
    have hS : doS st a = st := by unfold doS; rw [if_neg k1, if_neg k2, if_neg k3, if_neg k4, if_neg k5, if_neg k6]
    rw [hV, hS]
    have HC := Lib.hid (I.read Q F st a.name _ hr0 hi (by omega))
    clear hal hr0 hints hV hS h
    go_enter Try.func11, Try.ntmps11
    go_wp2_with fail
    refine HC.out.mono ?_
    rintro e w1 ⟨rfl, F1, hr1, hs1⟩
    have HR1 := Lib.hid hr1; have HS1 := Lib.hid (HS0.out.trans hs1)
    clear hr1 hs1
    go_wp2_with fail
    go_ret2
    exact ⟨rfl, F1, HR1.out, HS1.out⟩
end Go.Proofs.Ytflkglnmenbmaaa.Disk
