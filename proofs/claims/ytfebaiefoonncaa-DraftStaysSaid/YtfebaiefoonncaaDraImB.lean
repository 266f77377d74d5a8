/- The program's drafts in memory; whether they have room; a draft put and added; Get. -/
import Derived.Test.YtfebaiefoonncaaDraImA
import Derived.Test.YtfebaiefoonncaaTdrLen
import Derived.Test.YtfebaiefoonncaaTdrJ
import Derived.Test.YtfebaiefoonncaaTdrK
namespace Go.Proofs.Ytfebaiefoonncaa.Draft
open Go.RowKit Go.Lib

abbrev ptr (q : Nat) : Value := .pointer (some ⟨q, 0, none⟩)
/-- The program's drafts at block Q: their table, and the number that was given last; F: what they are made of. -/
def DP (w : World) (Q : Nat) (F : Nat → Prop) (l : List Dr) (z : Int) : Prop := Tb.Dr.PT w Q F (prs l) [.int .i64 z]
section
variable {w w' : World} {Q : Nat} {F : Nat → Prop} {l : List Dr} {z : Int}
theorem DP.keep (h : DP w Q F l z) (hsz : w.heap.size ≤ w'.heap.size) (hk : ∀ k, F k → w'.heap[k]? = w.heap[k]?) : DP w' Q F l z := Tb.Dr.PT.keep h hsz hk
theorem DP.lt (h : DP w Q F l z) (k : Nat) (hk : F k) : k < w.heap.size := Tb.Dr.PT.lt h k hk
theorem DP.under (h : DP w Q F l z) (hb : Below w.heap.size w w') : DP w' Q F l z := Tb.Dr.PT.under h hb
theorem DP.self (h : DP w Q F l z) : F Q := Tb.Dr.PT.self h
theorem DP.last (h : DP w Q F l z) : w.cell? ⟨Q, 2, none⟩ = some (.int .i64 z) ∧ w.frozen? ⟨Q, 2, none⟩ = false := Tb.Dr.PT.more h 0 _ rfl
end
/-- A call has turned the drafts' own block alone; what they are made of then is what it was, or new. -/
structure Up (w w' : World) (Q : Nat) (R R' : Nat → Prop) : Prop where
  grown : w.grownBy w' (some Q)
  more : ∀ j, R' j → R j ∨ w.heap.size ≤ j
theorem Up.refl (w : World) (Q : Nat) (R : Nat → Prop) : Up w w Q R R := ⟨only_refl w _, fun _ h => .inl h⟩
theorem Up.trans {a b c : World} {Q : Nat} {R R1 R2 : Nat → Prop} (h : Up a b Q R R1) (k : Up b c Q R1 R2) : Up a c Q R R2 :=
  ⟨only_trans h.grown k.grown, fun j hj => by
    rcases k.more j hj with h1 | h1
    · exact h.more j h1
    · exact .inr (Nat.le_trans h.grown.size h1)⟩
theorem Up.of_below {w w' : World} {Q : Nat} {R : Nat → Prop} (h : Below w.heap.size w w') : Up w w' Q R R := ⟨⟨h.os, h.tape, h.output, h.size, fun k hk _ => h.block k hk⟩, fun _ h => .inl h⟩
theorem find_isSome (l : List Dr) (i : Int) : (find l i).isNone = !(find l i).isSome := by cases find l i <;> rfl
set_option maxRecDepth 100000 in
theorem room_is {Q : Nat} {F : Nat → Prop} {l : List Dr} {z : Int} (n : Int) (w : World) (h : DP w Q F l z) (hg : Good l z) (hn : 0 ≤ n ∧ n ≤ 10) :
    Calls Try.prog 26 #[ptr Q, .int .i64 n] w fun e w' => e = .returned (.bool (decide ((l.length : Int) + n ≤ 64 ∧ z + n < mt))) ∧ Below w.heap.size w w' := by
  have HL := Lib.hid (Tb.Dr.len_im w h)
  rw [prs_length] at HL
  have HD := Lib.hid (fun m => (h.under (Tb.below_drewN (Below.refl _ w) m)).last.1)
  have h1 := hg.len
  have h2 : 0 ≤ z ∧ z < 1099511627776 := hg.last
  obtain ⟨k, hk⟩ : ∃ k, l.length = k := ⟨_, rfl⟩
  rw [hk] at HL h1 ⊢
  obtain ⟨s, hs⟩ : ∃ s, (k : Int) + n = s := ⟨_, rfl⟩
  obtain ⟨t, ht⟩ : ∃ t, z + n = t := ⟨_, rfl⟩
  rw [hs, ht]
  have w1 : IntKind.i64.wrap ((k : Int) + n) = s := by rw [hs]; exact IntWalk.i64_in _ (by omega)
  have w2 : IntKind.i64.wrap (z + n) = t := by rw [ht]; exact IntWalk.i64_in _ (by omega)
  obtain ⟨q, hq⟩ : ∃ q, decide (s ≤ 64 ∧ t < mt) = q := ⟨_, rfl⟩
  rw [hq]
  by_cases c1 : s ≤ 64
  · have d1 : decide (s ≤ 64) = true := decide_eq_true c1
    by_cases c2 : t < mt
    · have HE : Hid (q = true) := Lib.hid (hq.symm.trans (decide_eq_true ⟨c1, c2⟩))
      have d2 : decide (t < 1099511627776) = true := decide_eq_true c2
      clear hq h hg hn h1 h2 hk hs ht c1 c2
      go_enter Try.func26, Try.ntmps26
      go_wp2_with fail
      refine HL.out.mono ?_
      rintro e w3 ⟨rfl, m, rfl⟩
      have c0 := HD.out m
      go_wp2_with fail
      go_ret
      exact ⟨ret_bool HE.out.symm, Tb.below_drewN (Below.refl _ _) _⟩
    · have HE : Hid (q = false) := Lib.hid (hq.symm.trans (decide_eq_false fun h => c2 h.2))
      have d2 : decide (t < 1099511627776) = false := decide_eq_false c2
      clear hq h hg hn h1 h2 hk hs ht c1 c2
      go_enter Try.func26, Try.ntmps26
      go_wp2_with fail
      refine HL.out.mono ?_
      rintro e w3 ⟨rfl, m, rfl⟩
      have c0 := HD.out m
      go_wp2_with fail
      go_ret
      exact ⟨ret_bool HE.out.symm, Tb.below_drewN (Below.refl _ _) _⟩
  · have d1 : decide (s ≤ 64) = false := decide_eq_false c1
    have HE : Hid (q = false) := Lib.hid (hq.symm.trans (decide_eq_false fun h => c1 h.1))
    clear hq h hg hn h1 h2 hk hs ht c1
    go_enter Try.func26, Try.ntmps26
    go_wp2_with fail
    refine HL.out.mono ?_
    rintro e w3 ⟨rfl, m, rfl⟩
    have c0 := HD.out m
    go_wp2_with fail
    go_ret
    exact ⟨ret_bool HE.out.symm, Tb.below_drewN (Below.refl _ _) _⟩
/-! put -/
theorem tput_is {Q : Nat} {F : Nat → Prop} {l : List Dr} {z : Int} (d : Dr) (w : World) (h : DP w Q F l z) (hr : Rise l) (hl : l.length ≤ 1000) :
    Calls Try.prog 36 #[ptr Q, Tb.kV (kO d.id), elV d] w fun e w' => e = .returned (.bool (find l d.id).isNone) ∧ ∃ F', DP w' Q F' (ins l d) z ∧ Up w w' Q F F' := by
  have hl2 : (prs l).length ≤ 1000 := by rw [prs_length]; exact hl
  cases hf : (find l d.id).isSome with
  | true =>
    refine (Tb.Dr.put_yes (kO d.id) d w h (prs_rising hr) hl2 (by rw [has_prs]; exact hf)).mono ?_
    rintro e w' ⟨rfl, F', h1, h2, h3⟩
    rw [put_prs hr] at h1
    exact ⟨by rw [find_isSome, hf]; rfl, F', h1, h2, h3⟩
  | false =>
    refine (Tb.Dr.put_no (kO d.id) d w h (prs_rising hr) hl2 (by rw [has_prs]; exact hf)).mono ?_
    rintro e w' ⟨rfl, F', h1, h2, h3⟩
    rw [put_prs hr] at h1
    exact ⟨by rw [find_isSome, hf]; rfl, F', h1, h2, h3⟩
set_option maxRecDepth 100000 in
set_option maxHeartbeats 2000000 in
theorem put_is {Q : Nat} {F : Nat → Prop} {l : List Dr} {z : Int} (d : Dr) (w : World) (h : DP w Q F l z) (hr : Rise l) (hl : l.length ≤ 1000) :
    Calls Try.prog 22 #[ptr Q, elV d] w fun e w' => e = .returned (.bool (find l d.id).isNone) ∧ ∃ F', DP w' Q F' (ins l d) z ∧ Up w w' Q F F' := by
  obtain ⟨X, hX⟩ : ∃ X, w.alloc (.cells #[.int .i64 d.id, .int .i64 d.owner, .int .i64 d.div, .int .i64 d.place, .int .i64 d.blue, .int .i64 d.me, .int .i64 d.te, .int .i64 d.runs, .int .i64 d.busy] 36) = X := ⟨_, rfl⟩
  have hbX : Below w.heap.size w X := by rw [← hX]; exact (Below.refl _ w).alloc (Nat.le_refl _) _
  obtain ⟨k0, k1, k2, k3, k4, k5, k6, k7, k8⟩ := el_at (w := X) (g := w.heap.size) (x := d) (t := 36) (by rw [← hX]; exact heap_alloc_new w _)
  obtain ⟨b, hb⟩ : ∃ b, (find l d.id).isNone = b := ⟨_, rfl⟩
  have HP : Hid (Calls Try.prog 36 #[ptr Q, Tb.kV (kO d.id), elV d] X.drew fun e w' => e = .returned (.bool b) ∧ Hid (∃ F', DP w' Q F' (ins l d) z ∧ Up w w' Q F F')) := Lib.hid (by
    rw [← hb]
    refine (tput_is d X.drew (h.under hbX.drew) hr hl).mono ?_
    rintro e w' ⟨rfl, F', h1, h2⟩
    exact ⟨rfl, Lib.hid ⟨F', h1, (Up.of_below hbX.drew).trans h2⟩⟩)
  rw [hb]
  clear h hr hl hb hbX
  go_enter Try.func22, Try.ntmps22
  go_wp2_with fail
  clear hX
  go_region_with (go_at_call 36; refine HP.out.mono ?_; rintro e w3 ⟨rfl, H3⟩)
  all_goals
    go_wp2_with fail
    go_ret
    exact ⟨rfl, H3.out⟩
/-! add -/
set_option maxRecDepth 100000 in
set_option maxHeartbeats 2000000 in
theorem add_is {Q : Nat} {F : Nat → Prop} {l : List Dr} {z : Int} (d : Dr) (w : World) (h : DP w Q F l z) (hg : Good l z) (hd : Ok d) (hl : l.length < 64) (hz : z + 1 < mt) :
    Calls Try.prog 27 #[ptr Q, elV d] w fun e w' => e = .returned (.int .i64 (z + 1)) ∧ ∃ F', DP w' Q F' (l ++ [{ d with id := z + 1 }]) (z + 1) ∧ Up w w' Q F F' := by
  obtain ⟨V, hV⟩ : ∃ V, w.heap.size = V := ⟨_, rfl⟩
  have hQV : Q < V := by rw [← hV]; exact h.lt Q h.self
  obtain ⟨X, hX⟩ : ∃ X, w.alloc (.cells #[.int .i64 d.id, .int .i64 d.owner, .int .i64 d.div, .int .i64 d.place, .int .i64 d.blue, .int .i64 d.me, .int .i64 d.te, .int .i64 d.runs, .int .i64 d.busy] 36) = X := ⟨_, rfl⟩
  have hbX : Below w.heap.size w X := by rw [← hX]; exact (Below.refl _ w).alloc (Nat.le_refl _) _
  have hvX : X.heap[V]? = some (.cells d.cells 36 (0, 0)) := by rw [← hX, ← hV]; exact heap_alloc_new w _
  have hgo := (good_add hg (d := { d with id := z + 1 }) rfl (ok_id hd _) hl hz).2
  have hl0 := hg.last.1
  have hz2 : z + 1 < 1099511627776 := hz
  obtain ⟨y, hy⟩ : ∃ y, z + 1 = y := ⟨_, rfl⟩
  rw [hy] at hgo ⊢
  have hX1 := h.under hbX
  obtain ⟨c2, f2⟩ := hX1.last
  obtain ⟨Y, hY⟩ : ∃ Y, X.setCell ⟨Q, 2, none⟩ (.int .i64 y) = Y := ⟨_, rfl⟩
  have hYp : DP Y Q F l y := by rw [← hY]; exact Tb.Dr.PT.turn hX1 0 _
  have hgY : w.grownBy Y (some Q) := by rw [← hY]; exact only_setCell ⟨hbX.os, hbX.tape, hbX.output, hbX.size, fun k hk _ => hbX.block k hk⟩ _ _
  have hvY : Y.heap[V]? = some (.cells d.cells 36 (0, 0)) := by rw [← hY]; exact (Below.heap_setCell X ⟨Q, 2, none⟩ _ V (by show V ≠ Q; omega)).trans hvX
  have c3 := hYp.last.1
  have fV := free_block 0 hvY
  have cV : Y.cell? ⟨V, 0, none⟩ = some (.int .i64 d.id) := cell_block (j := 0) hvY rfl
  obtain ⟨Z, hZ⟩ : ∃ Z, Y.setCell ⟨V, 0, none⟩ (.int .i64 y) = Z := ⟨_, rfl⟩
  have hvZ : Z.heap[V]? = some (.cells ({ d with id := y } : Dr).cells 36 (0, 0)) := by rw [← hZ]; exact heap_setCell_same Y V 0 _ _ (.int .i64 y) hvY
  obtain ⟨k0, k1, k2, k3, k4, k5, k6, k7, k8⟩ := el_at hvZ
  have hbZ : Below w.heap.size Y Z := by rw [← hZ]; exact (Below.refl _ Y).setCell (p := ⟨V, 0, none⟩) (by show w.heap.size ≤ V; omega) _
  have hZp : DP Z Q F l y := hYp.keep hbZ.size fun k hk => hbZ.block k (by have := h.lt k hk; omega)
  have HP : Hid (Calls Try.prog 22 #[ptr Q, elV ({ d with id := y } : Dr)] Z fun e w' => ∃ b, e = .returned (.bool b) ∧ w'.cell? ⟨V, 0, none⟩ = some (.int .i64 y) ∧ Hid (∃ F', DP w' Q F' (l ++ [{ d with id := y }]) y ∧ Up w w' Q F F')) := Lib.hid (by
    refine (put_is { d with id := y } Z hZp hg.rise (by have := hg.len; omega)).mono ?_
    rintro e w' ⟨rfl, F', h1, h2⟩
    rw [hgo] at h1
    have hgZ : w.grownBy Z (some Q) := ⟨hbZ.os.trans hgY.os, hbZ.tape.trans hgY.tape, hbZ.output.trans hgY.output, Nat.le_trans hgY.size hbZ.size, fun k hk hn => (hbZ.block k hk).trans (hgY.block k hk hn)⟩
    refine ⟨_, rfl, ?_, Lib.hid ⟨F', h1, ⟨only_trans hgZ h2.grown, fun j hj => (h2.more j hj).imp id fun e => Nat.le_trans hgZ.size e⟩⟩⟩
    exact cell_block (j := 0) ((h2.grown.block V (Array.getElem?_eq_some_iff.1 hvZ).1 (by rintro e; cases e; omega)).trans hvZ) rfl)
  have hw : IntKind.i64.wrap (z + 1) = y := by rw [hy]; exact IntWalk.i64_in _ (by omega)
  clear h hg hd hl hz hz2 hQV hbX hvX hgo hl0 hX1 hYp hgY hvY hvZ hbZ hZp hy
  go_enter Try.func27, Try.ntmps27
  go_wp2_with fail
  refine HP.out.mono ?_
  rintro e w3 ⟨b, rfl, c4, H3⟩
  go_wp2_with fail
  go_ret
  exact ⟨rfl, H3.out⟩
end Go.Proofs.Ytfebaiefoonncaa.Draft
