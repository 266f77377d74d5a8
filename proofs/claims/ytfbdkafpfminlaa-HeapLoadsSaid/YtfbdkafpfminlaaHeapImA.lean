/- Which of two timers comes ahead: the program's compare, and what it calls. -/
import Derived.Test.YtfbdkafpfminlaaHeapA
import Derived.Test.YtfbdkafpfminlaaHeapArr
import Derived.Sort.Grow
import Derived.StillTailTactics
namespace Go.Proofs.Ytfbdkafpfminlaa.Heap.Im
open Go.RowKit Go.Lib

def cmpI (a b : Int) : Int := if a < b then -1 else if b < a then 1 else 0
def orI (a b : Int) : Int := if a = 0 then b else a
def cmpT (x y : Tm) : Int := orI (cmpI x.due y.due) (cmpI x.id y.id)
theorem cmpT_lt (x y : Tm) : cmpT x y < 0 ↔ ahead x y := by
  unfold cmpT orI cmpI ahead
  rcases Int.lt_trichotomy x.due y.due with h | h | h
  · simp [h]
  · rw [h]
    rcases Int.lt_trichotomy x.id y.id with k | k | k
    · simp [k]
    · rw [k]; simp
    · have h2 : ¬ x.id < y.id := by omega
      simp [k, h2]
  · have h2 : ¬ x.due < y.due := by omega
    have h3 : ¬ x.due = y.due := by omega
    simp [h, h2, h3]
/-- Some draws and some new blocks on. -/
def Gr (w W : World) : Prop := ∃ q os, W = Go.Sort.grow (w.drewN q) os
theorem Gr.refl (w : World) : Gr w w := ⟨0, #[], by rw [Go.Sort.grow_empty]; rfl⟩
theorem Gr.alloc {w W : World} (h : Gr w W) (o : Obj) : Gr w (W.alloc o) := by
  obtain ⟨q, os, rfl⟩ := h
  exact ⟨q, os ++ #[o], by rw [Go.Sort.alloc_eq_grow, Go.Sort.grow_grow]⟩
theorem Gr.drewN {w W : World} (h : Gr w W) (n : Nat) : Gr w (W.drewN n) := by
  obtain ⟨q, os, rfl⟩ := h
  exact ⟨q + n, os, by rw [← World.drewN_drewN]; rfl⟩
theorem Gr.drew {w W : World} (h : Gr w W) : Gr w W.drew := h.drewN 1
theorem Gr.below {w W : World} (h : Gr w W) : Below w.heap.size w W := by
  obtain ⟨q, os, rfl⟩ := h
  exact ⟨rfl, rfl, rfl, by simp, fun k hk => Go.Sort.heap_grow_old (w.drewN q) os hk⟩
set_option maxRecDepth 100000 in
theorem nan_any (a : Int) (w : World) : Calls Try.prog 58 #[.int .i64 a] w fun e w' => e = .returned (.bool false) ∧ w = w' := by
  have h1 : (a == a) = true := by simp
  go_enter Try.func58, Try.ntmps58
  go_wp2_with fail
  go_ret
  exact ⟨rfl, rfl⟩
set_option maxRecDepth 100000 in
theorem compare_int (a b : Int) (w : World) : Calls Try.prog 46 #[.int .i64 a, .int .i64 b] w fun e w' => e = .returned (.int .i64 (cmpI a b)) ∧ w = w' := by
  have h1 := fun a => nan_any a w
  have H1 := Lib.hid h1
  obtain ⟨r, hr⟩ : ∃ r, cmpI a b = r := ⟨_, rfl⟩
  have HR := Lib.hid hr
  rw [hr]
  clear hr h1
  rcases Int.lt_trichotomy a b with h | h | h
  · obtain rfl : r = -1 := by rw [← HR.out]; unfold cmpI; rw [if_pos h]
    go_enter Try.func46, Try.ntmps46
    go_wp2_with (go_at_call 58; refine (H1.out _).mono ?_; rintro e w' ⟨rfl, rfl⟩)
    go_ret
    exact ⟨rfl, rfl⟩
  · subst h
    obtain rfl : r = 0 := by rw [← HR.out]; unfold cmpI; simp
    have h2 : ¬ a < a := by omega
    go_enter Try.func46, Try.ntmps46
    go_wp2_with (go_at_call 58; refine (H1.out _).mono ?_; rintro e w' ⟨rfl, rfl⟩)
    go_ret
    exact ⟨rfl, rfl⟩
  · have h2 : ¬ a < b := by omega
    obtain rfl : r = 1 := by rw [← HR.out]; unfold cmpI; rw [if_neg h2, if_pos h]
    go_enter Try.func46, Try.ntmps46
    go_wp2_with (go_at_call 58; refine (H1.out _).mono ?_; rintro e w' ⟨rfl, rfl⟩)
    go_ret
    exact ⟨rfl, rfl⟩
set_option maxRecDepth 100000 in
theorem or_any (a b : Int) (g : Nat) (w : World) (h0 : w.cell? ⟨g, 0, none⟩ = some (.int .i64 a)) (h1 : w.cell? ⟨g, 1, none⟩ = some (.int .i64 b)) :
    Calls Try.prog 45 #[.slice (some ⟨g, 0, none⟩) 2 2] w fun e w' => e = .returned (.int .i64 (orI a b)) ∧ w = w' := by
  obtain ⟨r, hr⟩ : ∃ r, orI a b = r := ⟨_, rfl⟩
  have HR := Lib.hid hr
  rw [hr]
  clear hr
  go_enter Try.func45, Try.ntmps45
  go_wp2_with fail
  go_loopw [8] (fun t wr => w = wr ∧ (t = .int .i64 0 ∨ (t = .int .i64 1 ∧ a = 0) ∨ (t = .int .i64 2 ∧ a = 0 ∧ b = 0))) (fun t _ => 2 - (RowKit.intOf t).toNat)
  case atStart => exact ⟨rfl, .inl rfl⟩
  case round =>
    obtain ⟨rfl, hc⟩ := hrel
    rcases hc with rfl | ⟨rfl, rfl⟩ | ⟨rfl, rfl, rfl⟩
    · by_cases ha : a = 0
      · subst ha
        go_wp2_with fail
        go_roundw
        case rel => exact ⟨by first | rfl | trivial, .inr (.inl ⟨by go_num, by first | rfl | trivial⟩)⟩
        case measure => simp [RowKit.intOf]
      · obtain rfl : r = a := by rw [← HR.out]; unfold orI; rw [if_neg ha]
        have hne : (r == 0) = false := by simpa using ha
        go_wp2_with fail
        go_ret
        exact ⟨rfl, rfl⟩
    · obtain rfl : r = b := by rw [← HR.out]; unfold orI; rw [if_pos rfl]
      by_cases hb : r = 0
      · subst hb
        go_wp2_with fail
        go_roundw
        case rel => exact ⟨by first | rfl | trivial, .inr (.inr ⟨by go_num, by first | rfl | trivial, by first | rfl | trivial⟩)⟩
        case measure => simp [RowKit.intOf]
      · have hne : (r == 0) = false := by simpa using hb
        go_wp2_with fail
        go_ret
        exact ⟨rfl, rfl⟩
    · obtain rfl : r = 0 := by rw [← HR.out]; unfold orI; rw [if_pos rfl]
      go_wp2_with fail
      go_ret
      exact ⟨rfl, rfl⟩
set_option maxRecDepth 100000 in
set_option maxHeartbeats 2000000 in
theorem compare_any (x y : Tm) (w : World) :
    Calls Try.prog 37 #[tV x, tV y] w fun e w' => e = .returned (.int .i64 (cmpT x y)) ∧ Gr w w' := by
  obtain ⟨Z, hZ⟩ : ∃ Z, (w.alloc (.cells #[.int .i64 x.due, .int .i64 x.id, .int .i64 x.what] 45)).alloc (.cells #[.int .i64 y.due, .int .i64 y.id, .int .i64 y.what] 45) = Z := ⟨_, rfl⟩
  have hY : (w.alloc (.cells x.cells 45)).alloc (.cells y.cells 45) = Z := hZ
  have b0 : Z.heap[w.heap.size]? = some (.cells x.cells 45 (0, 0)) := by
    rw [← hY, heap_alloc_old _ _ (by simp)]
    exact heap_alloc_new w _
  have b1 : Z.heap[w.heap.size + 1]? = some (.cells y.cells 45 (0, 0)) := by
    rw [← hY]
    have := heap_alloc_new (w.alloc (.cells x.cells 45)) (.cells y.cells 45)
    simpa using this
  have HB : Hid (Gr w Z) := Lib.hid (by rw [← hY]; exact ((Gr.refl w).alloc _).alloc _)
  obtain ⟨x0, x1, x2⟩ := tm_at b0
  obtain ⟨y0, y1, y2⟩ := tm_at b1
  obtain ⟨a, ha⟩ : ∃ a, cmpI x.due y.due = a := ⟨_, rfl⟩
  obtain ⟨b, hb⟩ : ∃ b, cmpI x.id y.id = b := ⟨_, rfl⟩
  obtain ⟨r, hr⟩ : ∃ r, orI a b = r := ⟨_, rfl⟩
  have hc1 : ∀ W, Calls Try.prog 46 #[.int .i64 x.due, .int .i64 y.due] W fun e w' => e = .returned (.int .i64 a) ∧ w' = W := fun W => by rw [← ha]; exact (compare_int _ _ W).mono fun _ _ ⟨h1, h2⟩ => ⟨h1, h2.symm⟩
  have hc2 : ∀ W, Calls Try.prog 46 #[.int .i64 x.id, .int .i64 y.id] W fun e w' => e = .returned (.int .i64 b) ∧ w' = W := fun W => by rw [← hb]; exact (compare_int _ _ W).mono fun _ _ ⟨h1, h2⟩ => ⟨h1, h2.symm⟩
  have hc3 : ∀ W g, W.cell? ⟨g, 0, none⟩ = some (.int .i64 a) → W.cell? ⟨g, 1, none⟩ = some (.int .i64 b) → Calls Try.prog 45 #[.slice (some ⟨g, 0, none⟩) 2 2] W fun e w' => e = .returned (.int .i64 r) ∧ W = w' := fun W g h1 h2 => by rw [← hr]; exact or_any a b g W h1 h2
  have H3 : Hid (∀ T, Calls Try.prog 45 #[.slice (some ⟨Z.heap.size, 0, none⟩) 2 2] (Z.drew.alloc (.cells #[.int .i64 a, .int .i64 b] T)) fun e w' => e = .returned (.int .i64 r) ∧ Hid (Gr w w')) := Lib.hid (fun T => by
    have h := heap_alloc_new Z.drew (.cells #[.int .i64 a, .int .i64 b] T)
    refine (hc3 _ _ (cell_block (j := 0) h rfl) (cell_block (j := 1) h rfl)).mono ?_
    rintro e w' ⟨rfl, rfl⟩
    exact ⟨rfl, Lib.hid (HB.out.drew.alloc _)⟩)
  have hT : cmpT x y = r := by unfold cmpT; rw [ha, hb, hr]
  rw [hT]
  have H1 := Lib.hid hc1; have H2 := Lib.hid hc2
  clear ha hb hr hc1 hc2 hc3 hT b0 b1 hY
  go_enter Try.func37, Try.ntmps37
  go_wp2_with fail
  clear hZ
  go_still_tail 10, (by kernel_rfl)
  still_call (H1.out _)
  repeat still_step
  still_call (H2.out _)
  refine wpStill_nil ?_
  change wpList _ _ _ _ _ Z.drew
  go_wp2_with (go_at_call 45; refine (H3.out _).mono ?_; rintro e w' ⟨rfl, HG⟩)
  go_ret
  exact ⟨rfl, HG.out⟩
end Go.Proofs.Ytfbdkafpfminlaa.Heap.Im
