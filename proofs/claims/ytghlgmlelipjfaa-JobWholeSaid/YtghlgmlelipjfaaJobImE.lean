/- The program's Clone of stacks, and its closures: what each does to a job in a block. -/
import Derived.Test.YtghlgmlelipjfaaJobImA
import Derived.Laws.StructEq
import Derived.BigRegion
namespace Go.Proofs.Ytghlgmlelipjfaa.Job.Im
open Go.RowKit Go.Lib
open Goods (St Sts OwnS)

/-! Clone -/
theorem src_st {w : World} {a : Option Addr} {l : List St} (h : Sts w a l) : ∀ j u, (Goods.scells l)[j]? = some u → ∃ ad, a = some ad ∧ w.cell? (ad.add j) = some u := fun j u hj => by
  have hlt := (List.getElem?_eq_some_iff.1 hj).1
  rw [Goods.scells_length] at hlt
  have hi : j / 2 < l.length := by omega
  obtain ⟨g, off, e, _, k0, k1⟩ := h (j / 2) l[j / 2] (List.getElem?_eq_getElem hi)
  refine ⟨_, e, ?_⟩
  rw [Goods.addr_add]
  have hc := Goods.scells_at l (j / 2) l[j / 2] (List.getElem?_eq_getElem hi)
  rcases Nat.mod_two_eq_zero_or_one j with h2 | h2
  · have e2 : j / 2 * 2 + 0 = j := by omega
    have := hc 0 _ rfl
    rw [e2, hj] at this
    injection this with this
    rw [this, show off + j = off + j / 2 * 2 by omega]
    exact k0
  · have e2 : j / 2 * 2 + 1 = j := by omega
    have := hc 1 _ rfl
    rw [e2, hj] at this
    injection this with this
    rw [this, show off + j = off + j / 2 * 2 + 1 by omega]
    exact k1
set_option maxRecDepth 100000 in
set_option maxHeartbeats 2000000 in
theorem clone_im (a : Option Addr) (n c : Nat) (l : List St) (w : World) (hl : l.length = n) (hs : Sts w a l) (hn : n ≤ 1048576) :
    Calls Try.prog 67 #[.slice a n c] w fun e w' => ∃ a' c', e = .returned (.slice a' n c') ∧ Hid (OwnS w' w.heap.size (.slice a' n c') l ∧ Below w.heap.size w w') := by
  cases a with
  | none =>
    have hl1 : l = [] := by
      cases l with
      | nil => rfl
      | cons t l =>
        obtain ⟨g, off, e, _⟩ := hs 0 t rfl
        cases e
    subst hl1
    have hn0 : n = 0 := by rw [← hl]; rfl
    subst hn0
    have hq : ∀ W, (binOp .eql 22 (.slice none 0 c) (.slice none 0 0)).run Try.prog W = .ok (.bool true) W := fun W => Lib.run_eql_slice_nil W _ _ none 0 c 0 0 Try.underlying22
    clear hs hl hn
    go_enter Try.func67, Try.ntmps67
    go_wp2_with fail
    go_ret
    exact ⟨none, 0, rfl, Lib.hid ⟨World.ownsRow_nil _ _ _ _, Below.refl _ _⟩⟩
  | some ad =>
    have hal := (Below.refl w.heap.size w).alloc (Nat.le_refl _) (.cells #[] 74)
    have h0 : OwnS (w.alloc (.cells #[] 74)) w.heap.size (.slice (some ⟨w.heap.size, 0, none⟩) 0 0) [] := World.ownsRow_lit w #[] 0 (Nat.le_refl _) (by unfold maxLen; omega) rfl
    obtain ⟨v', w', hr, h2, hb⟩ := Goods.app_st _ w.heap.size (.slice (some ⟨w.heap.size, 0, none⟩) 0 0) [] l h0 (some ad) l.length c rfl (src_st (hs.under hal)) (by simp; omega) hal.size
    rw [List.nil_append] at h2
    obtain ⟨a2, c2, rfl, hst⟩ := Goods.sts_own h2
    have HR := Lib.hid hr
    have HO : Hid (OwnS w' w.heap.size (.slice a2 l.length c2) l ∧ Below w.heap.size w w') := Lib.hid ⟨h2, hal.trans hb⟩
    have hq : ∀ W, (binOp .eql 22 (.slice (some ad) n c) (.slice none 0 0)).run Try.prog W = .ok (.bool false) W := fun W => Lib.run_eql_slice_nil W _ _ (some ad) n c 0 0 Try.underlying22
    rw [hl] at HR HO
    clear h0 hr h2 hb hal hn hl hs hst
    go_enter Try.func67, Try.ntmps67
    go_wp2_with (at_builtin; refine walk_run rfl _ _ _ _ rfl _ _ rfl rfl HR.out ?_)
    go_ret
    exact ⟨_, _, rfl, HO⟩
/-! one cell more -/
theorem set_st {w : World} {g : Nat} {j : JS} {v : Value} (h : Has w g j v) (x : Int) : Has (w.setCell ⟨g, 12, none⟩ (.int .i64 x)) g { j with st := x } v := heap_setCell_same w g 12 _ _ (.int .i64 x) h
theorem set_sr {w : World} {g : Nat} {j : JS} {v : Value} (h : Has w g j v) (x : Int) : Has (w.setCell ⟨g, 13, none⟩ (.int .i64 x)) g { j with sr := x } v := heap_setCell_same w g 13 _ _ (.int .i64 x) h
theorem set_en {w : World} {g : Nat} {j : JS} {v : Value} (h : Has w g j v) (x : Int) : Has (w.setCell ⟨g, 14, none⟩ (.int .i64 x)) g { j with en := x } v := heap_setCell_same w g 14 _ _ (.int .i64 x) h
theorem set_lf {w : World} {g : Nat} {j : JS} {v : Value} (h : Has w g j v) (x : Int) : Has (w.setCell ⟨g, 15, none⟩ (.int .i64 x)) g { j with lf := x } v := heap_setCell_same w g 15 _ _ (.int .i64 x) h
theorem set_needs {w : World} {g : Nat} {j : JS} {v : Value} (h : Has w g j v) (u : Value) : Has (w.setCell ⟨g, 11, none⟩ u) g j u := heap_setCell_same w g 11 _ _ u h
abbrev ptr (g : Nat) : Value := .pointer (some ⟨g, 0, none⟩)
set_option maxRecDepth 100000 in
theorem start_fn (g b : Nat) (j : JS) (v : Value) (now : Int) (w : World) (h : Has w g j v) (hb : w.cell? ⟨b, 0, none⟩ = some (.int .i64 now)) (hne : b ≠ g) (hw : IntKind.i64.wrap (now + j.lf) = now + j.lf) :
    Calls Try.prog 46 #[ptr g, ptr b] w fun e w' => e = .returned (.tuple #[]) ∧ Has w' g (startJ now j) v ∧ w.grownBy w' (some g) := by
  obtain ⟨k0, k1, k2, k3, k4, k5, k6, k7, k8, k9, k10, k11, k12, k13, k14, k15⟩ := jo_at h
  have f12 := free_block 12 h; have f13 := free_block 13 h; have f14 := free_block 14 h
  have H := Lib.hid h
  have hn1 : ¬ b = g := hne
  have hn2 : ¬ g = b := fun e => hne e.symm
  obtain ⟨x, hx⟩ : ∃ x, now + j.lf = x := ⟨_, rfl⟩
  rw [hx] at hw
  have hw2 : IntKind.i64.wrap (now + j.lf) = x := by rw [hx]; exact hw
  have HX : Hid (∀ w, Has w g j v → Has (((w.setCell ⟨g, 12, none⟩ (.int .i64 2)).setCell ⟨g, 13, none⟩ (.int .i64 now)).setCell ⟨g, 14, none⟩ (.int .i64 x)) g (startJ now j) v) := Lib.hid (fun w h => by
    have := set_en (set_sr (set_st h 2) now) x
    rw [← hx] at this ⊢
    exact this)
  clear h hne hw hx
  go_enter Try.func46, Try.ntmps46
  go_wp2_with fail
  go_region
  all_goals
    go_wp2_with fail
    go_end0
    exact ⟨rfl, HX.out w.drew H.out, only_setCell (only_setCell (only_setCell (only_drewN (only_refl w _) 1) _ _) _ _) _ _⟩
set_option maxRecDepth 100000 in
theorem pause_fn (g b : Nat) (j : JS) (v : Value) (now : Int) (w : World) (h : Has w g j v) (hb : w.cell? ⟨b, 0, none⟩ = some (.int .i64 now)) (hne : b ≠ g) (hw : IntKind.i64.wrap (j.en - now) = j.en - now) :
    Calls Try.prog 47 #[ptr g, ptr b] w fun e w' => e = .returned (.tuple #[]) ∧ Has w' g (pauseJ now j) v ∧ w.grownBy w' (some g) := by
  obtain ⟨k0, k1, k2, k3, k4, k5, k6, k7, k8, k9, k10, k11, k12, k13, k14, k15⟩ := jo_at h
  have f12 := free_block 12 h; have f13 := free_block 13 h; have f14 := free_block 14 h; have f15 := free_block 15 h
  have H := Lib.hid h
  have hn1 : ¬ b = g := hne
  have hn2 : ¬ g = b := fun e => hne e.symm
  obtain ⟨x, hx⟩ : ∃ x, j.en - now = x := ⟨_, rfl⟩
  rw [hx] at hw
  have hw2 : IntKind.i64.wrap (j.en - now) = x := by rw [hx]; exact hw
  have HX : Hid (∀ w, Has w g j v → Has ((((w.setCell ⟨g, 12, none⟩ (.int .i64 3)).setCell ⟨g, 13, none⟩ (.int .i64 0)).setCell ⟨g, 14, none⟩ (.int .i64 0)).setCell ⟨g, 15, none⟩ (.int .i64 x)) g (pauseJ now j) v) := Lib.hid (fun w h => by
    have := set_lf (set_en (set_sr (set_st h 3) 0) 0) x
    rw [← hx] at this ⊢
    exact this)
  clear h hne hw hx
  go_enter Try.func47, Try.ntmps47
  go_wp2_with fail
  go_region
  all_goals
    go_wp2_with fail
    go_end0
    exact ⟨rfl, HX.out w.drew H.out, only_setCell (only_setCell (only_setCell (only_setCell (only_drewN (only_refl w _) 1) _ _) _ _) _ _) _ _⟩
set_option maxRecDepth 100000 in
theorem resume_fn (g : Nat) (j : JS) (v : Value) (w : World) (h : Has w g j v) :
    Calls Try.prog 49 #[ptr g] w fun e w' => e = .returned (.tuple #[]) ∧ Has w' g (resumeJ j) v ∧ w.grownBy w' (some g) := by
  obtain ⟨k0, k1, k2, k3, k4, k5, k6, k7, k8, k9, k10, k11, k12, k13, k14, k15⟩ := jo_at h
  have f12 := free_block 12 h
  have H := Lib.hid h
  clear h
  go_enter Try.func49, Try.ntmps49
  go_wp2_with fail
  go_end0
  exact ⟨rfl, set_st H.out 1, only_setCell (only_refl w _) _ _⟩
set_option maxRecDepth 100000 in
theorem finish_fn (g : Nat) (j : JS) (v : Value) (w : World) (h : Has w g j v) :
    Calls Try.prog 50 #[ptr g] w fun e w' => e = .returned (.tuple #[]) ∧ Has w' g (finishJ j) v ∧ w.grownBy w' (some g) := by
  obtain ⟨k0, k1, k2, k3, k4, k5, k6, k7, k8, k9, k10, k11, k12, k13, k14, k15⟩ := jo_at h
  have f12 := free_block 12 h; have f15 := free_block 15 h
  have H := Lib.hid h
  clear h
  go_enter Try.func50, Try.ntmps50
  go_wp2_with fail
  go_end0
  exact ⟨rfl, set_lf (set_st H.out 4) 0, only_setCell (only_setCell (only_refl w _) _ _) _ _⟩
set_option maxRecDepth 100000 in
theorem deliver_fn (g : Nat) (j : JS) (v : Value) (w : World) (h : Has w g j v) :
    Calls Try.prog 51 #[ptr g] w fun e w' => e = .returned (.tuple #[]) ∧ Has w' g (deliverJ j) v ∧ w.grownBy w' (some g) := by
  obtain ⟨k0, k1, k2, k3, k4, k5, k6, k7, k8, k9, k10, k11, k12, k13, k14, k15⟩ := jo_at h
  have f12 := free_block 12 h
  have H := Lib.hid h
  clear h
  go_enter Try.func51, Try.ntmps51
  go_wp2_with fail
  go_end0
  exact ⟨rfl, set_st H.out 5, only_setCell (only_refl w _) _ _⟩
set_option maxRecDepth 100000 in
theorem cancel_fn (g : Nat) (j : JS) (v : Value) (w : World) (h : Has w g j v) :
    Calls Try.prog 52 #[ptr g] w fun e w' => e = .returned (.tuple #[]) ∧ Has w' g (cancelJ j) v ∧ w.grownBy w' (some g) := by
  obtain ⟨k0, k1, k2, k3, k4, k5, k6, k7, k8, k9, k10, k11, k12, k13, k14, k15⟩ := jo_at h
  have f12 := free_block 12 h; have f13 := free_block 13 h; have f14 := free_block 14 h; have f15 := free_block 15 h
  have H := Lib.hid h
  clear h
  go_enter Try.func52, Try.ntmps52
  go_wp2_with fail
  go_end0
  exact ⟨rfl, set_lf (set_en (set_sr (set_st H.out 6) 0) 0) 0, only_setCell (only_setCell (only_setCell (only_setCell (only_refl w _) _ _) _ _) _ _) _ _⟩
end Go.Proofs.Ytghlgmlelipjfaa.Job.Im
