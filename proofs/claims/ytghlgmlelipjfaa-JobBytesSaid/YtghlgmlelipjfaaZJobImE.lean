/- The program's Clone of stacks, and its closures: what each does to a job in a block. The program's change of a job by Start's closure. The program's change of a job by Pause's closure. -/
import Derived.Test.YtghlgmlelipjfaaZJobImA
import Derived.Laws.StructEq
import Derived.BigRegion
import Derived.Test.YtghlgmlelipjfaaZGoodsImCk
namespace Go.Proofs.Ytghlgmlelipjfaa.Job.Im
open Go.RowKit Go.Lib
open Goods (St Sts OwnS)

/-! Clone -/
theorem src_st {w : World} {a : Option Addr} {l : List St} (h : Sts w a l) : ∀ j u, (Goods.scells l)[j]? = some u → ∃ ad, a = some ad ∧ w.cell? (ad.add j) = some u := fun j u hj => by
  have hlt := (List.getElem?_eq_some_iff.1 hj).1
  rw [Goods.scells_length] at hlt
  have hi : j / 2 < l.length := by omega
  obtain ⟨g, off, e, _, k0, k1⟩ := h (j / 2) l[j / 2] (List.getElem?_eq_getElem hi)
  refine ⟨_, e, ?_⟩
  rw [Goods.addr_add]
  have hc := Goods.scells_at l (j / 2) l[j / 2] (List.getElem?_eq_getElem hi)
  rcases Nat.mod_two_eq_zero_or_one j with h2 | h2
  · have e2 : j / 2 * 2 + 0 = j := by omega
    have := hc 0 _ rfl
    rw [e2, hj] at this
    injection this with this
    rw [this, show off + j = off + j / 2 * 2 by omega]
    exact k0
  · have e2 : j / 2 * 2 + 1 = j := by omega
    have := hc 1 _ rfl
    rw [e2, hj] at this
    injection this with this
    rw [this, show off + j = off + j / 2 * 2 + 1 by omega]
    exact k1
set_option maxRecDepth 100000 in
set_option maxHeartbeats 2000000 in
theorem clone_im (a : Option Addr) (n c : Nat) (l : List St) (w : World) (hl : l.length = n) (hs : Sts w a l) (hn : n ≤ 1048576) :
    Calls Try.prog 67 #[.slice a n c] w fun e w' => ∃ a' c', e = .returned (.slice a' n c') ∧ Hid (OwnS w' w.heap.size (.slice a' n c') l ∧ Below w.heap.size w w') := by
  cases a with
  | none =>
    have hl1 : l = [] := by
      cases l with
      | nil => rfl
      | cons t l =>
        obtain ⟨g, off, e, _⟩ := hs 0 t rfl
        cases e
    subst hl1
    have hn0 : n = 0 := by rw [← hl]; rfl
    subst hn0
    have hq : ∀ W, (binOp .eql 22 (.slice none 0 c) (.slice none 0 0)).run Try.prog W = .ok (.bool true) W := fun W => Lib.run_eql_slice_nil W _ _ none 0 c 0 0 Try.underlying22
    clear hs hl hn
    go_enter Try.func67, Try.ntmps67
    go_wp2_with fail
    go_ret
    exact ⟨none, 0, rfl, Lib.hid ⟨World.ownsRow_nil _ _ _ _, Below.refl _ _⟩⟩
  | some ad =>
    have hal := (Below.refl w.heap.size w).alloc (Nat.le_refl _) (.cells #[] 74)
    have h0 : OwnS (w.alloc (.cells #[] 74)) w.heap.size (.slice (some ⟨w.heap.size, 0, none⟩) 0 0) [] := World.ownsRow_lit w #[] 0 (Nat.le_refl _) (by unfold maxLen; omega) rfl
    obtain ⟨v', w', hr, h2, hb⟩ := Goods.app_st _ w.heap.size (.slice (some ⟨w.heap.size, 0, none⟩) 0 0) [] l h0 (some ad) l.length c rfl (src_st (hs.under hal)) (by simp; omega) hal.size
    rw [List.nil_append] at h2
    obtain ⟨a2, c2, rfl, hst⟩ := Goods.sts_own h2
    have HR := Lib.hid hr
    have HO : Hid (OwnS w' w.heap.size (.slice a2 l.length c2) l ∧ Below w.heap.size w w') := Lib.hid ⟨h2, hal.trans hb⟩
    have hq : ∀ W, (binOp .eql 22 (.slice (some ad) n c) (.slice none 0 0)).run Try.prog W = .ok (.bool false) W := fun W => Lib.run_eql_slice_nil W _ _ (some ad) n c 0 0 Try.underlying22
    rw [hl] at HR HO
    clear h0 hr h2 hb hal hn hl hs hst
    go_enter Try.func67, Try.ntmps67
    go_wp2_with (at_builtin; refine walk_run rfl _ _ _ _ rfl _ _ rfl rfl HR.out ?_)
    go_ret
    exact ⟨_, _, rfl, HO⟩
/-! one cell more -/
theorem set_st {w : World} {g : Nat} {j : JS} {v : Value} (h : Has w g j v) (x : Int) : Has (w.setCell ⟨g, 12, none⟩ (.int .i64 x)) g { j with st := x } v := heap_setCell_same w g 12 _ _ (.int .i64 x) h
theorem set_sr {w : World} {g : Nat} {j : JS} {v : Value} (h : Has w g j v) (x : Int) : Has (w.setCell ⟨g, 13, none⟩ (.int .i64 x)) g { j with sr := x } v := heap_setCell_same w g 13 _ _ (.int .i64 x) h
theorem set_en {w : World} {g : Nat} {j : JS} {v : Value} (h : Has w g j v) (x : Int) : Has (w.setCell ⟨g, 14, none⟩ (.int .i64 x)) g { j with en := x } v := heap_setCell_same w g 14 _ _ (.int .i64 x) h
theorem set_lf {w : World} {g : Nat} {j : JS} {v : Value} (h : Has w g j v) (x : Int) : Has (w.setCell ⟨g, 15, none⟩ (.int .i64 x)) g { j with lf := x } v := heap_setCell_same w g 15 _ _ (.int .i64 x) h
theorem set_needs {w : World} {g : Nat} {j : JS} {v : Value} (h : Has w g j v) (u : Value) : Has (w.setCell ⟨g, 11, none⟩ u) g j u := heap_setCell_same w g 11 _ _ u h
abbrev ptr (g : Nat) : Value := .pointer (some ⟨g, 0, none⟩)
set_option maxRecDepth 100000 in
theorem start_fn (g b : Nat) (j : JS) (v : Value) (now : Int) (w : World) (h : Has w g j v) (hb : w.cell? ⟨b, 0, none⟩ = some (.int .i64 now)) (hne : b ≠ g) (hw : IntKind.i64.wrap (now + j.lf) = now + j.lf) :
    Calls Try.prog 46 #[ptr g, ptr b] w fun e w' => e = .returned (.tuple #[]) ∧ Has w' g (startJ now j) v ∧ w.grownBy w' (some g) := by
  obtain ⟨k0, k1, k2, k3, k4, k5, k6, k7, k8, k9, k10, k11, k12, k13, k14, k15⟩ := jo_at h
  have f12 := free_block 12 h; have f13 := free_block 13 h; have f14 := free_block 14 h
  have H := Lib.hid h
  have hn1 : ¬ b = g := hne
  have hn2 : ¬ g = b := fun e => hne e.symm
  obtain ⟨x, hx⟩ : ∃ x, now + j.lf = x := ⟨_, rfl⟩
  rw [hx] at hw
  have hw2 : IntKind.i64.wrap (now + j.lf) = x := by rw [hx]; exact hw
  have HX : Hid (∀ w, Has w g j v → Has (((w.setCell ⟨g, 12, none⟩ (.int .i64 2)).setCell ⟨g, 13, none⟩ (.int .i64 now)).setCell ⟨g, 14, none⟩ (.int .i64 x)) g (startJ now j) v) := Lib.hid (fun w h => by
    have := set_en (set_sr (set_st h 2) now) x
    rw [← hx] at this ⊢
    exact this)
  clear h hne hw hx
  go_enter Try.func46, Try.ntmps46
  go_wp2_with fail
  go_region
  all_goals
    go_wp2_with fail
    go_end0
    exact ⟨rfl, HX.out w.drew H.out, only_setCell (only_setCell (only_setCell (only_drewN (only_refl w _) 1) _ _) _ _) _ _⟩
set_option maxRecDepth 100000 in
theorem pause_fn (g b : Nat) (j : JS) (v : Value) (now : Int) (w : World) (h : Has w g j v) (hb : w.cell? ⟨b, 0, none⟩ = some (.int .i64 now)) (hne : b ≠ g) (hw : IntKind.i64.wrap (j.en - now) = j.en - now) :
    Calls Try.prog 47 #[ptr g, ptr b] w fun e w' => e = .returned (.tuple #[]) ∧ Has w' g (pauseJ now j) v ∧ w.grownBy w' (some g) := by
  obtain ⟨k0, k1, k2, k3, k4, k5, k6, k7, k8, k9, k10, k11, k12, k13, k14, k15⟩ := jo_at h
  have f12 := free_block 12 h; have f13 := free_block 13 h; have f14 := free_block 14 h; have f15 := free_block 15 h
  have H := Lib.hid h
  have hn1 : ¬ b = g := hne
  have hn2 : ¬ g = b := fun e => hne e.symm
  obtain ⟨x, hx⟩ : ∃ x, j.en - now = x := ⟨_, rfl⟩
  rw [hx] at hw
  have hw2 : IntKind.i64.wrap (j.en - now) = x := by rw [hx]; exact hw
  have HX : Hid (∀ w, Has w g j v → Has ((((w.setCell ⟨g, 12, none⟩ (.int .i64 3)).setCell ⟨g, 13, none⟩ (.int .i64 0)).setCell ⟨g, 14, none⟩ (.int .i64 0)).setCell ⟨g, 15, none⟩ (.int .i64 x)) g (pauseJ now j) v) := Lib.hid (fun w h => by
    have := set_lf (set_en (set_sr (set_st h 3) 0) 0) x
    rw [← hx] at this ⊢
    exact this)
  clear h hne hw hx
  go_enter Try.func47, Try.ntmps47
  go_wp2_with fail
  go_region
  all_goals
    go_wp2_with fail
    go_end0
    exact ⟨rfl, HX.out w.drew H.out, only_setCell (only_setCell (only_setCell (only_setCell (only_drewN (only_refl w _) 1) _ _) _ _) _ _) _ _⟩
set_option maxRecDepth 100000 in
theorem resume_fn (g : Nat) (j : JS) (v : Value) (w : World) (h : Has w g j v) :
    Calls Try.prog 49 #[ptr g] w fun e w' => e = .returned (.tuple #[]) ∧ Has w' g (resumeJ j) v ∧ w.grownBy w' (some g) := by
  obtain ⟨k0, k1, k2, k3, k4, k5, k6, k7, k8, k9, k10, k11, k12, k13, k14, k15⟩ := jo_at h
  have f12 := free_block 12 h
  have H := Lib.hid h
  clear h
  go_enter Try.func49, Try.ntmps49
  go_wp2_with fail
  go_end0
  exact ⟨rfl, set_st H.out 1, only_setCell (only_refl w _) _ _⟩
set_option maxRecDepth 100000 in
theorem finish_fn (g : Nat) (j : JS) (v : Value) (w : World) (h : Has w g j v) :
    Calls Try.prog 50 #[ptr g] w fun e w' => e = .returned (.tuple #[]) ∧ Has w' g (finishJ j) v ∧ w.grownBy w' (some g) := by
  obtain ⟨k0, k1, k2, k3, k4, k5, k6, k7, k8, k9, k10, k11, k12, k13, k14, k15⟩ := jo_at h
  have f12 := free_block 12 h; have f15 := free_block 15 h
  have H := Lib.hid h
  clear h
  go_enter Try.func50, Try.ntmps50
  go_wp2_with fail
  go_end0
  exact ⟨rfl, set_lf (set_st H.out 4) 0, only_setCell (only_setCell (only_refl w _) _ _) _ _⟩
set_option maxRecDepth 100000 in
theorem deliver_fn (g : Nat) (j : JS) (v : Value) (w : World) (h : Has w g j v) :
    Calls Try.prog 51 #[ptr g] w fun e w' => e = .returned (.tuple #[]) ∧ Has w' g (deliverJ j) v ∧ w.grownBy w' (some g) := by
  obtain ⟨k0, k1, k2, k3, k4, k5, k6, k7, k8, k9, k10, k11, k12, k13, k14, k15⟩ := jo_at h
  have f12 := free_block 12 h
  have H := Lib.hid h
  clear h
  go_enter Try.func51, Try.ntmps51
  go_wp2_with fail
  go_end0
  exact ⟨rfl, set_st H.out 5, only_setCell (only_refl w _) _ _⟩
set_option maxRecDepth 100000 in
theorem cancel_fn (g : Nat) (j : JS) (v : Value) (w : World) (h : Has w g j v) :
    Calls Try.prog 52 #[ptr g] w fun e w' => e = .returned (.tuple #[]) ∧ Has w' g (cancelJ j) v ∧ w.grownBy w' (some g) := by
  obtain ⟨k0, k1, k2, k3, k4, k5, k6, k7, k8, k9, k10, k11, k12, k13, k14, k15⟩ := jo_at h
  have f12 := free_block 12 h; have f13 := free_block 13 h; have f14 := free_block 14 h; have f15 := free_block 15 h
  have H := Lib.hid h
  clear h
  go_enter Try.func52, Try.ntmps52
  go_wp2_with fail
  go_end0
  exact ⟨rfl, set_lf (set_en (set_sr (set_st H.out 6) 0) 0) 0, only_setCell (only_setCell (only_setCell (only_setCell (only_refl w _) _ _) _ _) _ _) _ _⟩
end Go.Proofs.Ytghlgmlelipjfaa.Job.Im
namespace Go.Proofs.Ytghlgmlelipjfaa.Job.Im
open Go.RowKit Go.Lib
open Goods (St Sts OwnS)

set_option maxRecDepth 100000 in
set_option maxHeartbeats 8000000 in
theorem changed_start (j : JS) (a : Option Addr) (n c : Nat) (m : Bool) (b : Nat) (now : Int) (w : World) (h : JIn w a n j.s) (hn : n ≤ 1024) (hb : w.cell? ⟨b, 0, none⟩ = some (.int .i64 now)) (hnow : 0 ≤ now ∧ now ≤ 1099511627776) :
    Calls Try.prog 48 #[jV j (.slice a n c), .bool m, .func (.func 46) #[] #[ptr b]] w fun e w' => ∃ a' n' c', e = .returned (.tuple #[jV (chV j m (startJ now j)) (.slice a' n' c'), .int .i64 (chE j m)]) ∧ Hid (OwnS w' w.heap.size (.slice a' n' c') (chV j m (startJ now j)).s ∧ n' ≤ n ∧ Below w.heap.size w w') := by
  obtain ⟨V, X, hV, hX, HXB, HH⟩ := box_jo w j (.slice a n c)
  obtain ⟨G, Z, hG, hZ, HZB, HG⟩ := box_zero X
  have HN : Hid (w.heap.size = V ∧ G = V + 1 ∧ Below w.heap.size w Z ∧ Z.heap.size = G + 1) := Lib.hid ⟨hV, by have := HXB.out.2; omega, below_then HXB.out.1 HZB.out.1, HZB.out.2⟩
  have HHZ : Hid (Has Z V j (.slice a n c)) := Lib.hid (has_under HH.out HZB.out.1)
  obtain ⟨er, her⟩ : ∃ er, chk j = er := ⟨_, rfl⟩
  have HC := check_im j a n c Z (h.under HN.out.2.2.1) hn
  rw [her] at HC
  have HC := Lib.hid HC
  by_cases ho : Ok j
  case neg =>
    obtain ⟨e2, e3⟩ := ch_bad ho m (startJ now j)
    rw [e2, e3]
    obtain rfl : er = 1 := her.symm.trans (chk_no ho)
    clear h hn her ho e2 e3 hb hnow
    go_enter Try.func48, Try.ntmps48
    go_wp2_with (refine load_jo rfl _ rfl V rfl j (.slice a n c) HHZ.out ?_)
    clear hV hX hG hZ
    refine HC.out.mono ?_
    rintro e w1 ⟨rfl, h1⟩
    have HG1 : Hid (Has w1 G zJ (.slice none 0 0) ∧ Below w.heap.size w w1) := Lib.hid ⟨has_under HG.out h1, below_then HN.out.2.2.1 h1⟩
    clear h1
    go_wp2_with (refine store_jo rfl _ _ rfl G rfl zJ none 0 0 rfl zJ (.slice none 0 0) HG1.out.1 ?_; intro w5 h5 g5)
    exact ret_jo2 (x := zJ) (v := .slice none 0 0) rfl rfl rfl rfl h5 ⟨none, 0, 0, rfl, Lib.hid ⟨World.ownsRow_nil _ _ _ _, Nat.zero_le _, below_of_only HG1.out.2 (by have := HN.out; omega) g5⟩⟩
  obtain rfl : er = 0 := her.symm.trans (chk_yes ho)
  cases m with
  | false =>
    obtain ⟨e2, e3⟩ := ch_not ho (startJ now j)
    rw [e2, e3]
    clear h hn her ho e2 e3 hb hnow
    go_enter Try.func48, Try.ntmps48
    go_wp2_with (refine load_jo rfl _ rfl V rfl j (.slice a n c) HHZ.out ?_)
    clear hV hX hG hZ
    refine HC.out.mono ?_
    rintro e w1 ⟨rfl, h1⟩
    have HG1 : Hid (Has w1 G zJ (.slice none 0 0) ∧ Below w.heap.size w w1) := Lib.hid ⟨has_under HG.out h1, below_then HN.out.2.2.1 h1⟩
    clear h1
    go_wp2_with (refine store_jo rfl _ _ rfl G rfl zJ none 0 0 rfl zJ (.slice none 0 0) HG1.out.1 ?_; intro w5 h5 g5)
    exact ret_jo2 (x := zJ) (v := .slice none 0 0) rfl rfl rfl rfl h5 ⟨none, 0, 0, rfl, Lib.hid ⟨World.ownsRow_nil _ _ _ _, Nat.zero_le _, below_of_only HG1.out.2 (by have := HN.out; omega) g5⟩⟩
  | true =>
    obtain ⟨e2, e3⟩ := ch_yes ho (startJ now j)
    rw [e2, e3]
    obtain ⟨R, hR⟩ : ∃ R, startJ now j = R := ⟨_, rfl⟩
    have HRS : Hid (R.s = j.s) := Lib.hid (by rw [← hR]; rfl)
    have HJ : Hid (∀ W, Below w.heap.size w W → JIn W a n j.s ∧ n ≤ 1024) := Lib.hid fun W hW => ⟨h.under hW, hn⟩
    have hb2 := World.block_lt_of_cell? _ _ hb
    have HWR : Hid (IntKind.i64.wrap (now + j.lf) = now + j.lf) := Lib.hid (by
      have := ok_bounds ho
      exact IntWalk.i64_in _ (by omega))
    have HF : Hid (∀ W v, Has W V j v → W.cell? ⟨b, 0, none⟩ = some (.int .i64 now) → Calls Try.prog 46 #[ptr V, ptr b] W fun e w' => e = .returned (.tuple #[]) ∧ Hid (Has w' V R v ∧ W.grownBy w' (some V))) := Lib.hid fun W v h1 h2 => by
      rw [← hR]
      exact (start_fn V b j v now W h1 h2 (by have := HN.out; have : b < w.heap.size := hb2; omega) HWR.out).mono fun _ _ ⟨e, h3, h4⟩ => ⟨e, Lib.hid ⟨h3, h4⟩⟩
    have HB : Hid (∀ W, Below w.heap.size w W → W.cell? ⟨b, 0, none⟩ = some (.int .i64 now)) := Lib.hid fun W hW => ((bcell hW).1 b 0 hb2).trans hb
    have HBV : Hid (b ≠ V) := Lib.hid (by have := HN.out; have : b < w.heap.size := hb2; omega)
    rw [hR]
    clear h hn her ho e2 e3 hR hb hnow hb2
    go_enter Try.func48, Try.ntmps48
    go_wp2_with (refine load_jo rfl _ rfl V rfl j (.slice a n c) HHZ.out ?_)
    clear hV hX hG hZ
    refine HC.out.mono ?_
    rintro e w1 ⟨rfl, h1⟩
    have H1 : Hid (Below w.heap.size w w1 ∧ Has w1 V j (.slice a n c) ∧ Has w1 G zJ (.slice none 0 0) ∧ G < w1.heap.size) := Lib.hid ⟨below_then HN.out.2.2.1 h1, has_under HHZ.out h1, has_under HG.out h1, by have := h1.size; have := HN.out; omega⟩
    have k11 : w1.cell? ⟨V, 11, none⟩ = some (.slice a n c) := cell_block (j := 11) H1.out.2.1 rfl
    have HCL := Lib.hid (clone_im a n c j.s w1 (HJ.out w1 H1.out.1).1.1 (HJ.out w1 H1.out.1).1.2 (by have := (HJ.out w1 H1.out.1).2; omega))
    clear h1
    go_wp2_with fail
    clear k11
    refine HCL.out.mono ?_
    rintro e w2 ⟨a2, c2, rfl, H2⟩
    have HV2 : Hid (Has w2 V j (.slice a n c)) := Lib.hid (has_under H1.out.2.1 H2.out.2)
    have k11 : w2.cell? ⟨V, 11, none⟩ = some (.slice a n c) := cell_block (j := 11) HV2.out rfl
    have f11 := free_block 11 HV2.out
    obtain ⟨w3, hw3⟩ : ∃ w3, w2.setCell ⟨V, 11, none⟩ (.slice a2 n c2) = w3 := ⟨_, rfl⟩
    have H3 : Hid (Has w3 V j (.slice a2 n c2) ∧ w2.grownBy w3 (some V)) := Lib.hid (by rw [← hw3]; exact ⟨set_needs HV2.out _, only_setCell (only_refl w2 _) _ _⟩)
    have H3B : Hid (Below w.heap.size w w3) := Lib.hid (below_of_only (below_then H1.out.1 H2.out.2) (by have := HN.out; omega) H3.out.2)
    have HFF := Lib.hid (HF.out w3 (.slice a2 n c2) H3.out.1 (HB.out w3 H3B.out))
    go_wp2_with fail
    clear hw3 k11 f11
    refine HFF.out.mono ?_
    rintro e w4 ⟨rfl, H4⟩
    have H5 : Hid (Has w4 G zJ (.slice none 0 0) ∧ Below w.heap.size w w4 ∧ OwnS w4 w1.heap.size (.slice a2 n c2) j.s) := Lib.hid (by
      have hg : V ≠ G := by have := HN.out; omega
      have hv : V < w1.heap.size := by have := H1.out.2.2.2; have := HN.out; omega
      exact ⟨has_by (has_by (has_under H1.out.2.2.1 H2.out.2) H3.out.2 hg) H4.out.2 hg, below_of_only H3B.out (by have := HN.out; omega) H4.out.2, own_past (own_past H2.out.1 H3.out.2 hv) H4.out.2 hv⟩)
    go_wp2_with (first | (refine load_jo rfl _ rfl V rfl R (.slice a2 n c2) H4.out.1 ?_) | (refine store_jo rfl _ _ rfl G rfl R a2 n c2 rfl zJ (.slice none 0 0) H5.out.1 ?_; intro w5 h5 g5))
    exact ret_jo2 (x := R) (v := .slice a2 n c2) rfl rfl rfl rfl h5 ⟨a2, n, c2, rfl, Lib.hid ⟨by rw [HRS.out]; exact World.ownsRow.mono (own_past H5.out.2.2 g5 H1.out.2.2.2) H1.out.1.size, Nat.le_refl _, below_of_only H5.out.2.1 (by have := HN.out; omega) g5⟩⟩
set_option maxRecDepth 100000 in
set_option maxHeartbeats 8000000 in
theorem at_start (j : JS) (a : Option Addr) (n c : Nat) (m : Bool) (b : Nat) (now : Int) (w : World) (h : JIn w a n j.s) (hn : n ≤ 1024) (hb : w.cell? ⟨b, 0, none⟩ = some (.int .i64 now)) :
    Calls Try.prog 45 #[.int .i64 now, jV j (.slice a n c), .bool m, .func (.func 46) #[] #[ptr b]] w fun e w' => ∃ a' n' c', e = .returned (.tuple #[jV (caV now j m (startJ now j)) (.slice a' n' c'), .int .i64 (caE now j m)]) ∧ Hid (OwnS w' w.heap.size (.slice a' n' c') (caV now j m (startJ now j)).s ∧ n' ≤ n ∧ Below w.heap.size w w') := by
  obtain ⟨V, X, hV, hX, HXB, HH⟩ := box_jo w j (.slice a n c)
  obtain ⟨G, Z, hG, hZ, HZB, HG⟩ := box_zero X
  have HN : Hid (w.heap.size = V ∧ G = V + 1 ∧ Below w.heap.size w Z ∧ Z.heap.size = G + 1) := Lib.hid ⟨hV, by have := HXB.out.2; omega, below_then HXB.out.1 HZB.out.1, HZB.out.2⟩
  have HHZ : Hid (Has Z V j (.slice a n c)) := Lib.hid (has_under HH.out HZB.out.1)
  by_cases ht : 0 ≤ now ∧ now ≤ 1099511627776
  case neg =>
    obtain ⟨e2, e3⟩ := ca_no ht j m (startJ now j)
    rw [e2, e3]
    have HI := in_as (decide_eq_false ht)
    clear h hn e2 e3 ht hb
    go_enter Try.func45, Try.ntmps45
    go_wp2_with fail
    clear hV hX hG hZ
    refine (HI.out _).mono ?_
    rintro e w1 ⟨rfl, rfl⟩
    go_wp2_with (refine store_jo rfl _ _ rfl G rfl zJ none 0 0 rfl zJ (.slice none 0 0) HG.out ?_; intro w5 h5 g5)
    exact ret_jo2 (x := zJ) (v := .slice none 0 0) rfl rfl rfl rfl h5 ⟨none, 0, 0, rfl, Lib.hid ⟨World.ownsRow_nil _ _ _ _, Nat.zero_le _, below_of_only HN.out.2.2.1 (by have := HN.out; omega) g5⟩⟩
  obtain ⟨e2, e3⟩ := ca_yes ht j m (startJ now j)
  rw [e2, e3]
  have HI := in_as (decide_eq_true ht)
  have HC := Lib.hid (changed_start j a n c m b now Z (h.under HN.out.2.2.1) hn ((bcell HN.out.2.2.1).1 b 0 (World.block_lt_of_cell? _ _ hb) |>.trans hb) ht)
  obtain ⟨R, hR⟩ : ∃ R, chV j m (startJ now j) = R := ⟨_, rfl⟩
  obtain ⟨E, hE⟩ : ∃ E, chE j m = E := ⟨_, rfl⟩
  rw [hR, hE] at HC
  rw [hR, hE]
  clear h hn e2 e3 ht hR hE hb
  go_enter Try.func45, Try.ntmps45
  go_wp2_with fail
  clear hV hX hG hZ
  refine (HI.out _).mono ?_
  rintro e w1 ⟨rfl, rfl⟩
  go_wp2_with (refine load_jo rfl _ rfl V rfl j (.slice a n c) HHZ.out ?_)
  refine HC.out.mono ?_
  rintro e w2 ⟨a2, n2, c2, rfl, H2⟩
  have HG2 : Hid (Has w2 G zJ (.slice none 0 0) ∧ Below w.heap.size w w2) := Lib.hid ⟨has_under HG.out H2.out.2.2, below_then HN.out.2.2.1 H2.out.2.2⟩
  go_wp2_with (refine store_jo rfl _ _ rfl G rfl R a2 n2 c2 rfl zJ (.slice none 0 0) HG2.out.1 ?_; intro w5 h5 g5)
  exact ret_jo2 (x := R) (v := .slice a2 n2 c2) rfl rfl rfl rfl h5 ⟨a2, n2, c2, rfl, Lib.hid ⟨World.ownsRow.mono (own_past H2.out.1 g5 (by have := HN.out; omega)) HN.out.2.2.1.size, H2.out.2.1, below_of_only HG2.out.2 (by have := HN.out; omega) g5⟩⟩
end Go.Proofs.Ytghlgmlelipjfaa.Job.Im
namespace Go.Proofs.Ytghlgmlelipjfaa.Job.Im
open Go.RowKit Go.Lib
open Goods (St Sts OwnS)

set_option maxRecDepth 100000 in
set_option maxHeartbeats 8000000 in
theorem changed_pause (j : JS) (a : Option Addr) (n c : Nat) (m : Bool) (b : Nat) (now : Int) (w : World) (h : JIn w a n j.s) (hn : n ≤ 1024) (hb : w.cell? ⟨b, 0, none⟩ = some (.int .i64 now)) (hnow : 0 ≤ now ∧ now ≤ 1099511627776) :
    Calls Try.prog 48 #[jV j (.slice a n c), .bool m, .func (.func 47) #[] #[ptr b]] w fun e w' => ∃ a' n' c', e = .returned (.tuple #[jV (chV j m (pauseJ now j)) (.slice a' n' c'), .int .i64 (chE j m)]) ∧ Hid (OwnS w' w.heap.size (.slice a' n' c') (chV j m (pauseJ now j)).s ∧ n' ≤ n ∧ Below w.heap.size w w') := by
  obtain ⟨V, X, hV, hX, HXB, HH⟩ := box_jo w j (.slice a n c)
  obtain ⟨G, Z, hG, hZ, HZB, HG⟩ := box_zero X
  have HN : Hid (w.heap.size = V ∧ G = V + 1 ∧ Below w.heap.size w Z ∧ Z.heap.size = G + 1) := Lib.hid ⟨hV, by have := HXB.out.2; omega, below_then HXB.out.1 HZB.out.1, HZB.out.2⟩
  have HHZ : Hid (Has Z V j (.slice a n c)) := Lib.hid (has_under HH.out HZB.out.1)
  obtain ⟨er, her⟩ : ∃ er, chk j = er := ⟨_, rfl⟩
  have HC := check_im j a n c Z (h.under HN.out.2.2.1) hn
  rw [her] at HC
  have HC := Lib.hid HC
  by_cases ho : Ok j
  case neg =>
    obtain ⟨e2, e3⟩ := ch_bad ho m (pauseJ now j)
    rw [e2, e3]
    obtain rfl : er = 1 := her.symm.trans (chk_no ho)
    clear h hn her ho e2 e3 hb hnow
    go_enter Try.func48, Try.ntmps48
    go_wp2_with (refine load_jo rfl _ rfl V rfl j (.slice a n c) HHZ.out ?_)
    clear hV hX hG hZ
    refine HC.out.mono ?_
    rintro e w1 ⟨rfl, h1⟩
    have HG1 : Hid (Has w1 G zJ (.slice none 0 0) ∧ Below w.heap.size w w1) := Lib.hid ⟨has_under HG.out h1, below_then HN.out.2.2.1 h1⟩
    clear h1
    go_wp2_with (refine store_jo rfl _ _ rfl G rfl zJ none 0 0 rfl zJ (.slice none 0 0) HG1.out.1 ?_; intro w5 h5 g5)
    exact ret_jo2 (x := zJ) (v := .slice none 0 0) rfl rfl rfl rfl h5 ⟨none, 0, 0, rfl, Lib.hid ⟨World.ownsRow_nil _ _ _ _, Nat.zero_le _, below_of_only HG1.out.2 (by have := HN.out; omega) g5⟩⟩
  obtain rfl : er = 0 := her.symm.trans (chk_yes ho)
  cases m with
  | false =>
    obtain ⟨e2, e3⟩ := ch_not ho (pauseJ now j)
    rw [e2, e3]
    clear h hn her ho e2 e3 hb hnow
    go_enter Try.func48, Try.ntmps48
    go_wp2_with (refine load_jo rfl _ rfl V rfl j (.slice a n c) HHZ.out ?_)
    clear hV hX hG hZ
    refine HC.out.mono ?_
    rintro e w1 ⟨rfl, h1⟩
    have HG1 : Hid (Has w1 G zJ (.slice none 0 0) ∧ Below w.heap.size w w1) := Lib.hid ⟨has_under HG.out h1, below_then HN.out.2.2.1 h1⟩
    clear h1
    go_wp2_with (refine store_jo rfl _ _ rfl G rfl zJ none 0 0 rfl zJ (.slice none 0 0) HG1.out.1 ?_; intro w5 h5 g5)
    exact ret_jo2 (x := zJ) (v := .slice none 0 0) rfl rfl rfl rfl h5 ⟨none, 0, 0, rfl, Lib.hid ⟨World.ownsRow_nil _ _ _ _, Nat.zero_le _, below_of_only HG1.out.2 (by have := HN.out; omega) g5⟩⟩
  | true =>
    obtain ⟨e2, e3⟩ := ch_yes ho (pauseJ now j)
    rw [e2, e3]
    obtain ⟨R, hR⟩ : ∃ R, pauseJ now j = R := ⟨_, rfl⟩
    have HRS : Hid (R.s = j.s) := Lib.hid (by rw [← hR]; rfl)
    have HJ : Hid (∀ W, Below w.heap.size w W → JIn W a n j.s ∧ n ≤ 1024) := Lib.hid fun W hW => ⟨h.under hW, hn⟩
    have hb2 := World.block_lt_of_cell? _ _ hb
    have HWR : Hid (IntKind.i64.wrap (j.en - now) = j.en - now) := Lib.hid (by
      have := ok_bounds ho
      exact IntWalk.i64_in _ (by omega))
    have HF : Hid (∀ W v, Has W V j v → W.cell? ⟨b, 0, none⟩ = some (.int .i64 now) → Calls Try.prog 47 #[ptr V, ptr b] W fun e w' => e = .returned (.tuple #[]) ∧ Hid (Has w' V R v ∧ W.grownBy w' (some V))) := Lib.hid fun W v h1 h2 => by
      rw [← hR]
      exact (pause_fn V b j v now W h1 h2 (by have := HN.out; have : b < w.heap.size := hb2; omega) HWR.out).mono fun _ _ ⟨e, h3, h4⟩ => ⟨e, Lib.hid ⟨h3, h4⟩⟩
    have HB : Hid (∀ W, Below w.heap.size w W → W.cell? ⟨b, 0, none⟩ = some (.int .i64 now)) := Lib.hid fun W hW => ((bcell hW).1 b 0 hb2).trans hb
    have HBV : Hid (b ≠ V) := Lib.hid (by have := HN.out; have : b < w.heap.size := hb2; omega)
    rw [hR]
    clear h hn her ho e2 e3 hR hb hnow hb2
    go_enter Try.func48, Try.ntmps48
    go_wp2_with (refine load_jo rfl _ rfl V rfl j (.slice a n c) HHZ.out ?_)
    clear hV hX hG hZ
    refine HC.out.mono ?_
    rintro e w1 ⟨rfl, h1⟩
    have H1 : Hid (Below w.heap.size w w1 ∧ Has w1 V j (.slice a n c) ∧ Has w1 G zJ (.slice none 0 0) ∧ G < w1.heap.size) := Lib.hid ⟨below_then HN.out.2.2.1 h1, has_under HHZ.out h1, has_under HG.out h1, by have := h1.size; have := HN.out; omega⟩
    have k11 : w1.cell? ⟨V, 11, none⟩ = some (.slice a n c) := cell_block (j := 11) H1.out.2.1 rfl
    have HCL := Lib.hid (clone_im a n c j.s w1 (HJ.out w1 H1.out.1).1.1 (HJ.out w1 H1.out.1).1.2 (by have := (HJ.out w1 H1.out.1).2; omega))
    clear h1
    go_wp2_with fail
    clear k11
    refine HCL.out.mono ?_
    rintro e w2 ⟨a2, c2, rfl, H2⟩
    have HV2 : Hid (Has w2 V j (.slice a n c)) := Lib.hid (has_under H1.out.2.1 H2.out.2)
    have k11 : w2.cell? ⟨V, 11, none⟩ = some (.slice a n c) := cell_block (j := 11) HV2.out rfl
    have f11 := free_block 11 HV2.out
    obtain ⟨w3, hw3⟩ : ∃ w3, w2.setCell ⟨V, 11, none⟩ (.slice a2 n c2) = w3 := ⟨_, rfl⟩
    have H3 : Hid (Has w3 V j (.slice a2 n c2) ∧ w2.grownBy w3 (some V)) := Lib.hid (by rw [← hw3]; exact ⟨set_needs HV2.out _, only_setCell (only_refl w2 _) _ _⟩)
    have H3B : Hid (Below w.heap.size w w3) := Lib.hid (below_of_only (below_then H1.out.1 H2.out.2) (by have := HN.out; omega) H3.out.2)
    have HFF := Lib.hid (HF.out w3 (.slice a2 n c2) H3.out.1 (HB.out w3 H3B.out))
    go_wp2_with fail
    clear hw3 k11 f11
    refine HFF.out.mono ?_
    rintro e w4 ⟨rfl, H4⟩
    have H5 : Hid (Has w4 G zJ (.slice none 0 0) ∧ Below w.heap.size w w4 ∧ OwnS w4 w1.heap.size (.slice a2 n c2) j.s) := Lib.hid (by
      have hg : V ≠ G := by have := HN.out; omega
      have hv : V < w1.heap.size := by have := H1.out.2.2.2; have := HN.out; omega
      exact ⟨has_by (has_by (has_under H1.out.2.2.1 H2.out.2) H3.out.2 hg) H4.out.2 hg, below_of_only H3B.out (by have := HN.out; omega) H4.out.2, own_past (own_past H2.out.1 H3.out.2 hv) H4.out.2 hv⟩)
    go_wp2_with (first | (refine load_jo rfl _ rfl V rfl R (.slice a2 n c2) H4.out.1 ?_) | (refine store_jo rfl _ _ rfl G rfl R a2 n c2 rfl zJ (.slice none 0 0) H5.out.1 ?_; intro w5 h5 g5))
    exact ret_jo2 (x := R) (v := .slice a2 n c2) rfl rfl rfl rfl h5 ⟨a2, n, c2, rfl, Lib.hid ⟨by rw [HRS.out]; exact World.ownsRow.mono (own_past H5.out.2.2 g5 H1.out.2.2.2) H1.out.1.size, Nat.le_refl _, below_of_only H5.out.2.1 (by have := HN.out; omega) g5⟩⟩
set_option maxRecDepth 100000 in
set_option maxHeartbeats 8000000 in
theorem at_pause (j : JS) (a : Option Addr) (n c : Nat) (m : Bool) (b : Nat) (now : Int) (w : World) (h : JIn w a n j.s) (hn : n ≤ 1024) (hb : w.cell? ⟨b, 0, none⟩ = some (.int .i64 now)) :
    Calls Try.prog 45 #[.int .i64 now, jV j (.slice a n c), .bool m, .func (.func 47) #[] #[ptr b]] w fun e w' => ∃ a' n' c', e = .returned (.tuple #[jV (caV now j m (pauseJ now j)) (.slice a' n' c'), .int .i64 (caE now j m)]) ∧ Hid (OwnS w' w.heap.size (.slice a' n' c') (caV now j m (pauseJ now j)).s ∧ n' ≤ n ∧ Below w.heap.size w w') := by
  obtain ⟨V, X, hV, hX, HXB, HH⟩ := box_jo w j (.slice a n c)
  obtain ⟨G, Z, hG, hZ, HZB, HG⟩ := box_zero X
  have HN : Hid (w.heap.size = V ∧ G = V + 1 ∧ Below w.heap.size w Z ∧ Z.heap.size = G + 1) := Lib.hid ⟨hV, by have := HXB.out.2; omega, below_then HXB.out.1 HZB.out.1, HZB.out.2⟩
  have HHZ : Hid (Has Z V j (.slice a n c)) := Lib.hid (has_under HH.out HZB.out.1)
  by_cases ht : 0 ≤ now ∧ now ≤ 1099511627776
  case neg =>
    obtain ⟨e2, e3⟩ := ca_no ht j m (pauseJ now j)
    rw [e2, e3]
    have HI := in_as (decide_eq_false ht)
    clear h hn e2 e3 ht hb
    go_enter Try.func45, Try.ntmps45
    go_wp2_with fail
    clear hV hX hG hZ
    refine (HI.out _).mono ?_
    rintro e w1 ⟨rfl, rfl⟩
    go_wp2_with (refine store_jo rfl _ _ rfl G rfl zJ none 0 0 rfl zJ (.slice none 0 0) HG.out ?_; intro w5 h5 g5)
    exact ret_jo2 (x := zJ) (v := .slice none 0 0) rfl rfl rfl rfl h5 ⟨none, 0, 0, rfl, Lib.hid ⟨World.ownsRow_nil _ _ _ _, Nat.zero_le _, below_of_only HN.out.2.2.1 (by have := HN.out; omega) g5⟩⟩
  obtain ⟨e2, e3⟩ := ca_yes ht j m (pauseJ now j)
  rw [e2, e3]
  have HI := in_as (decide_eq_true ht)
  have HC := Lib.hid (changed_pause j a n c m b now Z (h.under HN.out.2.2.1) hn ((bcell HN.out.2.2.1).1 b 0 (World.block_lt_of_cell? _ _ hb) |>.trans hb) ht)
  obtain ⟨R, hR⟩ : ∃ R, chV j m (pauseJ now j) = R := ⟨_, rfl⟩
  obtain ⟨E, hE⟩ : ∃ E, chE j m = E := ⟨_, rfl⟩
  rw [hR, hE] at HC
  rw [hR, hE]
  clear h hn e2 e3 ht hR hE hb
  go_enter Try.func45, Try.ntmps45
  go_wp2_with fail
  clear hV hX hG hZ
  refine (HI.out _).mono ?_
  rintro e w1 ⟨rfl, rfl⟩
  go_wp2_with (refine load_jo rfl _ rfl V rfl j (.slice a n c) HHZ.out ?_)
  refine HC.out.mono ?_
  rintro e w2 ⟨a2, n2, c2, rfl, H2⟩
  have HG2 : Hid (Has w2 G zJ (.slice none 0 0) ∧ Below w.heap.size w w2) := Lib.hid ⟨has_under HG.out H2.out.2.2, below_then HN.out.2.2.1 H2.out.2.2⟩
  go_wp2_with (refine store_jo rfl _ _ rfl G rfl R a2 n2 c2 rfl zJ (.slice none 0 0) HG2.out.1 ?_; intro w5 h5 g5)
  exact ret_jo2 (x := R) (v := .slice a2 n2 c2) rfl rfl rfl rfl h5 ⟨a2, n2, c2, rfl, Lib.hid ⟨World.ownsRow.mono (own_past H2.out.1 g5 (by have := HN.out; omega)) HN.out.2.2.1.size, H2.out.2.1, below_of_only HG2.out.2 (by have := HN.out; omega) g5⟩⟩
end Go.Proofs.Ytghlgmlelipjfaa.Job.Im
