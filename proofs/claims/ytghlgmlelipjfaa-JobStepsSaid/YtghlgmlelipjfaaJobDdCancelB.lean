/- The document's Do: Cancel, part B. -/
import Derived.Test.YtghlgmlelipjfaaJobDB
import Derived.Test.YtghlgmlelipjfaaJobImE
namespace Go.Proofs.Ytghlgmlelipjfaa.Job
open Go.RowKit Go.Lib
open Goods (St Sts OwnS)
open Im (set_st set_sr set_en set_lf)

set_option maxRecDepth 100000 in
set_option maxHeartbeats 16000000 in
theorem ddo_cancel_noa (what now : Int) (j : JS) (a : Option Addr) (n c : Nat) (w : World) (h : JIn w a n j.s) (hn : n ≤ 1024) (hk : ¬ what = 1 ∧ ¬ what = 2 ∧ ¬ what = 3 ∧ ¬ what = 4 ∧ ¬ what = 5) (ho : Ok j) (c9 : 1 ≤ what) (c0 : ¬ j.st = 1) (c1 : ¬ j.st = 2) (c2 : ¬ j.st = 3) : Calls Try.prog 8 #[jV j (.slice a n c), .int .i64 what, .int .i64 now] w fun e w' => e = .returned (.tuple #[jV zJ (.slice none 0 0), .int .i64 9]) ∧ Hid (Below w.heap.size w w') := by
  obtain ⟨V, X, hV, hX, HXB, HH⟩ := box_jo w j (.slice a n c)
  obtain ⟨G, Z, hG, hZ, HZB, HG⟩ := box_zero X
  have HN : Hid (w.heap.size = V ∧ G = V + 1 ∧ Below w.heap.size w Z ∧ Z.heap.size = G + 1) := Lib.hid ⟨hV, by have := HXB.out.2; omega, below_then HXB.out.1 HZB.out.1, HZB.out.2⟩
  have HHZ : Hid (Has Z V j (.slice a n c)) := Lib.hid (has_under HH.out HZB.out.1)
  have HJ : Hid (∀ W, Below w.heap.size w W → JIn W a n j.s) := Lib.hid fun W hW => h.under hW
  have HC := dcheck j a n c Z (h.under HN.out.2.2.1) hn
  have n1 : (what == 1) = false := by simpa using hk.1
  have n2 : (what == 2) = false := by simpa using hk.2.1
  have n3 : (what == 3) = false := by simpa using hk.2.2.1
  have n4 : (what == 4) = false := by simpa using hk.2.2.2.1
  have n5 : (what == 5) = false := by simpa using hk.2.2.2.2
  have n6 : (what != 3) = true := by simpa using hk.2.2.1
  rw [chk_yes ho] at HC
  have HC := Lib.hid HC
  have m0 : decide (1 ≤ what) = true := decide_eq_true c9
  have m1 : decide (what ≤ 4) = false := decide_eq_false (by omega)
  have g0 : (j.st == 1) = false := by simpa using c0
  have g1 : (j.st == 2) = false := by simpa using c1
  have g2 : (j.st == 3) = false := by simpa using c2
  clear h hn hk ho c9 c0 c1 c2
  go_enter Try.func8, Try.ntmps8
  go_wp2_with (refine load_jo rfl _ rfl V rfl j (.slice a n c) HHZ.out ?_)
  clear hV hX hG hZ
  refine HC.out.mono ?_
  rintro e w1 ⟨rfl, h1⟩
  have H1 : Hid (Below w.heap.size w w1 ∧ Has w1 V j (.slice a n c) ∧ Has w1 G zJ (.slice none 0 0) ∧ G < w1.heap.size) := Lib.hid ⟨below_then HN.out.2.2.1 h1, has_under HHZ.out h1, has_under HG.out h1, by have := h1.size; have := HN.out; omega⟩
  clear h1
  obtain ⟨U, Y0, hU, hY0, HYB, HHY⟩ := box_zero w1
  have H2 : Hid (Has Y0 V j (.slice a n c) ∧ Has Y0 G zJ (.slice none 0 0) ∧ Below w.heap.size w Y0 ∧ G < U ∧ V < U) := Lib.hid ⟨has_under H1.out.2.1 HYB.out.1, has_under H1.out.2.2.1 HYB.out.1, below_then H1.out.1 HYB.out.1, by have := H1.out.2.2.2; omega, by have := H1.out.2.2.2; have := HN.out; omega⟩
  have hn1 : ¬ V = U := by have := H2.out.2.2.2; omega
  have hn2 : ¬ U = V := by have := H2.out.2.2.2; omega
  have hn3 : ¬ G = U := by have := H2.out.2.2.2; omega
  have hn4 : ¬ U = G := by have := H2.out.2.2.2; omega
  have HCC : Hid (∀ Y, Has Y U j (.slice a n c) → Y0.grownBy Y (some U) → Has ((((Y.setCell ⟨U, 12, none⟩ (.int .i64 6)).setCell ⟨U, 13, none⟩ (.int .i64 0)).setCell ⟨U, 14, none⟩ (.int .i64 0)).setCell ⟨U, 15, none⟩ (.int .i64 0)) U { j with st := 6, sr := 0, en := 0, lf := 0 } (.slice a n c) ∧ Has ((((Y.setCell ⟨U, 12, none⟩ (.int .i64 6)).setCell ⟨U, 13, none⟩ (.int .i64 0)).setCell ⟨U, 14, none⟩ (.int .i64 0)).setCell ⟨U, 15, none⟩ (.int .i64 0)) G zJ (.slice none 0 0) ∧ Below w.heap.size w ((((Y.setCell ⟨U, 12, none⟩ (.int .i64 6)).setCell ⟨U, 13, none⟩ (.int .i64 0)).setCell ⟨U, 14, none⟩ (.int .i64 0)).setCell ⟨U, 15, none⟩ (.int .i64 0)) ∧ Has Y V j (.slice a n c)) := Lib.hid (fun Y hYU hg => by
    have HYU := Lib.hid hYU
    have hch : Y.grownBy ((((Y.setCell ⟨U, 12, none⟩ (.int .i64 6)).setCell ⟨U, 13, none⟩ (.int .i64 0)).setCell ⟨U, 14, none⟩ (.int .i64 0)).setCell ⟨U, 15, none⟩ (.int .i64 0)) (some U) := only_setCell (only_setCell (only_setCell (only_setCell (only_refl Y (some U)) _ _) _ _) _ _) _ _
    exact ⟨(set_lf (set_en (set_sr (set_st HYU.out 6) 0) 0) 0), has_by (has_by H2.out.2.1 hg hn4) hch hn4, below_of_only (below_of_only H2.out.2.2.1 (by have := HN.out; have := H2.out.2.2.2; omega) hg) (by have := HN.out; have := H2.out.2.2.2; omega) hch, has_by H2.out.1 hg hn2⟩)
  go_wp2_with (first
    | ((with_reducible show wpList _ _ _ _ _ w1); refine load_jo rfl _ rfl V rfl j (.slice a n c) H1.out.2.1 ?_)
    | ((with_reducible show wpList _ _ _ _ _ Y0); refine store_jo rfl _ _ rfl U rfl j a n c rfl zJ (.slice none 0 0) HHY.out ?_; intro Y hY1 hY2; have C3 := Lib.hid (HCC.out Y hY1 hY2); obtain ⟨u0, u1, u2, u3, u4, u5, u6, u7, u8, u9, u10, u11, u12, u13, u14, u15⟩ := jo_at hY1; obtain ⟨v0, v1, v2, v3, v4, v5, v6, v7, v8, v9, v10, v11, v12, v13, v14, v15⟩ := jo_free hY1; obtain ⟨y0, y1, y2, y3, y4, y5, y6, y7, y8, y9, y10, y11, y12, y13, y14, y15⟩ := jo_at C3.out.2.2.2; clear hY1 hY2)
    | ((with_reducible show wpList _ _ _ _ _ ((((Y.setCell ⟨U, 12, none⟩ (.int .i64 6)).setCell ⟨U, 13, none⟩ (.int .i64 0)).setCell ⟨U, 14, none⟩ (.int .i64 0)).setCell ⟨U, 15, none⟩ (.int .i64 0))); refine load_jo rfl _ rfl U rfl { j with st := 6, sr := 0, en := 0, lf := 0 } (.slice a n c) C3.out.1 ?_)
    | ((with_reducible show wpList _ _ _ _ _ ((((Y.setCell ⟨U, 12, none⟩ (.int .i64 6)).setCell ⟨U, 13, none⟩ (.int .i64 0)).setCell ⟨U, 14, none⟩ (.int .i64 0)).setCell ⟨U, 15, none⟩ (.int .i64 0))); refine store_jo rfl _ _ rfl G rfl zJ none 0 0 rfl zJ (.slice none 0 0) C3.out.2.1 ?_; intro w5 h5 g5))
  exact ret_jo2 (x := zJ) (v := .slice none 0 0) rfl rfl rfl rfl h5 ⟨rfl, Lib.hid (below_of_only C3.out.2.2.1 (by have := HN.out; omega) g5)⟩
set_option maxRecDepth 100000 in
set_option maxHeartbeats 16000000 in
theorem ddo_cancel_yes0b (what now : Int) (j : JS) (a : Option Addr) (n c : Nat) (w : World) (h : JIn w a n j.s) (hn : n ≤ 1024) (hk : ¬ what = 1 ∧ ¬ what = 2 ∧ ¬ what = 3 ∧ ¬ what = 4 ∧ ¬ what = 5) (ho : Ok j) (c9 : ¬ 1 ≤ what) (c0 : j.st = 1) : Calls Try.prog 8 #[jV j (.slice a n c), .int .i64 what, .int .i64 now] w fun e w' => e = .returned (.tuple #[jV { j with st := 6, sr := 0, en := 0, lf := 0 } (.slice a n c), .int .i64 0]) ∧ Hid (JIn w' a n j.s ∧ Below w.heap.size w w') := by
  obtain ⟨V, X, hV, hX, HXB, HH⟩ := box_jo w j (.slice a n c)
  obtain ⟨G, Z, hG, hZ, HZB, HG⟩ := box_zero X
  have HN : Hid (w.heap.size = V ∧ G = V + 1 ∧ Below w.heap.size w Z ∧ Z.heap.size = G + 1) := Lib.hid ⟨hV, by have := HXB.out.2; omega, below_then HXB.out.1 HZB.out.1, HZB.out.2⟩
  have HHZ : Hid (Has Z V j (.slice a n c)) := Lib.hid (has_under HH.out HZB.out.1)
  have HJ : Hid (∀ W, Below w.heap.size w W → JIn W a n j.s) := Lib.hid fun W hW => h.under hW
  have HC := dcheck j a n c Z (h.under HN.out.2.2.1) hn
  have n1 : (what == 1) = false := by simpa using hk.1
  have n2 : (what == 2) = false := by simpa using hk.2.1
  have n3 : (what == 3) = false := by simpa using hk.2.2.1
  have n4 : (what == 4) = false := by simpa using hk.2.2.2.1
  have n5 : (what == 5) = false := by simpa using hk.2.2.2.2
  have n6 : (what != 3) = true := by simpa using hk.2.2.1
  rw [chk_yes ho] at HC
  have HC := Lib.hid HC
  have m0 : decide (1 ≤ what) = false := decide_eq_false c9
  have g0 : (j.st == 1) = true := by simpa using c0
  clear h hn hk ho c9 c0
  go_enter Try.func8, Try.ntmps8
  go_wp2_with (refine load_jo rfl _ rfl V rfl j (.slice a n c) HHZ.out ?_)
  clear hV hX hG hZ
  refine HC.out.mono ?_
  rintro e w1 ⟨rfl, h1⟩
  have H1 : Hid (Below w.heap.size w w1 ∧ Has w1 V j (.slice a n c) ∧ Has w1 G zJ (.slice none 0 0) ∧ G < w1.heap.size) := Lib.hid ⟨below_then HN.out.2.2.1 h1, has_under HHZ.out h1, has_under HG.out h1, by have := h1.size; have := HN.out; omega⟩
  clear h1
  obtain ⟨U, Y0, hU, hY0, HYB, HHY⟩ := box_zero w1
  have H2 : Hid (Has Y0 V j (.slice a n c) ∧ Has Y0 G zJ (.slice none 0 0) ∧ Below w.heap.size w Y0 ∧ G < U ∧ V < U) := Lib.hid ⟨has_under H1.out.2.1 HYB.out.1, has_under H1.out.2.2.1 HYB.out.1, below_then H1.out.1 HYB.out.1, by have := H1.out.2.2.2; omega, by have := H1.out.2.2.2; have := HN.out; omega⟩
  have hn1 : ¬ V = U := by have := H2.out.2.2.2; omega
  have hn2 : ¬ U = V := by have := H2.out.2.2.2; omega
  have hn3 : ¬ G = U := by have := H2.out.2.2.2; omega
  have hn4 : ¬ U = G := by have := H2.out.2.2.2; omega
  have HCC : Hid (∀ Y, Has Y U j (.slice a n c) → Y0.grownBy Y (some U) → Has ((((Y.setCell ⟨U, 12, none⟩ (.int .i64 6)).setCell ⟨U, 13, none⟩ (.int .i64 0)).setCell ⟨U, 14, none⟩ (.int .i64 0)).setCell ⟨U, 15, none⟩ (.int .i64 0)) U { j with st := 6, sr := 0, en := 0, lf := 0 } (.slice a n c) ∧ Has ((((Y.setCell ⟨U, 12, none⟩ (.int .i64 6)).setCell ⟨U, 13, none⟩ (.int .i64 0)).setCell ⟨U, 14, none⟩ (.int .i64 0)).setCell ⟨U, 15, none⟩ (.int .i64 0)) G zJ (.slice none 0 0) ∧ Below w.heap.size w ((((Y.setCell ⟨U, 12, none⟩ (.int .i64 6)).setCell ⟨U, 13, none⟩ (.int .i64 0)).setCell ⟨U, 14, none⟩ (.int .i64 0)).setCell ⟨U, 15, none⟩ (.int .i64 0)) ∧ Has Y V j (.slice a n c)) := Lib.hid (fun Y hYU hg => by
    have HYU := Lib.hid hYU
    have hch : Y.grownBy ((((Y.setCell ⟨U, 12, none⟩ (.int .i64 6)).setCell ⟨U, 13, none⟩ (.int .i64 0)).setCell ⟨U, 14, none⟩ (.int .i64 0)).setCell ⟨U, 15, none⟩ (.int .i64 0)) (some U) := only_setCell (only_setCell (only_setCell (only_setCell (only_refl Y (some U)) _ _) _ _) _ _) _ _
    exact ⟨(set_lf (set_en (set_sr (set_st HYU.out 6) 0) 0) 0), has_by (has_by H2.out.2.1 hg hn4) hch hn4, below_of_only (below_of_only H2.out.2.2.1 (by have := HN.out; have := H2.out.2.2.2; omega) hg) (by have := HN.out; have := H2.out.2.2.2; omega) hch, has_by H2.out.1 hg hn2⟩)
  go_wp2_with (first
    | ((with_reducible show wpList _ _ _ _ _ w1); refine load_jo rfl _ rfl V rfl j (.slice a n c) H1.out.2.1 ?_)
    | ((with_reducible show wpList _ _ _ _ _ Y0); refine store_jo rfl _ _ rfl U rfl j a n c rfl zJ (.slice none 0 0) HHY.out ?_; intro Y hY1 hY2; have C3 := Lib.hid (HCC.out Y hY1 hY2); obtain ⟨u0, u1, u2, u3, u4, u5, u6, u7, u8, u9, u10, u11, u12, u13, u14, u15⟩ := jo_at hY1; obtain ⟨v0, v1, v2, v3, v4, v5, v6, v7, v8, v9, v10, v11, v12, v13, v14, v15⟩ := jo_free hY1; obtain ⟨y0, y1, y2, y3, y4, y5, y6, y7, y8, y9, y10, y11, y12, y13, y14, y15⟩ := jo_at C3.out.2.2.2; clear hY1 hY2)
    | ((with_reducible show wpList _ _ _ _ _ ((((Y.setCell ⟨U, 12, none⟩ (.int .i64 6)).setCell ⟨U, 13, none⟩ (.int .i64 0)).setCell ⟨U, 14, none⟩ (.int .i64 0)).setCell ⟨U, 15, none⟩ (.int .i64 0))); refine load_jo rfl _ rfl U rfl { j with st := 6, sr := 0, en := 0, lf := 0 } (.slice a n c) C3.out.1 ?_)
    | ((with_reducible show wpList _ _ _ _ _ ((((Y.setCell ⟨U, 12, none⟩ (.int .i64 6)).setCell ⟨U, 13, none⟩ (.int .i64 0)).setCell ⟨U, 14, none⟩ (.int .i64 0)).setCell ⟨U, 15, none⟩ (.int .i64 0))); refine store_jo rfl _ _ rfl G rfl { j with st := 6, sr := 0, en := 0, lf := 0 } a n c rfl zJ (.slice none 0 0) C3.out.2.1 ?_; intro w5 h5 g5))
  exact ret_jo2 (x := { j with st := 6, sr := 0, en := 0, lf := 0 }) (v := .slice a n c) rfl rfl rfl rfl h5 ⟨rfl, Lib.hid ⟨HJ.out _ (below_of_only C3.out.2.2.1 (by have := HN.out; omega) g5), below_of_only C3.out.2.2.1 (by have := HN.out; omega) g5⟩⟩
set_option maxRecDepth 100000 in
set_option maxHeartbeats 16000000 in
theorem ddo_cancel_yes1b (what now : Int) (j : JS) (a : Option Addr) (n c : Nat) (w : World) (h : JIn w a n j.s) (hn : n ≤ 1024) (hk : ¬ what = 1 ∧ ¬ what = 2 ∧ ¬ what = 3 ∧ ¬ what = 4 ∧ ¬ what = 5) (ho : Ok j) (c9 : ¬ 1 ≤ what) (c0 : ¬ j.st = 1) (c1 : j.st = 2) : Calls Try.prog 8 #[jV j (.slice a n c), .int .i64 what, .int .i64 now] w fun e w' => e = .returned (.tuple #[jV { j with st := 6, sr := 0, en := 0, lf := 0 } (.slice a n c), .int .i64 0]) ∧ Hid (JIn w' a n j.s ∧ Below w.heap.size w w') := by
  obtain ⟨V, X, hV, hX, HXB, HH⟩ := box_jo w j (.slice a n c)
  obtain ⟨G, Z, hG, hZ, HZB, HG⟩ := box_zero X
  have HN : Hid (w.heap.size = V ∧ G = V + 1 ∧ Below w.heap.size w Z ∧ Z.heap.size = G + 1) := Lib.hid ⟨hV, by have := HXB.out.2; omega, below_then HXB.out.1 HZB.out.1, HZB.out.2⟩
  have HHZ : Hid (Has Z V j (.slice a n c)) := Lib.hid (has_under HH.out HZB.out.1)
  have HJ : Hid (∀ W, Below w.heap.size w W → JIn W a n j.s) := Lib.hid fun W hW => h.under hW
  have HC := dcheck j a n c Z (h.under HN.out.2.2.1) hn
  have n1 : (what == 1) = false := by simpa using hk.1
  have n2 : (what == 2) = false := by simpa using hk.2.1
  have n3 : (what == 3) = false := by simpa using hk.2.2.1
  have n4 : (what == 4) = false := by simpa using hk.2.2.2.1
  have n5 : (what == 5) = false := by simpa using hk.2.2.2.2
  have n6 : (what != 3) = true := by simpa using hk.2.2.1
  rw [chk_yes ho] at HC
  have HC := Lib.hid HC
  have m0 : decide (1 ≤ what) = false := decide_eq_false c9
  have g0 : (j.st == 1) = false := by simpa using c0
  have g1 : (j.st == 2) = true := by simpa using c1
  clear h hn hk ho c9 c0 c1
  go_enter Try.func8, Try.ntmps8
  go_wp2_with (refine load_jo rfl _ rfl V rfl j (.slice a n c) HHZ.out ?_)
  clear hV hX hG hZ
  refine HC.out.mono ?_
  rintro e w1 ⟨rfl, h1⟩
  have H1 : Hid (Below w.heap.size w w1 ∧ Has w1 V j (.slice a n c) ∧ Has w1 G zJ (.slice none 0 0) ∧ G < w1.heap.size) := Lib.hid ⟨below_then HN.out.2.2.1 h1, has_under HHZ.out h1, has_under HG.out h1, by have := h1.size; have := HN.out; omega⟩
  clear h1
  obtain ⟨U, Y0, hU, hY0, HYB, HHY⟩ := box_zero w1
  have H2 : Hid (Has Y0 V j (.slice a n c) ∧ Has Y0 G zJ (.slice none 0 0) ∧ Below w.heap.size w Y0 ∧ G < U ∧ V < U) := Lib.hid ⟨has_under H1.out.2.1 HYB.out.1, has_under H1.out.2.2.1 HYB.out.1, below_then H1.out.1 HYB.out.1, by have := H1.out.2.2.2; omega, by have := H1.out.2.2.2; have := HN.out; omega⟩
  have hn1 : ¬ V = U := by have := H2.out.2.2.2; omega
  have hn2 : ¬ U = V := by have := H2.out.2.2.2; omega
  have hn3 : ¬ G = U := by have := H2.out.2.2.2; omega
  have hn4 : ¬ U = G := by have := H2.out.2.2.2; omega
  have HCC : Hid (∀ Y, Has Y U j (.slice a n c) → Y0.grownBy Y (some U) → Has ((((Y.setCell ⟨U, 12, none⟩ (.int .i64 6)).setCell ⟨U, 13, none⟩ (.int .i64 0)).setCell ⟨U, 14, none⟩ (.int .i64 0)).setCell ⟨U, 15, none⟩ (.int .i64 0)) U { j with st := 6, sr := 0, en := 0, lf := 0 } (.slice a n c) ∧ Has ((((Y.setCell ⟨U, 12, none⟩ (.int .i64 6)).setCell ⟨U, 13, none⟩ (.int .i64 0)).setCell ⟨U, 14, none⟩ (.int .i64 0)).setCell ⟨U, 15, none⟩ (.int .i64 0)) G zJ (.slice none 0 0) ∧ Below w.heap.size w ((((Y.setCell ⟨U, 12, none⟩ (.int .i64 6)).setCell ⟨U, 13, none⟩ (.int .i64 0)).setCell ⟨U, 14, none⟩ (.int .i64 0)).setCell ⟨U, 15, none⟩ (.int .i64 0)) ∧ Has Y V j (.slice a n c)) := Lib.hid (fun Y hYU hg => by
    have HYU := Lib.hid hYU
    have hch : Y.grownBy ((((Y.setCell ⟨U, 12, none⟩ (.int .i64 6)).setCell ⟨U, 13, none⟩ (.int .i64 0)).setCell ⟨U, 14, none⟩ (.int .i64 0)).setCell ⟨U, 15, none⟩ (.int .i64 0)) (some U) := only_setCell (only_setCell (only_setCell (only_setCell (only_refl Y (some U)) _ _) _ _) _ _) _ _
    exact ⟨(set_lf (set_en (set_sr (set_st HYU.out 6) 0) 0) 0), has_by (has_by H2.out.2.1 hg hn4) hch hn4, below_of_only (below_of_only H2.out.2.2.1 (by have := HN.out; have := H2.out.2.2.2; omega) hg) (by have := HN.out; have := H2.out.2.2.2; omega) hch, has_by H2.out.1 hg hn2⟩)
  go_wp2_with (first
    | ((with_reducible show wpList _ _ _ _ _ w1); refine load_jo rfl _ rfl V rfl j (.slice a n c) H1.out.2.1 ?_)
    | ((with_reducible show wpList _ _ _ _ _ Y0); refine store_jo rfl _ _ rfl U rfl j a n c rfl zJ (.slice none 0 0) HHY.out ?_; intro Y hY1 hY2; have C3 := Lib.hid (HCC.out Y hY1 hY2); obtain ⟨u0, u1, u2, u3, u4, u5, u6, u7, u8, u9, u10, u11, u12, u13, u14, u15⟩ := jo_at hY1; obtain ⟨v0, v1, v2, v3, v4, v5, v6, v7, v8, v9, v10, v11, v12, v13, v14, v15⟩ := jo_free hY1; obtain ⟨y0, y1, y2, y3, y4, y5, y6, y7, y8, y9, y10, y11, y12, y13, y14, y15⟩ := jo_at C3.out.2.2.2; clear hY1 hY2)
    | ((with_reducible show wpList _ _ _ _ _ ((((Y.setCell ⟨U, 12, none⟩ (.int .i64 6)).setCell ⟨U, 13, none⟩ (.int .i64 0)).setCell ⟨U, 14, none⟩ (.int .i64 0)).setCell ⟨U, 15, none⟩ (.int .i64 0))); refine load_jo rfl _ rfl U rfl { j with st := 6, sr := 0, en := 0, lf := 0 } (.slice a n c) C3.out.1 ?_)
    | ((with_reducible show wpList _ _ _ _ _ ((((Y.setCell ⟨U, 12, none⟩ (.int .i64 6)).setCell ⟨U, 13, none⟩ (.int .i64 0)).setCell ⟨U, 14, none⟩ (.int .i64 0)).setCell ⟨U, 15, none⟩ (.int .i64 0))); refine store_jo rfl _ _ rfl G rfl { j with st := 6, sr := 0, en := 0, lf := 0 } a n c rfl zJ (.slice none 0 0) C3.out.2.1 ?_; intro w5 h5 g5))
  exact ret_jo2 (x := { j with st := 6, sr := 0, en := 0, lf := 0 }) (v := .slice a n c) rfl rfl rfl rfl h5 ⟨rfl, Lib.hid ⟨HJ.out _ (below_of_only C3.out.2.2.1 (by have := HN.out; omega) g5), below_of_only C3.out.2.2.1 (by have := HN.out; omega) g5⟩⟩
set_option maxRecDepth 100000 in
set_option maxHeartbeats 16000000 in
theorem ddo_cancel_yes2b (what now : Int) (j : JS) (a : Option Addr) (n c : Nat) (w : World) (h : JIn w a n j.s) (hn : n ≤ 1024) (hk : ¬ what = 1 ∧ ¬ what = 2 ∧ ¬ what = 3 ∧ ¬ what = 4 ∧ ¬ what = 5) (ho : Ok j) (c9 : ¬ 1 ≤ what) (c0 : ¬ j.st = 1) (c1 : ¬ j.st = 2) (c2 : j.st = 3) : Calls Try.prog 8 #[jV j (.slice a n c), .int .i64 what, .int .i64 now] w fun e w' => e = .returned (.tuple #[jV { j with st := 6, sr := 0, en := 0, lf := 0 } (.slice a n c), .int .i64 0]) ∧ Hid (JIn w' a n j.s ∧ Below w.heap.size w w') := by
  obtain ⟨V, X, hV, hX, HXB, HH⟩ := box_jo w j (.slice a n c)
  obtain ⟨G, Z, hG, hZ, HZB, HG⟩ := box_zero X
  have HN : Hid (w.heap.size = V ∧ G = V + 1 ∧ Below w.heap.size w Z ∧ Z.heap.size = G + 1) := Lib.hid ⟨hV, by have := HXB.out.2; omega, below_then HXB.out.1 HZB.out.1, HZB.out.2⟩
  have HHZ : Hid (Has Z V j (.slice a n c)) := Lib.hid (has_under HH.out HZB.out.1)
  have HJ : Hid (∀ W, Below w.heap.size w W → JIn W a n j.s) := Lib.hid fun W hW => h.under hW
  have HC := dcheck j a n c Z (h.under HN.out.2.2.1) hn
  have n1 : (what == 1) = false := by simpa using hk.1
  have n2 : (what == 2) = false := by simpa using hk.2.1
  have n3 : (what == 3) = false := by simpa using hk.2.2.1
  have n4 : (what == 4) = false := by simpa using hk.2.2.2.1
  have n5 : (what == 5) = false := by simpa using hk.2.2.2.2
  have n6 : (what != 3) = true := by simpa using hk.2.2.1
  rw [chk_yes ho] at HC
  have HC := Lib.hid HC
  have m0 : decide (1 ≤ what) = false := decide_eq_false c9
  have g0 : (j.st == 1) = false := by simpa using c0
  have g1 : (j.st == 2) = false := by simpa using c1
  have g2 : (j.st == 3) = true := by simpa using c2
  clear h hn hk ho c9 c0 c1 c2
  go_enter Try.func8, Try.ntmps8
  go_wp2_with (refine load_jo rfl _ rfl V rfl j (.slice a n c) HHZ.out ?_)
  clear hV hX hG hZ
  refine HC.out.mono ?_
  rintro e w1 ⟨rfl, h1⟩
  have H1 : Hid (Below w.heap.size w w1 ∧ Has w1 V j (.slice a n c) ∧ Has w1 G zJ (.slice none 0 0) ∧ G < w1.heap.size) := Lib.hid ⟨below_then HN.out.2.2.1 h1, has_under HHZ.out h1, has_under HG.out h1, by have := h1.size; have := HN.out; omega⟩
  clear h1
  obtain ⟨U, Y0, hU, hY0, HYB, HHY⟩ := box_zero w1
  have H2 : Hid (Has Y0 V j (.slice a n c) ∧ Has Y0 G zJ (.slice none 0 0) ∧ Below w.heap.size w Y0 ∧ G < U ∧ V < U) := Lib.hid ⟨has_under H1.out.2.1 HYB.out.1, has_under H1.out.2.2.1 HYB.out.1, below_then H1.out.1 HYB.out.1, by have := H1.out.2.2.2; omega, by have := H1.out.2.2.2; have := HN.out; omega⟩
  have hn1 : ¬ V = U := by have := H2.out.2.2.2; omega
  have hn2 : ¬ U = V := by have := H2.out.2.2.2; omega
  have hn3 : ¬ G = U := by have := H2.out.2.2.2; omega
  have hn4 : ¬ U = G := by have := H2.out.2.2.2; omega
  have HCC : Hid (∀ Y, Has Y U j (.slice a n c) → Y0.grownBy Y (some U) → Has ((((Y.setCell ⟨U, 12, none⟩ (.int .i64 6)).setCell ⟨U, 13, none⟩ (.int .i64 0)).setCell ⟨U, 14, none⟩ (.int .i64 0)).setCell ⟨U, 15, none⟩ (.int .i64 0)) U { j with st := 6, sr := 0, en := 0, lf := 0 } (.slice a n c) ∧ Has ((((Y.setCell ⟨U, 12, none⟩ (.int .i64 6)).setCell ⟨U, 13, none⟩ (.int .i64 0)).setCell ⟨U, 14, none⟩ (.int .i64 0)).setCell ⟨U, 15, none⟩ (.int .i64 0)) G zJ (.slice none 0 0) ∧ Below w.heap.size w ((((Y.setCell ⟨U, 12, none⟩ (.int .i64 6)).setCell ⟨U, 13, none⟩ (.int .i64 0)).setCell ⟨U, 14, none⟩ (.int .i64 0)).setCell ⟨U, 15, none⟩ (.int .i64 0)) ∧ Has Y V j (.slice a n c)) := Lib.hid (fun Y hYU hg => by
    have HYU := Lib.hid hYU
    have hch : Y.grownBy ((((Y.setCell ⟨U, 12, none⟩ (.int .i64 6)).setCell ⟨U, 13, none⟩ (.int .i64 0)).setCell ⟨U, 14, none⟩ (.int .i64 0)).setCell ⟨U, 15, none⟩ (.int .i64 0)) (some U) := only_setCell (only_setCell (only_setCell (only_setCell (only_refl Y (some U)) _ _) _ _) _ _) _ _
    exact ⟨(set_lf (set_en (set_sr (set_st HYU.out 6) 0) 0) 0), has_by (has_by H2.out.2.1 hg hn4) hch hn4, below_of_only (below_of_only H2.out.2.2.1 (by have := HN.out; have := H2.out.2.2.2; omega) hg) (by have := HN.out; have := H2.out.2.2.2; omega) hch, has_by H2.out.1 hg hn2⟩)
  go_wp2_with (first
    | ((with_reducible show wpList _ _ _ _ _ w1); refine load_jo rfl _ rfl V rfl j (.slice a n c) H1.out.2.1 ?_)
    | ((with_reducible show wpList _ _ _ _ _ Y0); refine store_jo rfl _ _ rfl U rfl j a n c rfl zJ (.slice none 0 0) HHY.out ?_; intro Y hY1 hY2; have C3 := Lib.hid (HCC.out Y hY1 hY2); obtain ⟨u0, u1, u2, u3, u4, u5, u6, u7, u8, u9, u10, u11, u12, u13, u14, u15⟩ := jo_at hY1; obtain ⟨v0, v1, v2, v3, v4, v5, v6, v7, v8, v9, v10, v11, v12, v13, v14, v15⟩ := jo_free hY1; obtain ⟨y0, y1, y2, y3, y4, y5, y6, y7, y8, y9, y10, y11, y12, y13, y14, y15⟩ := jo_at C3.out.2.2.2; clear hY1 hY2)
    | ((with_reducible show wpList _ _ _ _ _ ((((Y.setCell ⟨U, 12, none⟩ (.int .i64 6)).setCell ⟨U, 13, none⟩ (.int .i64 0)).setCell ⟨U, 14, none⟩ (.int .i64 0)).setCell ⟨U, 15, none⟩ (.int .i64 0))); refine load_jo rfl _ rfl U rfl { j with st := 6, sr := 0, en := 0, lf := 0 } (.slice a n c) C3.out.1 ?_)
    | ((with_reducible show wpList _ _ _ _ _ ((((Y.setCell ⟨U, 12, none⟩ (.int .i64 6)).setCell ⟨U, 13, none⟩ (.int .i64 0)).setCell ⟨U, 14, none⟩ (.int .i64 0)).setCell ⟨U, 15, none⟩ (.int .i64 0))); refine store_jo rfl _ _ rfl G rfl { j with st := 6, sr := 0, en := 0, lf := 0 } a n c rfl zJ (.slice none 0 0) C3.out.2.1 ?_; intro w5 h5 g5))
  exact ret_jo2 (x := { j with st := 6, sr := 0, en := 0, lf := 0 }) (v := .slice a n c) rfl rfl rfl rfl h5 ⟨rfl, Lib.hid ⟨HJ.out _ (below_of_only C3.out.2.2.1 (by have := HN.out; omega) g5), below_of_only C3.out.2.2.1 (by have := HN.out; omega) g5⟩⟩
end Go.Proofs.Ytghlgmlelipjfaa.Job
