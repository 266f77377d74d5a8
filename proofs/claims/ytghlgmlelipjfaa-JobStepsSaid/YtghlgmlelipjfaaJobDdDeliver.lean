/- The document's Do: Deliver. -/
import Derived.Test.YtghlgmlelipjfaaJobDB
import Derived.Test.YtghlgmlelipjfaaJobImE
namespace Go.Proofs.Ytghlgmlelipjfaa.Job
open Go.RowKit Go.Lib
open Goods (St Sts OwnS)
open Im (set_st set_sr set_en set_lf)

set_option maxRecDepth 100000 in
set_option maxHeartbeats 16000000 in
theorem ddo_deliver_bad (now : Int) (j : JS) (a : Option Addr) (n c : Nat) (w : World) (h : JIn w a n j.s) (hn : n ≤ 1024) (ho : ¬ Ok j) : Calls Try.prog 8 #[jV j (.slice a n c), .int .i64 5, .int .i64 now] w fun e w' => e = .returned (.tuple #[jV zJ (.slice none 0 0), .int .i64 1]) ∧ Hid (Below w.heap.size w w') := by
  obtain ⟨V, X, hV, hX, HXB, HH⟩ := box_jo w j (.slice a n c)
  obtain ⟨G, Z, hG, hZ, HZB, HG⟩ := box_zero X
  have HN : Hid (w.heap.size = V ∧ G = V + 1 ∧ Below w.heap.size w Z ∧ Z.heap.size = G + 1) := Lib.hid ⟨hV, by have := HXB.out.2; omega, below_then HXB.out.1 HZB.out.1, HZB.out.2⟩
  have HHZ : Hid (Has Z V j (.slice a n c)) := Lib.hid (has_under HH.out HZB.out.1)
  have HJ : Hid (∀ W, Below w.heap.size w W → JIn W a n j.s) := Lib.hid fun W hW => h.under hW
  have HC := dcheck j a n c Z (h.under HN.out.2.2.1) hn
  rw [chk_no ho] at HC
  have HC := Lib.hid HC
  clear h hn ho
  go_enter Try.func8, Try.ntmps8
  go_wp2_with (refine load_jo rfl _ rfl V rfl j (.slice a n c) HHZ.out ?_)
  clear hV hX hG hZ
  refine HC.out.mono ?_
  rintro e w1 ⟨rfl, h1⟩
  have HG1 : Hid (Has w1 G zJ (.slice none 0 0) ∧ Below w.heap.size w w1) := Lib.hid ⟨has_under HG.out h1, below_then HN.out.2.2.1 h1⟩
  clear h1
  go_wp2_with (refine store_jo rfl _ _ rfl G rfl zJ none 0 0 rfl zJ (.slice none 0 0) HG1.out.1 ?_; intro w5 h5 g5)
  exact ret_jo2 (x := zJ) (v := .slice none 0 0) rfl rfl rfl rfl h5 ⟨rfl, Lib.hid (below_of_only HG1.out.2 (by have := HN.out; omega) g5)⟩
set_option maxRecDepth 100000 in
set_option maxHeartbeats 16000000 in
theorem ddo_deliver_yes (now : Int) (j : JS) (a : Option Addr) (n c : Nat) (w : World) (h : JIn w a n j.s) (hn : n ≤ 1024) (ho : Ok j) (c0 : j.st = 4) : Calls Try.prog 8 #[jV j (.slice a n c), .int .i64 5, .int .i64 now] w fun e w' => e = .returned (.tuple #[jV { j with st := 5 } (.slice a n c), .int .i64 0]) ∧ Hid (JIn w' a n j.s ∧ Below w.heap.size w w') := by
  obtain ⟨V, X, hV, hX, HXB, HH⟩ := box_jo w j (.slice a n c)
  obtain ⟨G, Z, hG, hZ, HZB, HG⟩ := box_zero X
  have HN : Hid (w.heap.size = V ∧ G = V + 1 ∧ Below w.heap.size w Z ∧ Z.heap.size = G + 1) := Lib.hid ⟨hV, by have := HXB.out.2; omega, below_then HXB.out.1 HZB.out.1, HZB.out.2⟩
  have HHZ : Hid (Has Z V j (.slice a n c)) := Lib.hid (has_under HH.out HZB.out.1)
  have HJ : Hid (∀ W, Below w.heap.size w W → JIn W a n j.s) := Lib.hid fun W hW => h.under hW
  have HC := dcheck j a n c Z (h.under HN.out.2.2.1) hn
  rw [chk_yes ho] at HC
  have HC := Lib.hid HC
  have g0 : (j.st == 4) = true := by simpa using c0
  clear h hn ho c0
  go_enter Try.func8, Try.ntmps8
  go_wp2_with (refine load_jo rfl _ rfl V rfl j (.slice a n c) HHZ.out ?_)
  clear hV hX hG hZ
  refine HC.out.mono ?_
  rintro e w1 ⟨rfl, h1⟩
  have H1 : Hid (Below w.heap.size w w1 ∧ Has w1 V j (.slice a n c) ∧ Has w1 G zJ (.slice none 0 0) ∧ G < w1.heap.size) := Lib.hid ⟨below_then HN.out.2.2.1 h1, has_under HHZ.out h1, has_under HG.out h1, by have := h1.size; have := HN.out; omega⟩
  clear h1
  obtain ⟨U, Y0, hU, hY0, HYB, HHY⟩ := box_zero w1
  have H2 : Hid (Has Y0 V j (.slice a n c) ∧ Has Y0 G zJ (.slice none 0 0) ∧ Below w.heap.size w Y0 ∧ G < U ∧ V < U) := Lib.hid ⟨has_under H1.out.2.1 HYB.out.1, has_under H1.out.2.2.1 HYB.out.1, below_then H1.out.1 HYB.out.1, by have := H1.out.2.2.2; omega, by have := H1.out.2.2.2; have := HN.out; omega⟩
  have hn1 : ¬ V = U := by have := H2.out.2.2.2; omega
  have hn2 : ¬ U = V := by have := H2.out.2.2.2; omega
  have hn3 : ¬ G = U := by have := H2.out.2.2.2; omega
  have hn4 : ¬ U = G := by have := H2.out.2.2.2; omega
  have HCC : Hid (∀ Y, Has Y U j (.slice a n c) → Y0.grownBy Y (some U) → Has (Y.setCell ⟨U, 12, none⟩ (.int .i64 5)) U { j with st := 5 } (.slice a n c) ∧ Has (Y.setCell ⟨U, 12, none⟩ (.int .i64 5)) G zJ (.slice none 0 0) ∧ Below w.heap.size w (Y.setCell ⟨U, 12, none⟩ (.int .i64 5)) ∧ Has Y V j (.slice a n c)) := Lib.hid (fun Y hYU hg => by
    have HYU := Lib.hid hYU
    have hch : Y.grownBy (Y.setCell ⟨U, 12, none⟩ (.int .i64 5)) (some U) := only_setCell (only_refl Y (some U)) _ _
    exact ⟨(set_st HYU.out 5), has_by (has_by H2.out.2.1 hg hn4) hch hn4, below_of_only (below_of_only H2.out.2.2.1 (by have := HN.out; have := H2.out.2.2.2; omega) hg) (by have := HN.out; have := H2.out.2.2.2; omega) hch, has_by H2.out.1 hg hn2⟩)
  go_wp2_with (first
    | ((with_reducible show wpList _ _ _ _ _ w1); refine load_jo rfl _ rfl V rfl j (.slice a n c) H1.out.2.1 ?_)
    | ((with_reducible show wpList _ _ _ _ _ Y0); refine store_jo rfl _ _ rfl U rfl j a n c rfl zJ (.slice none 0 0) HHY.out ?_; intro Y hY1 hY2; have C3 := Lib.hid (HCC.out Y hY1 hY2); obtain ⟨u0, u1, u2, u3, u4, u5, u6, u7, u8, u9, u10, u11, u12, u13, u14, u15⟩ := jo_at hY1; obtain ⟨v0, v1, v2, v3, v4, v5, v6, v7, v8, v9, v10, v11, v12, v13, v14, v15⟩ := jo_free hY1; obtain ⟨y0, y1, y2, y3, y4, y5, y6, y7, y8, y9, y10, y11, y12, y13, y14, y15⟩ := jo_at C3.out.2.2.2; clear hY1 hY2)
    | ((with_reducible show wpList _ _ _ _ _ (Y.setCell ⟨U, 12, none⟩ (.int .i64 5))); refine load_jo rfl _ rfl U rfl { j with st := 5 } (.slice a n c) C3.out.1 ?_)
    | ((with_reducible show wpList _ _ _ _ _ (Y.setCell ⟨U, 12, none⟩ (.int .i64 5))); refine store_jo rfl _ _ rfl G rfl { j with st := 5 } a n c rfl zJ (.slice none 0 0) C3.out.2.1 ?_; intro w5 h5 g5))
  exact ret_jo2 (x := { j with st := 5 }) (v := .slice a n c) rfl rfl rfl rfl h5 ⟨rfl, Lib.hid ⟨HJ.out _ (below_of_only C3.out.2.2.1 (by have := HN.out; omega) g5), below_of_only C3.out.2.2.1 (by have := HN.out; omega) g5⟩⟩
set_option maxRecDepth 100000 in
set_option maxHeartbeats 16000000 in
theorem ddo_deliver_no0 (now : Int) (j : JS) (a : Option Addr) (n c : Nat) (w : World) (h : JIn w a n j.s) (hn : n ≤ 1024) (ho : Ok j) (c0 : ¬ j.st = 4) : Calls Try.prog 8 #[jV j (.slice a n c), .int .i64 5, .int .i64 now] w fun e w' => e = .returned (.tuple #[jV zJ (.slice none 0 0), .int .i64 9]) ∧ Hid (Below w.heap.size w w') := by
  obtain ⟨V, X, hV, hX, HXB, HH⟩ := box_jo w j (.slice a n c)
  obtain ⟨G, Z, hG, hZ, HZB, HG⟩ := box_zero X
  have HN : Hid (w.heap.size = V ∧ G = V + 1 ∧ Below w.heap.size w Z ∧ Z.heap.size = G + 1) := Lib.hid ⟨hV, by have := HXB.out.2; omega, below_then HXB.out.1 HZB.out.1, HZB.out.2⟩
  have HHZ : Hid (Has Z V j (.slice a n c)) := Lib.hid (has_under HH.out HZB.out.1)
  have HJ : Hid (∀ W, Below w.heap.size w W → JIn W a n j.s) := Lib.hid fun W hW => h.under hW
  have HC := dcheck j a n c Z (h.under HN.out.2.2.1) hn
  rw [chk_yes ho] at HC
  have HC := Lib.hid HC
  have g0 : (j.st == 4) = false := by simpa using c0
  clear h hn ho c0
  go_enter Try.func8, Try.ntmps8
  go_wp2_with (refine load_jo rfl _ rfl V rfl j (.slice a n c) HHZ.out ?_)
  clear hV hX hG hZ
  refine HC.out.mono ?_
  rintro e w1 ⟨rfl, h1⟩
  have H1 : Hid (Below w.heap.size w w1 ∧ Has w1 V j (.slice a n c) ∧ Has w1 G zJ (.slice none 0 0) ∧ G < w1.heap.size) := Lib.hid ⟨below_then HN.out.2.2.1 h1, has_under HHZ.out h1, has_under HG.out h1, by have := h1.size; have := HN.out; omega⟩
  clear h1
  obtain ⟨U, Y0, hU, hY0, HYB, HHY⟩ := box_zero w1
  have H2 : Hid (Has Y0 V j (.slice a n c) ∧ Has Y0 G zJ (.slice none 0 0) ∧ Below w.heap.size w Y0 ∧ G < U ∧ V < U) := Lib.hid ⟨has_under H1.out.2.1 HYB.out.1, has_under H1.out.2.2.1 HYB.out.1, below_then H1.out.1 HYB.out.1, by have := H1.out.2.2.2; omega, by have := H1.out.2.2.2; have := HN.out; omega⟩
  have hn1 : ¬ V = U := by have := H2.out.2.2.2; omega
  have hn2 : ¬ U = V := by have := H2.out.2.2.2; omega
  have hn3 : ¬ G = U := by have := H2.out.2.2.2; omega
  have hn4 : ¬ U = G := by have := H2.out.2.2.2; omega
  have HCC : Hid (∀ Y, Has Y U j (.slice a n c) → Y0.grownBy Y (some U) → Has (Y.setCell ⟨U, 12, none⟩ (.int .i64 5)) U { j with st := 5 } (.slice a n c) ∧ Has (Y.setCell ⟨U, 12, none⟩ (.int .i64 5)) G zJ (.slice none 0 0) ∧ Below w.heap.size w (Y.setCell ⟨U, 12, none⟩ (.int .i64 5)) ∧ Has Y V j (.slice a n c)) := Lib.hid (fun Y hYU hg => by
    have HYU := Lib.hid hYU
    have hch : Y.grownBy (Y.setCell ⟨U, 12, none⟩ (.int .i64 5)) (some U) := only_setCell (only_refl Y (some U)) _ _
    exact ⟨(set_st HYU.out 5), has_by (has_by H2.out.2.1 hg hn4) hch hn4, below_of_only (below_of_only H2.out.2.2.1 (by have := HN.out; have := H2.out.2.2.2; omega) hg) (by have := HN.out; have := H2.out.2.2.2; omega) hch, has_by H2.out.1 hg hn2⟩)
  go_wp2_with (first
    | ((with_reducible show wpList _ _ _ _ _ w1); refine load_jo rfl _ rfl V rfl j (.slice a n c) H1.out.2.1 ?_)
    | ((with_reducible show wpList _ _ _ _ _ Y0); refine store_jo rfl _ _ rfl U rfl j a n c rfl zJ (.slice none 0 0) HHY.out ?_; intro Y hY1 hY2; have C3 := Lib.hid (HCC.out Y hY1 hY2); obtain ⟨u0, u1, u2, u3, u4, u5, u6, u7, u8, u9, u10, u11, u12, u13, u14, u15⟩ := jo_at hY1; obtain ⟨v0, v1, v2, v3, v4, v5, v6, v7, v8, v9, v10, v11, v12, v13, v14, v15⟩ := jo_free hY1; obtain ⟨y0, y1, y2, y3, y4, y5, y6, y7, y8, y9, y10, y11, y12, y13, y14, y15⟩ := jo_at C3.out.2.2.2; clear hY1 hY2)
    | ((with_reducible show wpList _ _ _ _ _ (Y.setCell ⟨U, 12, none⟩ (.int .i64 5))); refine load_jo rfl _ rfl U rfl { j with st := 5 } (.slice a n c) C3.out.1 ?_)
    | ((with_reducible show wpList _ _ _ _ _ (Y.setCell ⟨U, 12, none⟩ (.int .i64 5))); refine store_jo rfl _ _ rfl G rfl zJ none 0 0 rfl zJ (.slice none 0 0) C3.out.2.1 ?_; intro w5 h5 g5))
  exact ret_jo2 (x := zJ) (v := .slice none 0 0) rfl rfl rfl rfl h5 ⟨rfl, Lib.hid (below_of_only C3.out.2.2.1 (by have := HN.out; omega) g5)⟩
theorem ddo_deliver (now : Int) (j : JS) (a : Option Addr) (n c : Nat) (w : World) (h : JIn w a n j.s) (hn : n ≤ 1024) :
    Calls Try.prog 8 #[jV j (.slice a n c), .int .i64 5, .int .i64 now] w fun e w' => ∃ a' n' c', e = .returned (.tuple #[jV (doV 5 now j) (.slice a' n' c'), .int .i64 (doE 5 now j)]) ∧ Hid (JIn w' a' n' (doV 5 now j).s ∧ n' ≤ n ∧ Below w.heap.size w w') := by
  obtain ⟨e0, e1⟩ := do_five now j
  rw [e0, e1]
  by_cases ho : Ok j
  case neg =>
    obtain ⟨e2, e3⟩ := ch_bad ho (mayDeliver j) (deliverJ j)
    rw [e2, e3]
    refine (ddo_deliver_bad now j a n c w h hn ho).mono ?_
    rintro e w' ⟨rfl, H⟩
    exact ⟨none, 0, 0, rfl, Lib.hid ⟨JIn.nil _, Nat.zero_le _, H.out⟩⟩
  by_cases c0 : j.st = 4
  case pos =>
    have hm : mayDeliver j = true := decide_eq_true (by omega)
    obtain ⟨e4, e5⟩ := ch_yes ho (deliverJ j)
    rw [hm, e4, e5]
    refine (ddo_deliver_yes now j a n c w h hn ho c0).mono ?_
    rintro e w' ⟨rfl, H⟩
    exact ⟨a, n, c, rfl, Lib.hid ⟨H.out.1, Nat.le_refl _, H.out.2⟩⟩
  case neg =>
    have hm : mayDeliver j = false := decide_eq_false (by omega)
    obtain ⟨e4, e5⟩ := ch_not ho (deliverJ j)
    rw [hm, e4, e5]
    refine (ddo_deliver_no0 now j a n c w h hn ho c0).mono ?_
    rintro e w' ⟨rfl, H⟩
    exact ⟨none, 0, 0, rfl, Lib.hid ⟨JIn.nil _, Nat.zero_le _, H.out⟩⟩
end Go.Proofs.Ytghlgmlelipjfaa.Job
