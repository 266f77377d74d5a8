/- Blueprints in memory; the document's in, Check. -/
import Derived.Test.YteaclacbdelinaaZRecMath
import Derived.Test.YteaclacbdelinaaZGoodsMath
import Derived.BigQuiet
import Derived.RegionTactic
import Derived.Deep.QuietTactic
namespace Go.Proofs.Yteaclacbdelinaa.Recipe
open Go.RowKit Go.Lib
open Goods (St Sts OwnS)

abbrev blV (b : Bl) : Value := .agg #[.int .i64 b.ot, .int .i64 b.per, .int .i64 b.tm, .slice b.sa b.sm b.sc, .int .i64 b.cp, .int .i64 b.st, .int .i64 b.mo]
/-- The needs lie where the blueprint says. -/
def BlIn (w : World) (b : Bl) : Prop := b.s.length = b.sm ∧ Sts w b.sa b.s ∧ b.sm ≤ 1000
theorem BlIn.under {w w' : World} {b : Bl} (h : BlIn w b) (hb : Below w.heap.size w w') : BlIn w' b := ⟨h.1, h.2.1.under hb, h.2.2⟩
/-- The seven cells of a blueprint in a box of its own. -/
def CellsU (w : World) (V : Nat) (b : Bl) : Prop := w.cell? ⟨V, 0, none⟩ = some (.int .i64 b.ot) ∧ w.cell? ⟨V, 1, none⟩ = some (.int .i64 b.per) ∧ w.cell? ⟨V, 2, none⟩ = some (.int .i64 b.tm) ∧ w.cell? ⟨V, 3, none⟩ = some (.slice b.sa b.sm b.sc) ∧ w.cell? ⟨V, 4, none⟩ = some (.int .i64 b.cp) ∧ w.cell? ⟨V, 5, none⟩ = some (.int .i64 b.st) ∧ w.cell? ⟨V, 6, none⟩ = some (.int .i64 b.mo)
theorem box_blue (w : World) (b : Bl) : ∃ V X, w.heap.size = V ∧ w.alloc (.cells #[.int .i64 b.ot, .int .i64 b.per, .int .i64 b.tm, .slice b.sa b.sm b.sc, .int .i64 b.cp, .int .i64 b.st, .int .i64 b.mo] 35) = X ∧ Hid (Below w.heap.size w X) ∧ Hid (∀ W, Below X.heap.size X W → CellsU W V b) := by
  refine ⟨_, _, rfl, rfl, Lib.hid ((Below.refl _ w).alloc (Nat.le_refl _) _), Lib.hid (fun W hW => ?_)⟩
  have h0 := heap_alloc_new w (.cells #[.int .i64 b.ot, .int .i64 b.per, .int .i64 b.tm, .slice b.sa b.sm b.sc, .int .i64 b.cp, .int .i64 b.st, .int .i64 b.mo] 35)
  have h1 := (hW.block _ (Array.getElem?_eq_some_iff.1 h0).1).trans h0
  exact ⟨cell_block (j := 0) h1 rfl, cell_block (j := 1) h1 rfl, cell_block (j := 2) h1 rfl, cell_block (j := 3) h1 rfl, cell_block (j := 4) h1 rfl, cell_block (j := 5) h1 rfl, cell_block (j := 6) h1 rfl⟩
theorem in_yes (n a b : Int) (w : World) (h0 : a ≤ n) (h1 : n ≤ b) : Calls Try.prog 53 #[.int .i64 n, .int .i64 a, .int .i64 b] w fun e w' => e = .returned (.bool true) ∧ w = w' := by
  have d1 : decide (a ≤ n) = true := decide_eq_true h0
  have d2 : decide (n ≤ b) = true := decide_eq_true h1
  go_enter Try.func53, Try.ntmps53
  go_wp2_with fail
  go_ret
  exact ⟨rfl, rfl⟩
theorem in_no (n a b : Int) (w : World) (h : n < a ∨ b < n) : Calls Try.prog 53 #[.int .i64 n, .int .i64 a, .int .i64 b] w fun e w' => e = .returned (.bool false) ∧ w = w' := by
  by_cases k : a ≤ n
  · have d1 : decide (a ≤ n) = true := decide_eq_true k
    have d2 : decide (n ≤ b) = false := decide_eq_false (by omega)
    clear h
    go_enter Try.func53, Try.ntmps53
    go_wp2_with fail
    go_ret
    exact ⟨rfl, rfl⟩
  · have d1 : decide (a ≤ n) = false := decide_eq_false k
    clear h
    go_enter Try.func53, Try.ntmps53
    go_wp2_with fail
    go_ret
    exact ⟨rfl, rfl⟩
/-- As walks want it: what it tells is named ahead. -/
theorem in_at (n a b : Int) : ∃ t : Bool, Hid (∀ w, Calls Try.prog 53 #[.int .i64 n, .int .i64 a, .int .i64 b] w fun e w' => e = .returned (.bool t) ∧ w = w') ∧ Hid ((t = true → a ≤ n ∧ n ≤ b) ∧ (t = false → ¬ (a ≤ n ∧ n ≤ b))) := by
  by_cases h : a ≤ n ∧ n ≤ b
  · exact ⟨true, Lib.hid fun w => in_yes n a b w h.1 h.2, Lib.hid ⟨fun _ => h, fun h => (by cases h)⟩⟩
  · exact ⟨false, Lib.hid fun w => in_no n a b w (by omega), Lib.hid ⟨fun h => (by cases h), fun _ => h⟩⟩
set_option maxRecDepth 100000 in
set_option maxHeartbeats 8000000 in
theorem dcheck (b : Bl) (ty : Int) (w : World) (hb : BlIn w b) :
    Calls Try.prog 34 #[blV b, .int .i64 ty] w fun e w' => e = .returned (.int .i64 (chkB b ty)) ∧ Below w.heap.size w w' := by
  obtain ⟨V, X, hV, hX, HXB, HP⟩ := box_blue w b
  obtain ⟨k0, k1, k2, k3, k4, k5, k6⟩ := HP.out X (Below.refl _ _)
  obtain ⟨t0, H0, E0⟩ := in_at (ty) 0 (32)
  obtain ⟨t1, H1, E1⟩ := in_at (b.ot) 1 (ty)
  obtain ⟨t2, H2, E2⟩ := in_at (b.per) 1 (1048576)
  obtain ⟨t3, H3, E3⟩ := in_at (b.tm) 1 (1048576)
  obtain ⟨t4, H4, E4⟩ := in_at (b.cp) 0 (1048576)
  obtain ⟨t5, H5, E5⟩ := in_at (b.st) 0 (1048576)
  obtain ⟨t6, H6, E6⟩ := in_at (b.mo) 1 (1000)
  have HCK : Hid (∀ z, Goods.chk b.s ty = z → Calls Try.prog 54 #[.slice b.sa b.sm b.sc, .int .i64 ty] X fun e w' => e = .returned (.int .i64 z) ∧ Hid (Below X.heap.size X w')) := Lib.hid (fun z hz => by
    subst hz
    exact (Goods.dcheck b.sa b.sm b.sc b.s ty X hb.1 (hb.2.1.under HXB.out) (by have := hb.2.2; omega)).mono fun _ _ ⟨e, h⟩ => ⟨e, Lib.hid h⟩)
  have HCN : Hid (∀ W z, Below X.heap.size X W → Goods.cnt (Goods.valN b.s) b.ot = z → Calls Try.prog 55 #[.slice b.sa b.sm b.sc, .int .i64 b.ot] W fun e w' => e = .returned (.int .i64 z) ∧ Hid (Below X.heap.size X w')) := Lib.hid (fun W z hW hz => by
    subst hz
    exact (Goods.dcount b.sa b.sm b.sc b.s b.ot W hb.1 (hb.2.1.under (below_then HXB.out hW)) (by have := hb.2.2; omega)).mono fun _ _ ⟨e, h⟩ => ⟨e, Lib.hid (below_then hW h)⟩)
  have HNO : Hid (∀ W, Below X.heap.size X W → Below w.heap.size w W) := Lib.hid (fun W hW => below_then HXB.out hW)
  clear hb
  rcases t0 with _ | _
  · have hc : chkB b ty = 1 := chkB_no fun h => E0.out.2 rfl (h.1)
    rw [hc]
    clear hc
    go_enter Try.func34, Try.ntmps34
    go_wp2_with fail
    clear hX hV
    refine (H0.out _).mono ?_
    rintro e w' ⟨rfl, rfl⟩
    go_wp2_with fail
    go_ret
    exact ⟨rfl, HXB.out⟩
  rcases t1 with _ | _
  · have hc : chkB b ty = 1 := chkB_no fun h => E1.out.2 rfl (h.2.1)
    rw [hc]
    clear hc
    go_enter Try.func34, Try.ntmps34
    go_wp2_with fail
    clear hX hV
    refine (H0.out _).mono ?_
    rintro e w' ⟨rfl, rfl⟩
    go_wp2_with fail
    refine (H1.out _).mono ?_
    rintro e w' ⟨rfl, rfl⟩
    go_wp2_with fail
    go_ret
    exact ⟨rfl, HXB.out⟩
  rcases t2 with _ | _
  · have hc : chkB b ty = 1 := chkB_no fun h => E2.out.2 rfl (h.2.2.1)
    rw [hc]
    clear hc
    go_enter Try.func34, Try.ntmps34
    go_wp2_with fail
    clear hX hV
    refine (H0.out _).mono ?_
    rintro e w' ⟨rfl, rfl⟩
    go_wp2_with fail
    refine (H1.out _).mono ?_
    rintro e w' ⟨rfl, rfl⟩
    go_wp2_with fail
    refine (H2.out _).mono ?_
    rintro e w' ⟨rfl, rfl⟩
    go_wp2_with fail
    go_ret
    exact ⟨rfl, HXB.out⟩
  rcases t3 with _ | _
  · have hc : chkB b ty = 1 := chkB_no fun h => E3.out.2 rfl (h.2.2.2.1)
    rw [hc]
    clear hc
    go_enter Try.func34, Try.ntmps34
    go_wp2_with fail
    clear hX hV
    refine (H0.out _).mono ?_
    rintro e w' ⟨rfl, rfl⟩
    go_wp2_with fail
    refine (H1.out _).mono ?_
    rintro e w' ⟨rfl, rfl⟩
    go_wp2_with fail
    refine (H2.out _).mono ?_
    rintro e w' ⟨rfl, rfl⟩
    go_wp2_with fail
    refine (H3.out _).mono ?_
    rintro e w' ⟨rfl, rfl⟩
    go_wp2_with fail
    go_ret
    exact ⟨rfl, HXB.out⟩
  rcases t4 with _ | _
  · have hc : chkB b ty = 1 := chkB_no fun h => E4.out.2 rfl (h.2.2.2.2.1)
    rw [hc]
    clear hc
    go_enter Try.func34, Try.ntmps34
    go_wp2_with fail
    clear hX hV
    refine (H0.out _).mono ?_
    rintro e w' ⟨rfl, rfl⟩
    go_wp2_with fail
    refine (H1.out _).mono ?_
    rintro e w' ⟨rfl, rfl⟩
    go_wp2_with fail
    refine (H2.out _).mono ?_
    rintro e w' ⟨rfl, rfl⟩
    go_wp2_with fail
    refine (H3.out _).mono ?_
    rintro e w' ⟨rfl, rfl⟩
    go_wp2_with fail
    refine (H4.out _).mono ?_
    rintro e w' ⟨rfl, rfl⟩
    go_wp2_with fail
    go_ret
    exact ⟨rfl, HXB.out⟩
  rcases t5 with _ | _
  · have hc : chkB b ty = 1 := chkB_no fun h => E5.out.2 rfl (h.2.2.2.2.2.1)
    rw [hc]
    clear hc
    go_enter Try.func34, Try.ntmps34
    go_wp2_with fail
    clear hX hV
    refine (H0.out _).mono ?_
    rintro e w' ⟨rfl, rfl⟩
    go_wp2_with fail
    refine (H1.out _).mono ?_
    rintro e w' ⟨rfl, rfl⟩
    go_wp2_with fail
    refine (H2.out _).mono ?_
    rintro e w' ⟨rfl, rfl⟩
    go_wp2_with fail
    refine (H3.out _).mono ?_
    rintro e w' ⟨rfl, rfl⟩
    go_wp2_with fail
    refine (H4.out _).mono ?_
    rintro e w' ⟨rfl, rfl⟩
    go_wp2_with fail
    refine (H5.out _).mono ?_
    rintro e w' ⟨rfl, rfl⟩
    go_wp2_with fail
    go_ret
    exact ⟨rfl, HXB.out⟩
  rcases t6 with _ | _
  · have hc : chkB b ty = 1 := chkB_no fun h => E6.out.2 rfl (h.2.2.2.2.2.2.1)
    rw [hc]
    clear hc
    go_enter Try.func34, Try.ntmps34
    go_wp2_with fail
    clear hX hV
    refine (H0.out _).mono ?_
    rintro e w' ⟨rfl, rfl⟩
    go_wp2_with fail
    refine (H1.out _).mono ?_
    rintro e w' ⟨rfl, rfl⟩
    go_wp2_with fail
    refine (H2.out _).mono ?_
    rintro e w' ⟨rfl, rfl⟩
    go_wp2_with fail
    refine (H3.out _).mono ?_
    rintro e w' ⟨rfl, rfl⟩
    go_wp2_with fail
    refine (H4.out _).mono ?_
    rintro e w' ⟨rfl, rfl⟩
    go_wp2_with fail
    refine (H5.out _).mono ?_
    rintro e w' ⟨rfl, rfl⟩
    go_wp2_with fail
    refine (H6.out _).mono ?_
    rintro e w' ⟨rfl, rfl⟩
    go_wp2_with fail
    go_ret
    exact ⟨rfl, HXB.out⟩
  by_cases hl : Goods.Listed b.s ty
  case neg =>
    have hc : chkB b ty = 1 := chkB_no fun h => hl h.2.2.2.2.2.2.2.1
    have HC := Lib.hid (HCK.out 1 (Goods.chk_no hl))
    rw [hc]
    clear hc hl
    go_enter Try.func34, Try.ntmps34
    go_wp2_with fail
    clear hX hV
    refine (H0.out _).mono ?_
    rintro e w' ⟨rfl, rfl⟩
    go_wp2_with fail
    refine (H1.out _).mono ?_
    rintro e w' ⟨rfl, rfl⟩
    go_wp2_with fail
    refine (H2.out _).mono ?_
    rintro e w' ⟨rfl, rfl⟩
    go_wp2_with fail
    refine (H3.out _).mono ?_
    rintro e w' ⟨rfl, rfl⟩
    go_wp2_with fail
    refine (H4.out _).mono ?_
    rintro e w' ⟨rfl, rfl⟩
    go_wp2_with fail
    refine (H5.out _).mono ?_
    rintro e w' ⟨rfl, rfl⟩
    go_wp2_with fail
    refine (H6.out _).mono ?_
    rintro e w' ⟨rfl, rfl⟩
    go_wp2_with fail
    refine HC.out.mono ?_
    rintro e w2 ⟨rfl, H⟩
    go_wp2_with fail
    go_ret
    exact ⟨rfl, HNO.out _ H.out⟩
  have HC := Lib.hid (HCK.out 0 (Goods.chk_yes hl))
  obtain ⟨z, hz⟩ : ∃ z, Goods.cnt (Goods.valN b.s) b.ot = z := ⟨_, rfl⟩
  have HN : Hid (∀ W, Below X.heap.size X W → Calls Try.prog 55 #[.slice b.sa b.sm b.sc, .int .i64 b.ot] W fun e w' => e = .returned (.int .i64 z) ∧ Hid (Below X.heap.size X w')) := Lib.hid (fun W hW => HCN.out W z hW hz)
  by_cases hn : 0 < z
  · have hc : chkB b ty = 1 := chkB_no fun h => h.2.2.2.2.2.2.2.2 (by rw [hz]; exact hn)
    have d1 : decide (0 < z) = true := decide_eq_true hn
    rw [hc]
    clear hc hl hn hz
    go_enter Try.func34, Try.ntmps34
    go_wp2_with fail
    clear hX hV
    refine (H0.out _).mono ?_
    rintro e w' ⟨rfl, rfl⟩
    go_wp2_with fail
    refine (H1.out _).mono ?_
    rintro e w' ⟨rfl, rfl⟩
    go_wp2_with fail
    refine (H2.out _).mono ?_
    rintro e w' ⟨rfl, rfl⟩
    go_wp2_with fail
    refine (H3.out _).mono ?_
    rintro e w' ⟨rfl, rfl⟩
    go_wp2_with fail
    refine (H4.out _).mono ?_
    rintro e w' ⟨rfl, rfl⟩
    go_wp2_with fail
    refine (H5.out _).mono ?_
    rintro e w' ⟨rfl, rfl⟩
    go_wp2_with fail
    refine (H6.out _).mono ?_
    rintro e w' ⟨rfl, rfl⟩
    go_wp2_with fail
    refine HC.out.mono ?_
    rintro e w2 ⟨rfl, H⟩
    obtain ⟨y0, y1, y2, y3, y4, y5, y6⟩ := HP.out w2 H.out
    clear k0 k1 k2 k3 k4 k5 k6
    go_wp2_with fail
    refine (HN.out w2 H.out).mono ?_
    rintro e w3 ⟨rfl, HH⟩
    go_wp2_with fail
    go_ret
    exact ⟨rfl, HNO.out _ HH.out⟩
  · have hc : chkB b ty = 0 := chkB_yes ⟨E0.out.1 rfl, E1.out.1 rfl, E2.out.1 rfl, E3.out.1 rfl, E4.out.1 rfl, E5.out.1 rfl, E6.out.1 rfl, hl, by rw [hz]; exact hn⟩
    have d1 : decide (0 < z) = false := decide_eq_false hn
    rw [hc]
    clear hc hl hn hz
    go_enter Try.func34, Try.ntmps34
    go_wp2_with fail
    clear hX hV
    refine (H0.out _).mono ?_
    rintro e w' ⟨rfl, rfl⟩
    go_wp2_with fail
    refine (H1.out _).mono ?_
    rintro e w' ⟨rfl, rfl⟩
    go_wp2_with fail
    refine (H2.out _).mono ?_
    rintro e w' ⟨rfl, rfl⟩
    go_wp2_with fail
    refine (H3.out _).mono ?_
    rintro e w' ⟨rfl, rfl⟩
    go_wp2_with fail
    refine (H4.out _).mono ?_
    rintro e w' ⟨rfl, rfl⟩
    go_wp2_with fail
    refine (H5.out _).mono ?_
    rintro e w' ⟨rfl, rfl⟩
    go_wp2_with fail
    refine (H6.out _).mono ?_
    rintro e w' ⟨rfl, rfl⟩
    go_wp2_with fail
    refine HC.out.mono ?_
    rintro e w2 ⟨rfl, H⟩
    obtain ⟨y0, y1, y2, y3, y4, y5, y6⟩ := HP.out w2 H.out
    clear k0 k1 k2 k3 k4 k5 k6
    go_wp2_with fail
    refine (HN.out w2 H.out).mono ?_
    rintro e w3 ⟨rfl, HH⟩
    go_wp2_with fail
    go_ret
    exact ⟨rfl, HNO.out _ HH.out⟩
/-- As walks want it. -/
theorem check_at (b : Bl) (w : World) (hb : BlIn w b) : Hid (∀ W z, Below w.heap.size w W → chkB b 32 = z → Calls Try.prog 34 #[blV b, .int .i64 32] W fun e w' => e = .returned (.int .i64 z) ∧ Hid (Below w.heap.size w w')) := Lib.hid (fun W z hW hz => by
  subst hz
  exact (dcheck b 32 W (hb.under hW)).mono fun _ _ ⟨e, h⟩ => ⟨e, Lib.hid (below_then hW h)⟩)
end Go.Proofs.Yteaclacbdelinaa.Recipe
