/- Blueprints in memory; the document's in, Check. Catalogues in memory; the document's in, Few, Maker. -/
import Derived.Test.YtdbhdlgoecpeaaaZRecMath
import Derived.Test.YtdbhdlgoecpeaaaZGraphD
import Derived.BigQuiet
import Derived.RegionTactic
import Derived.Deep.QuietTactic
namespace Go.Proofs.Ytdbhdlgoecpeaaa.Recipe
open Go.RowKit Go.Lib
open Goods (St Sts OwnS)

abbrev blV (b : Bl) : Value := .agg #[.int .i64 b.ot, .int .i64 b.per, .int .i64 b.tm, .slice b.sa b.sm b.sc, .int .i64 b.cp, .int .i64 b.st, .int .i64 b.mo]
/-- The needs lie where the blueprint says. -/
def BlIn (w : World) (b : Bl) : Prop := b.s.length = b.sm ∧ Sts w b.sa b.s ∧ b.sm ≤ 1000
theorem BlIn.under {w w' : World} {b : Bl} (h : BlIn w b) (hb : Below w.heap.size w w') : BlIn w' b := ⟨h.1, h.2.1.under hb, h.2.2⟩
/-- The seven cells of a blueprint in a box of its own. -/
def CellsU (w : World) (V : Nat) (b : Bl) : Prop := w.cell? ⟨V, 0, none⟩ = some (.int .i64 b.ot) ∧ w.cell? ⟨V, 1, none⟩ = some (.int .i64 b.per) ∧ w.cell? ⟨V, 2, none⟩ = some (.int .i64 b.tm) ∧ w.cell? ⟨V, 3, none⟩ = some (.slice b.sa b.sm b.sc) ∧ w.cell? ⟨V, 4, none⟩ = some (.int .i64 b.cp) ∧ w.cell? ⟨V, 5, none⟩ = some (.int .i64 b.st) ∧ w.cell? ⟨V, 6, none⟩ = some (.int .i64 b.mo)
theorem box_blue (w : World) (b : Bl) : ∃ V X, w.heap.size = V ∧ w.alloc (.cells #[.int .i64 b.ot, .int .i64 b.per, .int .i64 b.tm, .slice b.sa b.sm b.sc, .int .i64 b.cp, .int .i64 b.st, .int .i64 b.mo] 51) = X ∧ Hid (Below w.heap.size w X) ∧ Hid (∀ W, Below X.heap.size X W → CellsU W V b) := by
  refine ⟨_, _, rfl, rfl, Lib.hid ((Below.refl _ w).alloc (Nat.le_refl _) _), Lib.hid (fun W hW => ?_)⟩
  have h0 := heap_alloc_new w (.cells #[.int .i64 b.ot, .int .i64 b.per, .int .i64 b.tm, .slice b.sa b.sm b.sc, .int .i64 b.cp, .int .i64 b.st, .int .i64 b.mo] 51)
  have h1 := (hW.block _ (Array.getElem?_eq_some_iff.1 h0).1).trans h0
  exact ⟨cell_block (j := 0) h1 rfl, cell_block (j := 1) h1 rfl, cell_block (j := 2) h1 rfl, cell_block (j := 3) h1 rfl, cell_block (j := 4) h1 rfl, cell_block (j := 5) h1 rfl, cell_block (j := 6) h1 rfl⟩
theorem in_yes (n a b : Int) (w : World) (h0 : a ≤ n) (h1 : n ≤ b) : Calls Try.prog 68 #[.int .i64 n, .int .i64 a, .int .i64 b] w fun e w' => e = .returned (.bool true) ∧ w = w' := by
  have d1 : decide (a ≤ n) = true := decide_eq_true h0
  have d2 : decide (n ≤ b) = true := decide_eq_true h1
  go_enter Try.func68, Try.ntmps68
  go_wp2_with fail
  go_ret
  exact ⟨rfl, rfl⟩
theorem in_no (n a b : Int) (w : World) (h : n < a ∨ b < n) : Calls Try.prog 68 #[.int .i64 n, .int .i64 a, .int .i64 b] w fun e w' => e = .returned (.bool false) ∧ w = w' := by
  by_cases k : a ≤ n
  · have d1 : decide (a ≤ n) = true := decide_eq_true k
    have d2 : decide (n ≤ b) = false := decide_eq_false (by omega)
    clear h
    go_enter Try.func68, Try.ntmps68
    go_wp2_with fail
    go_ret
    exact ⟨rfl, rfl⟩
  · have d1 : decide (a ≤ n) = false := decide_eq_false k
    clear h
    go_enter Try.func68, Try.ntmps68
    go_wp2_with fail
    go_ret
    exact ⟨rfl, rfl⟩
/-- As walks want it: what it tells is named ahead. -/
theorem in_at (n a b : Int) : ∃ t : Bool, Hid (∀ w, Calls Try.prog 68 #[.int .i64 n, .int .i64 a, .int .i64 b] w fun e w' => e = .returned (.bool t) ∧ w = w') ∧ Hid ((t = true → a ≤ n ∧ n ≤ b) ∧ (t = false → ¬ (a ≤ n ∧ n ≤ b))) := by
  by_cases h : a ≤ n ∧ n ≤ b
  · exact ⟨true, Lib.hid fun w => in_yes n a b w h.1 h.2, Lib.hid ⟨fun _ => h, fun h => (by cases h)⟩⟩
  · exact ⟨false, Lib.hid fun w => in_no n a b w (by omega), Lib.hid ⟨fun h => (by cases h), fun _ => h⟩⟩
set_option maxRecDepth 100000 in
set_option maxHeartbeats 8000000 in
theorem dcheck (b : Bl) (ty : Int) (w : World) (hb : BlIn w b) :
    Calls Try.prog 63 #[blV b, .int .i64 ty] w fun e w' => e = .returned (.int .i64 (chkB b ty)) ∧ Below w.heap.size w w' := by
  obtain ⟨V, X, hV, hX, HXB, HP⟩ := box_blue w b
  obtain ⟨k0, k1, k2, k3, k4, k5, k6⟩ := HP.out X (Below.refl _ _)
  obtain ⟨t0, H0, E0⟩ := in_at (ty) 0 (32)
  obtain ⟨t1, H1, E1⟩ := in_at (b.ot) 1 (ty)
  obtain ⟨t2, H2, E2⟩ := in_at (b.per) 1 (1048576)
  obtain ⟨t3, H3, E3⟩ := in_at (b.tm) 1 (1048576)
  obtain ⟨t4, H4, E4⟩ := in_at (b.cp) 0 (1048576)
  obtain ⟨t5, H5, E5⟩ := in_at (b.st) 0 (1048576)
  obtain ⟨t6, H6, E6⟩ := in_at (b.mo) 1 (1000)
  have HCK : Hid (∀ z, Goods.chk b.s ty = z → Calls Try.prog 67 #[.slice b.sa b.sm b.sc, .int .i64 ty] X fun e w' => e = .returned (.int .i64 z) ∧ Hid (Below X.heap.size X w')) := Lib.hid (fun z hz => by
    subst hz
    exact (Goods.dcheck b.sa b.sm b.sc b.s ty X hb.1 (hb.2.1.under HXB.out) (by have := hb.2.2; omega)).mono fun _ _ ⟨e, h⟩ => ⟨e, Lib.hid h⟩)
  have HCN : Hid (∀ W z, Below X.heap.size X W → Goods.cnt (Goods.valN b.s) b.ot = z → Calls Try.prog 83 #[.slice b.sa b.sm b.sc, .int .i64 b.ot] W fun e w' => e = .returned (.int .i64 z) ∧ Hid (Below X.heap.size X w')) := Lib.hid (fun W z hW hz => by
    subst hz
    exact (Goods.dcount b.sa b.sm b.sc b.s b.ot W hb.1 (hb.2.1.under (below_then HXB.out hW)) (by have := hb.2.2; omega)).mono fun _ _ ⟨e, h⟩ => ⟨e, Lib.hid (below_then hW h)⟩)
  have HNO : Hid (∀ W, Below X.heap.size X W → Below w.heap.size w W) := Lib.hid (fun W hW => below_then HXB.out hW)
  clear hb
  rcases t0 with _ | _
  · have hc : chkB b ty = 1 := chkB_no fun h => E0.out.2 rfl (h.1)
    rw [hc]
    clear hc
    go_enter Try.func63, Try.ntmps63
    go_wp2_with fail
    clear hX hV
    refine (H0.out _).mono ?_
    rintro e w' ⟨rfl, rfl⟩
    go_wp2_with fail
    go_ret
    exact ⟨rfl, HXB.out⟩
  rcases t1 with _ | _
  · have hc : chkB b ty = 1 := chkB_no fun h => E1.out.2 rfl (h.2.1)
    rw [hc]
    clear hc
    go_enter Try.func63, Try.ntmps63
    go_wp2_with fail
    clear hX hV
    refine (H0.out _).mono ?_
    rintro e w' ⟨rfl, rfl⟩
    go_wp2_with fail
    refine (H1.out _).mono ?_
    rintro e w' ⟨rfl, rfl⟩
    go_wp2_with fail
    go_ret
    exact ⟨rfl, HXB.out⟩
  rcases t2 with _ | _
  · have hc : chkB b ty = 1 := chkB_no fun h => E2.out.2 rfl (h.2.2.1)
    rw [hc]
    clear hc
    go_enter Try.func63, Try.ntmps63
    go_wp2_with fail
    clear hX hV
    refine (H0.out _).mono ?_
    rintro e w' ⟨rfl, rfl⟩
    go_wp2_with fail
    refine (H1.out _).mono ?_
    rintro e w' ⟨rfl, rfl⟩
    go_wp2_with fail
    refine (H2.out _).mono ?_
    rintro e w' ⟨rfl, rfl⟩
    go_wp2_with fail
    go_ret
    exact ⟨rfl, HXB.out⟩
  rcases t3 with _ | _
  · have hc : chkB b ty = 1 := chkB_no fun h => E3.out.2 rfl (h.2.2.2.1)
    rw [hc]
    clear hc
    go_enter Try.func63, Try.ntmps63
    go_wp2_with fail
    clear hX hV
    refine (H0.out _).mono ?_
    rintro e w' ⟨rfl, rfl⟩
    go_wp2_with fail
    refine (H1.out _).mono ?_
    rintro e w' ⟨rfl, rfl⟩
    go_wp2_with fail
    refine (H2.out _).mono ?_
    rintro e w' ⟨rfl, rfl⟩
    go_wp2_with fail
    refine (H3.out _).mono ?_
    rintro e w' ⟨rfl, rfl⟩
    go_wp2_with fail
    go_ret
    exact ⟨rfl, HXB.out⟩
  rcases t4 with _ | _
  · have hc : chkB b ty = 1 := chkB_no fun h => E4.out.2 rfl (h.2.2.2.2.1)
    rw [hc]
    clear hc
    go_enter Try.func63, Try.ntmps63
    go_wp2_with fail
    clear hX hV
    refine (H0.out _).mono ?_
    rintro e w' ⟨rfl, rfl⟩
    go_wp2_with fail
    refine (H1.out _).mono ?_
    rintro e w' ⟨rfl, rfl⟩
    go_wp2_with fail
    refine (H2.out _).mono ?_
    rintro e w' ⟨rfl, rfl⟩
    go_wp2_with fail
    refine (H3.out _).mono ?_
    rintro e w' ⟨rfl, rfl⟩
    go_wp2_with fail
    refine (H4.out _).mono ?_
    rintro e w' ⟨rfl, rfl⟩
    go_wp2_with fail
    go_ret
    exact ⟨rfl, HXB.out⟩
  rcases t5 with _ | _
  · have hc : chkB b ty = 1 := chkB_no fun h => E5.out.2 rfl (h.2.2.2.2.2.1)
    rw [hc]
    clear hc
    go_enter Try.func63, Try.ntmps63
    go_wp2_with fail
    clear hX hV
    refine (H0.out _).mono ?_
    rintro e w' ⟨rfl, rfl⟩
    go_wp2_with fail
    refine (H1.out _).mono ?_
    rintro e w' ⟨rfl, rfl⟩
    go_wp2_with fail
    refine (H2.out _).mono ?_
    rintro e w' ⟨rfl, rfl⟩
    go_wp2_with fail
    refine (H3.out _).mono ?_
    rintro e w' ⟨rfl, rfl⟩
    go_wp2_with fail
    refine (H4.out _).mono ?_
    rintro e w' ⟨rfl, rfl⟩
    go_wp2_with fail
    refine (H5.out _).mono ?_
    rintro e w' ⟨rfl, rfl⟩
    go_wp2_with fail
    go_ret
    exact ⟨rfl, HXB.out⟩
  rcases t6 with _ | _
  · have hc : chkB b ty = 1 := chkB_no fun h => E6.out.2 rfl (h.2.2.2.2.2.2.1)
    rw [hc]
    clear hc
    go_enter Try.func63, Try.ntmps63
    go_wp2_with fail
    clear hX hV
    refine (H0.out _).mono ?_
    rintro e w' ⟨rfl, rfl⟩
    go_wp2_with fail
    refine (H1.out _).mono ?_
    rintro e w' ⟨rfl, rfl⟩
    go_wp2_with fail
    refine (H2.out _).mono ?_
    rintro e w' ⟨rfl, rfl⟩
    go_wp2_with fail
    refine (H3.out _).mono ?_
    rintro e w' ⟨rfl, rfl⟩
    go_wp2_with fail
    refine (H4.out _).mono ?_
    rintro e w' ⟨rfl, rfl⟩
    go_wp2_with fail
    refine (H5.out _).mono ?_
    rintro e w' ⟨rfl, rfl⟩
    go_wp2_with fail
    refine (H6.out _).mono ?_
    rintro e w' ⟨rfl, rfl⟩
    go_wp2_with fail
    go_ret
    exact ⟨rfl, HXB.out⟩
  by_cases hl : Goods.Listed b.s ty
  case neg =>
    have hc : chkB b ty = 1 := chkB_no fun h => hl h.2.2.2.2.2.2.2.1
    have HC := Lib.hid (HCK.out 1 (Goods.chk_no hl))
    rw [hc]
    clear hc hl
    go_enter Try.func63, Try.ntmps63
    go_wp2_with fail
    clear hX hV
    refine (H0.out _).mono ?_
    rintro e w' ⟨rfl, rfl⟩
    go_wp2_with fail
    refine (H1.out _).mono ?_
    rintro e w' ⟨rfl, rfl⟩
    go_wp2_with fail
    refine (H2.out _).mono ?_
    rintro e w' ⟨rfl, rfl⟩
    go_wp2_with fail
    refine (H3.out _).mono ?_
    rintro e w' ⟨rfl, rfl⟩
    go_wp2_with fail
    refine (H4.out _).mono ?_
    rintro e w' ⟨rfl, rfl⟩
    go_wp2_with fail
    refine (H5.out _).mono ?_
    rintro e w' ⟨rfl, rfl⟩
    go_wp2_with fail
    refine (H6.out _).mono ?_
    rintro e w' ⟨rfl, rfl⟩
    go_wp2_with fail
    refine HC.out.mono ?_
    rintro e w2 ⟨rfl, H⟩
    go_wp2_with fail
    go_ret
    exact ⟨rfl, HNO.out _ H.out⟩
  have HC := Lib.hid (HCK.out 0 (Goods.chk_yes hl))
  obtain ⟨z, hz⟩ : ∃ z, Goods.cnt (Goods.valN b.s) b.ot = z := ⟨_, rfl⟩
  have HN : Hid (∀ W, Below X.heap.size X W → Calls Try.prog 83 #[.slice b.sa b.sm b.sc, .int .i64 b.ot] W fun e w' => e = .returned (.int .i64 z) ∧ Hid (Below X.heap.size X w')) := Lib.hid (fun W hW => HCN.out W z hW hz)
  by_cases hn : 0 < z
  · have hc : chkB b ty = 1 := chkB_no fun h => h.2.2.2.2.2.2.2.2 (by rw [hz]; exact hn)
    have d1 : decide (0 < z) = true := decide_eq_true hn
    rw [hc]
    clear hc hl hn hz
    go_enter Try.func63, Try.ntmps63
    go_wp2_with fail
    clear hX hV
    refine (H0.out _).mono ?_
    rintro e w' ⟨rfl, rfl⟩
    go_wp2_with fail
    refine (H1.out _).mono ?_
    rintro e w' ⟨rfl, rfl⟩
    go_wp2_with fail
    refine (H2.out _).mono ?_
    rintro e w' ⟨rfl, rfl⟩
    go_wp2_with fail
    refine (H3.out _).mono ?_
    rintro e w' ⟨rfl, rfl⟩
    go_wp2_with fail
    refine (H4.out _).mono ?_
    rintro e w' ⟨rfl, rfl⟩
    go_wp2_with fail
    refine (H5.out _).mono ?_
    rintro e w' ⟨rfl, rfl⟩
    go_wp2_with fail
    refine (H6.out _).mono ?_
    rintro e w' ⟨rfl, rfl⟩
    go_wp2_with fail
    refine HC.out.mono ?_
    rintro e w2 ⟨rfl, H⟩
    obtain ⟨y0, y1, y2, y3, y4, y5, y6⟩ := HP.out w2 H.out
    clear k0 k1 k2 k3 k4 k5 k6
    go_wp2_with fail
    refine (HN.out w2 H.out).mono ?_
    rintro e w3 ⟨rfl, HH⟩
    go_wp2_with fail
    go_ret
    exact ⟨rfl, HNO.out _ HH.out⟩
  · have hc : chkB b ty = 0 := chkB_yes ⟨E0.out.1 rfl, E1.out.1 rfl, E2.out.1 rfl, E3.out.1 rfl, E4.out.1 rfl, E5.out.1 rfl, E6.out.1 rfl, hl, by rw [hz]; exact hn⟩
    have d1 : decide (0 < z) = false := decide_eq_false hn
    rw [hc]
    clear hc hl hn hz
    go_enter Try.func63, Try.ntmps63
    go_wp2_with fail
    clear hX hV
    refine (H0.out _).mono ?_
    rintro e w' ⟨rfl, rfl⟩
    go_wp2_with fail
    refine (H1.out _).mono ?_
    rintro e w' ⟨rfl, rfl⟩
    go_wp2_with fail
    refine (H2.out _).mono ?_
    rintro e w' ⟨rfl, rfl⟩
    go_wp2_with fail
    refine (H3.out _).mono ?_
    rintro e w' ⟨rfl, rfl⟩
    go_wp2_with fail
    refine (H4.out _).mono ?_
    rintro e w' ⟨rfl, rfl⟩
    go_wp2_with fail
    refine (H5.out _).mono ?_
    rintro e w' ⟨rfl, rfl⟩
    go_wp2_with fail
    refine (H6.out _).mono ?_
    rintro e w' ⟨rfl, rfl⟩
    go_wp2_with fail
    refine HC.out.mono ?_
    rintro e w2 ⟨rfl, H⟩
    obtain ⟨y0, y1, y2, y3, y4, y5, y6⟩ := HP.out w2 H.out
    clear k0 k1 k2 k3 k4 k5 k6
    go_wp2_with fail
    refine (HN.out w2 H.out).mono ?_
    rintro e w3 ⟨rfl, HH⟩
    go_wp2_with fail
    go_ret
    exact ⟨rfl, HNO.out _ HH.out⟩
/-- As walks want it. -/
theorem check_at (b : Bl) (w : World) (hb : BlIn w b) : Hid (∀ W z, Below w.heap.size w W → chkB b 32 = z → Calls Try.prog 63 #[blV b, .int .i64 32] W fun e w' => e = .returned (.int .i64 z) ∧ Hid (Below w.heap.size w w')) := Lib.hid (fun W z hW hz => by
  subst hz
  exact (dcheck b 32 W (hb.under hW)).mono fun _ _ ⟨e, h⟩ => ⟨e, Lib.hid (below_then hW h)⟩)
end Go.Proofs.Ytdbhdlgoecpeaaa.Recipe
namespace Go.Proofs.Ytdbhdlgoecpeaaa.Cat
open Go.RowKit Go.Lib
open Goods (St Sts OwnS)
open Recipe (Bl BlIn blV)

/-- A catalogue, and where its parts lie. -/
structure CM where
  ty : Int
  ba : Option Addr
  bn : Nat
  bc : Nat
  bs : List Bl
  pl : Int
  ya : Option Addr
  yn : Nat
  yc : Nat
  ys : List Ba
  ch : Int
  f : Fee.FS
abbrev CM.v (C : CM) : Value := .agg #[.int .i64 C.ty, .slice C.ba C.bn C.bc, .int .i64 C.pl, .slice C.ya C.yn C.yc, .int .i64 C.ch, .int .i64 C.f.broker, .int .i64 C.f.least, .int .i64 C.f.sales]
abbrev CM.cs (C : CM) : Array Value := #[.int .i64 C.ty, .slice C.ba C.bn C.bc, .int .i64 C.pl, .slice C.ya C.yn C.yc, .int .i64 C.ch, .int .i64 C.f.broker, .int .i64 C.f.least, .int .i64 C.f.sales]
def CM.p (C : CM) : Cat := ⟨C.ty, C.bs.map pOf, C.pl, C.ys, C.ch, C.f⟩
abbrev baV (y : Ba) : Value := .agg #[.int .i64 y.pl, .int .i64 y.mf, .int .i64 y.lb, .int .i64 y.rt]
/-- The seven cells of a blueprint. -/
def CellsB (w : World) (g o : Nat) (b : Bl) : Prop := w.cell? ⟨g, o, none⟩ = some (.int .i64 b.ot) ∧ w.cell? ⟨g, o + 1, none⟩ = some (.int .i64 b.per) ∧ w.cell? ⟨g, o + 2, none⟩ = some (.int .i64 b.tm) ∧ w.cell? ⟨g, o + 3, none⟩ = some (.slice b.sa b.sm b.sc) ∧ w.cell? ⟨g, o + 4, none⟩ = some (.int .i64 b.cp) ∧ w.cell? ⟨g, o + 5, none⟩ = some (.int .i64 b.st) ∧ w.cell? ⟨g, o + 6, none⟩ = some (.int .i64 b.mo)
def CellsY (w : World) (g o : Nat) (y : Ba) : Prop := w.cell? ⟨g, o, none⟩ = some (.int .i64 y.pl) ∧ w.cell? ⟨g, o + 1, none⟩ = some (.int .i64 y.mf) ∧ w.cell? ⟨g, o + 2, none⟩ = some (.int .i64 y.lb) ∧ w.cell? ⟨g, o + 3, none⟩ = some (.int .i64 y.rt)
def Blues (w : World) (a : Option Addr) (l : List Bl) : Prop := ∀ (i : Nat) (b : Bl), l[i]? = some b → ∃ g off, a = some ⟨g, off, none⟩ ∧ g < w.heap.size ∧ CellsB w g (off + i * 7) b
def Bays (w : World) (a : Option Addr) (l : List Ba) : Prop := ∀ (i : Nat) (y : Ba), l[i]? = some y → ∃ g off, a = some ⟨g, off, none⟩ ∧ g < w.heap.size ∧ CellsY w g (off + i * 4) y
theorem CellsB.to {w w' : World} {g o : Nat} {b : Bl} (h : CellsB w g o b) (hc : ∀ j, w'.cell? ⟨g, j, none⟩ = w.cell? ⟨g, j, none⟩) : CellsB w' g o b := by
  unfold CellsB
  simp only [hc]
  exact h
theorem CellsY.to {w w' : World} {g o : Nat} {y : Ba} (h : CellsY w g o y) (hc : ∀ j, w'.cell? ⟨g, j, none⟩ = w.cell? ⟨g, j, none⟩) : CellsY w' g o y := by
  unfold CellsY
  simp only [hc]
  exact h
theorem Blues.under {w w' : World} {a : Option Addr} {l : List Bl} (h : Blues w a l) (hb : Below w.heap.size w w') : Blues w' a l := fun i b hi => by
  obtain ⟨g, off, e, hg, k⟩ := h i b hi
  exact ⟨g, off, e, Nat.lt_of_lt_of_le hg hb.size, k.to fun j => (bcell hb).1 g j hg⟩
theorem Bays.under {w w' : World} {a : Option Addr} {l : List Ba} (h : Bays w a l) (hb : Below w.heap.size w w') : Bays w' a l := fun i b hi => by
  obtain ⟨g, off, e, hg, k⟩ := h i b hi
  exact ⟨g, off, e, Nat.lt_of_lt_of_le hg hb.size, k.to fun j => (bcell hb).1 g j hg⟩
/-- A catalogue lies where it says. -/
def CatAt (w : World) (C : CM) : Prop := (C.bs.length = C.bn ∧ Blues w C.ba C.bs ∧ ∀ b ∈ C.bs, b.s.length = b.sm ∧ Sts w b.sa b.s) ∧ C.ys.length = C.yn ∧ Bays w C.ya C.ys
theorem CatAt.under {w w' : World} {C : CM} (h : CatAt w C) (hb : Below w.heap.size w w') : CatAt w' C := ⟨⟨h.1.1, h.1.2.1.under hb, fun b hm => ⟨(h.1.2.2 b hm).1, (h.1.2.2 b hm).2.under hb⟩⟩, h.2.1, h.2.2.under hb⟩
/-- Few parts. -/
def Lim (C : CM) : Prop := (∀ b ∈ C.bs, b.sm ≤ 12) ∧ C.bn ≤ 20 ∧ C.yn ≤ 12
def I64 (x : Int) : Prop := -9223372036854775808 ≤ x ∧ x ≤ 9223372036854775807
def InB (b : Bl) : Prop := I64 b.ot ∧ I64 b.per ∧ I64 b.tm ∧ I64 b.cp ∧ I64 b.st ∧ I64 b.mo ∧ ∀ t ∈ b.s, I64 t.kind ∧ I64 t.qty
def InY (y : Ba) : Prop := I64 y.pl ∧ I64 y.mf ∧ I64 y.lb ∧ I64 y.rt
def InC (C : CM) : Prop := I64 C.ty ∧ (∀ b ∈ C.bs, InB b) ∧ I64 C.pl ∧ (∀ y ∈ C.ys, InY y) ∧ I64 C.ch ∧ I64 C.f.broker ∧ I64 C.f.least ∧ I64 C.f.sales
/-- A catalogue as the laws have it. -/
def Fit (w : World) (C : CM) : Prop := CatAt w C ∧ Lim C ∧ InC C
theorem Fit.under {w w' : World} {C : CM} (h : Fit w C) (hb : Below w.heap.size w w') : Fit w' C := ⟨h.1.under hb, h.2⟩
/-- A blueprint of a catalogue, as walks want it. -/
theorem blue_at {w : World} {C : CM} (h : CatAt w C) : Hid (∀ W i, Below w.heap.size w W → i < C.bn → ∃ g off b, C.ba = some ⟨g, off, none⟩ ∧ Hid (C.bs[i]? = some b ∧ b.s.length = b.sm ∧ Sts W b.sa b.s) ∧ CellsB W g (off + i * 7) b) := Lib.hid (fun W i hW hi => by
  have hl : i < C.bs.length := by rw [h.1.1]; exact hi
  obtain ⟨g, off, e, _, k⟩ := (h.under hW).1.2.1 i C.bs[i] (List.getElem?_eq_getElem hl)
  exact ⟨g, off, _, e, Lib.hid ⟨List.getElem?_eq_getElem hl, (h.under hW).1.2.2 _ (List.getElem_mem hl)⟩, k⟩)
theorem bay_at {w : World} {C : CM} (h : CatAt w C) : Hid (∀ W i, Below w.heap.size w W → i < C.yn → ∃ g off y, C.ya = some ⟨g, off, none⟩ ∧ Hid (C.ys[i]? = some y) ∧ CellsY W g (off + i * 4) y) := Lib.hid (fun W i hW hi => by
  have hl : i < C.ys.length := by rw [h.2.1]; exact hi
  obtain ⟨g, off, e, _, k⟩ := (h.under hW).2.2 i C.ys[i] (List.getElem?_eq_getElem hl)
  exact ⟨g, off, _, e, Lib.hid (List.getElem?_eq_getElem hl), k⟩)
/-- The eight cells of a catalogue in a box of its own. -/
def CellsC (w : World) (V : Nat) (C : CM) : Prop := w.cell? ⟨V, 0, none⟩ = some (.int .i64 C.ty) ∧ w.cell? ⟨V, 1, none⟩ = some (.slice C.ba C.bn C.bc) ∧ w.cell? ⟨V, 2, none⟩ = some (.int .i64 C.pl) ∧ w.cell? ⟨V, 3, none⟩ = some (.slice C.ya C.yn C.yc) ∧ w.cell? ⟨V, 4, none⟩ = some (.int .i64 C.ch) ∧ w.cell? ⟨V, 5, none⟩ = some (.int .i64 C.f.broker) ∧ w.cell? ⟨V, 6, none⟩ = some (.int .i64 C.f.least) ∧ w.cell? ⟨V, 7, none⟩ = some (.int .i64 C.f.sales)
theorem cells_block {w : World} {V : Nat} {C : CM} {T : TypeId} (h1 : w.heap[V]? = some (.cells C.cs T (0, 0))) : CellsC w V C :=
  ⟨cell_block (j := 0) h1 rfl, cell_block (j := 1) h1 rfl, cell_block (j := 2) h1 rfl, cell_block (j := 3) h1 rfl, cell_block (j := 4) h1 rfl, cell_block (j := 5) h1 rfl, cell_block (j := 6) h1 rfl, cell_block (j := 7) h1 rfl⟩
theorem box_cat (w : World) (C : CM) : ∃ V X, w.heap.size = V ∧ w.alloc (.cells #[.int .i64 C.ty, .slice C.ba C.bn C.bc, .int .i64 C.pl, .slice C.ya C.yn C.yc, .int .i64 C.ch, .int .i64 C.f.broker, .int .i64 C.f.least, .int .i64 C.f.sales] 27) = X ∧ Hid (Below w.heap.size w X) ∧ Hid (∀ W, Below X.heap.size X W → CellsC W V C) := by
  refine ⟨_, _, rfl, rfl, Lib.hid ((Below.refl _ w).alloc (Nat.le_refl _) _), Lib.hid (fun W hW => ?_)⟩
  have h0 := heap_alloc_new w (.cells #[.int .i64 C.ty, .slice C.ba C.bn C.bc, .int .i64 C.pl, .slice C.ya C.yn C.yc, .int .i64 C.ch, .int .i64 C.f.broker, .int .i64 C.f.least, .int .i64 C.f.sales] 27)
  have h1 := (hW.block _ (Array.getElem?_eq_some_iff.1 h0).1).trans h0
  exact cells_block h1
theorem in_yes (n a b : Int) (w : World) (h0 : a ≤ n) (h1 : n ≤ b) : Calls Try.prog 61 #[.int .i64 n, .int .i64 a, .int .i64 b] w fun e w' => e = .returned (.bool true) ∧ w = w' := by
  have d1 : decide (a ≤ n) = true := decide_eq_true h0
  have d2 : decide (n ≤ b) = true := decide_eq_true h1
  go_enter Try.func61, Try.ntmps61
  go_wp2_with fail
  go_ret
  exact ⟨rfl, rfl⟩
theorem in_no (n a b : Int) (w : World) (h : n < a ∨ b < n) : Calls Try.prog 61 #[.int .i64 n, .int .i64 a, .int .i64 b] w fun e w' => e = .returned (.bool false) ∧ w = w' := by
  by_cases k : a ≤ n
  · have d1 : decide (a ≤ n) = true := decide_eq_true k
    have d2 : decide (n ≤ b) = false := decide_eq_false (by omega)
    clear h
    go_enter Try.func61, Try.ntmps61
    go_wp2_with fail
    go_ret
    exact ⟨rfl, rfl⟩
  · have d1 : decide (a ≤ n) = false := decide_eq_false k
    clear h
    go_enter Try.func61, Try.ntmps61
    go_wp2_with fail
    go_ret
    exact ⟨rfl, rfl⟩
/-- As walks want it: what it tells is named ahead. -/
theorem in_at (n a b : Int) : ∃ t : Bool, Hid (∀ w, Calls Try.prog 61 #[.int .i64 n, .int .i64 a, .int .i64 b] w fun e w' => e = .returned (.bool t) ∧ w = w') ∧ Hid ((t = true → a ≤ n ∧ n ≤ b) ∧ (t = false → ¬ (a ≤ n ∧ n ≤ b))) := by
  by_cases h : a ≤ n ∧ n ≤ b
  · exact ⟨true, Lib.hid fun w => in_yes n a b w h.1 h.2, Lib.hid ⟨fun _ => h, fun h => (by cases h)⟩⟩
  · exact ⟨false, Lib.hid fun w => in_no n a b w (by omega), Lib.hid ⟨fun h => (by cases h), fun _ => h⟩⟩
theorem mem_take_succ {α : Type} {l : List α} {i : Nat} {t x : α} (h : l[i]? = some t) : x ∈ l.take (i + 1) ↔ x ∈ l.take i ∨ x = t := by
  rw [List.take_add_one, h]
  simp
open Classical in
set_option maxRecDepth 100000 in
set_option maxHeartbeats 4000000 in
theorem dfew (C : CM) (w : World) (h : CatAt w C) (hb : C.bn ≤ 9223372036854775807) (hy : C.yn ≤ 9223372036854775807) (hs : ∀ b ∈ C.bs, b.sm ≤ 9223372036854775807) :
    Calls Try.prog 6 #[C.v] w fun e w' => e = .returned (.bool (decide (Lim C))) ∧ Below w.heap.size w w' := by
  obtain ⟨V, X, hV, hX, HXB, HP⟩ := box_cat w C
  obtain ⟨k0, k1, k2, k3, k4, k5, k6, k7⟩ := HP.out X (Below.refl _ _)
  have HB := blue_at (h.under HXB.out)
  have HSM : Hid (∀ b ∈ C.bs, b.sm ≤ 9223372036854775807) := Lib.hid hs
  have HL := Lib.hid h.1.1
  have hb1 : (C.bn : Int) ≤ 9223372036854775807 := by omega
  have hy1 : (C.yn : Int) ≤ 9223372036854775807 := by omega
  clear h hb hy hs
  go_enter Try.func6, Try.ntmps6
  go_wp2_with fail
  clear hX hV
  go_loopw [3] (fun s wr => ∃ i : Nat, s = .int .i64 i ∧ i ≤ C.bn ∧ i ≤ 20 ∧ X = wr ∧ Hid (∀ b ∈ C.bs.take i, b.sm ≤ 12)) (fun s _ => 20 - (RowKit.intOf s).toNat)
  case atStart => exact ⟨0, rfl, by omega, by omega, rfl, Lib.hid (by simp)⟩
  case round =>
    obtain ⟨i, rfl, hi, hi2, rfl, HI⟩ := hrel
    have hi0 : (0 : Int) ≤ (i : Int) := by omega
    have hi3 : (i : Int) ≤ 20 := by omega
    by_cases hlt : i < C.bn
    · have hlt2 : (i : Int) < (C.bn : Int) := by omega
      by_cases h20 : i < 20
      · have h21 : (i : Int) < 20 := by omega
        obtain ⟨g, off, b, hba, ht, q0, q1, q2, q3, q4, q5, q6⟩ := HB.out X i (Below.refl _ _) hlt
        rw [hba] at k1
        have hsm := HSM.out b (List.mem_of_getElem? ht.out.1)
        have hsm1 : (b.sm : Int) ≤ 9223372036854775807 := by omega
        by_cases c1 : 12 < b.sm
        · have HF : Hid (¬ Lim C) := Lib.hid (fun h => by
            have := h.1 b (List.mem_of_getElem? ht.out.1)
            omega)
          have c2 : (12 : Int) < (b.sm : Int) := by omega
          have d3 : decide ((12 : Int) < (b.sm : Int)) = true := decide_eq_true c2
          go_wp2_with fail
          go_ret
          exact ⟨by rw [decide_eq_false HF.out]; rfl, HXB.out⟩
        · have HF : Hid (∀ x ∈ C.bs.take (i + 1), x.sm ≤ 12) := Lib.hid (fun x h => by
            rcases (mem_take_succ ht.out.1).1 h with h | rfl
            · exact HI.out x h
            · omega)
          have d3 : decide ((12 : Int) < (b.sm : Int)) = false := decide_eq_false (by omega)
          go_wp2_with fail
          go_roundw
          case rel => exact ⟨i + 1, by go_num, by omega, by omega, by first | rfl | trivial, HF⟩
          case measure => simp [RowKit.intOf]; omega
      · have h21 : ¬ (i : Int) < 20 := by omega
        have d1 : decide ((i : Int) < 20) = false := decide_eq_false h21
        have HF : Hid (¬ Lim C) ∨ Hid (C.bn = 20 ∧ i = 20 ∧ False) := by
          refine .inl (Lib.hid fun h => ?_)
          have := h.2.1
          omega
        rcases HF with HF | HF
        case inr => exact HF.out.2.2.elim
        have d4 : decide ((C.bn : Int) ≤ 20) = false := decide_eq_false (by omega)
        have d5 : ¬ C.bn ≤ 20 := by omega
        go_wp2_with fail
        go_ret
        exact ⟨by rw [decide_eq_false HF.out]; rfl, HXB.out⟩
    · obtain rfl : i = C.bn := by omega
      have d4 : decide ((C.bn : Int) ≤ 20) = true := decide_eq_true (by omega)
      have HA : Hid (∀ b ∈ C.bs, b.sm ≤ 12) := Lib.hid (by
        have := HI.out
        rw [List.take_of_length_le (by rw [HL.out]; exact Nat.le_refl _)] at this
        exact this)
      by_cases c3 : C.yn ≤ 12
      · have HF : Hid (Lim C) := Lib.hid ⟨HA.out, hi2, c3⟩
        have c4 : (C.yn : Int) ≤ 12 := by omega
        have d6 : decide ((C.yn : Int) ≤ 12) = true := decide_eq_true c4
        go_wp2_with fail
        go_ret
        exact ⟨by rw [decide_eq_true HF.out]; rfl, HXB.out⟩
      · have HF : Hid (¬ Lim C) := Lib.hid fun h => c3 h.2.2
        have c4 : ¬ (C.yn : Int) ≤ 12 := by omega
        have d6 : decide ((C.yn : Int) ≤ 12) = false := decide_eq_false c4
        go_wp2_with fail
        go_ret
        exact ⟨by rw [decide_eq_false HF.out]; rfl, HXB.out⟩
set_option maxRecDepth 100000 in
set_option maxHeartbeats 4000000 in
theorem dmaker (C : CM) (k : Int) (w : World) (h : CatAt w C) (hb : C.bn ≤ 4611686018427387904) :
    Calls Try.prog 48 #[C.v, .int .i64 k] w fun e w' => e = .returned (.int .i64 (mkr k C.p.bs 0)) ∧ Below w.heap.size w w' := by
  obtain ⟨V, X, hV, hX, HXB, HP⟩ := box_cat w C
  obtain ⟨k0, k1, k2, k3, k4, k5, k6, k7⟩ := HP.out X (Below.refl _ _)
  have HB := blue_at (h.under HXB.out)
  have HL := Lib.hid h.1.1
  have hb1 : (C.bn : Int) ≤ 4611686018427387904 := by omega
  clear h hb
  go_enter Try.func48, Try.ntmps48
  go_wp2_with fail
  clear hX hV
  go_loopw [5] (fun s wr => ∃ i : Nat, s = .int .i64 i ∧ i ≤ C.bn ∧ X = wr ∧ Hid (mkr k (C.p.bs.drop i) i = mkr k C.p.bs 0)) (fun s _ => C.bn - (RowKit.intOf s).toNat)
  case atStart => exact ⟨0, rfl, by omega, rfl, Lib.hid rfl⟩
  case round =>
    obtain ⟨i, rfl, hi, rfl, HI⟩ := hrel
    have hi0 : (0 : Int) ≤ (i : Int) := by omega
    by_cases hlt : i < C.bn
    · have hlt2 : (i : Int) < (C.bn : Int) := by omega
      obtain ⟨g, off, b, hba, ht, q0, q1, q2, q3, q4, q5, q6⟩ := HB.out X i (Below.refl _ _) hlt
      rw [hba] at k1
      have hp : C.p.bs[i]? = some (pOf b) := by unfold CM.p; simp [ht.out.1]
      have HM := Lib.hid (mkr_drop (k := k) hp)
      clear hp
      have wi : IntKind.i64.wrap ((i : Int) + 1) = (i : Int) + 1 := IntWalk.i64_in _ (by omega)
      by_cases c1 : b.ot = k
      · have c1b : (b.ot == k) = true := by simpa using c1
        have HF : Hid (mkr k C.p.bs 0 = (i : Int) + 1) := Lib.hid (by rw [← HI.out, HM.out, if_pos (by exact c1)])
        clear c1
        go_wp2_with fail
        go_ret
        exact ⟨ret_i64 (by rw [HF.out]), HXB.out⟩
      · have c1b : (b.ot == k) = false := by simpa using c1
        have HF : Hid (mkr k (C.p.bs.drop (i + 1)) ((i + 1 : Nat) : Int) = mkr k C.p.bs 0) := Lib.hid (by rw [← HI.out, HM.out, if_neg (by exact c1)])
        clear c1
        go_wp2_with fail
        go_roundw
        case rel => exact ⟨i + 1, by go_num, by omega, by first | rfl | trivial, HF⟩
        case measure => simp [RowKit.intOf]; omega
    · obtain rfl : i = C.bn := by omega
      have HF : Hid (mkr k C.p.bs 0 = 0) := Lib.hid (by
        rw [← HI.out, List.drop_eq_nil_of_le (by unfold CM.p; rw [List.length_map, HL.out]; exact Nat.le_refl _)]
        rfl)
      go_wp2_with fail
      go_ret
      exact ⟨ret_i64 (by rw [HF.out]), HXB.out⟩
end Go.Proofs.Ytdbhdlgoecpeaaa.Cat
