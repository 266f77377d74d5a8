/- BinsNobody, for any bins that keep their contracts. -/
import Derived.Test.YtkljaaeeocghjaaBinM
namespace Go.Proofs.Ytkljaaeeocghjaa.Bins
open Go.RowKit Go.Lib
open Goods (St Sts OwnS)

variable {I : Impl}
set_option maxRecDepth 100000 in
set_option maxHeartbeats 4000000 in
theorem pdo_nil (I : Impl) {W : World} (x : Act) (hx : ActOk W x) (hi : InAct x) (hm : x.sm ≤ 100) :
    Calls Try.prog 12 #[.pointer none, actV x] W fun e w' => e = .returned (.int .i64 1) ∧ Hid (Below W.heap.size W w') := by
  obtain ⟨V, X, hV, hX, HXB, k0, k1, ⟨k2, k3, k4, k5⟩, ⟨k6, k7, k8, k9⟩, k10⟩ := box_act W x
  have hxX := hx.under HXB.out
  obtain ⟨kd, q, xa, xb, sa, sm, sc, s⟩ := x
  simp only at k0 k1 k2 k3 k4 k5 k6 k7 k8 k9 k10 hm hX hxX
  by_cases c1 : kd = 1
  · subst c1
    have HC := Lib.hid (I.n_put xa q X)
    clear hx hi hm hxX
    go_enter Try.func12, Try.ntmps12
    go_wp2_with fail
    clear hX hV
    refine HC.out.mono ?_
    rintro e w1 ⟨rfl, H1⟩
    go_wp2_with fail
    go_ret
    exact ⟨rfl, Lib.hid (below_then HXB.out H1)⟩
  have d1 : (kd == 1) = false := by simpa using c1
  by_cases c2 : kd = 2
  · subst c2
    have HC := Lib.hid (I.n_take xa q X)
    clear hx hi hm hxX c1 d1
    go_enter Try.func12, Try.ntmps12
    go_wp2_with fail
    clear hX hV
    refine HC.out.mono ?_
    rintro e w1 ⟨rfl, H1⟩
    go_wp2_with fail
    go_ret
    exact ⟨rfl, Lib.hid (below_then HXB.out H1)⟩
  have d2 : (kd == 2) = false := by simpa using c2
  by_cases c3 : kd = 3
  · subst c3
    have HC := Lib.hid (I.n_move xa xb q X)
    clear hx hi hm hxX c1 d1 c2 d2
    go_enter Try.func12, Try.ntmps12
    go_wp2_with fail
    clear hX hV
    refine HC.out.mono ?_
    rintro e w1 ⟨rfl, H1⟩
    go_wp2_with fail
    go_ret
    exact ⟨rfl, Lib.hid (below_then HXB.out H1)⟩
  have d3 : (kd == 3) = false := by simpa using c3
  by_cases c4 : kd = 4
  · subst c4
    have HC := Lib.hid (I.n_puts xa sa sm sc s X hxX.2 hxX.1 hm hi.2.2.2)
    clear hx hi hm hxX c1 d1 c2 d2 c3 d3
    go_enter Try.func12, Try.ntmps12
    go_wp2_with fail
    clear hX hV
    refine HC.out.mono ?_
    rintro e w1 ⟨rfl, H1⟩
    go_wp2_with fail
    go_ret
    exact ⟨rfl, Lib.hid (below_then HXB.out H1)⟩
  have d4 : (kd == 4) = false := by simpa using c4
  have HC := Lib.hid (I.n_takes xa sa sm sc s X hxX.2 hxX.1 hm hi.2.2.2)
  clear hx hi hm hxX c1 c2 c3 c4
  go_enter Try.func12, Try.ntmps12
  go_wp2_with fail
  clear hX hV
  refine HC.out.mono ?_
  rintro e w1 ⟨rfl, H1⟩
  go_wp2_with fail
  go_ret
  exact ⟨rfl, Lib.hid (below_then HXB.out H1)⟩
set_option maxRecDepth 100000 in
set_option maxHeartbeats 8000000 in
theorem binsNobody_in (I : Impl) (x : Act) (w : World) (hx : ActOk w x) (hi : InAct x) :
    Calls Try.prog 6 #[actV x] w fun e w' => e = .returned (.bool true) ∧ Below w.heap.size w w' := by
  obtain ⟨V, X, hV, hX, HXB, k0, k1, ⟨k2, k3, k4, k5⟩, ⟨k6, k7, k8, k9⟩, k10⟩ := box_act w x
  have HAW0 := awake_at I w
  have HAW : Hid (∀ W, Below X.heap.size X W → Calls Try.prog 8 #[] W fun e w' => e = .returned (.bool true) ∧ Hid (Below w.heap.size w w')) := Lib.hid (fun W hW => HAW0.out W (below_then HXB.out hW))
  have hVX : X.heap[V]? = some (.cells #[.int .i64 x.kind, .int .i64 x.n, .int .i64 x.a.o, .int .i64 x.a.d, .int .i64 x.a.p, .int .i64 x.a.t, .int .i64 x.b.o, .int .i64 x.b.d, .int .i64 x.b.p, .int .i64 x.b.t, .slice x.sa x.sm x.sc] 37 (0, 0)) := by rw [← hX, ← hV]; exact heap_alloc_new w _
  have HK : Hid (∀ W, Below X.heap.size X W → (W.cell? ⟨V, 0, none⟩ = some (.int .i64 x.kind) ∧ W.cell? ⟨V, 1, none⟩ = some (.int .i64 x.n)) ∧ (W.cell? ⟨V, 2, none⟩ = some (.int .i64 x.a.o) ∧ W.cell? ⟨V, 3, none⟩ = some (.int .i64 x.a.d) ∧ W.cell? ⟨V, 4, none⟩ = some (.int .i64 x.a.p) ∧ W.cell? ⟨V, 5, none⟩ = some (.int .i64 x.a.t)) ∧ (W.cell? ⟨V, 6, none⟩ = some (.int .i64 x.b.o) ∧ W.cell? ⟨V, 7, none⟩ = some (.int .i64 x.b.d) ∧ W.cell? ⟨V, 8, none⟩ = some (.int .i64 x.b.p) ∧ W.cell? ⟨V, 9, none⟩ = some (.int .i64 x.b.t)) ∧ W.cell? ⟨V, 10, none⟩ = some (.slice x.sa x.sm x.sc)) := Lib.hid (fun W hW => by
    have h1 := (hW.block V (Array.getElem?_eq_some_iff.1 hVX).1).trans hVX
    exact ⟨⟨cell_block (j := 0) h1 rfl, cell_block (j := 1) h1 rfl⟩, ⟨cell_block (j := 2) h1 rfl, cell_block (j := 3) h1 rfl, cell_block (j := 4) h1 rfl, cell_block (j := 5) h1 rfl⟩, ⟨cell_block (j := 6) h1 rfl, cell_block (j := 7) h1 rfl, cell_block (j := 8) h1 rfl, cell_block (j := 9) h1 rfl⟩, cell_block (j := 10) h1 rfl⟩)
  clear HAW0 hVX
  by_cases h12 : (12 : Int) < (x.sm : Int)
  · have H0 := Lib.hid (HAW.out X (Below.refl _ _))
    have d1 : decide ((12 : Int) < (x.sm : Int)) = true := decide_eq_true h12
    clear hx hi HAW
    go_enter Try.func6, Try.ntmps6
    go_wp2_with fail
    clear hX hV
    refine H0.out.mono ?_
    rintro e w1 ⟨rfl, B1⟩
    go_wp2_with fail
    go_ret
    exact ⟨rfl, B1.out⟩
  have d1 : decide ((12 : Int) < (x.sm : Int)) = false := decide_eq_false h12
  have HCL : Hid (Calls Try.prog 22 #[.pointer none] X fun e w' => ∃ Q, e = .returned (ptr Q) ∧ Hid (PS I X w' Q [] [] [] [])) := Lib.hid (by
    refine (I.n_clone X).mono ?_
    rintro e w' ⟨Q, rfl, F, R, h1, h2, h3⟩
    exact ⟨Q, rfl, Lib.hid ⟨F, R, h1, h2, h3, fun r hr => (by cases hr), fun c hc => (by cases hc), fun b hb => (by cases hb)⟩⟩)
  have HDO : Hid (∀ W Q, PS I X W Q [] [] [] [] → Calls Try.prog 12 #[.pointer none, actV x] W fun e w' => e = .returned (.int .i64 1) ∧ Hid (PS I X w' Q [] [] [] [])) := Lib.hid (fun W Q h => (pdo_nil I x (hx.under (below_then HXB.out h.below)) hi (by omega)).mono fun _ _ ⟨e, hb⟩ => ⟨e, Lib.hid (h.under hb.out)⟩)
  have HQ : Hid (∀ W Q, PS I X W Q [] [] [] [] → Calls Try.prog 15 #[.pointer none, bV x.a] W fun e w' => e = .returned (.int .i64 0) ∧ Hid (PS I X w' Q [] [] [] [])) := Lib.hid (fun W Q h => (I.n_qty x.a W).mono fun _ _ ⟨e, hb⟩ => ⟨e, Lib.hid (h.under hb)⟩)
  have HT : Hid (∀ W Q, PS I X W Q [] [] [] [] → Calls Try.prog 17 #[.pointer none, .int .i64 x.n] W fun e w' => e = .returned (.int .i64 0) ∧ Hid (PS I X w' Q [] [] [] [])) := Lib.hid (fun W Q h => (I.n_total x.n W).mono fun _ _ ⟨e, hb⟩ => ⟨e, Lib.hid (h.under hb)⟩)
  have HL : Hid (∀ W Q, PS I X W Q [] [] [] [] → Calls Try.prog 14 #[.pointer none] W fun e w' => ∃ a c, e = .returned (.slice a 0 c) ∧ Hid (PS I X w' Q [] [] [] [])) := Lib.hid (fun W Q h => (I.n_list W).mono fun _ _ ⟨a, c, e, hb⟩ => ⟨a, c, e, Lib.hid (h.under hb)⟩)
  have HO : Hid (∀ W Q, PS I X W Q [] [] [] [] → Calls Try.prog 20 #[.pointer none, bV x.a] W fun e w' => ∃ a c, e = .returned (.slice a 0 c) ∧ Hid (PS I X w' Q [] [] [] [])) := Lib.hid (fun W Q h => (I.n_of x.a W).mono fun _ _ ⟨a, c, e, hb⟩ => ⟨a, c, e, Lib.hid (h.under hb)⟩)
  have HLC : Hid (∀ W Q, PS I X W Q [] [] [] [] → Calls Try.prog 14 #[ptr Q] W fun e w' => ∃ a c, e = .returned (.slice a 0 c) ∧ Hid (Below X.heap.size X w')) := Lib.hid (fun W Q h => by
    refine (bs_list h good_nil (by simp)).mono ?_
    rintro e w' ⟨a, n, c, rfl, h2⟩
    obtain rfl : n = 0 := ((own_form h2.out.2).1).symm
    exact ⟨a, c, rfl, Lib.hid h2.out.1.below⟩)
  clear hx hi
  go_enter Try.func6, Try.ntmps6
  go_wp2_with fail
  clear hX hV
  refine HCL.out.mono ?_
  rintro e w1 ⟨Q, rfl, P1⟩
  clear k0 k1 k2 k3 k4 k5 k6 k7 k8 k9 k10
  obtain ⟨⟨k0, k1⟩, ⟨k2, k3, k4, k5⟩, ⟨k6, k7, k8, k9⟩, k10⟩ := HK.out _ P1.out.below
  go_wp2_with fail
  refine (HDO.out _ _ P1.out).mono ?_
  rintro e w2 ⟨rfl, P2⟩
  clear k0 k1 k2 k3 k4 k5 k6 k7 k8 k9 k10
  obtain ⟨⟨k0, k1⟩, ⟨k2, k3, k4, k5⟩, _, _⟩ := HK.out _ P2.out.below
  go_wp2_with fail
  refine (HQ.out _ _ P2.out).mono ?_
  rintro e w3 ⟨rfl, P3⟩
  clear k0 k1 k2 k3 k4 k5
  obtain ⟨⟨k0, k1⟩, ⟨k2, k3, k4, k5⟩, _, _⟩ := HK.out _ P3.out.below
  go_wp2_with fail
  refine (HT.out _ _ P3.out).mono ?_
  rintro e w4 ⟨rfl, P4⟩
  clear k0 k1 k2 k3 k4 k5
  go_wp2_with fail
  refine (HL.out _ _ P4.out).mono ?_
  rintro e w5 ⟨a5, c5, rfl, P5⟩
  obtain ⟨⟨k0, k1⟩, ⟨k2, k3, k4, k5⟩, _, _⟩ := HK.out _ P5.out.below
  go_wp2_with fail
  refine (HO.out _ _ P5.out).mono ?_
  rintro e w6 ⟨a6, c6, rfl, P6⟩
  clear k0 k1 k2 k3 k4 k5
  go_wp2_with fail
  refine (HLC.out _ _ P6.out).mono ?_
  rintro e w7 ⟨a7, c7, rfl, P7⟩
  go_wp2_with fail
  refine (HAW.out _ P7.out).mono ?_
  rintro e w8 ⟨rfl, P8⟩
  go_wp2_with fail
  go_ret
  exact ⟨rfl, P8.out⟩
end Go.Proofs.Ytkljaaeeocghjaa.Bins
