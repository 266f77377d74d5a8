/- The program's Scale, as fees reach it; its Bay. The program's ask, sum, Fee; what is asked of bays and jobs. -/
import Derived.Test.YtdbhdlgoecpeaaaZQuoB
import Derived.Test.YtdbhdlgoecpeaaaZFeeImCk
import Derived.Test.YtdbhdlgoecpeaaaZCalcScaleP
import Derived.Test.YtdbhdlgoecpeaaaZQuoImD
import Derived.Test.YtdbhdlgoecpeaaaZCatImC
namespace Go.Proofs.Ytdbhdlgoecpeaaa.Fee
open Go.RowKit Go.Lib

theorem ret_money {a b : Int} (h : a = b) : Ending.returned (.tuple #[.int .i64 a, .int .i64 0]) = .returned (.tuple #[.int .i64 b, .int .i64 0]) := by rw [h]
theorem pscale (a b c : Int) (up : Bool) (w : World) (a0 : 0 ≤ a) (a1 : a ≤ 9223372036854775807) (b0 : 0 ≤ b) (b1 : b ≤ 9223372036854775807) (c0 : 1 ≤ c) (c1 : c ≤ 9223372036854775807) (hm : a * b ≤ c * 2305843009213693952) :
    Calls Try.prog 74 #[.int .i64 a, .int .i64 b, .int .i64 c, .bool up] w fun e w' => e = .returned (.tuple #[.int .i64 (sc a b c up), .int .i64 0]) ∧ Below w.heap.size w w' := by
  have h0 : 0 ≤ a * b := Int.mul_nonneg a0 b0
  have h1 : 0 ≤ a * b / c := Int.ediv_nonneg h0 (by omega)
  have h2 : a * b / c ≤ 2305843009213693952 := Int.ediv_le_of_le_mul (by omega) (by omega)
  have h3 : 0 ≤ sc a b c up ∧ sc a b c up ≤ 9223372036854775807 := by unfold sc; split <;> omega
  refine (Calc.scale_any a b c up w a0 a1 b0 b1 c0 c1).mono ?_
  rintro e w' ⟨he, n, rfl⟩
  have e1 : Calc.scaleQ a b c up = sc a b c up := rfl
  rw [e1, Calc.valN_in (by omega) h3.2, Calc.valE_in (by omega) h3.2] at he
  exact ⟨he, below_drewN (Below.refl _ _) n⟩
/-- What is taken at one rate. -/
theorem prate_at {x r : Int} (up : Bool) (x0 : 0 ≤ x) (x1 : x ≤ 1152921504606846976) (r0 : 0 ≤ r) (r1 : r ≤ 10000) :
    Hid (∀ W, Calls Try.prog 74 #[.int .i64 x, .int .i64 r, .int .i64 10000, .bool up] W fun e w' => e = .returned (.tuple #[.int .i64 (sc x r 10000 up), .int .i64 0]) ∧ Below W.heap.size W w') ∧ 0 ≤ sc x r 10000 up ∧ sc x r 10000 up ≤ 1152921504606846977 := by
  have hp := Int.mul_nonneg x0 r0
  have hq : x * r ≤ 1152921504606846976 * 10000 := Int.mul_le_mul x1 r1 r0 (by omega)
  exact ⟨Lib.hid (fun W => pscale x r 10000 up W x0 (by omega) r0 (by omega) (by omega) (by omega) (by omega)), sc_in up hp (by omega) (by omega)⟩
set_option maxRecDepth 100000 in
set_option maxHeartbeats 4000000 in
theorem bay_im (r t : Int) (w : World) :
    Calls Try.prog 49 #[.int .i64 r, .int .i64 t] w fun e w' => e = .returned (.tuple #[.int .i64 (bayV r t), .int .i64 (bayE r t)]) ∧ Below w.heap.size w w' := by
  by_cases h : BayOk r t
  · rw [(bay_yes h).1, (bay_yes h).2]
    obtain ⟨⟨r0, r1⟩, t0, t1⟩ := h
    obtain ⟨HS, i0, i1⟩ := prate_at true t0 (by omega) r0 r1
    obtain ⟨z, hz⟩ : ∃ z, sc t r 10000 true = z := ⟨_, rfl⟩
    rw [hz] at HS ⊢
    have HU := Lib.hid (fun W => upto_yes r 10000 W r0 r1)
    have HV := Lib.hid (fun W => upto_yes t 1099511627776 W t0 t1)
    clear i0 i1 hz
    go_enter Try.func49, Try.ntmps49
    go_wp2_with fail
    refine (HU.out w).mono ?_
    rintro e w2 ⟨rfl, rfl⟩
    go_wp2_with fail
    refine (HV.out w).mono ?_
    rintro e w2 ⟨rfl, rfl⟩
    go_wp2_with fail
    refine (HS.out w).mono ?_
    rintro e w2 ⟨rfl, hb2⟩
    go_wp2_with fail
    go_ret2
    exact ⟨rfl, hb2⟩
  · rw [(bay_no h).1, (bay_no h).2]
    by_cases hr : 0 ≤ r ∧ r ≤ 10000
    · have HU := Lib.hid (fun W => upto_yes r 10000 W hr.1 hr.2)
      have HV := Lib.hid (fun W => upto_no t 1099511627776 W (by unfold BayOk at h; omega))
      clear h hr
      go_enter Try.func49, Try.ntmps49
      go_wp2_with fail
      refine (HU.out w).mono ?_
      rintro e w2 ⟨rfl, rfl⟩
      go_wp2_with fail
      refine (HV.out w).mono ?_
      rintro e w2 ⟨rfl, rfl⟩
      go_wp2_with fail
      go_ret2
      exact ⟨rfl, Below.refl _ _⟩
    · have HU := Lib.hid (fun W => upto_no r 10000 W (by omega))
      clear h hr
      go_enter Try.func49, Try.ntmps49
      go_wp2_with fail
      refine (HU.out w).mono ?_
      rintro e w2 ⟨rfl, rfl⟩
      go_wp2_with fail
      go_ret2
      exact ⟨rfl, Below.refl _ _⟩
end Go.Proofs.Ytdbhdlgoecpeaaa.Fee
namespace Go.Proofs.Ytdbhdlgoecpeaaa.Quo.Im
open Go.RowKit Go.Lib IRows
open Cat (Cat PB Ba CM CatAt Lim box_cat pOf I64 baV ba_set)
open Bom (RunsOk tim tim_blue tim_le tim_nonneg)

theorem results_cell_tmp2 {fn : Func} {p u v : Tmp} {ty : TypeId} (h : fn.results = #[.cell p ty, .tmp u, .tmp v]) (tmps : Array Value) (P : Program) (w : World) :
    (results fn tmps).run P w =
      ((asAddr (tmps.getD p undef)).run P w).andThen fun a w₁ => ((loadVar ty a).run P w₁).andThen fun x w₂ => .ok (.tuple #[x, tmps.getD u undef, tmps.getD v undef]) w₂ := by
  simp only [results, h]
  simp [Sem.run_bind, Result.andThen]
theorem ret_ba3 {fn : Func} {R : Ending → World → Prop} {a : Act} {w : World} {p u v : Tmp} {g : Nat} {c0 c1 c2 c3 x y : Value} {T : TypeId} (h : fn.results = #[.cell p 48, .tmp u, .tmp v]) (hd : a.defers = [])
    (ht : a.tmps.getD p undef = .pointer (some ⟨g, 0, none⟩)) (hu : a.tmps.getD u undef = x) (hv : a.tmps.getD v undef = y) (hb : w.heap[g]? = some (.cells #[c0, c1, c2, c3] T (0, 0))) (hR : R (.returned (.tuple #[.agg #[c0, c1, c2, c3], x, y])) w) : bodyPost Try.prog fn R .ret a w := by
  refine bodyPost_ret (v := .tuple #[.agg #[c0, c1, c2, c3], x, y]) ?_ hd hR
  rw [results_cell_tmp2 h, ht, hu, hv]
  simp [asAddr, run_loadVar_row (P := Try.prog) w g T 48 #[c0, c1, c2, c3] (0, 0) _ hb Try.underlying48 rfl (by kernel_rfl), Result.andThen]
theorem box_by (w : World) (y : Ba) : ∃ U X, w.heap.size = U ∧ w.alloc (.cells #[.int .i64 y.pl, .int .i64 y.mf, .int .i64 y.lb, .int .i64 y.rt] 48) = X ∧ Hid (Below w.heap.size w X) ∧
    Hid (∀ W, Below X.heap.size X W → W.cell? ⟨U, 0, none⟩ = some (.int .i64 y.pl) ∧ W.cell? ⟨U, 1, none⟩ = some (.int .i64 y.mf) ∧ W.cell? ⟨U, 2, none⟩ = some (.int .i64 y.lb) ∧ W.cell? ⟨U, 3, none⟩ = some (.int .i64 y.rt)) := by
  have h0 := heap_alloc_new w (.cells #[.int .i64 y.pl, .int .i64 y.mf, .int .i64 y.lb, .int .i64 y.rt] 48)
  refine ⟨_, _, rfl, rfl, Lib.hid ((Below.refl _ w).alloc (Nat.le_refl _) _), Lib.hid fun W hW => ?_⟩
  have h3 := (hW.block _ (Array.getElem?_eq_some_iff.1 h0).1).trans h0
  exact ⟨cell_block (j := 0) h3 rfl, cell_block (j := 1) h3 rfl, cell_block (j := 2) h3 rfl, cell_block (j := 3) h3 rfl⟩
set_option maxRecDepth 100000 in
set_option maxHeartbeats 16000000 in
theorem ask_im (C : CM) (bay : Int) (a : Option Addr) (m c : Nat) (rs : List Int) (lv : Int) (w : World) (h : CatAt w C) (hl : Lim C) (hr : rs.length = m) (hs : IRow w a rs) (hm : m ≤ 1000) :
    Calls Try.prog 19 #[.agg #[.int .i64 C.ty, .slice C.ba C.bn C.bc, .int .i64 C.pl, .slice C.ya C.yn C.yc, .int .i64 C.ch, .int .i64 C.f.broker, .int .i64 C.f.least, .int .i64 C.f.sales], .int .i64 bay, .slice a m c, .int .i64 lv] w fun e w' => ∃ (y : Ba) (a' : Option Addr) (n' c' : Nat), e = .returned (.tuple #[.agg #[.int .i64 y.pl, .int .i64 y.mf, .int .i64 y.lb, .int .i64 y.rt], .slice a' n' c', .int .i64 (mayQ C.p bay rs lv)]) ∧ Hid (Below w.heap.size w w' ∧ (mayQ C.p bay rs lv = 0 → y = Cat.bayV C.p bay ∧ n' = C.bn ∧ JobsAt w' a' C.bn (tmJ C.p rs lv) (wsJ C.p rs))) := by
  obtain ⟨V, X, hV, hX, HXB, HP⟩ := box_cat w C
  obtain ⟨G, Z, hG, hZ, HZB, _⟩ := box_by X ⟨0, 0, 0, 0⟩
  have HGB : Hid (∀ W, Below Z.heap.size Z W → W.heap[G]? = some (.cells #[.int .i64 0, .int .i64 0, .int .i64 0, .int .i64 0] 48 (0, 0))) := Lib.hid fun W hW => by
    have h0 : Z.heap[G]? = some (.cells #[.int .i64 0, .int .i64 0, .int .i64 0, .int .i64 0] 48 (0, 0)) := by rw [← hZ, ← hG]; exact heap_alloc_new X _
    exact (hW.block _ (Array.getElem?_eq_some_iff.1 h0).1).trans h0
  have HXZ : Hid (Below w.heap.size w Z) := Lib.hid (below_then HXB.out HZB.out)
  have HWG : Hid (w.heap.size ≤ G) := Lib.hid (by rw [← hG]; exact HXB.out.size)
  have HGC : Hid (∀ W, Below Z.heap.size Z W → (W.cell? ⟨G, 0, none⟩ = some (.int .i64 0) ∧ W.cell? ⟨G, 1, none⟩ = some (.int .i64 0) ∧ W.cell? ⟨G, 2, none⟩ = some (.int .i64 0) ∧ W.cell? ⟨G, 3, none⟩ = some (.int .i64 0)) ∧ W.frozen? ⟨G, 0, none⟩ = false ∧ W.frozen? ⟨G, 1, none⟩ = false ∧ W.frozen? ⟨G, 2, none⟩ = false ∧ W.frozen? ⟨G, 3, none⟩ = false) := Lib.hid fun W hW => by
    have h1 := HGB.out W hW
    exact ⟨⟨cell_block (j := 0) h1 rfl, cell_block (j := 1) h1 rfl, cell_block (j := 2) h1 rfl, cell_block (j := 3) h1 rfl⟩, free_block 0 h1, free_block 1 h1, free_block 2 h1, free_block 3 h1⟩
  have HEND : Hid (∀ W x0 x1 x2 x3, Below Z.heap.size Z W → Below w.heap.size w ((((W.setCell ⟨G, 0, none⟩ x0).setCell ⟨G, 1, none⟩ x1).setCell ⟨G, 2, none⟩ x2).setCell ⟨G, 3, none⟩ x3)) := Lib.hid fun W x0 x1 x2 x3 hW =>
    below_of_only (below_then HXZ.out hW) HWG.out (only_setCell (only_setCell (only_setCell (only_setCell (only_refl W (some G)) 0 x0) 1 x1) 2 x2) 3 x3)
  have HPE : Hid (∀ W, Below Z.heap.size Z W → W.cell? ⟨V, 0, none⟩ = some (.int .i64 C.ty) ∧ W.cell? ⟨V, 1, none⟩ = some (.slice C.ba C.bn C.bc) ∧ W.cell? ⟨V, 2, none⟩ = some (.int .i64 C.pl) ∧ W.cell? ⟨V, 3, none⟩ = some (.slice C.ya C.yn C.yc) ∧ W.cell? ⟨V, 4, none⟩ = some (.int .i64 C.ch) ∧ W.cell? ⟨V, 5, none⟩ = some (.int .i64 C.f.broker) ∧ W.cell? ⟨V, 6, none⟩ = some (.int .i64 C.f.least) ∧ W.cell? ⟨V, 7, none⟩ = some (.int .i64 C.f.sales)) := Lib.hid fun W hW => HP.out W (below_then HZB.out hW)
  obtain ⟨k0, k1, k2, k3, k4, k5, k6, k7⟩ := HPE.out Z (Below.refl _ _)
  obtain ⟨er, her⟩ : ∃ er, Cat.chkC C.p = er := ⟨_, rfl⟩
  have HC : Hid (Calls Try.prog 29 #[.agg #[.int .i64 C.ty, .slice C.ba C.bn C.bc, .int .i64 C.pl, .slice C.ya C.yn C.yc, .int .i64 C.ch, .int .i64 C.f.broker, .int .i64 C.f.least, .int .i64 C.f.sales]] Z fun e w' => e = .returned (.int .i64 er) ∧ Hid (Below Z.heap.size Z w')) := Lib.hid (by
    rw [← her]
    exact (Cat.Im.check_im C Z (h.under HXZ.out) hl).mono fun _ _ ⟨e, h⟩ => ⟨e, Lib.hid h⟩)
  by_cases he : er = 0
  case neg =>
    have n1 : (er == 0) = false := by simpa using he
    have n2 : (er != 0) = true := by simpa using he
    have HE : Hid (mayQ C.p bay rs lv = er) := Lib.hid (by rw [may_err (by rw [her]; exact he), her])
    rw [HE.out]
    clear her h hl hr hs hm
    go_enter Try.func19, Try.ntmps19
    go_wp2_with fail
    clear hX hV hG hZ
    refine HC.out.mono ?_
    rintro e w1 ⟨rfl, H1⟩
    obtain ⟨⟨g0, g1, g2, g3⟩, f0, f1, f2, f3⟩ := HGC.out w1 H1.out
    clear k0 k1 k2 k3 k4 k5 k6 k7
    go_wp2_with fail
    exact ret_ba3 rfl rfl rfl rfl rfl (ba_set (HGB.out w1 H1.out)) ⟨⟨0, 0, 0, 0⟩, none, 0, 0, rfl, Lib.hid ⟨HEND.out w1 _ _ _ _ H1.out, fun h => absurd h he⟩⟩
  subst he
  obtain ⟨yv, hyv⟩ : ∃ yv, Cat.bayV C.p bay = yv := ⟨_, rfl⟩
  obtain ⟨be, hbe⟩ : ∃ be, Cat.bayE C.p bay = be := ⟨_, rfl⟩
  have hyb : C.yn ≤ 12 := hl.2.2
  have hyl : C.p.ys.length = C.yn := h.2.1
  have HB : Hid (∀ W, Below Z.heap.size Z W → Calls Try.prog 39 #[.agg #[.int .i64 C.ty, .slice C.ba C.bn C.bc, .int .i64 C.pl, .slice C.ya C.yn C.yc, .int .i64 C.ch, .int .i64 C.f.broker, .int .i64 C.f.least, .int .i64 C.f.sales], .int .i64 bay] W fun e w' => e = .returned (.tuple #[.agg #[.int .i64 yv.pl, .int .i64 yv.mf, .int .i64 yv.lb, .int .i64 yv.rt], .int .i64 be]) ∧ Hid (Below W.heap.size W w')) := Lib.hid fun W hW => by
    have h1 := Cat.Im.bay_im C bay W ((h.under HXZ.out).under hW) (by omega)
    rw [hyv, hbe] at h1
    exact h1.mono fun _ _ ⟨e, h⟩ => ⟨e, Lib.hid h⟩
  by_cases hb : 1 ≤ bay ∧ bay ≤ C.p.ys.length
  case neg =>
    have hbe3 : be = 3 := by rw [← hbe]; exact (Cat.bay_no hb).1
    subst hbe3
    have HE : Hid (mayQ C.p bay rs lv = 3) := Lib.hid (may_none her hb)
    rw [HE.out]
    clear her h hl hr hs hm hyv hbe hb hyl
    go_enter Try.func19, Try.ntmps19
    go_wp2_with fail
    clear hX hV hG hZ
    refine HC.out.mono ?_
    rintro e w1 ⟨rfl, H1⟩
    clear k0 k1 k2 k3 k4 k5 k6 k7
    obtain ⟨y0, y1, y2, y3, y4, y5, y6, y7⟩ := HPE.out w1 H1.out
    go_wp2_with fail
    refine (HB.out w1 H1.out).mono ?_
    rintro e w2 ⟨rfl, H2⟩
    have HZ2 : Hid (Below Z.heap.size Z w2) := Lib.hid (below_then H1.out H2.out)
    obtain ⟨U, Y, hU, hY, HYB, HUC⟩ := box_by w2 yv
    have HZY : Hid (Below Z.heap.size Z Y) := Lib.hid (below_then HZ2.out HYB.out)
    obtain ⟨⟨g0, g1, g2, g3⟩, f0, f1, f2, f3⟩ := HGC.out Y HZY.out
    clear y0 y1 y2 y3 y4 y5 y6 y7
    go_wp2_with fail
    clear hU hY
    exact ret_ba3 rfl rfl rfl rfl rfl (ba_set (HGB.out Y HZY.out)) ⟨⟨0, 0, 0, 0⟩, none, 0, 0, rfl, Lib.hid ⟨HEND.out Y _ _ _ _ HZY.out, fun h => by cases h⟩⟩
  have hbe0 : be = 0 := by
    rw [← hbe]
    unfold Cat.bayE
    exact if_pos hb
  subst hbe0
  have HE : Hid (mayQ C.p bay rs lv = argE C.p rs lv) := Lib.hid (by
    unfold argE
    by_cases hk : ArgOk C.p rs lv
    · rw [may_ok her hb hk, if_pos hk]
    · rw [may_arg her hb hk, if_neg hk])
  have HJB : Hid (∀ W, Below Z.heap.size Z W → Calls Try.prog 31 #[.agg #[.int .i64 C.ty, .slice C.ba C.bn C.bc, .int .i64 C.pl, .slice C.ya C.yn C.yc, .int .i64 C.ch, .int .i64 C.f.broker, .int .i64 C.f.least, .int .i64 C.f.sales], .slice a m c, .int .i64 lv] W fun e w' => ∃ a' n' c', e = .returned (.tuple #[.slice a' n' c', .int .i64 (argE C.p rs lv)]) ∧ Hid (Below W.heap.size W w' ∧ (argE C.p rs lv = 0 → n' = C.bn ∧ JobsAt w' a' C.bn (tmJ C.p rs lv) (wsJ C.p rs) ∧ ∀ W' G, G < W.heap.size → w'.grownBy W' (some G) → JobsAt W' a' C.bn (tmJ C.p rs lv) (wsJ C.p rs)))) := Lib.hid fun W hW =>
    jobs_im C a m c rs lv W ((h.under HXZ.out).under hW) hl her hr ((hs.under HXZ.out).under hW) hm
  rw [HE.out, hyv]
  clear her h hl hr hs hm hyv hbe hb hyl HE
  obtain ⟨ae, hae⟩ : ∃ ae, argE C.p rs lv = ae := ⟨_, rfl⟩
  rw [hae] at HJB ⊢
  clear hae
  go_enter Try.func19, Try.ntmps19
  go_wp2_with fail
  clear hX hV hG hZ
  refine HC.out.mono ?_
  rintro e w1 ⟨rfl, H1⟩
  clear k0 k1 k2 k3 k4 k5 k6 k7
  obtain ⟨y0, y1, y2, y3, y4, y5, y6, y7⟩ := HPE.out w1 H1.out
  go_wp2_with fail
  refine (HB.out w1 H1.out).mono ?_
  rintro e w2 ⟨rfl, H2⟩
  have HZ2 : Hid (Below Z.heap.size Z w2) := Lib.hid (below_then H1.out H2.out)
  obtain ⟨U, Y, hU, hY, HYB, HUC⟩ := box_by w2 yv
  have HZY : Hid (Below Z.heap.size Z Y) := Lib.hid (below_then HZ2.out HYB.out)
  have HGY : Hid (G < Y.heap.size) := Lib.hid (Array.getElem?_eq_some_iff.1 (HGB.out Y HZY.out)).1
  clear y0 y1 y2 y3 y4 y5 y6 y7
  obtain ⟨y0, y1, y2, y3, y4, y5, y6, y7⟩ := HPE.out Y HZY.out
  go_wp2_with fail
  clear hU hY
  refine (HJB.out Y HZY.out).mono ?_
  rintro e w3 ⟨a3, n3, c3, rfl, H3⟩
  have HZ3 : Hid (Below Z.heap.size Z w3) := Lib.hid (below_then HZY.out H3.out.1)
  clear y0 y1 y2 y3 y4 y5 y6 y7
  obtain ⟨⟨g0, g1, g2, g3⟩, f0, f1, f2, f3⟩ := HGC.out w3 HZ3.out
  obtain ⟨u0, u1, u2, u3⟩ := HUC.out w3 H3.out.1
  go_wp2_with fail
  exact ret_ba3 rfl rfl rfl rfl rfl (ba_set (HGB.out w3 HZ3.out)) ⟨yv, a3, n3, c3, rfl, Lib.hid ⟨HEND.out w3 _ _ _ _ HZ3.out, fun h0 => ⟨rfl, (H3.out.2 h0).1, (H3.out.2 h0).2.2 _ G HGY.out (only_setCell (only_setCell (only_setCell (only_setCell (only_refl w3 (some G)) 0 _) 1 _) 2 _) 3 _)⟩⟩⟩
/-! sum -/
/-- What is asked for the first so many jobs. -/
noncomputable def sumB (rt : Int) (t : Nat → Int) : Nat → Int
  | 0 => 0
  | k + 1 => sumB rt t k + Fee.bayV rt (t k)
theorem bay_in {rt t : Int} (h : 0 ≤ rt ∧ rt ≤ 10000) (ht : 0 ≤ t ∧ t ≤ 104857600000) : Fee.BayOk rt t ∧ 0 ≤ Fee.bayV rt t ∧ Fee.bayV rt t ≤ 104857600001 := by
  have hk : Fee.BayOk rt t := ⟨h, ht.1, by omega⟩
  have h3 : t * rt ≤ t * 10000 := Int.mul_le_mul_of_nonneg_left h.2 ht.1
  have h4 : 0 ≤ t * rt := Int.mul_nonneg ht.1 h.1
  have h5 : 0 ≤ t * rt / 10000 := Int.ediv_nonneg h4 (by omega)
  have h6 : t * rt / 10000 ≤ t := Int.ediv_le_of_le_mul (by omega) h3
  refine ⟨hk, ?_⟩
  rw [(Fee.bay_yes hk).1]
  unfold Fee.sc
  split <;> omega
theorem sumB_in {rt : Int} {t : Nat → Int} (h : 0 ≤ rt ∧ rt ≤ 10000) (ht : ∀ k, 0 ≤ t k ∧ t k ≤ 104857600000) : ∀ n : Nat, 0 ≤ sumB rt t n ∧ sumB rt t n ≤ n * 104857600001
  | 0 => by simp [sumB]
  | n + 1 => by
    have h1 := sumB_in h ht n
    have h2 := (bay_in h (ht n)).2
    rw [sumB]
    constructor <;> omega
theorem bay_zero {rt : Int} (h : 0 ≤ rt ∧ rt ≤ 10000) : Fee.bayV rt 0 = 0 := by
  rw [(Fee.bay_yes (⟨h, by omega, by omega⟩ : Fee.BayOk rt 0)).1]
  unfold Fee.sc
  simp
/-- All jobs, one by one, cost what the document says. -/
theorem sum_fee {C : Cat} {rs : List Int} {rt lv : Int} (h : 0 ≤ rt ∧ rt ≤ 10000) (hR : RunsOk C rs) : sumB rt (tmJ C rs lv) C.bs.length = feeV rt lv C.bs rs := by
  have key : ∀ i, i ≤ C.bs.length → sumB rt (tmJ C rs lv) i = feeV rt lv (C.bs.take i) (rs.take i) := fun i => by
    induction i with
    | zero => intro _; simp [sumB, feeV]
    | succ i ih =>
      intro hi
      have hb := List.getElem?_eq_getElem (show i < C.bs.length by omega)
      have hr := List.getElem?_eq_getElem (show i < rs.length by rw [hR.1]; omega)
      rw [sumB, ih (by omega), feeV_take rt lv hb hr, tmJ_at hb hr]
      by_cases h0 : 0 < rs[i]'(by rw [hR.1]; omega)
      · rw [if_pos h0]
      · have h1 := hR.2 _ (List.getElem_mem (show i < rs.length by rw [hR.1]; omega))
        have h2 : rs[i]'(by rw [hR.1]; omega) = 0 := by omega
        rw [if_neg h0, h2]
        unfold tim
        rw [if_pos rfl, bay_zero h]
  have := key C.bs.length (Nat.le_refl _)
  rw [this, List.take_of_length_le (Nat.le_refl _), List.take_of_length_le (by rw [hR.1]; exact Nat.le_refl _)]
set_option maxRecDepth 100000 in
set_option maxHeartbeats 8000000 in
theorem sum_im (rt : Int) (a : Option Addr) (n c : Nat) (t : Nat → Int) (ws : Nat → List Int) (w : World) (hj : JobsAt w a n t ws) (hn : n ≤ 20) (h : 0 ≤ rt ∧ rt ≤ 10000) (ht : ∀ k, 0 ≤ t k ∧ t k ≤ 104857600000) :
    Calls Try.prog 27 #[.int .i64 rt, .slice a n c] w fun e w' => e = .returned (.tuple #[.int .i64 (sumB rt t n), .int .i64 0]) ∧ Below w.heap.size w w' := by
  have HJ := jobs_at hj
  have hn1 : (n : Int) ≤ 20 := by omega
  have HT := Lib.hid ht
  have HRT := Lib.hid h
  have HFB : Hid (∀ (W : World) (k : Nat) (x v : Int), t k = x → Fee.bayV rt x = v → Calls Try.prog 49 #[.int .i64 rt, .int .i64 x] W fun e w' => e = .returned (.tuple #[.int .i64 v, .int .i64 0]) ∧ Below W.heap.size W w') := Lib.hid fun W k x v hx hv => by
    have h1 := Fee.bay_im rt x W
    rw [(Fee.bay_yes (hx ▸ (bay_in h (ht k)).1)).2, hv] at h1
    exact h1
  have HAD : Hid (∀ (W : World) (x y : Int), 0 ≤ x ∧ x ≤ 2097152000020 → 0 ≤ y ∧ y ≤ 104857600001 → Calls Try.prog 50 #[.int .i64 x, .int .i64 y] W fun e w' => e = .returned (.tuple #[.int .i64 (x + y), .int .i64 0]) ∧ W = w') := Lib.hid fun W x y hx hy => by
    have h1 := Calc.add_any x y W (by omega) (by omega) (by omega) (by omega)
    rw [Calc.valN_in (by omega) (by omega), Calc.valE_in (by omega) (by omega)] at h1
    exact h1
  clear hj ht h
  go_enter Try.func27, Try.ntmps27
  go_wp2_with fail
  go_loopw [6, 13] (fun u v wr => ∃ (k : Nat) (s : Int), u = .int .i64 s ∧ v = .int .i64 (k : Int) ∧ k ≤ n ∧ Hid (sumB rt t k = s) ∧ Hid (Below w.heap.size w wr)) (fun _ v _ => n - (RowKit.intOf v).toNat)
  case atStart => exact ⟨0, 0, rfl, rfl, by omega, Lib.hid rfl, Lib.hid (Below.refl _ _)⟩
  case round =>
    obtain ⟨k, s, rfl, rfl, hk, HI, HW⟩ := hrel
    have hk0 : (0 : Int) ≤ (k : Int) := by omega
    by_cases hlt : k < n
    case neg =>
      obtain rfl : k = n := by omega
      have hd1 : decide (k < k) = false := by simp
      go_wp2_with fail
      go_ret2
      exact ⟨by rw [HI.out]; rfl, HW.out⟩
    have hlt2 : (k : Int) < (n : Int) := by omega
    have hd1 : decide (k < n) = true := decide_eq_true hlt
    have wk : IntKind.i64.wrap ((k : Int) + 1) = (k : Int) + 1 := IntWalk.i64_in _ (by omega)
    have hsb := sumB_in HRT.out HT.out k
    rw [HI.out] at hsb
    obtain ⟨g, ak, ck, HA, HJC⟩ := HJ.out k hlt
    obtain rfl : a = some ⟨g, 0, none⟩ := HA.out
    obtain ⟨⟨c0, c1⟩, _⟩ := HJC.out wr HW.out
    obtain ⟨tk, htk⟩ : ∃ tk, t k = tk := ⟨_, rfl⟩
    obtain ⟨nk, hnk⟩ : ∃ nk, (ws k).length = nk := ⟨_, rfl⟩
    rw [htk] at c0
    rw [hnk] at c1
    have htb := HT.out k
    rw [htk] at htb
    obtain ⟨fv, hfv⟩ : ∃ fv, Fee.bayV rt tk = fv := ⟨_, rfl⟩
    have hfb := (bay_in HRT.out htb).2
    rw [hfv] at hfb
    have HI2 : Hid (sumB rt t (k + 1) = s + fv) := Lib.hid (by rw [sumB, HI.out, htk, hfv])
    obtain ⟨U, Y, hU, hY, HYB, HC⟩ := box_job wr tk ak nk ck
    obtain ⟨k0, k1⟩ := HC.out Y (Below.refl _ _)
    have HF := Lib.hid (fun W => HFB.out W k tk fv htk hfv)
    have HD := Lib.hid (fun W => HAD.out W s fv (by omega) hfb)
    have dt : decide (1099511627776 < tk) = false := decide_eq_false (by omega)
    have HWY : Hid (Below w.heap.size w Y) := Lib.hid (below_then HW.out HYB.out)
    clear htk hnk hfv htb hsb hfb
    go_wp2_with fail
    clear hU hY
    refine (HF.out Y).mono ?_
    rintro e w1 ⟨rfl, H1⟩
    have HW1 : Hid (Below w.heap.size w w1) := Lib.hid (below_then HWY.out H1)
    clear k0 k1 c0 c1 H1
    go_wp2_with fail
    refine (HD.out w1).mono ?_
    rintro e w2 ⟨rfl, rfl⟩
    go_wp2_with fail
    go_roundw
    case rel => exact ⟨k + 1, s + fv, rfl, by go_num, by omega, HI2, HW1⟩
    case measure => simp [RowKit.intOf]; omega
set_option maxRecDepth 100000 in
set_option maxHeartbeats 8000000 in
theorem fee_im (C : CM) (bay : Int) (a : Option Addr) (m c : Nat) (rs : List Int) (lv : Int) (w : World) (h : CatAt w C) (hl : Lim C) (hr : rs.length = m) (hs : IRow w a rs) (hm : m ≤ 1000) :
    Calls Try.prog 10 #[C.v, .int .i64 bay, .slice a m c, .int .i64 lv] w fun e w' => e = .returned (.tuple #[.int .i64 (feeQ C.p bay rs lv), .int .i64 (mayQ C.p bay rs lv)]) ∧ Below w.heap.size w w' := by
  obtain ⟨V, X, hV, hX, HXB, HP⟩ := box_cat w C
  have HPE : Hid (∀ W, Below X.heap.size X W → W.cell? ⟨V, 0, none⟩ = some (.int .i64 C.ty) ∧ W.cell? ⟨V, 1, none⟩ = some (.slice C.ba C.bn C.bc) ∧ W.cell? ⟨V, 2, none⟩ = some (.int .i64 C.pl) ∧ W.cell? ⟨V, 3, none⟩ = some (.slice C.ya C.yn C.yc) ∧ W.cell? ⟨V, 4, none⟩ = some (.int .i64 C.ch) ∧ W.cell? ⟨V, 5, none⟩ = some (.int .i64 C.f.broker) ∧ W.cell? ⟨V, 6, none⟩ = some (.int .i64 C.f.least) ∧ W.cell? ⟨V, 7, none⟩ = some (.int .i64 C.f.sales)) := Lib.hid fun W hW => HP.out W hW
  obtain ⟨k0, k1, k2, k3, k4, k5, k6, k7⟩ := HPE.out X (Below.refl _ _)
  have HA0 := ask_im C bay a m c rs lv X (h.under HXB.out) hl hr (hs.under HXB.out) hm
  have HBN := Lib.hid (blues_len C w h)
  have hb1 : C.bn ≤ 20 := hl.2.1
  obtain ⟨er, her⟩ : ∃ er, mayQ C.p bay rs lv = er := ⟨_, rfl⟩
  rw [her] at HA0
  have HA := Lib.hid HA0
  clear HA0 h hl hr hs hm
  by_cases he : er = 0
  case neg =>
    have n1 : (er == 0) = false := by simpa using he
    have n2 : (er != 0) = true := by simpa using he
    rw [fee_not (by rw [her]; exact he), her]
    clear her
    go_enter Try.func10, Try.ntmps10
    go_wp2_with fail
    clear hX hV
    refine HA.out.mono ?_
    rintro e w1 ⟨y, a1, n1', c1, rfl, H1⟩
    obtain ⟨U, Y, hU, hY, HYB, HUC⟩ := box_by w1 y
    clear k0 k1 k2 k3 k4 k5 k6 k7
    go_wp2_with fail
    clear hU hY
    go_ret2
    exact ⟨rfl, below_then HXB.out (below_then H1.out.1 HYB.out)⟩
  subst he
  obtain ⟨hch, hbay, hok⟩ := may_zero her
  obtain ⟨yv, hyv⟩ : ∃ yv, Cat.bayV C.p bay = yv := ⟨_, rfl⟩
  have hyo : 0 ≤ yv.rt ∧ yv.rt ≤ 10000 := by
    obtain ⟨j, hj⟩ := Int.eq_ofNat_of_zero_le (show 0 ≤ bay - 1 by omega)
    obtain rfl : bay = (j : Int) + 1 := by omega
    have hjl : j < C.p.ys.length := by omega
    have h1 := (Cat.bay_yes (List.getElem?_eq_getElem hjl)).2
    rw [h1] at hyv
    subst hyv
    exact (bay_ok hch (List.getElem?_eq_getElem hjl)).2
  have HV : Hid (feeQ C.p bay rs lv = sumB yv.rt (tmJ C.p rs lv) C.bn) := Lib.hid (by rw [fee_is her, hyv, ← HBN.out, sum_fee hyo hok.1])
  have HYO := Lib.hid hyo
  have HYV := Lib.hid hyv
  rw [her, HV.out]
  clear her hch hbay hok hyv hyo
  obtain ⟨fv, hfv⟩ : ∃ fv, sumB yv.rt (tmJ C.p rs lv) C.bn = fv := ⟨_, rfl⟩
  have HFV := Lib.hid hfv
  rw [hfv]
  clear hfv
  go_enter Try.func10, Try.ntmps10
  go_wp2_with fail
  clear hX hV
  refine HA.out.mono ?_
  rintro e w1 ⟨y, a1, n1, c1, rfl, H1⟩
  obtain ⟨h1, rfl, h3⟩ := H1.out.2 (by first | rfl | trivial)
  rw [HYV.out] at h1
  subst h1
  obtain ⟨U, Y, hU, hY, HYB, HUC⟩ := box_by w1 y
  obtain ⟨u0, u1, u2, u3⟩ := HUC.out Y (Below.refl _ _)
  have HS := Lib.hid (sum_im y.rt a1 C.bn c1 (tmJ C.p rs lv) (wsJ C.p rs) Y (h3.under HYB.out) hb1 HYO.out (fun k => jb_t C.p rs lv 0 k))
  rw [HFV.out] at HS
  clear k0 k1 k2 k3 k4 k5 k6 k7 h3
  go_wp2_with fail
  clear hU hY
  refine HS.out.mono ?_
  rintro e w2 ⟨rfl, H2⟩
  go_wp2_with fail
  go_ret2
  exact ⟨rfl, below_then HXB.out (below_then H1.out.1 (below_then HYB.out H2))⟩
end Go.Proofs.Ytdbhdlgoecpeaaa.Quo.Im
