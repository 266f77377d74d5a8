/- RecipeFair. -/
import Derived.Test.YtbibkonlhghplaaRecG
import Derived.BigRegion
import Derived.BigQuiet
namespace Go.Proofs.Ytbibkonlhghplaa.Recipe
open Go.RowKit Go.Lib
open Goods (St Sts OwnS)

theorem box_u16 (w : World) (x y : Int) : ∃ V X, w.heap.size = V ∧ w.alloc (.cells #[.int .u16 x, .int .u16 y] 40) = X ∧ Hid (Below w.heap.size w X) ∧ Hid (∀ W, Below X.heap.size X W → W.cell? ⟨V, 0, none⟩ = some (.int .u16 x) ∧ W.cell? ⟨V, 1, none⟩ = some (.int .u16 y)) := by
  refine ⟨_, _, rfl, rfl, Lib.hid ((Below.refl _ w).alloc (Nat.le_refl _) _), Lib.hid (fun W hW => ?_)⟩
  have h0 := heap_alloc_new w (.cells #[.int .u16 x, .int .u16 y] 40)
  have h1 := (hW.block _ (Array.getElem?_eq_some_iff.1 h0).1).trans h0
  exact ⟨cell_block (j := 0) h1 rfl, cell_block (j := 1) h1 rfl⟩
theorem box_u8 (w : World) (x y : Int) : ∃ V X, w.heap.size = V ∧ w.alloc (.cells #[.int .u8 x, .int .u8 y] 41) = X ∧ Hid (Below w.heap.size w X) ∧ Hid (∀ W, Below X.heap.size X W → W.cell? ⟨V, 0, none⟩ = some (.int .u8 x) ∧ W.cell? ⟨V, 1, none⟩ = some (.int .u8 y)) := by
  refine ⟨_, _, rfl, rfl, Lib.hid ((Below.refl _ w).alloc (Nat.le_refl _) _), Lib.hid (fun W hW => ?_)⟩
  have h0 := heap_alloc_new w (.cells #[.int .u8 x, .int .u8 y] 41)
  have h1 := (hW.block _ (Array.getElem?_eq_some_iff.1 h0).1).trans h0
  exact ⟨cell_block (j := 0) h1 rfl, cell_block (j := 1) h1 rfl⟩
theorem below_drewN {B : Nat} {a w : World} (h : Below B a w) (n : Nat) : Below B a (w.drewN n) := ⟨h.os, h.tape, h.output, h.size, h.block⟩
theorem some_runs (n : Int) (h0 : 0 ≤ n) (h : n ≤ 65535) : ∃ t p : Int, IntKind.i64.wrap n = n ∧ n.tmod 500 = t ∧ IntKind.i64.wrap t = t ∧ IntKind.i64.wrap (1 + t) = p ∧ 1 ≤ p ∧ p ≤ 500 := by
  have e : n.tmod 500 = n % 500 := Int.tmod_eq_emod_of_nonneg h0
  exact ⟨_, 1 + n % 500, IntWalk.i64_in _ (by omega), e, IntWalk.i64_in _ (by omega), IntWalk.i64_in _ (by omega), by omega, by omega⟩
theorem u8_in {x : Int} (h0 : 0 ≤ x) (h1 : x ≤ 255) : IntKind.u8.wrap x = x := by
  simp [IntKind.wrap, IntKind.signed, IntKind.bits]
  omega
theorem some_levels (a c : Int) (ha0 : 0 ≤ a) (ha : a ≤ 255) (hc0 : 0 ≤ c) (hc : c ≤ 255) : ∃ mn mx lo hi u v : Int, (if c < a then c else a) = mn ∧ (if c > a then c else a) = mx ∧ mn.tmod 11 = lo ∧ mx.tmod 11 = hi ∧ IntKind.u8.wrap lo = lo ∧ IntKind.u8.wrap hi = hi ∧ (if hi < lo then hi else lo) = u ∧ (if hi > lo then hi else lo) = v ∧ IntKind.i64.wrap u = u ∧ IntKind.i64.wrap v = v ∧ 0 ≤ u ∧ u ≤ v ∧ v ≤ 10 := by
  obtain ⟨mn, hmn⟩ : ∃ mn, (if c < a then c else a) = mn := ⟨_, rfl⟩
  obtain ⟨mx, hmx⟩ : ∃ mx, (if c > a then c else a) = mx := ⟨_, rfl⟩
  have h1 : 0 ≤ mn ∧ mn ≤ 255 := by rw [← hmn]; split <;> omega
  have h2 : 0 ≤ mx ∧ mx ≤ 255 := by rw [← hmx]; split <;> omega
  have e1 : mn.tmod 11 = mn % 11 := Int.tmod_eq_emod_of_nonneg h1.1
  have e2 : mx.tmod 11 = mx % 11 := Int.tmod_eq_emod_of_nonneg h2.1
  obtain ⟨lo, hlo⟩ : ∃ lo, mn % 11 = lo := ⟨_, rfl⟩
  obtain ⟨hi, hhi⟩ : ∃ hi, mx % 11 = hi := ⟨_, rfl⟩
  have h3 : 0 ≤ lo ∧ lo ≤ 10 := by omega
  have h4 : 0 ≤ hi ∧ hi ≤ 10 := by omega
  obtain ⟨u, hu⟩ : ∃ u, (if hi < lo then hi else lo) = u := ⟨_, rfl⟩
  obtain ⟨v, hv⟩ : ∃ v, (if hi > lo then hi else lo) = v := ⟨_, rfl⟩
  have h5 : (0 ≤ u ∧ u ≤ 10) ∧ u ≤ v ∧ v ≤ 10 := by
    rw [← hu, ← hv]
    split <;> split <;> omega
  exact ⟨mn, mx, lo, hi, u, v, hmn, hmx, by rw [e1, hlo], by rw [e2, hhi], u8_in h3.1 (by omega), u8_in h4.1 (by omega), hu, hv, IntWalk.i64_in _ (by omega), IntWalk.i64_in _ (by omega), h5.1.1, h5.2.1, h5.2.2⟩
/-- What four answers say of each other. -/
theorem fair_rows {b : Bl} {p q u v : Int} {lx ly lz lw : List St} (h : (1 ≤ p ∧ p ≤ 500) ∧ (1 ≤ q ∧ q ≤ 500) ∧ 0 ≤ u ∧ u ≤ v ∧ v ≤ 10) (h0 : needsL b u p = lx ∧ needsE b u p = 0) (h1 : needsL b u q = ly ∧ needsE b u q = 0) (h2 : needsL b u (p + q) = lz ∧ needsE b u (p + q) = 0) (h3 : needsL b v p = lw ∧ needsE b v p = 0) :
    BlOk b 32 ∧ lx = needL b.s u p ∧ ly = needL b.s u q ∧ lz = needL b.s u (p + q) ∧ lw = needL b.s v p ∧ (∀ t ∈ b.s, nd t.qty u p ≤ nd t.qty u (p + q) ∧ nd t.qty u (p + q) ≤ nd t.qty u p + nd t.qty u q ∧ nd t.qty v p ≤ nd t.qty u p ∧ p ≤ nd t.qty v p ∧ IntKind.i64.wrap (nd t.qty u p + nd t.qty u q) = nd t.qty u p + nd t.qty u q) ∧ ∃ tA tC tD : Int, (timeV b u p = tA ∧ timeE b u p = 0) ∧ (timeV b v p = tC ∧ timeE b v p = 0) ∧ (timeV b u (p + q) = tD ∧ timeE b u (p + q) = 0) ∧ tC ≤ tA ∧ tA ≤ tD := by
  obtain ⟨hp, hq, hu, huv, hv⟩ := h
  obtain ⟨hok, v0, e0⟩ := needsE_zero h0.2
  obtain ⟨_, v1, e1⟩ := needsE_zero h1.2
  obtain ⟨_, v2, e2⟩ := needsE_zero h2.2
  obtain ⟨_, v3, e3⟩ := needsE_zero h3.2
  obtain ⟨s0, t0⟩ := time_ok hok v0
  obtain ⟨s2, t2⟩ := time_ok hok v2
  obtain ⟨s3, t3⟩ := time_ok hok v3
  have htm := hok.2.2.2.1
  refine ⟨hok, by rw [← h0.1, e0], by rw [← h1.1, e1], by rw [← h2.1, e2], by rw [← h3.1, e3], fun t ht => ?_, _, _, _, ⟨t0, s0⟩, ⟨t3, s3⟩, ⟨t2, s2⟩, tm_high (by omega) (by omega) huv, tm_more (by omega) (by omega) (by omega)⟩
  have hq0 := ok_qty hok t ht
  have b0 := nd_in hq0.1 hq0.2 v0
  have b1 := nd_in hq0.1 hq0.2 v1
  exact ⟨nd_more hq0.1 (by omega) (by omega), nd_both, nd_high hq0.1 (by omega) huv, nd_run _ _ _, IntWalk.i64_in _ (by omega)⟩
set_option maxRecDepth 100000 in
set_option maxHeartbeats 8000000 in
theorem recipeFair_in (I : Impl) (b : Bl) (n0 n1 l0 l1 : Int) (w : World) (hl : b.s.length = b.sm) (hs : Sts w b.sa b.s) (hi : InBl b) (hn0 : 0 ≤ n0 ∧ n0 ≤ 65535) (hn1 : 0 ≤ n1 ∧ n1 ≤ 65535) (hl0 : 0 ≤ l0 ∧ l0 ≤ 255) (hl1 : 0 ≤ l1 ∧ l1 ≤ 255) :
    Calls Try.prog 5 #[blV b, .agg #[.int .u16 n0, .int .u16 n1], .agg #[.int .u8 l0, .int .u8 l1]] w fun e w' => e = .returned (.bool true) ∧ Below w.heap.size w w' := by
  obtain ⟨V, X, hV, hX, HXB, HP⟩ := box_blue w b
  obtain ⟨V1, X1, hV1, hX1, HXB1, HP1⟩ := box_u16 X n0 n1
  obtain ⟨V2, X2, hV2, hX2, HXB2, HP2⟩ := box_u8 X1 l0 l1
  have HB1 : Hid (Below X.heap.size X X2) := Lib.hid (below_then HXB1.out HXB2.out)
  have HB2 : Hid (Below w.heap.size w X2) := Lib.hid (below_then HXB.out HB1.out)
  have HC : Hid (∀ W, Below X2.heap.size X2 W → CellsU W V b) := Lib.hid (fun W hW => HP.out W (below_then HB1.out hW))
  have HC2 : Hid (∀ W, Below X2.heap.size X2 W → (W.cell? ⟨V1, 0, none⟩ = some (.int .u16 n0) ∧ W.cell? ⟨V1, 1, none⟩ = some (.int .u16 n1)) ∧ W.cell? ⟨V2, 0, none⟩ = some (.int .u8 l0) ∧ W.cell? ⟨V2, 1, none⟩ = some (.int .u8 l1)) := Lib.hid (fun W hW => ⟨HP1.out W (below_then HXB2.out hW), HP2.out W hW⟩)
  obtain ⟨k0, k1, k2, k3, k4, k5, k6⟩ := HC.out X2 (Below.refl _ _)
  obtain ⟨⟨i0, i1⟩, j0, j1⟩ := HC2.out X2 (Below.refl _ _)
  have HAW := awake_at I X2
  by_cases h12 : b.sm ≤ 12
  case neg =>
    have d1 : decide (12 < (b.sm : Int)) = true := decide_eq_true (by omega)
    clear hl hs hi h12 hn0 hn1 hl0 hl1
    go_enter Try.func5, Try.ntmps5
    go_wp2_with fail
    clear hX hV hX1 hV1 hX2 hV2
    refine (HAW.out X2 (Below.refl _ _)).mono ?_
    rintro e w1 ⟨rfl, H1⟩
    go_wp2_with fail
    go_ret
    exact ⟨rfl, below_then HB2.out H1.out⟩
  have d1 : decide (12 < (b.sm : Int)) = false := decide_eq_false (by omega)
  have hf : Fit X2 b := ⟨⟨hl, hs.under HB2.out, by omega⟩, hi, h12⟩
  have HF := Lib.hid hf
  have HLS : Hid (b.s.length = b.sm) := Lib.hid hl
  obtain ⟨t0, p, a1, a2, a3, a4, p0, p1⟩ := some_runs n0 hn0.1 hn0.2
  obtain ⟨t1, q, b1, b2, b3, b4, q0, q1⟩ := some_runs n1 hn1.1 hn1.2
  obtain ⟨mn, mx, lo, hi', u, v, c1, c2, c3, c4, c5, c6, c7, c8, c9, c10, u0, uv, v1⟩ := some_levels l0 l1 hl0.1 hl0.2 hl1.1 hl1.2
  have wpq : IntKind.i64.wrap (p + q) = p + q := IntWalk.i64_in _ (by omega)
  have HN : Hid ((1 ≤ p ∧ p ≤ 500) ∧ (1 ≤ q ∧ q ≤ 500) ∧ 0 ≤ u ∧ u ≤ v ∧ v ≤ 10) := Lib.hid ⟨⟨p0, p1⟩, ⟨q0, q1⟩, u0, uv, v1⟩
  have hsm : (b.sm : Int) ≤ 12 := by omega
  have HIN : Hid (I64 u ∧ I64 v ∧ I64 p ∧ I64 q ∧ I64 (p + q)) := Lib.hid ⟨by unfold I64; omega, by unfold I64; omega, by unfold I64; omega, by unfold I64; omega, by unfold I64; omega⟩
  obtain ⟨lx, hlx⟩ : ∃ l, needsL b u p = l := ⟨_, rfl⟩
  obtain ⟨ly, hly⟩ : ∃ l, needsL b u q = l := ⟨_, rfl⟩
  obtain ⟨lz, hlz⟩ : ∃ l, needsL b u (p + q) = l := ⟨_, rfl⟩
  obtain ⟨lw, hlw⟩ : ∃ l, needsL b v p = l := ⟨_, rfl⟩
  obtain ⟨f0, hf0⟩ : ∃ f, needsE b u p = f := ⟨_, rfl⟩
  obtain ⟨f1, hf1⟩ : ∃ f, needsE b u q = f := ⟨_, rfl⟩
  obtain ⟨f2, hf2⟩ : ∃ f, needsE b u (p + q) = f := ⟨_, rfl⟩
  obtain ⟨f3, hf3⟩ : ∃ f, needsE b v p = f := ⟨_, rfl⟩
  have C0 := Lib.hid (fun W hW => (needs_at I b u p X2 hf HIN.out.1 HIN.out.2.2.1).out W lx f0 hW hlx hf0)
  have C1 := Lib.hid (fun W hW => (needs_at I b u q X2 hf HIN.out.1 HIN.out.2.2.2.1).out W ly f1 hW hly hf1)
  have C2 := Lib.hid (fun W hW => (needs_at I b u (p + q) X2 hf HIN.out.1 HIN.out.2.2.2.2).out W lz f2 hW hlz hf2)
  have C3 := Lib.hid (fun W hW => (needs_at I b v p X2 hf HIN.out.2.1 HIN.out.2.2.1).out W lw f3 hW hlw hf3)
  have HEQ : Hid ((needsL b u p = lx ∧ needsE b u p = f0) ∧ (needsL b u q = ly ∧ needsE b u q = f1) ∧ (needsL b u (p + q) = lz ∧ needsE b u (p + q) = f2) ∧ (needsL b v p = lw ∧ needsE b v p = f3)) := Lib.hid ⟨⟨hlx, hf0⟩, ⟨hly, hf1⟩, ⟨hlz, hf2⟩, hlw, hf3⟩
  clear hf hl hs hi h12 hn0 hn1 hl0 hl1 p0 p1 q0 q1 u0 uv v1 hlx hly hlz hlw hf0 hf1 hf2 hf3
  go_enter Try.func5, Try.ntmps5
  go_wp2_with fail
  clear hX hV hX1 hV1 hX2 hV2
  go_quiet (fail)
  go_wp2_with fail
  go_region
  go_wp2_with fail
  clear i0 i1 j0 j1 a1 a2 a3 a4 b1 b2 b3 b4 c1 c2 c3 c4 c5 c6 c7 c8 c9 c10 HC2 HP1 HP2
  clear k0 k1 k2 k3 k4 k5 k6
  refine (C0.out _ (below_drewN (Below.refl _ X2) _)).mono ?_
  rintro e w0 ⟨x0, m0, y0, rfl, H0⟩
  obtain ⟨k0, k1, k2, k3, k4, k5, k6⟩ := HC.out w0 H0.out.1
  go_wp2_with fail
  refine (C1.out w0 H0.out.1).mono ?_
  rintro e w1 ⟨x1, m1, y1, rfl, H1⟩
  clear k0 k1 k2 k3 k4 k5 k6
  obtain ⟨k0, k1, k2, k3, k4, k5, k6⟩ := HC.out w1 H1.out.1
  go_wp2_with fail
  refine (C2.out w1 H1.out.1).mono ?_
  rintro e w2 ⟨x2, m2, y2, rfl, H2⟩
  clear k0 k1 k2 k3 k4 k5 k6
  obtain ⟨k0, k1, k2, k3, k4, k5, k6⟩ := HC.out w2 H2.out.1
  go_wp2_with fail
  refine (C3.out w2 H2.out.1).mono ?_
  rintro e w3 ⟨x3, m3, y3, rfl, H3⟩
  clear k0 k1 k2 k3 k4 k5 k6
  obtain ⟨k0, k1, k2, k3, k4, k5, k6⟩ := HC.out w3 H3.out.1
  have S0 : Hid (Sts w3 x0 lx) := Lib.hid (H0.out.2.2.2.under (below_then H1.out.2.1 (below_then H2.out.2.1 H3.out.2.1)))
  have S1 : Hid (Sts w3 x1 ly) := Lib.hid (H1.out.2.2.2.under (below_then H2.out.2.1 H3.out.2.1))
  have S2 : Hid (Sts w3 x2 lz) := Lib.hid (H2.out.2.2.2.under H3.out.2.1)
  by_cases z0 : f0 = 0
  case neg =>
    have n1 : (f0 == 0) = false := by simpa using z0
    have n2 : (f0 != 0) = true := by simpa using z0
    clear C0 C1 C2 C3
    go_wp2_with fail
    refine (HAW.out w3 H3.out.1).mono ?_
    rintro e w4 ⟨rfl, H4⟩
    go_wp2_with fail
    go_ret
    exact ⟨rfl, below_then HB2.out H4.out⟩
  subst z0
  by_cases z1 : f1 = 0
  case neg =>
    have n1 : (f1 == 0) = false := by simpa using z1
    have n2 : (f1 != 0) = true := by simpa using z1
    clear C0 C1 C2 C3
    go_wp2_with fail
    refine (HAW.out w3 H3.out.1).mono ?_
    rintro e w4 ⟨rfl, H4⟩
    go_wp2_with fail
    go_ret
    exact ⟨rfl, below_then HB2.out H4.out⟩
  subst z1
  by_cases z2 : f2 = 0
  case neg =>
    have n1 : (f2 == 0) = false := by simpa using z2
    have n2 : (f2 != 0) = true := by simpa using z2
    clear C0 C1 C2 C3
    go_wp2_with fail
    refine (HAW.out w3 H3.out.1).mono ?_
    rintro e w4 ⟨rfl, H4⟩
    go_wp2_with fail
    go_ret
    exact ⟨rfl, below_then HB2.out H4.out⟩
  subst z2
  by_cases z3 : f3 = 0
  case neg =>
    have n1 : (f3 == 0) = false := by simpa using z3
    have n2 : (f3 != 0) = true := by simpa using z3
    clear C0 C1 C2 C3
    go_wp2_with fail
    refine (HAW.out w3 H3.out.1).mono ?_
    rintro e w4 ⟨rfl, H4⟩
    go_wp2_with fail
    go_ret
    exact ⟨rfl, below_then HB2.out H4.out⟩
  subst z3
  have HR := fair_rows HN.out HEQ.out.1 HEQ.out.2.1 HEQ.out.2.2.1 HEQ.out.2.2.2
  obtain ⟨hok, r0, r1, r2, r3, hrow, tA, tC, tD, g0, g1, g2, hca, had⟩ := HR
  have HL := HLS.out
  obtain rfl : m0 = b.sm := by rw [← H0.out.2.2.1, r0, needL_length, HL]
  obtain rfl : m1 = b.sm := by rw [← H1.out.2.2.1, r1, needL_length, HL]
  obtain rfl : m2 = b.sm := by rw [← H2.out.2.2.1, r2, needL_length, HL]
  obtain rfl : m3 = b.sm := by rw [← H3.out.2.2.1, r3, needL_length, HL]
  have HROW : Hid (∀ i : Nat, i < b.sm → ∃ (A B C D : Int) (g0 o0 g1 o1 g2 o2 g3 o3 : Nat), x0 = some ⟨g0, o0, none⟩ ∧ x1 = some ⟨g1, o1, none⟩ ∧ x2 = some ⟨g2, o2, none⟩ ∧ x3 = some ⟨g3, o3, none⟩ ∧ Hid (∀ W, Below w3.heap.size w3 W → W.cell? ⟨g0, o0 + i * 2 + 1, none⟩ = some (.int .i64 A) ∧ W.cell? ⟨g1, o1 + i * 2 + 1, none⟩ = some (.int .i64 B) ∧ W.cell? ⟨g2, o2 + i * 2 + 1, none⟩ = some (.int .i64 C) ∧ W.cell? ⟨g3, o3 + i * 2 + 1, none⟩ = some (.int .i64 D)) ∧ A ≤ C ∧ C ≤ A + B ∧ D ≤ A ∧ p ≤ D ∧ IntKind.i64.wrap (A + B) = A + B) := Lib.hid (fun i hi => by
    obtain ⟨t, ht⟩ := Goods.nth_at (l := b.s) (by rw [HL]; exact hi)
    obtain ⟨e1, e2, e3, e4, e5⟩ := hrow t (List.mem_of_getElem? ht)
    have q0 := needL_at (lv := u) (r := p) ht
    have q1 := needL_at (lv := u) (r := q) ht
    have q2 := needL_at (lv := u) (r := p + q) ht
    have q3 := needL_at (lv := v) (r := p) ht
    rw [← r0] at q0
    rw [← r1] at q1
    rw [← r2] at q2
    rw [← r3] at q3
    obtain ⟨h0, o0, s0, l0, _, c0⟩ := S0.out i _ q0
    obtain ⟨h1, o1, s1, l1, _, c1⟩ := S1.out i _ q1
    obtain ⟨h2, o2, s2, l2, _, c2⟩ := S2.out i _ q2
    obtain ⟨h3, o3, s3, l3, _, c3⟩ := H3.out.2.2.2 i _ q3
    exact ⟨_, _, _, _, h0, o0, h1, o1, h2, o2, h3, o3, s0, s1, s2, s3, Lib.hid (fun W hW => ⟨(hW.cell (p := ⟨h0, _, none⟩) l0).trans c0, (hW.cell (p := ⟨h1, _, none⟩) l1).trans c1, (hW.cell (p := ⟨h2, _, none⟩) l2).trans c2, (hW.cell (p := ⟨h3, _, none⟩) l3).trans c3⟩), e1, e2, e3, e4, e5⟩)
  have T0 := Lib.hid (fun W hW => (time_at I b u p X2 HF.out HIN.out.1 HIN.out.2.2.1).out W tA 0 hW g0.1 g0.2)
  have T1 := Lib.hid (fun W hW => (time_at I b v p X2 HF.out HIN.out.2.1 HIN.out.2.2.1).out W tC 0 hW g1.1 g1.2)
  have T2 := Lib.hid (fun W hW => (time_at I b u (p + q) X2 HF.out HIN.out.1 HIN.out.2.2.2.2).out W tD 0 hW g2.1 g2.2)
  have dt1 : decide (tC ≤ tA) = true := decide_eq_true hca
  have dt2 : decide (tA ≤ tD) = true := decide_eq_true had
  clear C0 C1 C2 C3 hok r0 r1 r2 r3 hrow g0 g1 g2 hca had HL
  clear k0 k1 k2 k3 k4 k5 k6
  go_wp2_with fail
  go_loopw [21] (fun t wr => ∃ i : Nat, t = .int .i64 (i : Int) ∧ i ≤ b.sm ∧ Hid (Below w3.heap.size w3 wr)) (fun t _ => b.sm - (RowKit.intOf t).toNat)
  case atStart => exact ⟨0, rfl, by omega, Lib.hid (Below.refl _ _)⟩
  case round =>
    obtain ⟨i, rfl, hi, HB⟩ := hrel
    have hi0 : (0 : Int) ≤ (i : Int) := by omega
    by_cases hlt : i < b.sm
    · have hlt2 : (i : Int) < (b.sm : Int) := by omega
      obtain ⟨A, B, C, D, g0, o0, g1, o1, g2, o2, g3, o3, rfl, rfl, rfl, rfl, HCL, e1, e2, e3, e4, e5⟩ := HROW.out i hlt
      obtain ⟨j0, j1, j2, j3⟩ := HCL.out wr HB.out
      have d2 : decide (C < A) = false := decide_eq_false (by omega)
      have d3 : decide (A + B < C) = false := decide_eq_false (by omega)
      have d4 : decide (A < D) = false := decide_eq_false (by omega)
      have d5 : decide (D < p) = false := decide_eq_false (by omega)
      have wi : IntKind.i64.wrap ((i : Int) + 1) = (i : Int) + 1 := IntWalk.i64_in _ (by omega)
      clear e1 e2 e3 e4
      go_wp2_with fail
      go_quiet (fail)
      go_wp2_with fail
      go_roundw
      case rel => exact ⟨i + 1, by go_num, by omega, Lib.hid (below_drewN HB.out _)⟩
      case measure => simp [RowKit.intOf]; omega
    · obtain rfl : i = b.sm := by omega
      have HBX : Hid (Below X2.heap.size X2 wr) := Lib.hid (below_then H3.out.1 HB.out)
      obtain ⟨k0, k1, k2, k3, k4, k5, k6⟩ := HC.out wr HBX.out
      go_wp2_with fail
      refine (T0.out wr HBX.out).mono ?_
      rintro e w5 ⟨rfl, H5⟩
      clear k0 k1 k2 k3 k4 k5 k6
      obtain ⟨k0, k1, k2, k3, k4, k5, k6⟩ := HC.out w5 H5.out
      go_wp2_with fail
      refine (T1.out w5 H5.out).mono ?_
      rintro e w6 ⟨rfl, H6⟩
      clear k0 k1 k2 k3 k4 k5 k6
      obtain ⟨k0, k1, k2, k3, k4, k5, k6⟩ := HC.out w6 H6.out
      go_wp2_with fail
      refine (T2.out w6 H6.out).mono ?_
      rintro e w7 ⟨rfl, H7⟩
      clear k0 k1 k2 k3 k4 k5 k6
      go_wp2_with fail
      refine (HAW.out w7 H7.out).mono ?_
      rintro e w8 ⟨rfl, H8⟩
      go_wp2_with fail
      go_ret
      exact ⟨rfl, below_then HB2.out H8.out⟩
end Go.Proofs.Ytbibkonlhghplaa.Recipe
