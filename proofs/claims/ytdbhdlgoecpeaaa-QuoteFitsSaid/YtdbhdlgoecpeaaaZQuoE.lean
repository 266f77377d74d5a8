/- The document's Plan. -/
import Derived.Test.YtdbhdlgoecpeaaaZQuoPl
namespace Go.Proofs.Ytdbhdlgoecpeaaa.Quo
open Go.RowKit Go.Lib IRows
open Goods (St Sts)
open Cat (Cat PB Ba CM CatAt Lim box_cat pOf)
open Bom (RunsOk tim tim_blue tim_le tim_nonneg)
open Recipe (BlIn)

theorem info_bool : (Try.prog.info? 4).map (fun i => (i.zero, i.size, i.bytes)) = some (some (.bool false), 1, 1) := by kernel_rfl
theorem made_b (z : Value) (n i : Nat) (h : i < n) : (madeCells #[z] n)[i]? = some z := by simp [madeCells, h, Nat.mod_one]
theorem PO.set3 {X W : World} {A B n : Nat} {s e : Nat → Int} {b : Nat → Bool} (h : Below X.heap.size X W ∧ PO W A B n s e b) (hA : X.heap.size ≤ A) (hB : X.heap.size ≤ B) (k : Nat) (x y : Int) :
    Below X.heap.size X (((W.setCell ⟨A, k * 2, none⟩ (.int .i64 x)).setCell ⟨A, k * 2 + 1, none⟩ (.int .i64 y)).setCell ⟨B, k, none⟩ (.bool true)) ∧ PO (((W.setCell ⟨A, k * 2, none⟩ (.int .i64 x)).setCell ⟨A, k * 2 + 1, none⟩ (.int .i64 y)).setCell ⟨B, k, none⟩ (.bool true)) A B n (updN s k x) (updN e k y) (updN b k true) :=
  ⟨((h.1.setCell (p := ⟨A, k * 2, none⟩) hA _).setCell (p := ⟨A, k * 2 + 1, none⟩) hA _).setCell (p := ⟨B, k, none⟩) hB _, (h.2.setS k x y).setB k true⟩

set_option maxRecDepth 100000 in
set_option maxHeartbeats 64000000 in
theorem dplan (C : CM) (bay : Int) (a : Option Addr) (n c : Nat) (rs : List Int) (lv : Int) (w : World) (h : CatAt w C) (hl : Lim C) (hn : rs.length = n) (hs : IRow w a rs) (h4 : n ≤ 1000) :
    Calls Try.prog 9 #[C.v, .int .i64 bay, .slice a n c, .int .i64 lv] w fun e w' => ∃ a' n' c', e = .returned (.tuple #[.slice a' n' c', .int .i64 (planE C.p bay rs lv)]) ∧ Hid ((planL C.p bay rs lv).length = n' ∧ Spa w' a' (planL C.p bay rs lv) ∧ Below w.heap.size w w') := by
  obtain ⟨V, X, hV, hX, HXB, HP⟩ := box_cat w C
  have HPE : Hid (∀ W, Below X.heap.size X W → W.cell? ⟨V, 0, none⟩ = some (.int .i64 C.ty) ∧ W.cell? ⟨V, 1, none⟩ = some (.slice C.ba C.bn C.bc) ∧ W.cell? ⟨V, 2, none⟩ = some (.int .i64 C.pl) ∧ W.cell? ⟨V, 3, none⟩ = some (.slice C.ya C.yn C.yc) ∧ W.cell? ⟨V, 4, none⟩ = some (.int .i64 C.ch) ∧ W.cell? ⟨V, 5, none⟩ = some (.int .i64 C.f.broker) ∧ W.cell? ⟨V, 6, none⟩ = some (.int .i64 C.f.least) ∧ W.cell? ⟨V, 7, none⟩ = some (.int .i64 C.f.sales)) := Lib.hid fun W hW => HP.out W hW
  obtain ⟨k0, k1, k2, k3, k4, k5, k6, k7⟩ := HPE.out X (Below.refl _ _)
  obtain ⟨er, her⟩ : ∃ er, mayQ C.p bay rs lv = er := ⟨_, rfl⟩
  have HM : Hid (Calls Try.prog 24 #[.agg #[.int .i64 C.ty, .slice C.ba C.bn C.bc, .int .i64 C.pl, .slice C.ya C.yn C.yc, .int .i64 C.ch, .int .i64 C.f.broker, .int .i64 C.f.least, .int .i64 C.f.sales], .int .i64 bay, .slice a n c, .int .i64 lv] X fun e w' => e = .returned (.int .i64 er) ∧ Hid (Below X.heap.size X w')) := Lib.hid (by
    rw [← her]
    exact (dmayq C bay a n c rs lv X (h.under HXB.out) hl hn (hs.under HXB.out) h4).mono fun _ _ ⟨e, h⟩ => ⟨e, Lib.hid h⟩)
  have HNO : Hid (∀ W, Below X.heap.size X W → Below w.heap.size w W) := Lib.hid fun W hW => below_then HXB.out hW
  by_cases he : er = 0
  case neg =>
    have n1 : (er == 0) = false := by simpa using he
    have n2 : (er != 0) = true := by simpa using he
    obtain ⟨e1, e2⟩ := plan_err (C := C.p) (bay := bay) (rs := rs) (lv := lv) (by rw [her]; exact he)
    rw [e1, e2, her]
    clear e1 e2 her h hl hn hs h4
    go_enter Try.func9, Try.ntmps9
    go_wp2_with fail
    clear hX hV
    refine HM.out.mono ?_
    rintro e w1 ⟨rfl, H1⟩
    go_wp2_with fail
    go_ret2
    exact ⟨none, 0, 0, rfl, Lib.hid ⟨rfl, spa_nil _ _, HNO.out _ H1.out⟩⟩
  subst he
  obtain ⟨hch, hbay, hR, hlv⟩ := may_zero her
  have hok : ArgOk C.p rs lv := ⟨hR, hlv⟩
  obtain ⟨j, hj⟩ := Int.eq_ofNat_of_zero_le (show 0 ≤ bay - 1 by omega)
  obtain rfl : bay = (j : Int) + 1 := by omega
  have hyl : C.p.ys.length = C.yn := h.2.1
  have hjl : j < C.yn := by omega
  have hyb : (C.yn : Int) ≤ 12 := by have := hl.2.2; omega
  obtain ⟨gy, oy, y, HYA, HYT, HYC⟩ := bay_cells HP (h.under HXB.out) j hjl
  obtain ⟨m, hm⟩ : ∃ m, y.mf = m := ⟨_, rfl⟩
  rw [hm] at HYC
  have hmb : 0 ≤ m ∧ m ≤ 8 := by rw [← hm]; exact (bay_ok hch HYT.out).1
  have hj0 : (0 : Int) ≤ (j : Int) := by omega
  have hj1 : (j : Int) < (C.yn : Int) := by omega
  have wj : IntKind.i64.wrap ((j : Int) + 1 - 1) = (j : Int) := by rw [show (j : Int) + 1 - 1 = (j : Int) by omega]; exact IntWalk.i64_in _ (by omega)
  have hbm : (Cat.bayV C.p ((j : Int) + 1)).mf = m := by rw [(Cat.bay_yes HYT.out).2, hm]
  have HBN := Lib.hid (blues_len C w h)
  obtain rfl : n = C.bn := by rw [← hn, hR.1, HBN.out]
  have hb1 : C.bn ≤ 20 := hl.2.1
  have hb2 : (C.bn : Int) ≤ 20 := by omega
  have HL := Lib.hid hn
  obtain ⟨J, hJ⟩ : ∃ J, jbOf C.p rs lv m = J := ⟨_, rfl⟩
  have HJN : Hid (J.n = C.bn) := Lib.hid (by rw [← hJ]; exact HBN.out)
  have HJM : Hid (J.m = m) := Lib.hid (by rw [← hJ]; rfl)
  have HJJ : Hid (∀ (k : Nat) (r : Int), rs[k]? = some r → J.j k = decide (0 < r)) := Lib.hid fun k r hr => by rw [← hJ]; exact jb_j hr
  have HJW : Hid (∀ k x : Nat, waitsB C.p.bs rs k x = J.w k x) := Lib.hid fun k x => by rw [← hJ]; rfl
  have HJT : Hid (∀ (k : Nat) (b : Recipe.Bl) (r : Int), C.bs[k]? = some b → rs[k]? = some r → 0 < r → Recipe.timeV b lv r = J.t k) := Lib.hid fun k b r h1 h2 h3 => by rw [← hJ, jb_tk (blue_p h1) h2, tim_blue b lv (by omega)]
  have HFI : Hid (Fine J) := Lib.hid (by rw [← hJ]; exact jb_ok hch hok)
  have HGO : Hid (1 ≤ m → ∀ p, Ok J p → left J p ≠ 0 → stp J p ≠ none) := Lib.hid fun h1 p hp h0 => by rw [← hJ] at hp h0 ⊢; exact jb_go hch hok h1 hp h0
  have HAT : Hid (0 ≤ allT J J.n ∧ allT J J.n ≤ 2097152000000) := Lib.hid (by rw [← hJ]; exact jb_all rs lv m (by rw [HBN.out]; exact hb1))
  have HPS : Hid (0 < left J start ∧ m = 0 → planE C.p ((j : Int) + 1) rs lv = 10 ∧ planL C.p ((j : Int) + 1) rs lv = []) := Lib.hid fun h1 => plan_slots her (by unfold jobsN; rw [hbm, hJ]; exact h1)
  have HPK : Hid (¬ (0 < left J start ∧ m = 0) → ∃ F : Pl, pl J start = some F ∧ planE C.p ((j : Int) + 1) rs lv = 0 ∧ planL C.p ((j : Int) + 1) rs lv = spans C.bn F.s F.e) := Lib.hid fun h1 => by
    obtain ⟨F, hF⟩ := jb_plan (lv := lv) (m := m) hch hok (by rw [hJ]; omega)
    rw [hJ] at hF
    obtain ⟨e1, e2⟩ := plan_ok her (by unfold jobsN; rw [hbm, hJ]; exact h1)
    refine ⟨F, hF, e1, ?_⟩
    rw [e2, HBN.out]
    unfold planP
    rw [hbm, hJ, hF]
    rfl
  have HTB := Lib.hid (fun (k : Nat) (hk : k < C.bn) => blue_cells HP (h.under HXB.out) hl hn (hs.under HXB.out) k hk)
  have HTM : Hid (∀ (W : World) (k : Nat) (b0 : Recipe.Bl) (r0 : Int), Below X.heap.size X W → k < C.bn → C.bs[k]? = some b0 → rs[k]? = some r0 → Calls Try.prog 26 #[.agg #[.int .i64 C.ty, .slice C.ba C.bn C.bc, .int .i64 C.pl, .slice C.ya C.yn C.yc, .int .i64 C.ch, .int .i64 C.f.broker, .int .i64 C.f.least, .int .i64 C.f.sales], .int .i64 (k : Int), .slice a C.bn c, .int .i64 lv] W fun e w' => e = .returned (.int .i64 (Recipe.timeV b0 lv r0)) ∧ Hid (Below W.heap.size W w')) := Lib.hid fun W k b0 r0 hW hk h1 h2 =>
    (dtimeq C k a c rs lv W ((h.under HXB.out).under hW) hl hn ((hs.under HXB.out).under hW) hk b0 r0 h1 h2).mono fun _ _ ⟨e, h⟩ => ⟨e, Lib.hid h⟩
  have HWT : Hid (∀ (W : World) (k x : Nat) (q : Bool), Below X.heap.size X W → k < C.bn → x < C.bn → J.w k x = q → Calls Try.prog 25 #[.agg #[.int .i64 C.ty, .slice C.ba C.bn C.bc, .int .i64 C.pl, .slice C.ya C.yn C.yc, .int .i64 C.ch, .int .i64 C.f.broker, .int .i64 C.f.least, .int .i64 C.f.sales], .slice a C.bn c, .int .i64 (k : Int), .int .i64 (x : Int)] W fun e w' => e = .returned (.bool q) ∧ Hid (Below W.heap.size W w')) := Lib.hid fun W k x q hW hk hx hq => by
    subst hq
    rw [← HJW.out]
    exact (dwaits C k x a c rs W ((h.under HXB.out).under hW) hl hn ((hs.under HXB.out).under hW) hk hx).mono fun _ _ ⟨e, h⟩ => ⟨e, Lib.hid h⟩
  have HT := irow_at (hs.under HXB.out)
  clear her h hl hn hs h4 hch hbay hR hlv hj hyl hok hJ hbm hm hjl
  go_enter Try.func9, Try.ntmps9
  go_wp2_with fail
  clear hX hV
  refine HM.out.mono ?_
  rintro e w1 ⟨rfl, H1⟩
  clear k0 k1 k2 k3 k4 k5 k6 k7
  obtain ⟨y0, y1, y2, y3, y4, y5, y6, y7⟩ := HPE.out w1 H1.out
  obtain ⟨A, hA⟩ : ∃ A, w1.heap.size = A := ⟨_, rfl⟩
  obtain ⟨Z1, hZ1⟩ : ∃ Z, w1.alloc (.cells (madeCells #[.int .i64 0, .int .i64 0] (C.bn * 2)) 46) = Z := ⟨_, rfl⟩
  obtain ⟨B, hB⟩ : ∃ B, Z1.heap.size = B := ⟨_, rfl⟩
  obtain ⟨Z, hZ⟩ : ∃ Z, Z1.alloc (.cells (madeCells #[(Value.bool false)] C.bn) 4) = Z := ⟨_, rfl⟩
  have hAB : B = A + 1 := by rw [← hB, ← hZ1, ← hA]; simp
  have HZ : Hid (Below X.heap.size X Z ∧ PO Z A B C.bn start.s start.e start.b) := Lib.hid (by
    have hb1 : Below w1.heap.size w1 Z1 := by rw [← hZ1]; exact (Below.refl _ _).alloc (Nat.le_refl _) _
    have hb2 : Below Z1.heap.size Z1 Z := by rw [← hZ]; exact (Below.refl _ _).alloc (Nat.le_refl _) _
    have g1 : Z1.heap[A]? = some (.cells (madeCells #[.int .i64 0, .int .i64 0] (C.bn * 2)) 46 (0, 0)) := by rw [← hZ1, ← hA]; exact heap_alloc_new w1 _
    have g2 : Z.heap[B]? = some (.cells (madeCells #[(Value.bool false)] C.bn) 4 (0, 0)) := by rw [← hZ, ← hB]; exact heap_alloc_new Z1 _
    have g1' : Z.heap[A]? = some (.cells (madeCells #[.int .i64 0, .int .i64 0] (C.bn * 2)) 46 (0, 0)) := (hb2.block A (by omega)).trans g1
    exact ⟨below_then H1.out (below_then hb1 hb2), fun i hi => ⟨cell_block g1' (made_two _ _ _ _ hi).1, free_block _ g1'⟩, fun i hi => ⟨cell_block g1' (made_two _ _ _ _ hi).2, free_block _ g1'⟩, fun i hi => ⟨cell_block g2 (made_b _ _ _ hi), free_block i g2⟩, by omega, (Array.getElem?_eq_some_iff.1 g1').1, (Array.getElem?_eq_some_iff.1 g2).1⟩)
  have HXA : Hid (X.heap.size ≤ A ∧ X.heap.size ≤ A + 1) := Lib.hid (by have := H1.out.size; omega)
  subst hAB
  have hmk := run_make_sp C.bn (by omega)
  have hmk2 := run_make_row' (P := Try.prog) 63 4 (.bool false) 1 Try.underlying63 info_bool rfl .i64 .i64 C.bn (by omega) (by omega)
  go_wp2_with fail
  clear hmk hmk2 hZ1 hZ hA hB y0 y1 y2 y3 y4 y5 y6 y7
  go_loopw [14, 15] (fun u t wr => ∃ (i q : Nat), u = .int .i64 (q : Int) ∧ t = .int .i64 (i : Int) ∧ i ≤ C.bn ∧ q ≤ i ∧ Hid (cntB (fun k => J.j k && !start.b k) i = q) ∧ Z = wr) (fun _ t _ => C.bn - (RowKit.intOf t).toNat)
  case atStart => exact ⟨0, 0, rfl, rfl, by omega, by omega, Lib.hid rfl, rfl⟩
  case round =>
    obtain ⟨i, q, rfl, rfl, hi, hqi, HQ, rfl⟩ := hrel
    have hi0 : (0 : Int) ≤ (i : Int) := by omega
    by_cases hlt : i < C.bn
    · have hlt2 : (i : Int) < (C.bn : Int) := by omega
      have hd1 : decide (i < C.bn) = true := decide_eq_true hlt
      obtain ⟨g2, off2, r, rfl, hr, z0⟩ := HT.out Z i HZ.out.1 (by rw [HL.out]; exact hlt)
      have wi : IntKind.i64.wrap ((i : Int) + 1) = (i : Int) + 1 := IntWalk.i64_in _ (by omega)
      have wq : IntKind.i64.wrap ((q : Int) + 1) = (q : Int) + 1 := IntWalk.i64_in _ (by omega)
      have HJ1 := Lib.hid (HJJ.out i r hr.out)
      by_cases c1 : 0 < r
      · have d1 : decide (0 < r) = true := decide_eq_true c1
        have HQ2 : Hid (cntB (fun k => J.j k && !start.b k) (i + 1) = q + 1) := Lib.hid (by
          rw [cntB, HQ.out]
          show q + (if (J.j i && !false) = true then 1 else 0) = _
          rw [HJ1.out, d1]
          rfl)
        clear c1
        go_wp2_with fail
        go_roundw
        case rel => exact ⟨i + 1, q + 1, by go_num, by go_num, by omega, by omega, HQ2, by first | rfl | trivial⟩
        case measure => simp [RowKit.intOf]; omega
      · have d1 : decide (0 < r) = false := decide_eq_false c1
        have HQ2 : Hid (cntB (fun k => J.j k && !start.b k) (i + 1) = q) := Lib.hid (by
          rw [cntB, HQ.out]
          show q + (if (J.j i && !false) = true then 1 else 0) = _
          rw [HJ1.out, d1]
          rfl)
        clear c1
        go_wp2_with fail
        go_roundw
        case rel => exact ⟨i + 1, q, rfl, by go_num, by omega, by omega, HQ2, by first | rfl | trivial⟩
        case measure => simp [RowKit.intOf]; omega
    obtain rfl : i = C.bn := by omega
    have hd1 : decide (C.bn < C.bn) = false := by simp
    have HQL : Hid (left J start = q) := Lib.hid (by unfold left; rw [HJN.out]; exact HQ.out)
    obtain ⟨v3, vm, vr⟩ := HYC.out Z HZ.out.1
    by_cases hno : 0 < left J start ∧ m = 0
    · have d2 : decide (0 < (q : Int)) = true := decide_eq_true (by have := HQL.out; omega)
      have d2b : decide (0 < q) = true := decide_eq_true (by have := HQL.out; omega)
      have d3 : (m == 0) = true := by simpa using hno.2
      have HE := Lib.hid (HPS.out hno)
      clear hno
      go_wp2_with fail
      go_ret2
      exact ⟨none, 0, 0, by rw [HE.out.1]; rfl, Lib.hid ⟨by rw [HE.out.2]; rfl, by rw [HE.out.2]; exact spa_nil _ _, HNO.out _ HZ.out.1⟩⟩
    obtain ⟨F, hF, hE1, hE2⟩ := HPK.out hno
    have HF := Lib.hid hF
    have HE := Lib.hid (And.intro hE1 hE2)
    have HM1 : Hid (left J start ≠ 0 → 1 ≤ m) := Lib.hid fun h => by omega
    clear hF hE1 hE2
    have HQ0 : Hid (q = left J start) := Lib.hid HQL.out.symm
    have hguard : (decide (0 < (q : Int)) = false ∧ decide (0 < q) = false) ∨ (decide (0 < (q : Int)) = true ∧ decide (0 < q) = true ∧ (m == 0) = false) := by
      by_cases h0 : 0 < q
      · exact .inr ⟨decide_eq_true (by omega), decide_eq_true h0, by have := HQL.out; simp; omega⟩
      · exact .inl ⟨decide_eq_false (by omega), decide_eq_false h0⟩
    clear hno
    rcases hguard with ⟨d2, d2b⟩ | ⟨d2, d2b, d3⟩
    · obtain rfl : q = 0 := by have := of_decide_eq_false d2b; omega
      have HFS : Hid (F = start) := Lib.hid (by
        have h1 := HF.out
        rw [pl_done HQL.out] at h1
        injection h1 with h1
        exact h1.symm)
      clear d2 d2b
      go_wp2_with fail
      clear v3 vm vr hd1
      go_loopw [14, 16] (fun u t wr => u = .int .i64 0 ∧ t = .int .i64 0 ∧ Z = wr) (fun _ _ _ => 0)
      case atStart => exact ⟨rfl, rfl, rfl⟩
      case round =>
        obtain ⟨rfl, rfl, rfl⟩ := hrel
        go_wp2_with fail
        go_ret2
        exact ⟨_, C.bn, C.bn, by rw [HE.out.1]; rfl, Lib.hid ⟨by rw [HE.out.2, spans_len], by rw [HE.out.2, HFS.out]; exact HZ.out.2.spa, HNO.out _ HZ.out.1⟩⟩
    go_wp2_with fail
    clear v3 vm vr hd1 d2 d2b d3
    go_loopw [14, 16] (fun u t wr => ∃ (p : Pl) (q : Nat), u = .int .i64 (q : Int) ∧ t = .int .i64 p.now ∧ q ≤ 20 ∧ (0 ≤ p.now ∧ p.now ≤ 2097152000000) ∧ Hid (left J p = q) ∧ Hid (Ok J p) ∧ Hid (pl J p = some F) ∧ Hid (q ≠ 0 → 1 ≤ m) ∧ Hid (Below X.heap.size X wr ∧ PO wr A (A + 1) C.bn p.s p.e p.b)) (fun u t _ => (RowKit.intOf u).toNat * 2097152000002 + (2097152000000 - RowKit.intOf t).toNat)
    case atStart => exact ⟨start, q, rfl, rfl, by omega, by show (0 : Int) ≤ 0 ∧ (0 : Int) ≤ 2097152000000; omega, HQL, Lib.hid (start_ok J), HF, Lib.hid (by have := HM1.out; have := HQL.out; omega), HZ⟩
    case round =>
      clear HZ HQL HQ0 HQ HM1 hqi hi
      obtain ⟨p, q, rfl, rfl, hq, hnow, HLE, HOK, HPL, HM1, HW⟩ := hrel
      by_cases hq0 : q = 0
      · subst hq0
        have d1 : decide ((0 : Int) < ((0 : Nat) : Int)) = false := by simp
        have HFS : Hid (F = p) := Lib.hid (by
          have h1 := HPL.out
          rw [pl_done HLE.out] at h1
          injection h1 with h1
          exact h1.symm)
        go_wp2_with fail
        go_ret2
        exact ⟨_, C.bn, C.bn, by rw [HE.out.1]; rfl, Lib.hid ⟨by rw [HE.out.2, spans_len], by rw [HE.out.2, HFS.out]; exact HW.out.2.spa, HNO.out _ HW.out.1⟩⟩
      have d1 : decide (0 < (q : Int)) = true := decide_eq_true (by omega)
      have d1b : decide (0 < q) = true := decide_eq_true (by omega)
      have hm1 := HM1.out hq0
      have HL0 : Hid (left J p ≠ 0) := Lib.hid (by rw [HLE.out]; exact hq0)
      have HD20 : Hid (doing J p ≤ 20) := Lib.hid (by
        have := cntB_le (runs p) J.n
        unfold doing
        rw [HJN.out] at this ⊢
        omega)
      have HWE : Hid (∀ i, 0 ≤ p.e i ∧ p.e i ≤ 2097152000000) := Lib.hid fun i => by
        have h1 := HOK.out.e_in HFI.out.t0 i
        have h2 := HAT.out.2
        omega
      have wn1 : IntKind.i64.wrap ((C.bn : Int) - 1) = (C.bn : Int) - 1 := IntWalk.i64_in _ (by omega)
      go_wp2_with fail
      clear wn1 d1 d1b
      go_loopw [17, 18, 19] (fun u v t wr3 => ∃ (d dn : Nat) (nx z : Int), u = .int .i64 (dn : Int) ∧ v = .int .i64 nx ∧ t = .int .i64 z ∧ z + d + 1 = (C.bn : Int) ∧ d ≤ C.bn ∧ Hid (dn + cntB (runs p) (C.bn - d) = doing J p) ∧ Hid (nxF J p d = nx) ∧ Hid (Below X.heap.size X wr3 ∧ PO wr3 A (A + 1) C.bn p.s p.e p.b)) (fun _ _ t _ => (RowKit.intOf t + 1).toNat)
      case atStart => exact ⟨0, 0, -1, (C.bn : Int) - 1, rfl, rfl, rfl, by omega, by omega, Lib.hid (by unfold doing; rw [HJN.out]; simp), Lib.hid rfl, HW⟩
      case round =>
        obtain ⟨wr3, rfl⟩ : ∃ W, W = wr := ⟨_, rfl⟩
        clear HW
        obtain ⟨d, dn, nx, z, rfl, rfl, rfl, hz, hd, HC, HN, HW3⟩ := hrel
        have hdn : dn ≤ 20 := by have := HC.out; have := HD20.out; omega
        by_cases hz0 : 0 ≤ z
        · obtain ⟨i, rfl⟩ := Int.eq_ofNat_of_zero_le hz0
          have hi0 : (0 : Int) ≤ (i : Int) := by omega
          have hin : i < C.bn := by omega
          have hin2 : (i : Int) < (C.bn : Int) := by omega
          have hd0 : decide (0 ≤ (i : Int)) = true := decide_eq_true hi0
          have wi : IntKind.i64.wrap ((i : Int) - 1) = (i : Int) - 1 := IntWalk.i64_in _ (by omega)
          have wd : IntKind.i64.wrap ((dn : Int) + 1) = (dn : Int) + 1 := IntWalk.i64_in _ (by omega)
          obtain ⟨cS, fS⟩ := HW3.out.2.st i hin
          obtain ⟨cE, fE⟩ := HW3.out.2.en i hin
          obtain ⟨cB, fB⟩ := HW3.out.2.bo i hin
          obtain ⟨g2, off2, r, rfl, hr, z0⟩ := HT.out wr3 i HW3.out.1 (by rw [HL.out]; exact hin)
          have HJ1 := Lib.hid (HJJ.out i r hr.out)
          have HRF := Lib.hid (ready_frx J p i)
          have HNX := Lib.hid (nxF_next (J := J) (p := p) (d := d) (i := i) (by rw [HJN.out]; omega))
          have HCC : Hid (dn + (cntB (runs p) i + if runs p i then 1 else 0) = doing J p) := Lib.hid (by
            have h1 := HC.out
            rw [show C.bn - d = i + 1 by omega] at h1
            exact h1)
          have HCI : Hid (C.bn - (d + 1) = i) := Lib.hid (by omega)
          have HRN : Hid (∀ t, runs p i = t → dn + (if t then 1 else 0) + cntB (runs p) (C.bn - (d + 1)) = doing J p) := Lib.hid fun t ht => by
            have h1 := HCC.out
            rw [ht] at h1
            rw [HCI.out]
            omega
          have HNO2 : Hid (ready J p i = false → nxF J p (d + 1) = nx) := Lib.hid fun h => by rw [HNX.out, h, HN.out]; rfl
          have HYES : Hid (ready J p i = true → nxF J p (d + 1) = (i : Int)) := Lib.hid fun h => by rw [HNX.out, h]; rfl
          clear HC HCC hz0
          cases hb : p.b i with
          | true =>
            rw [hb] at cB
            have HN2 : Hid (nxF J p (d + 1) = nx) := Lib.hid (HNO2.out (by rw [HRF.out, hb]; simp))
            have hrr : (decide (0 < r) = true) ∨ (decide (0 < r) = false) := by cases decide (0 < r) <;> simp
            by_cases hrn : p.now < p.e i
            · have dr : decide (p.now < p.e i) = true := decide_eq_true hrn
              have HC2 : Hid (dn + 1 + cntB (runs p) (C.bn - (d + 1)) = doing J p) := Lib.hid (HRN.out true (by unfold runs; rw [hb, dr]; rfl))
              clear hb hrn
              rcases hrr with drr | drr
              all_goals
                go_wp2_with fail
                go_loopw [20, 21] (fun u t wq => u = .bool false ∧ t = .int .i64 0 ∧ wr3 = wq) (fun _ _ _ => 0)
                case atStart => exact ⟨rfl, rfl, rfl⟩
                case round =>
                  obtain ⟨rfl, rfl, rfl⟩ := hrel
                  go_wp2_with fail
                  go_roundw
                  case rel => exact ⟨d + 1, dn + 1, nx, (i : Int) - 1, by go_num, rfl, rfl, by omega, by omega, HC2, HN2, HW3⟩
                  case measure => simp [RowKit.intOf]
            · have dr : decide (p.now < p.e i) = false := decide_eq_false hrn
              have HC2 : Hid (dn + cntB (runs p) (C.bn - (d + 1)) = doing J p) := Lib.hid (HRN.out false (by unfold runs; rw [dr]; simp))
              clear hb hrn
              rcases hrr with drr | drr
              all_goals
                go_wp2_with fail
                go_loopw [20, 21] (fun u t wq => u = .bool false ∧ t = .int .i64 0 ∧ wr3 = wq) (fun _ _ _ => 0)
                case atStart => exact ⟨rfl, rfl, rfl⟩
                case round =>
                  obtain ⟨rfl, rfl, rfl⟩ := hrel
                  go_wp2_with fail
                  go_roundw
                  case rel => exact ⟨d + 1, dn, nx, (i : Int) - 1, by go_num, rfl, rfl, by omega, by omega, HC2, HN2, HW3⟩
                  case measure => simp [RowKit.intOf]
          | false =>
            rw [hb] at cB
            have HC2 : Hid (dn + cntB (runs p) (C.bn - (d + 1)) = doing J p) := Lib.hid (HRN.out false (by unfold runs; rw [hb]; rfl))
            by_cases hr0 : 0 < r
            case neg =>
              have drr : decide (0 < r) = false := decide_eq_false hr0
              have HN2 : Hid (nxF J p (d + 1) = nx) := Lib.hid (HNO2.out (by rw [HRF.out, HJ1.out, drr]; rfl))
              clear hb hr0
              go_wp2_with fail
              go_loopw [20, 21] (fun u t wq => u = .bool false ∧ t = .int .i64 0 ∧ wr3 = wq) (fun _ _ _ => 0)
              case atStart => exact ⟨rfl, rfl, rfl⟩
              case round =>
                obtain ⟨rfl, rfl, rfl⟩ := hrel
                go_wp2_with fail
                go_roundw
                case rel => exact ⟨d + 1, dn, nx, (i : Int) - 1, by go_num, rfl, rfl, by omega, by omega, HC2, HN2, HW3⟩
                case measure => simp [RowKit.intOf]
            have drr : decide (0 < r) = true := decide_eq_true hr0
            have HRX : Hid (ready J p i = frx J p i C.bn) := Lib.hid (by rw [HRF.out, HJ1.out, drr, hb, HJN.out]; rfl)
            clear hb hr0
            go_wp2_with fail
            clear cS fS cE fE cB fB z0 hd0 drr
            go_loopw [20, 21] (fun u t wq => ∃ (x : Nat) (rb : Bool), u = .bool rb ∧ t = .int .i64 (x : Int) ∧ x ≤ C.bn ∧ Hid (frx J p i x = rb) ∧ Hid (Below X.heap.size X wq ∧ PO wq A (A + 1) C.bn p.s p.e p.b)) (fun _ t _ => C.bn - (RowKit.intOf t).toNat)
            case atStart => exact ⟨0, true, rfl, rfl, by omega, Lib.hid rfl, HW3⟩
            case round =>
              obtain ⟨wq, rfl⟩ : ∃ W, W = wr := ⟨_, rfl⟩
              clear HW3
              obtain ⟨x, rb, rfl, rfl, hx, HFX, HW4⟩ := hrel
              have hx0 : (0 : Int) ≤ (x : Int) := by omega
              have hDN : (dn : Int) = (dn : Int) := rfl
              rcases rb with _ | _
              · have HN2 : Hid (nxF J p (d + 1) = nx) := Lib.hid (HNO2.out (by rw [HRX.out]; exact frx_false HFX.out hx))
                have hxx : (decide ((x : Int) < (C.bn : Int)) = true ∧ decide (x < C.bn) = true) ∨ (decide ((x : Int) < (C.bn : Int)) = false ∧ decide (x < C.bn) = false) := by
                  by_cases h : x < C.bn
                  · exact .inl ⟨decide_eq_true (by omega), decide_eq_true h⟩
                  · exact .inr ⟨decide_eq_false (by omega), decide_eq_false h⟩
                rcases hxx with ⟨dx, dxb⟩ | ⟨dx, dxb⟩
                all_goals
                  go_wp2_with fail
                  go_roundw
                  case rel => exact ⟨d + 1, dn, nx, (i : Int) - 1, rfl, rfl, rfl, by omega, by omega, HC2, HN2, HW4⟩
                  case measure => simp [RowKit.intOf]
              by_cases hxn : x < C.bn
              case neg =>
                obtain rfl : x = C.bn := by omega
                have dx : decide ((C.bn : Int) < (C.bn : Int)) = false := by simp
                have dxb : decide (C.bn < C.bn) = false := by simp
                have HN2 : Hid (nxF J p (d + 1) = (i : Int)) := Lib.hid (HYES.out (by rw [HRX.out]; exact HFX.out))
                go_wp2_with fail
                go_roundw
                case rel => exact ⟨d + 1, dn, (i : Int), (i : Int) - 1, rfl, rfl, rfl, by omega, by omega, HC2, HN2, HW4⟩
                case measure => simp [RowKit.intOf]
              have dx : decide ((x : Int) < (C.bn : Int)) = true := decide_eq_true (by omega)
              have dxb : decide (x < C.bn) = true := decide_eq_true hxn
              have hxn2 : (x : Int) < (C.bn : Int) := by omega
              have wx : IntKind.i64.wrap ((x : Int) + 1) = (x : Int) + 1 := IntWalk.i64_in _ (by omega)
              have HFN : Hid (∀ t, (!J.w i x || (p.b x && decide (p.e x ≤ p.now))) = t → frx J p i (x + 1) = t) := Lib.hid fun t ht => by rw [frx, HFX.out, ht]; rfl
              obtain ⟨y0, y1, y2, y3, y4, y5, y6, y7⟩ := HPE.out wq HW4.out.1
              cases hw : J.w i x with
              | false =>
                have HC4 := Lib.hid (HWT.out wq i x false HW4.out.1 hin hxn hw)
                have HF2 : Hid (frx J p i (x + 1) = true) := Lib.hid (HFN.out true (by rw [hw]; rfl))
                clear hw
                go_wp2_with fail
                refine HC4.out.mono ?_
                rintro e w5 ⟨rfl, H5⟩
                clear y0 y1 y2 y3 y4 y5 y6 y7
                have HW5 : Hid (Below X.heap.size X w5 ∧ PO w5 A (A + 1) C.bn p.s p.e p.b) := Lib.hid ⟨below_then HW4.out.1 H5.out, HW4.out.2.under H5.out⟩
                go_wp2_with fail
                go_roundw
                case rel => exact ⟨x + 1, true, rfl, by go_num, by omega, HF2, HW5⟩
                case measure => simp [RowKit.intOf]; omega
              | true =>
                have HC4 := Lib.hid (HWT.out wq i x true HW4.out.1 hin hxn hw)
                cases hb2 : p.b x with
                | false =>
                  have HF2 : Hid (frx J p i (x + 1) = false) := Lib.hid (HFN.out false (by rw [hw, hb2]; rfl))
                  clear hw
                  go_wp2_with fail
                  refine HC4.out.mono ?_
                  rintro e w5 ⟨rfl, H5⟩
                  clear y0 y1 y2 y3 y4 y5 y6 y7
                  have HW5 : Hid (Below X.heap.size X w5 ∧ PO w5 A (A + 1) C.bn p.s p.e p.b) := Lib.hid ⟨below_then HW4.out.1 H5.out, HW4.out.2.under H5.out⟩
                  obtain ⟨cB, _⟩ := HW5.out.2.bo x hxn
                  rw [hb2] at cB
                  clear hb2
                  go_wp2_with fail
                  go_roundw
                  case rel => exact ⟨x + 1, false, rfl, by go_num, by omega, HF2, HW5⟩
                  case measure => simp [RowKit.intOf]; omega
                | true =>
                  by_cases hen : p.e x ≤ p.now
                  · have den : decide (p.e x ≤ p.now) = true := decide_eq_true hen
                    have HF2 : Hid (frx J p i (x + 1) = true) := Lib.hid (HFN.out true (by rw [hw, hb2, den]; rfl))
                    clear hw hen
                    go_wp2_with fail
                    refine HC4.out.mono ?_
                    rintro e w5 ⟨rfl, H5⟩
                    clear y0 y1 y2 y3 y4 y5 y6 y7
                    have HW5 : Hid (Below X.heap.size X w5 ∧ PO w5 A (A + 1) C.bn p.s p.e p.b) := Lib.hid ⟨below_then HW4.out.1 H5.out, HW4.out.2.under H5.out⟩
                    obtain ⟨cB, _⟩ := HW5.out.2.bo x hxn
                    obtain ⟨cE, _⟩ := HW5.out.2.en x hxn
                    rw [hb2] at cB
                    clear hb2
                    go_wp2_with fail
                    go_roundw
                    case rel => exact ⟨x + 1, true, rfl, by go_num, by omega, HF2, HW5⟩
                    case measure => simp [RowKit.intOf]; omega
                  · have den : decide (p.e x ≤ p.now) = false := decide_eq_false hen
                    have HF2 : Hid (frx J p i (x + 1) = false) := Lib.hid (HFN.out false (by rw [hw, hb2, den]; rfl))
                    clear hw hen
                    go_wp2_with fail
                    refine HC4.out.mono ?_
                    rintro e w5 ⟨rfl, H5⟩
                    clear y0 y1 y2 y3 y4 y5 y6 y7
                    have HW5 : Hid (Below X.heap.size X w5 ∧ PO w5 A (A + 1) C.bn p.s p.e p.b) := Lib.hid ⟨below_then HW4.out.1 H5.out, HW4.out.2.under H5.out⟩
                    obtain ⟨cB, _⟩ := HW5.out.2.bo x hxn
                    obtain ⟨cE, _⟩ := HW5.out.2.en x hxn
                    rw [hb2] at cB
                    clear hb2
                    go_wp2_with fail
                    go_roundw
                    case rel => exact ⟨x + 1, false, rfl, by go_num, by omega, HF2, HW5⟩
                    case measure => simp [RowKit.intOf]; omega
        have hd0 : decide (0 ≤ z) = false := decide_eq_false hz0
        obtain rfl : d = C.bn := by omega
        have HDD : Hid (doing J p = dn) := Lib.hid (by
          have h1 := HC.out
          rw [Nat.sub_self] at h1
          exact h1.symm)
        have HNN : Hid (nxF J p J.n = nx) := Lib.hid (by rw [HJN.out]; exact HN.out)
        obtain ⟨v3, vm, vr⟩ := HYC.out wr3 HW3.out.1
        by_cases hbeg : 0 ≤ nx ∧ (dn : Int) < m
        · obtain ⟨k, rfl⟩ := Int.eq_ofNat_of_zero_le hbeg.1
          have dk : decide (0 ≤ (k : Int)) = true := decide_eq_true hbeg.1
          have dm : decide ((dn : Int) < m) = true := decide_eq_true hbeg.2
          obtain ⟨hkn, hrd⟩ := nxF_ready HNN.out
          have hkn : k < C.bn := by rw [← HJN.out]; exact hkn
          have HST : Hid (stp J p = some (beg J p k)) := Lib.hid (stp_beg HNN.out (by rw [HDD.out, HJM.out]; exact hbeg.2))
          have HOK2 : Hid (Ok J (beg J p k)) := Lib.hid (step_ok HOK.out HFI.out.t0 HFI.out.tj HFI.out.irr HST.out).1
          have HPL2 : Hid (pl J (beg J p k) = some F) := Lib.hid (by rw [← pl_next HFI.out HOK.out HL0.out HST.out]; exact HPL.out)
          have hlb := left_beg (by rw [HJN.out]; exact hkn) hrd
          rw [HLE.out] at hlb
          obtain ⟨q2, rfl⟩ : ∃ q2, q = q2 + 1 := ⟨_, hlb⟩
          have HLE2 : Hid (left J (beg J p k) = q2) := Lib.hid (by omega)
          have HM2 : Hid (q2 ≠ 0 → 1 ≤ m) := Lib.hid fun _ => hm1
          obtain ⟨tk, htk⟩ : ∃ tk, J.t k = tk := ⟨_, rfl⟩
          have HEK : Hid (0 ≤ p.now + tk ∧ p.now + tk ≤ 2097152000000) := Lib.hid (by
            have h1 := HOK2.out.e_in HFI.out.t0 k
            have h2 := HAT.out.2
            have h3 : (beg J p k).e k = p.now + J.t k := updN_same _ _ _
            rw [h3, htk] at h1
            omega)
          have hek := HEK.out
          have wk : IntKind.i64.wrap (p.now + tk) = p.now + tk := IntWalk.i64_in _ (by omega)
          have wq2 : IntKind.i64.wrap ((q2 + 1 : Nat) - 1 : Int) = (q2 : Int) := by rw [show ((q2 + 1 : Nat) - 1 : Int) = (q2 : Int) by omega]; exact IntWalk.i64_in _ (by omega)
          have wq3 : IntKind.i64.wrap ((q2 : Int) + 1 - 1) = (q2 : Int) := by rw [show (q2 : Int) + 1 - 1 = (q2 : Int) by omega]; exact IntWalk.i64_in _ (by omega)
          obtain ⟨_, _, b, _, _, r, _, _, HTX, _⟩ := HTB.out k hkn
          have HJR : Hid (0 < r) := Lib.hid (by
            have h1 := (ready_is hrd).1
            rw [HJJ.out k r HTX.out.2.1] at h1
            exact of_decide_eq_true h1)
          have HC4 := Lib.hid (HTM.out wr3 k b r HW3.out.1 hkn HTX.out.1 HTX.out.2.1)
          rw [HJT.out k b r HTX.out.1 HTX.out.2.1 HJR.out, htk, HYA.out] at HC4
          have hk0 : (0 : Int) ≤ (k : Int) := by omega
          have hk1 : (k : Int) < (C.bn : Int) := by omega
          obtain ⟨y0, y1, y2, y3, y4, y5, y6, y7⟩ := HPE.out wr3 HW3.out.1
          have HTK := Lib.hid htk
          clear hbeg hrd hlb y3 hz hz0 htk
          go_wp2_with fail
          refine HC4.out.mono ?_
          rintro e w5 ⟨rfl, H5⟩
          clear y0 y1 y2 y4 y5 y6 y7 v3 vm vr
          have HW5 : Hid (Below X.heap.size X w5 ∧ PO w5 A (A + 1) C.bn p.s p.e p.b) := Lib.hid ⟨below_then HW3.out.1 H5.out, HW3.out.2.under H5.out⟩
          obtain ⟨cS, fS⟩ := HW5.out.2.st k hkn
          obtain ⟨cE, fE⟩ := HW5.out.2.en k hkn
          obtain ⟨cB, fB⟩ := HW5.out.2.bo k hkn
          have HW6 := Lib.hid (PO.set3 HW5.out HXA.out.1 HXA.out.2 k p.now (p.now + tk))
          have HFIN : Hid (updN p.s k p.now = (beg J p k).s ∧ updN p.e k (p.now + tk) = (beg J p k).e ∧ updN p.b k true = (beg J p k).b) := Lib.hid (by rw [← HTK.out]; exact ⟨rfl, rfl, rfl⟩)
          rw [HFIN.out.1, HFIN.out.2.1, HFIN.out.2.2] at HW6
          go_wp2_with fail
          go_roundw
          case rel => exact ⟨beg J p k, q2, rfl, rfl, by omega, hnow, HLE2, HOK2, HPL2, HM2, HW6⟩
          case measure => simp [RowKit.intOf] <;> omega
        obtain ⟨tv, htv⟩ : ∃ tv, thF p C.bn = tv := ⟨_, rfl⟩
        have HNB : Hid (¬ (0 ≤ nxF J p J.n ∧ (doing J p : Int) < J.m)) := Lib.hid (by rw [HNN.out, HDD.out, HJM.out]; exact hbeg)
        have htv0 : tv ≠ 0 := fun h0 => HGO.out hm1 p HOK.out HL0.out (stp_none HNB.out (by rw [HJN.out, htv]; exact h0))
        have HST : Hid (stp J p = some ⟨p.s, p.e, p.b, tv⟩) := Lib.hid (by
          have h1 := stp_not HNB.out (by rw [HJN.out, htv]; exact htv0)
          rw [HJN.out, htv] at h1
          exact h1)
        have HOK2 : Hid (Ok J ⟨p.s, p.e, p.b, tv⟩) := Lib.hid (step_ok HOK.out HFI.out.t0 HFI.out.tj HFI.out.irr HST.out).1
        have HPL2 : Hid (pl J ⟨p.s, p.e, p.b, tv⟩ = some F) := Lib.hid (by rw [← pl_next HFI.out HOK.out HL0.out HST.out]; exact HPL.out)
        have htvb : p.now < tv ∧ tv ≤ 2097152000000 := by
          have h1 := HOK2.out.now_le HFI.out.t0
          have h2 := HAT.out.2
          rcases thF_is HOK.out.n0 C.bn with ⟨h3, _⟩ | ⟨h3, _⟩
          · rw [htv] at h3; exact absurd h3 htv0
          · rw [htv] at h3
            have h1 : tv ≤ allT J J.n := h1
            omega
        have dtv : (tv == 0) = false := by simpa using htv0
        have HTV := Lib.hid htv
        have hcase : decide (0 ≤ nx) = false ∨ (decide (0 ≤ nx) = true ∧ decide ((dn : Int) < m) = false) := by
          by_cases h1 : 0 ≤ nx
          · exact .inr ⟨decide_eq_true h1, decide_eq_false fun h2 => hbeg ⟨h1, h2⟩⟩
          · exact .inl (decide_eq_false h1)
        clear hbeg htv hz hz0 htv0
        rcases hcase with dk | ⟨dk, dm⟩
        all_goals
          go_wp2_with fail
          clear v3 vm vr hd0
          go_loopw [22, 23] (fun u t wq => ∃ (k : Nat) (th : Int), u = .int .i64 th ∧ t = .int .i64 (k : Int) ∧ k ≤ C.bn ∧ Hid (thF p k = th) ∧ wr3 = wq) (fun _ t _ => C.bn - (RowKit.intOf t).toNat)
          case atStart => exact ⟨0, 0, rfl, rfl, by omega, Lib.hid rfl, rfl⟩
          case round =>
            obtain ⟨k, th, rfl, rfl, hk, HTH, rfl⟩ := hrel
            have hk0 : (0 : Int) ≤ (k : Int) := by omega
            by_cases hkn : k < C.bn
            case neg =>
              obtain rfl : k = C.bn := by omega
              have dx : decide ((C.bn : Int) < (C.bn : Int)) = false := by simp
              obtain rfl : th = tv := by rw [← HTH.out, HTV.out]
              have HLE2 : Hid (left J ⟨p.s, p.e, p.b, th⟩ = q) := HLE
              clear HTH
              go_wp2_with fail
              go_roundw
              case rel => exact ⟨⟨p.s, p.e, p.b, th⟩, q, rfl, rfl, hq, by show 0 ≤ th ∧ th ≤ 2097152000000; omega, HLE2, HOK2, HPL2, HM1, HW3⟩
              case measure => simp [RowKit.intOf]; omega
            have hkn2 : (k : Int) < (C.bn : Int) := by omega
            have dx : decide ((k : Int) < (C.bn : Int)) = true := decide_eq_true hkn2
            have wk : IntKind.i64.wrap ((k : Int) + 1) = (k : Int) + 1 := IntWalk.i64_in _ (by omega)
            obtain ⟨cE, _⟩ := HW3.out.2.en k hkn
            obtain ⟨cB, _⟩ := HW3.out.2.bo k hkn
            have HTN : Hid (∀ t s : Bool, runs p k = t → (decide (th = 0) || decide (p.e k < th)) = s → thF p (k + 1) = if (t && s) = true then p.e k else th) := Lib.hid fun t s ht hs => by
              rw [thF, ht, HTH.out, hs]
            cases hb : p.b k with
            | false =>
              rw [hb] at cB
              have HT2 : Hid (thF p (k + 1) = th) := Lib.hid (by have := HTN.out false _ (by unfold runs; rw [hb]; rfl) rfl; simpa using this)
              clear hb
              go_wp2_with fail
              go_roundw
              case rel => exact ⟨k + 1, th, rfl, by go_num, by omega, HT2, by first | rfl | trivial⟩
              case measure => simp [RowKit.intOf]; omega
            | true =>
              rw [hb] at cB
              by_cases hrn : p.now < p.e k
              case neg =>
                have dr : decide (p.now < p.e k) = false := decide_eq_false hrn
                have HT2 : Hid (thF p (k + 1) = th) := Lib.hid (by have := HTN.out false _ (by unfold runs; rw [dr]; simp) rfl; simpa using this)
                clear hb hrn
                go_wp2_with fail
                go_roundw
                case rel => exact ⟨k + 1, th, rfl, by go_num, by omega, HT2, by first | rfl | trivial⟩
                case measure => simp [RowKit.intOf]; omega
              have dr : decide (p.now < p.e k) = true := decide_eq_true hrn
              have hrt : runs p k = true := by unfold runs; rw [hb, dr]; rfl
              by_cases ht0 : th = 0
              · have dt : (th == 0) = true := by simpa using ht0
                have HT2 : Hid (thF p (k + 1) = p.e k) := Lib.hid (by have := HTN.out true true hrt (by rw [decide_eq_true ht0]; rfl); simpa using this)
                clear hb hrn hrt ht0
                go_wp2_with fail
                go_roundw
                case rel => exact ⟨k + 1, p.e k, rfl, by go_num, by omega, HT2, by first | rfl | trivial⟩
                case measure => simp [RowKit.intOf]; omega
              have dt : (th == 0) = false := by simpa using ht0
              by_cases htl : p.e k < th
              · have dl : decide (p.e k < th) = true := decide_eq_true htl
                have HT2 : Hid (thF p (k + 1) = p.e k) := Lib.hid (by have := HTN.out true true hrt (by rw [dl]; simp); simpa using this)
                clear hb hrn hrt ht0 htl
                go_wp2_with fail
                go_roundw
                case rel => exact ⟨k + 1, p.e k, rfl, by go_num, by omega, HT2, by first | rfl | trivial⟩
                case measure => simp [RowKit.intOf]; omega
              · have dl : decide (p.e k < th) = false := decide_eq_false htl
                have HT2 : Hid (thF p (k + 1) = th) := Lib.hid (by have := HTN.out true false hrt (by rw [dl, decide_eq_false ht0]; rfl); simpa using this)
                clear hb hrn hrt ht0 htl
                go_wp2_with fail
                go_roundw
                case rel => exact ⟨k + 1, th, rfl, by go_num, by omega, HT2, by first | rfl | trivial⟩
                case measure => simp [RowKit.intOf]; omega
end Go.Proofs.Ytdbhdlgoecpeaaa.Quo
