/- The document's may, top, Runs. Bills in memory; the document's Same. -/
import Derived.Test.YtohlkaoophbinaaZCatB
import Derived.Test.YtohlkaoophbinaaZCatRow
import Derived.Test.YtohlkaoophbinaaZBomMath
import Derived.Test.YtohlkaoophbinaaZGraphB
import Derived.Deep.RegionHeld3
import Derived.Deep.CutRange
import Derived.Test.YtohlkaoophbinaaZLaw
import Derived.Test.YtohlkaoophbinaaZGoodsB
namespace Go.Proofs.Ytohlkaoophbinaa.Bom
open Go.RowKit Go.Lib IRows
open Goods (St Sts OwnS cnt)
open Cat (Cat PB CM CatAt Lim box_cat)
open Graph (Nd Nds OwnN)

set_option maxRecDepth 100000 in
set_option maxHeartbeats 8000000 in
theorem dmay (C : CM) (k lv : Int) (a : Option Addr) (n c : Nat) (hv : List St) (w : World) (h : CatAt w C) (hl : Lim C) (hn : hv.length = n) (hs : Sts w a hv) (h4 : n ≤ 4096) :
    Calls Try.prog 28 #[C.v, .int .i64 k, .int .i64 lv, .slice a n c] w fun e w' => e = .returned (.int .i64 (mayE C.p k lv hv)) ∧ Below w.heap.size w w' := by
  obtain ⟨V, X, hV, hX, HXB, HP⟩ := box_cat w C
  obtain ⟨k0, k1, k2, k3, k4, k5, k6, k7⟩ := HP.out X (Below.refl _ _)
  obtain ⟨er, her⟩ : ∃ er, Cat.chkC C.p = er := ⟨_, rfl⟩
  have HC : Hid (Calls Try.prog 57 #[.agg #[.int .i64 C.ty, .slice C.ba C.bn C.bc, .int .i64 C.pl, .slice C.ya C.yn C.yc, .int .i64 C.ch, .int .i64 C.f.broker, .int .i64 C.f.least, .int .i64 C.f.sales]] X fun e w' => e = .returned (.int .i64 er) ∧ Hid (Below X.heap.size X w')) := Lib.hid (by
    rw [← her]
    exact (Cat.dcheck C X (h.under HXB.out) hl).mono fun _ _ ⟨e, h⟩ => ⟨e, Lib.hid h⟩)
  have HNO : Hid (∀ W, Below X.heap.size X W → Below w.heap.size w W) := Lib.hid fun W hW => below_then HXB.out hW
  have HG : Hid (∀ W z, Below X.heap.size X W → Goods.chk hv C.ty = z → Calls Try.prog 58 #[.slice a n c, .int .i64 C.ty] W fun e w' => e = .returned (.int .i64 z) ∧ Hid (Below X.heap.size X w')) := Lib.hid fun W z hW hz => by
    subst hz
    exact (Goods.dcheck a n c hv C.ty W hn (hs.under (below_then HXB.out hW)) h4).mono fun _ _ ⟨e, h⟩ => ⟨e, Lib.hid (below_then hW h)⟩
  clear h hl hn hs h4
  by_cases he : er = 0
  case neg =>
    have n1 : (er == 0) = false := by simpa using he
    have n2 : (er != 0) = true := by simpa using he
    rw [mayE_err (by rw [her]; exact he), her]
    clear her
    go_enter Try.func28, Try.ntmps28
    go_wp2_with fail
    clear hX hV
    refine HC.out.mono ?_
    rintro e w1 ⟨rfl, H1⟩
    go_wp2_with fail
    go_ret
    exact ⟨rfl, HNO.out _ H1.out⟩
  subst he
  have HBAD : Hid (¬ ((1 ≤ k ∧ k ≤ C.ty) ∧ (0 ≤ lv ∧ lv ≤ 10) ∧ Goods.Listed hv C.ty) → mayE C.p k lv hv = 1) := Lib.hid fun h => mayE_bad her h
  have HOK : Hid ((1 ≤ k ∧ k ≤ C.ty) → (0 ≤ lv ∧ lv ≤ 10) → Goods.Listed hv C.ty → mayE C.p k lv hv = 0) := Lib.hid fun h1 h2 h3 => mayE_ok her h1 h2 h3
  clear her
  by_cases c1 : k < 1
  · have d1 : decide (k < 1) = true := decide_eq_true c1
    have HE := Lib.hid (HBAD.out fun h => by omega)
    go_enter Try.func28, Try.ntmps28
    go_wp2_with fail
    clear hX hV
    refine HC.out.mono ?_
    rintro e w1 ⟨rfl, H1⟩
    go_wp2_with fail
    go_ret
    exact ⟨by rw [HE.out]; rfl, HNO.out _ H1.out⟩
  have d1 : decide (k < 1) = false := decide_eq_false c1
  by_cases c2 : C.ty < k
  · have d2 : decide (C.ty < k) = true := decide_eq_true c2
    have HE := Lib.hid (HBAD.out fun h => by omega)
    go_enter Try.func28, Try.ntmps28
    go_wp2_with fail
    clear hX hV
    refine HC.out.mono ?_
    rintro e w1 ⟨rfl, H1⟩
    obtain ⟨y0, y1, y2, y3, y4, y5, y6, y7⟩ := HP.out w1 H1.out
    clear k0 k1 k2 k3 k4 k5 k6 k7
    go_wp2_with fail
    go_ret
    exact ⟨by rw [HE.out]; rfl, HNO.out _ H1.out⟩
  have d2 : decide (C.ty < k) = false := decide_eq_false c2
  by_cases c3 : lv < 0
  · have d3 : decide (lv < 0) = true := decide_eq_true c3
    have HE := Lib.hid (HBAD.out fun h => by omega)
    go_enter Try.func28, Try.ntmps28
    go_wp2_with fail
    clear hX hV
    refine HC.out.mono ?_
    rintro e w1 ⟨rfl, H1⟩
    obtain ⟨y0, y1, y2, y3, y4, y5, y6, y7⟩ := HP.out w1 H1.out
    clear k0 k1 k2 k3 k4 k5 k6 k7
    go_wp2_with fail
    go_ret
    exact ⟨by rw [HE.out]; rfl, HNO.out _ H1.out⟩
  have d3 : decide (lv < 0) = false := decide_eq_false c3
  by_cases c4 : 10 < lv
  · have d4 : decide (10 < lv) = true := decide_eq_true c4
    have HE := Lib.hid (HBAD.out fun h => by omega)
    go_enter Try.func28, Try.ntmps28
    go_wp2_with fail
    clear hX hV
    refine HC.out.mono ?_
    rintro e w1 ⟨rfl, H1⟩
    obtain ⟨y0, y1, y2, y3, y4, y5, y6, y7⟩ := HP.out w1 H1.out
    clear k0 k1 k2 k3 k4 k5 k6 k7
    go_wp2_with fail
    go_ret
    exact ⟨by rw [HE.out]; rfl, HNO.out _ H1.out⟩
  have d4 : decide (10 < lv) = false := decide_eq_false c4
  by_cases c5 : Goods.Listed hv C.ty
  · have HE := Lib.hid (HOK.out (by omega) (by omega) c5)
    have HZ := Lib.hid (Goods.chk_yes c5)
    clear c5
    go_enter Try.func28, Try.ntmps28
    go_wp2_with fail
    clear hX hV
    refine HC.out.mono ?_
    rintro e w1 ⟨rfl, H1⟩
    obtain ⟨y0, y1, y2, y3, y4, y5, y6, y7⟩ := HP.out w1 H1.out
    clear k0 k1 k2 k3 k4 k5 k6 k7
    go_wp2_with fail
    refine (HG.out w1 0 H1.out HZ.out).mono ?_
    rintro e w2 ⟨rfl, H2⟩
    go_wp2_with fail
    go_ret
    exact ⟨by rw [HE.out]; rfl, HNO.out _ H2.out⟩
  · have HE := Lib.hid (HBAD.out fun h => c5 h.2.2)
    have HZ := Lib.hid (Goods.chk_no c5)
    clear c5
    go_enter Try.func28, Try.ntmps28
    go_wp2_with fail
    clear hX hV
    refine HC.out.mono ?_
    rintro e w1 ⟨rfl, H1⟩
    obtain ⟨y0, y1, y2, y3, y4, y5, y6, y7⟩ := HP.out w1 H1.out
    clear k0 k1 k2 k3 k4 k5 k6 k7
    go_wp2_with fail
    refine (HG.out w1 1 H1.out HZ.out).mono ?_
    rintro e w2 ⟨rfl, H2⟩
    go_wp2_with fail
    go_ret
    exact ⟨by rw [HE.out]; rfl, HNO.out _ H2.out⟩
/-- Types from the top. -/
noncomputable def topV (C : Cat) : List Int := (Graph.ordV C.ty (Cat.ndL C.bs)).reverse
theorem rev_take {l : List Int} {i j : Nat} {x : Int} (hi : l[i]? = some x) (h : i + j + 1 = l.length) : l.reverse.take (j + 1) = l.reverse.take j ++ [x] := by
  have h1 : l.reverse[j]? = some x := by
    rw [List.getElem?_reverse (by omega), show l.length - 1 - j = i by omega]
    exact hi
  rw [List.take_add_one, h1]
  rfl
set_option maxRecDepth 100000 in
set_option maxHeartbeats 8000000 in
theorem dtop (C : CM) (w : World) (h : CatAt w C) (hl : Lim C) :
    Calls Try.prog 29 #[C.v] w fun e w' => ∃ a n c, e = .returned (.slice a n c) ∧ Hid ((topV C.p).length = n ∧ n ≤ 64 ∧ KS w' w.heap.size (.slice a n c) (topV C.p) ∧ Below w.heap.size w w') := by
  obtain ⟨V, X, hV, hX, HXB, HP⟩ := box_cat w C
  obtain ⟨NL, hNL⟩ : ∃ NL, Cat.ndL C.p.bs = NL := ⟨_, rfl⟩
  obtain ⟨O, hO⟩ : ∃ O, Graph.ordV C.ty NL = O := ⟨_, rfl⟩
  obtain ⟨er, her⟩ : ∃ er, Graph.ordE C.ty NL = er := ⟨_, rfl⟩
  have HTV : Hid (topV C.p = O.reverse) := Lib.hid (by unfold topV; rw [hNL]; show (Graph.ordV C.ty NL).reverse = _; rw [hO])
  have HNE : Hid (∀ W, Below X.heap.size X W → Calls Try.prog 60 #[.agg #[.int .i64 C.ty, .slice C.ba C.bn C.bc, .int .i64 C.pl, .slice C.ya C.yn C.yc, .int .i64 C.ch, .int .i64 C.f.broker, .int .i64 C.f.least, .int .i64 C.f.sales]] W fun e w' => ∃ a n c, e = .returned (.slice a n c) ∧ Hid ((NL.length = n ∧ n ≤ 240 ∧ Nds w' a NL) ∧ Below X.heap.size X w')) := Lib.hid fun W hW => by
    refine (Cat.dneeds C W ((h.under HXB.out).under hW) hl).mono ?_
    rintro e w' ⟨a, n, c, rfl, H⟩
    rw [hNL] at H
    exact ⟨a, n, c, rfl, Lib.hid ⟨⟨H.out.1, H.out.2.1, (Graph.nds_own H.out.2.2.1).2⟩, below_then hW H.out.2.2.2⟩⟩
  have HOR : Hid (∀ W a n c, Below X.heap.size X W → (NL.length = n ∧ n ≤ 240 ∧ Nds W a NL) → Calls Try.prog 59 #[.int .i64 C.ty, .slice a n c] W fun e w' => ∃ a' m' c', e = .returned (.tuple #[.slice a' m' c', .int .i64 er]) ∧ Hid ((O.length = m' ∧ IRow w' a' O) ∧ Below X.heap.size X w')) := Lib.hid fun W a n c hW hn => by
    have := Graph.dorder C.ty a n c NL W hn.1 hn.2.2 (by omega)
    rw [her, hO] at this
    refine this.mono ?_
    rintro e w' ⟨a', m', c', rfl, H⟩
    obtain ⟨a2, c2, e, hr⟩ := irow_own H.out.2.1
    injection e with e1 _ _
    subst e1
    exact ⟨_, m', c', rfl, Lib.hid ⟨⟨H.out.1, hr⟩, below_then hW H.out.2.2⟩⟩
  have HSM : Hid (O.length ≤ 64) := Lib.hid (by
    rw [← hO]
    by_cases h0 : Graph.ordE C.ty NL = 0
    · obtain ⟨hm, _, hln⟩ := Graph.ord_zero h0
      have := hm.1.2
      omega
    · by_cases hm : Graph.May C.ty NL
      · cases ho : Graph.ordF C.ty NL C.ty.toNat [] with
        | none => rw [(Graph.ord_none hm ho).2]; exact Nat.zero_le _
        | some o => exact absurd (Graph.ord_some hm ho).1 h0
      · rw [(Graph.ord_arg hm).2]
        exact Nat.zero_le _)
  have HD0 : Hid (Below X.heap.size X X.drew) := Lib.hid (Below.refl _ X).drew
  have HNO : Hid (∀ W, Below X.heap.size X W → Below w.heap.size w W) := Lib.hid fun W hW => below_then HXB.out hW
  have HCE : Hid (∀ W, Below X.heap.size X W → W.cell? ⟨V, 0, none⟩ = some (.int .i64 C.ty) ∧ W.cell? ⟨V, 1, none⟩ = some (.slice C.ba C.bn C.bc) ∧ W.cell? ⟨V, 2, none⟩ = some (.int .i64 C.pl) ∧ W.cell? ⟨V, 3, none⟩ = some (.slice C.ya C.yn C.yc) ∧ W.cell? ⟨V, 4, none⟩ = some (.int .i64 C.ch) ∧ W.cell? ⟨V, 5, none⟩ = some (.int .i64 C.f.broker) ∧ W.cell? ⟨V, 6, none⟩ = some (.int .i64 C.f.least) ∧ W.cell? ⟨V, 7, none⟩ = some (.int .i64 C.f.sales)) := Lib.hid fun W hW => HP.out W hW
  clear h hl hNL hO her
  go_enter Try.func29, Try.ntmps29
  go_upto_region 1 with fail
  clear hX hV
  go_region_held3 (fun W => W.cell? ⟨V, 0, none⟩ = some (.int .i64 C.ty) ∧ W.cell? ⟨V, 1, none⟩ = some (.slice C.ba C.bn C.bc) ∧ W.cell? ⟨V, 2, none⟩ = some (.int .i64 C.pl) ∧ W.cell? ⟨V, 3, none⟩ = some (.slice C.ya C.yn C.yc) ∧ W.cell? ⟨V, 4, none⟩ = some (.int .i64 C.ch) ∧ W.cell? ⟨V, 5, none⟩ = some (.int .i64 C.f.broker) ∧ W.cell? ⟨V, 6, none⟩ = some (.int .i64 C.f.least) ∧ W.cell? ⟨V, 7, none⟩ = some (.int .i64 C.f.sales))
    (first | exact HCE.out _ HD0.out | exact HCE.out _ N6.out.2 | exact HCE.out _ N7.out.2)
    (first
      | (go_at_call 60; refine (HNE.out _ HD0.out).mono ?_; rintro e w6 ⟨a6, n6, c6, rfl, N6⟩)
      | (go_at_call 59; refine (HOR.out _ _ _ _ N6.out.2 N6.out.1).mono ?_; rintro e w7 ⟨a7, n7, c7, rfl, N7⟩))
  all_goals
    have hn7 : n7 ≤ 64 := by rw [← N7.out.1.1]; exact HSM.out
    have hn7b : (n7 : Int) ≤ 64 := by omega
    have wn : IntKind.i64.wrap ((n7 : Int) - 1) = (n7 : Int) - 1 := IntWalk.i64_in _ (by omega)
    have HT := irow_at N7.out.1.2
    go_wp2_with fail
    go_loopw [5, 6] (fun v t wr => ∃ (j : Nat) (z : Int) (a1 : Option Addr) (c1 : Nat), v = .slice a1 j c1 ∧ t = .int .i64 z ∧ z + j + 1 = n7 ∧ j ≤ n7 ∧ Hid (KS wr w7.heap.size (.slice a1 j c1) (O.reverse.take j)) ∧ Hid (Below w7.heap.size w7 wr)) (fun _ t _ => (RowKit.intOf t + 1).toNat)
    case atStart => exact ⟨0, (n7 : Int) - 1, none, 0, rfl, rfl, by omega, by omega, Lib.hid (World.ownsRow_nil _ _ _ _), Lib.hid (Below.refl _ _)⟩
    case round =>
      clear wn
      obtain ⟨j, z, a1, c1, rfl, rfl, hz, hj, HK, HB⟩ := hrel
      by_cases h0 : 0 ≤ z
      · obtain ⟨i, rfl⟩ := Int.eq_ofNat_of_zero_le h0
        have hi0 : (0 : Int) ≤ (i : Int) := by omega
        have hlt : i < n7 := by omega
        have hlt2 : (i : Int) < (n7 : Int) := by omega
        obtain ⟨g, off, x, rfl, ht, q0⟩ := HT.out wr i HB.out (by rw [N7.out.1.1]; exact hlt)
        have wi : IntKind.i64.wrap ((i : Int) - 1) = (i : Int) - 1 := IntWalk.i64_in _ (by omega)
        have hlen : (O.reverse.take j).length = j := by rw [List.length_take, List.length_reverse, N7.out.1.1]; omega
        obtain ⟨b, cap, W2, hr, h2, h3, _⟩ := app_int wr w7.heap.size _ _ x HK.out (by omega) HB.out.size
        rw [hlen] at hr h2
        have HR := Lib.hid hr
        have HK2 : Hid (KS W2 w7.heap.size (.slice (some ⟨b, 0, none⟩) (j + 1) cap) (O.reverse.take (j + 1))) := Lib.hid (by rw [rev_take ht.out (by rw [N7.out.1.1]; omega)]; exact h2)
        have HB2 : Hid (Below w7.heap.size w7 W2) := Lib.hid (HB.out.trans h3)
        clear hr h2 h3 hlen
        go_wp2_with (at_builtin; refine walk_run (v' := .slice (some ⟨b, 0, none⟩) (j + 1) cap) (w' := W2) rfl _ _ _ _ rfl _ _ rfl rfl ?_ ?_; exact HR.out)
        go_roundw
        case rel => exact ⟨j + 1, (i : Int) - 1, _, cap, rfl, rfl, by omega, by omega, HK2, HB2⟩
        case measure => simp [RowKit.intOf]
      · obtain rfl : j = n7 := by omega
        have d1 : decide (0 ≤ z) = false := decide_eq_false h0
        have HF : Hid (KS wr w7.heap.size (.slice a1 j c1) (topV C.p)) := Lib.hid (by
          have := HK.out
          rw [List.take_of_length_le (by rw [List.length_reverse, N7.out.1.1]; exact Nat.le_refl _)] at this
          rw [HTV.out]
          exact this)
        go_wp2_with fail
        go_ret
        exact ⟨a1, j, c1, rfl, Lib.hid ⟨by rw [HTV.out, List.length_reverse]; exact N7.out.1.1, hn7, World.ownsRow.mono HF.out (HNO.out _ N7.out.2).size, below_then (HNO.out _ N7.out.2) HB.out⟩⟩
open Classical in
set_option maxRecDepth 100000 in
set_option maxHeartbeats 8000000 in
theorem druns15 (C : CM) (a : Option Addr) (m c : Nat) (rs : List Int) (w : World) (h : C.bs.length = C.bn) (hl : rs.length = m) (hs : IRow w a rs) (hm : m ≤ 1000) :
    Calls Try.prog 41 #[C.v, .slice a m c] w fun e w' => e = .returned (.bool (decide (RunsOk C.p rs))) ∧ Below w.heap.size w w' := by
  obtain ⟨V, X, hV, hX, HXB, HP⟩ := box_cat w C
  obtain ⟨k0, k1, k2, k3, k4, k5, k6, k7⟩ := HP.out X (Below.refl _ _)
  have HT := irow_at (hs.under HXB.out)
  have HL := Lib.hid hl
  have hm1 : (m : Int) ≤ 1000 := by omega
  have HBN : Hid (C.p.bs.length = C.bn) := Lib.hid (by unfold CM.p; rw [List.length_map]; exact h)
  clear h hl hs
  go_enter Try.func41, Try.ntmps41
  go_wp2_with fail
  clear hX hV
  go_loopw [5] (fun t wr => ∃ i : Nat, t = .int .i64 (i : Int) ∧ i ≤ m ∧ X = wr ∧ Hid (∀ r ∈ rs.take i, 0 ≤ r ∧ r ≤ 1000)) (fun t _ => m - (RowKit.intOf t).toNat)
  case atStart => exact ⟨0, rfl, by omega, rfl, Lib.hid (by simp)⟩
  case round =>
    obtain ⟨i, rfl, hi, rfl, HI⟩ := hrel
    have hi0 : (0 : Int) ≤ (i : Int) := by omega
    by_cases hlt : i < m
    · have hlt2 : (i : Int) < (m : Int) := by omega
      obtain ⟨g, off, x, rfl, ht, q0⟩ := HT.out X i (Below.refl _ _) (by rw [HL.out]; exact hlt)
      have wi : IntKind.i64.wrap ((i : Int) + 1) = (i : Int) + 1 := IntWalk.i64_in _ (by omega)
      by_cases c1 : x < 0
      · have d1 : decide (x < 0) = true := decide_eq_true c1
        have HF : Hid (¬ RunsOk C.p rs) := Lib.hid fun h => by have := h.2 x (List.mem_of_getElem? ht.out); omega
        go_wp2_with fail
        go_ret
        exact ⟨by rw [decide_eq_false HF.out]; rfl, HXB.out⟩
      have d1 : decide (x < 0) = false := decide_eq_false c1
      by_cases c2 : 1000 < x
      · have d2 : decide (1000 < x) = true := decide_eq_true c2
        have HF : Hid (¬ RunsOk C.p rs) := Lib.hid fun h => by have := h.2 x (List.mem_of_getElem? ht.out); omega
        go_wp2_with fail
        go_ret
        exact ⟨by rw [decide_eq_false HF.out]; rfl, HXB.out⟩
      have d2 : decide (1000 < x) = false := decide_eq_false c2
      have HI2 : Hid (∀ r ∈ rs.take (i + 1), 0 ≤ r ∧ r ≤ 1000) := Lib.hid fun r hr => by
        rcases (Cat.mem_take_succ ht.out).1 hr with hr | rfl
        · exact HI.out r hr
        · omega
      go_wp2_with fail
      go_roundw
      case rel => exact ⟨i + 1, by go_num, by omega, by first | rfl | trivial, HI2⟩
      case measure => simp [RowKit.intOf]; omega
    · obtain rfl : i = m := by omega
      have HA : Hid (∀ r ∈ rs, 0 ≤ r ∧ r ≤ 1000) := Lib.hid (by
        have := HI.out
        rw [List.take_of_length_le (by rw [HL.out]; exact Nat.le_refl _)] at this
        exact this)
      by_cases c1 : i = C.bn
      · have d1 : ((i : Int) == (C.bn : Int)) = true := by rw [c1]; simp
        have HF : Hid (RunsOk C.p rs) := Lib.hid ⟨by rw [HL.out, HBN.out]; exact c1, HA.out⟩
        go_wp2_with fail
        go_ret
        exact ⟨by rw [decide_eq_true HF.out]; rfl, HXB.out⟩
      · have d1 : ((i : Int) == (C.bn : Int)) = false := by simp; omega
        have HF : Hid (¬ RunsOk C.p rs) := Lib.hid fun h => c1 (by rw [← HL.out, h.1, HBN.out])
        go_wp2_with fail
        go_ret
        exact ⟨by rw [decide_eq_false HF.out]; rfl, HXB.out⟩
end Go.Proofs.Ytohlkaoophbinaa.Bom
namespace Go.Proofs.Ytohlkaoophbinaa.Bom
open Go.RowKit Go.Lib IRows
open Goods (St Sts OwnS cnt)

/-- A bill, and where its three rows lie. -/
structure BM where
  ra : Option Addr
  rn : Nat
  rc : Nat
  raw : List St
  ua : Option Addr
  un : Nat
  uc : Nat
  rs : List Int
  la : Option Addr
  ln : Nat
  lc : Nat
  left : List St
abbrev BM.v (b : BM) : Value := .agg #[.slice b.ra b.rn b.rc, .slice b.ua b.un b.uc, .slice b.la b.ln b.lc]
def BomAt (w : World) (b : BM) : Prop := (b.raw.length = b.rn ∧ Sts w b.ra b.raw ∧ b.rn ≤ 1048576) ∧ (b.rs.length = b.un ∧ IRow w b.ua b.rs ∧ b.un ≤ 1048576) ∧ b.left.length = b.ln ∧ Sts w b.la b.left ∧ b.ln ≤ 1048576
theorem BomAt.under {w w' : World} {b : BM} (h : BomAt w b) (hb : Below w.heap.size w w') : BomAt w' b := ⟨⟨h.1.1, h.1.2.1.under hb, h.1.2.2⟩, ⟨h.2.1.1, h.2.1.2.1.under hb, h.2.1.2.2⟩, h.2.2.1, h.2.2.2.1.under hb, h.2.2.2.2⟩
def CellsM (w : World) (V : Nat) (b : BM) : Prop := w.cell? ⟨V, 0, none⟩ = some (.slice b.ra b.rn b.rc) ∧ w.cell? ⟨V, 1, none⟩ = some (.slice b.ua b.un b.uc) ∧ w.cell? ⟨V, 2, none⟩ = some (.slice b.la b.ln b.lc)
theorem box_bom (w : World) (b : BM) : ∃ V X, w.heap.size = V ∧ w.alloc (.cells #[.slice b.ra b.rn b.rc, .slice b.ua b.un b.uc, .slice b.la b.ln b.lc] 35) = X ∧ Hid (Below w.heap.size w X) ∧ Hid (∀ W, Below X.heap.size X W → CellsM W V b) := by
  refine ⟨_, _, rfl, rfl, Lib.hid ((Below.refl _ w).alloc (Nat.le_refl _) _), Lib.hid (fun W hW => ?_)⟩
  have h0 := heap_alloc_new w (.cells #[.slice b.ra b.rn b.rc, .slice b.ua b.un b.uc, .slice b.la b.ln b.lc] 35)
  have h1 := (hW.block _ (Array.getElem?_eq_some_iff.1 h0).1).trans h0
  exact ⟨cell_block (j := 0) h1 rfl, cell_block (j := 1) h1 rfl, cell_block (j := 2) h1 rfl⟩
/-- Bills that tell the same. -/
def SameB (a b : BM) : Prop := a.raw = b.raw ∧ a.rs = b.rs ∧ a.left = b.left
open Classical in
set_option maxRecDepth 100000 in
set_option maxHeartbeats 4000000 in
theorem dsameB (a b : BM) (w : World) (ha : BomAt w a) (hb : BomAt w b) :
    Calls Try.prog 11 #[a.v, b.v] w fun e w' => e = .returned (.bool (decide (SameB a b))) ∧ Below w.heap.size w w' := by
  obtain ⟨V, X, hV, hX, HXB, HP⟩ := box_bom w a
  obtain ⟨U, Y, hU, hY, HYB, HQ⟩ := box_bom X b
  have HXY : Hid (Below w.heap.size w Y) := Lib.hid (below_then HXB.out HYB.out)
  have HPE : Hid (∀ W, Below Y.heap.size Y W → W.cell? ⟨V, 0, none⟩ = some (.slice a.ra a.rn a.rc) ∧ W.cell? ⟨V, 1, none⟩ = some (.slice a.ua a.un a.uc) ∧ W.cell? ⟨V, 2, none⟩ = some (.slice a.la a.ln a.lc)) := Lib.hid fun W hW => HP.out W (below_then HYB.out hW)
  have HQE : Hid (∀ W, Below Y.heap.size Y W → W.cell? ⟨U, 0, none⟩ = some (.slice b.ra b.rn b.rc) ∧ W.cell? ⟨U, 1, none⟩ = some (.slice b.ua b.un b.uc) ∧ W.cell? ⟨U, 2, none⟩ = some (.slice b.la b.ln b.lc)) := Lib.hid fun W hW => HQ.out W hW
  have HNO : Hid (∀ W, Below Y.heap.size Y W → Below w.heap.size w W) := Lib.hid fun W hW => below_then HXY.out hW
  obtain ⟨d1, hd1⟩ : ∃ d, decide (a.raw = b.raw) = d := ⟨_, rfl⟩
  obtain ⟨d2, hd2⟩ : ∃ d, decide (a.rs = b.rs) = d := ⟨_, rfl⟩
  obtain ⟨d3, hd3⟩ : ∃ d, decide (a.left = b.left) = d := ⟨_, rfl⟩
  have H1 : Hid (Calls Try.prog 20 #[.slice a.ra a.rn a.rc, .slice b.ra b.rn b.rc] Y fun e w' => e = .returned (.bool d1) ∧ Hid (Below Y.heap.size Y w')) := Lib.hid (by
    rw [← hd1]
    refine (Goods.dsame a.ra a.rn a.rc a.raw b.ra b.rn b.rc b.raw Y ha.1.1 (ha.1.2.1.under HXY.out) ha.1.2.2 hb.1.1 (hb.1.2.1.under HXY.out) hb.1.2.2).mono ?_
    rintro e w' ⟨rfl, h⟩
    exact ⟨by congr, Lib.hid h⟩)
  have H2 : Hid (∀ W, Below Y.heap.size Y W → Calls Try.prog 35 #[.slice a.ua a.un a.uc, .slice b.ua b.un b.uc] W fun e w' => e = .returned (.bool d2) ∧ Hid (Below Y.heap.size Y w')) := Lib.hid fun W hW => by
    rw [← hd2]
    refine (IRows.dsame a.ua a.un a.uc a.rs b.ua b.un b.uc b.rs W ha.2.1.1 (ha.2.1.2.1.under (below_then HXY.out hW)) ha.2.1.2.2 hb.2.1.1 (hb.2.1.2.1.under (below_then HXY.out hW)) hb.2.1.2.2).mono ?_
    rintro e w' ⟨rfl, h⟩
    exact ⟨by congr, Lib.hid (below_then hW h)⟩
  have H3 : Hid (∀ W, Below Y.heap.size Y W → Calls Try.prog 20 #[.slice a.la a.ln a.lc, .slice b.la b.ln b.lc] W fun e w' => e = .returned (.bool d3) ∧ Hid (Below Y.heap.size Y w')) := Lib.hid fun W hW => by
    rw [← hd3]
    refine (Goods.dsame a.la a.ln a.lc a.left b.la b.ln b.lc b.left W ha.2.2.1 (ha.2.2.2.1.under (below_then HXY.out hW)) ha.2.2.2.2 hb.2.2.1 (hb.2.2.2.1.under (below_then HXY.out hW)) hb.2.2.2.2).mono ?_
    rintro e w' ⟨rfl, h⟩
    exact ⟨by congr, Lib.hid (below_then hW h)⟩
  have HF : Hid (decide (SameB a b) = (d1 && (d2 && d3))) := Lib.hid (by
    rw [← hd1, ← hd2, ← hd3]
    unfold SameB
    by_cases h1 : a.raw = b.raw <;> by_cases h2 : a.rs = b.rs <;> by_cases h3 : a.left = b.left <;> simp [h1, h2, h3])
  clear hd1 hd2 hd3 ha hb
  obtain ⟨x0, x1, x2⟩ := HPE.out Y (Below.refl _ _)
  obtain ⟨y0, y1, y2⟩ := HQE.out Y (Below.refl _ _)
  rcases d1 with _ | _
  · go_enter Try.func11, Try.ntmps11
    go_wp2_with fail
    clear hX hV hU hY
    refine H1.out.mono ?_
    rintro e w1 ⟨rfl, B1⟩
    go_wp2_with fail
    go_ret
    exact ⟨by rw [HF.out]; rfl, HNO.out _ B1.out⟩
  rcases d2 with _ | _
  · go_enter Try.func11, Try.ntmps11
    go_wp2_with fail
    clear hX hV hU hY
    refine H1.out.mono ?_
    rintro e w1 ⟨rfl, B1⟩
    clear x0 x1 x2 y0 y1 y2
    obtain ⟨x0, x1, x2⟩ := HPE.out w1 B1.out
    obtain ⟨y0, y1, y2⟩ := HQE.out w1 B1.out
    go_wp2_with fail
    refine (H2.out w1 B1.out).mono ?_
    rintro e w2 ⟨rfl, B2⟩
    go_wp2_with fail
    go_ret
    exact ⟨by rw [HF.out]; rfl, HNO.out _ B2.out⟩
  go_enter Try.func11, Try.ntmps11
  go_wp2_with fail
  clear hX hV hU hY
  refine H1.out.mono ?_
  rintro e w1 ⟨rfl, B1⟩
  clear x0 x1 x2 y0 y1 y2
  obtain ⟨x0, x1, x2⟩ := HPE.out w1 B1.out
  obtain ⟨y0, y1, y2⟩ := HQE.out w1 B1.out
  go_wp2_with fail
  refine (H2.out w1 B1.out).mono ?_
  rintro e w2 ⟨rfl, B2⟩
  clear x0 x1 x2 y0 y1 y2
  obtain ⟨x0, x1, x2⟩ := HPE.out w2 B2.out
  obtain ⟨y0, y1, y2⟩ := HQE.out w2 B2.out
  go_wp2_with fail
  refine (H3.out w2 B2.out).mono ?_
  rintro e w3 ⟨rfl, B3⟩
  go_wp2_with fail
  go_ret
  exact ⟨by rw [HF.out]; rfl, HNO.out _ B3.out⟩
end Go.Proofs.Ytohlkaoophbinaa.Bom
