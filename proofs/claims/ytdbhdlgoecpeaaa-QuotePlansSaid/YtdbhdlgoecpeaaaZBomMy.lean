/- The document's may, Runs. The document's up. The document's Time. The document's Whole, path, Path. -/
import Derived.Test.YtdbhdlgoecpeaaaZCatE
import Derived.Test.YtdbhdlgoecpeaaaZCatRow
import Derived.Test.YtdbhdlgoecpeaaaZBomMath
import Derived.Test.YtdbhdlgoecpeaaaZGraphA
import Derived.Deep.RegionHeld3
import Derived.Deep.CutRange
import Derived.Test.YtdbhdlgoecpeaaaZRecA
namespace Go.Proofs.Ytdbhdlgoecpeaaa.Bom
open Go.RowKit Go.Lib IRows
open Goods (St Sts OwnS cnt)
open Cat (Cat PB CM CatAt Lim box_cat)
open Graph (Nd Nds OwnN)

set_option maxRecDepth 100000 in
set_option maxHeartbeats 8000000 in
theorem dmay (C : CM) (k lv : Int) (a : Option Addr) (n c : Nat) (hv : List St) (w : World) (h : CatAt w C) (hl : Lim C) (hn : hv.length = n) (hs : Sts w a hv) (h4 : n ≤ 4096) :
    Calls Try.prog 36 #[C.v, .int .i64 k, .int .i64 lv, .slice a n c] w fun e w' => e = .returned (.int .i64 (mayE C.p k lv hv)) ∧ Below w.heap.size w w' := by
  obtain ⟨V, X, hV, hX, HXB, HP⟩ := box_cat w C
  obtain ⟨k0, k1, k2, k3, k4, k5, k6, k7⟩ := HP.out X (Below.refl _ _)
  obtain ⟨er, her⟩ : ∃ er, Cat.chkC C.p = er := ⟨_, rfl⟩
  have HC : Hid (Calls Try.prog 32 #[.agg #[.int .i64 C.ty, .slice C.ba C.bn C.bc, .int .i64 C.pl, .slice C.ya C.yn C.yc, .int .i64 C.ch, .int .i64 C.f.broker, .int .i64 C.f.least, .int .i64 C.f.sales]] X fun e w' => e = .returned (.int .i64 er) ∧ Hid (Below X.heap.size X w')) := Lib.hid (by
    rw [← her]
    exact (Cat.dcheck C X (h.under HXB.out) hl).mono fun _ _ ⟨e, h⟩ => ⟨e, Lib.hid h⟩)
  have HNO : Hid (∀ W, Below X.heap.size X W → Below w.heap.size w W) := Lib.hid fun W hW => below_then HXB.out hW
  have HG : Hid (∀ W z, Below X.heap.size X W → Goods.chk hv C.ty = z → Calls Try.prog 67 #[.slice a n c, .int .i64 C.ty] W fun e w' => e = .returned (.int .i64 z) ∧ Hid (Below X.heap.size X w')) := Lib.hid fun W z hW hz => by
    subst hz
    exact (Goods.dcheck a n c hv C.ty W hn (hs.under (below_then HXB.out hW)) h4).mono fun _ _ ⟨e, h⟩ => ⟨e, Lib.hid (below_then hW h)⟩
  clear h hl hn hs h4
  by_cases he : er = 0
  case neg =>
    have n1 : (er == 0) = false := by simpa using he
    have n2 : (er != 0) = true := by simpa using he
    rw [mayE_err (by rw [her]; exact he), her]
    clear her
    go_enter Try.func36, Try.ntmps36
    go_wp2_with fail
    clear hX hV
    refine HC.out.mono ?_
    rintro e w1 ⟨rfl, H1⟩
    go_wp2_with fail
    go_ret
    exact ⟨rfl, HNO.out _ H1.out⟩
  subst he
  have HBAD : Hid (¬ ((1 ≤ k ∧ k ≤ C.ty) ∧ (0 ≤ lv ∧ lv ≤ 10) ∧ Goods.Listed hv C.ty) → mayE C.p k lv hv = 1) := Lib.hid fun h => mayE_bad her h
  have HOK : Hid ((1 ≤ k ∧ k ≤ C.ty) → (0 ≤ lv ∧ lv ≤ 10) → Goods.Listed hv C.ty → mayE C.p k lv hv = 0) := Lib.hid fun h1 h2 h3 => mayE_ok her h1 h2 h3
  clear her
  by_cases c1 : k < 1
  · have d1 : decide (k < 1) = true := decide_eq_true c1
    have HE := Lib.hid (HBAD.out fun h => by omega)
    go_enter Try.func36, Try.ntmps36
    go_wp2_with fail
    clear hX hV
    refine HC.out.mono ?_
    rintro e w1 ⟨rfl, H1⟩
    go_wp2_with fail
    go_ret
    exact ⟨by rw [HE.out]; rfl, HNO.out _ H1.out⟩
  have d1 : decide (k < 1) = false := decide_eq_false c1
  by_cases c2 : C.ty < k
  · have d2 : decide (C.ty < k) = true := decide_eq_true c2
    have HE := Lib.hid (HBAD.out fun h => by omega)
    go_enter Try.func36, Try.ntmps36
    go_wp2_with fail
    clear hX hV
    refine HC.out.mono ?_
    rintro e w1 ⟨rfl, H1⟩
    obtain ⟨y0, y1, y2, y3, y4, y5, y6, y7⟩ := HP.out w1 H1.out
    clear k0 k1 k2 k3 k4 k5 k6 k7
    go_wp2_with fail
    go_ret
    exact ⟨by rw [HE.out]; rfl, HNO.out _ H1.out⟩
  have d2 : decide (C.ty < k) = false := decide_eq_false c2
  by_cases c3 : lv < 0
  · have d3 : decide (lv < 0) = true := decide_eq_true c3
    have HE := Lib.hid (HBAD.out fun h => by omega)
    go_enter Try.func36, Try.ntmps36
    go_wp2_with fail
    clear hX hV
    refine HC.out.mono ?_
    rintro e w1 ⟨rfl, H1⟩
    obtain ⟨y0, y1, y2, y3, y4, y5, y6, y7⟩ := HP.out w1 H1.out
    clear k0 k1 k2 k3 k4 k5 k6 k7
    go_wp2_with fail
    go_ret
    exact ⟨by rw [HE.out]; rfl, HNO.out _ H1.out⟩
  have d3 : decide (lv < 0) = false := decide_eq_false c3
  by_cases c4 : 10 < lv
  · have d4 : decide (10 < lv) = true := decide_eq_true c4
    have HE := Lib.hid (HBAD.out fun h => by omega)
    go_enter Try.func36, Try.ntmps36
    go_wp2_with fail
    clear hX hV
    refine HC.out.mono ?_
    rintro e w1 ⟨rfl, H1⟩
    obtain ⟨y0, y1, y2, y3, y4, y5, y6, y7⟩ := HP.out w1 H1.out
    clear k0 k1 k2 k3 k4 k5 k6 k7
    go_wp2_with fail
    go_ret
    exact ⟨by rw [HE.out]; rfl, HNO.out _ H1.out⟩
  have d4 : decide (10 < lv) = false := decide_eq_false c4
  by_cases c5 : Goods.Listed hv C.ty
  · have HE := Lib.hid (HOK.out (by omega) (by omega) c5)
    have HZ := Lib.hid (Goods.chk_yes c5)
    clear c5
    go_enter Try.func36, Try.ntmps36
    go_wp2_with fail
    clear hX hV
    refine HC.out.mono ?_
    rintro e w1 ⟨rfl, H1⟩
    obtain ⟨y0, y1, y2, y3, y4, y5, y6, y7⟩ := HP.out w1 H1.out
    clear k0 k1 k2 k3 k4 k5 k6 k7
    go_wp2_with fail
    refine (HG.out w1 0 H1.out HZ.out).mono ?_
    rintro e w2 ⟨rfl, H2⟩
    go_wp2_with fail
    go_ret
    exact ⟨by rw [HE.out]; rfl, HNO.out _ H2.out⟩
  · have HE := Lib.hid (HBAD.out fun h => c5 h.2.2)
    have HZ := Lib.hid (Goods.chk_no c5)
    clear c5
    go_enter Try.func36, Try.ntmps36
    go_wp2_with fail
    clear hX hV
    refine HC.out.mono ?_
    rintro e w1 ⟨rfl, H1⟩
    obtain ⟨y0, y1, y2, y3, y4, y5, y6, y7⟩ := HP.out w1 H1.out
    clear k0 k1 k2 k3 k4 k5 k6 k7
    go_wp2_with fail
    refine (HG.out w1 1 H1.out HZ.out).mono ?_
    rintro e w2 ⟨rfl, H2⟩
    go_wp2_with fail
    go_ret
    exact ⟨by rw [HE.out]; rfl, HNO.out _ H2.out⟩
open Classical in
set_option maxRecDepth 100000 in
set_option maxHeartbeats 8000000 in
theorem druns15 (C : CM) (a : Option Addr) (m c : Nat) (rs : List Int) (w : World) (h : C.bs.length = C.bn) (hl : rs.length = m) (hs : IRow w a rs) (hm : m ≤ 1000) :
    Calls Try.prog 37 #[C.v, .slice a m c] w fun e w' => e = .returned (.bool (decide (RunsOk C.p rs))) ∧ Below w.heap.size w w' := by
  obtain ⟨V, X, hV, hX, HXB, HP⟩ := box_cat w C
  obtain ⟨k0, k1, k2, k3, k4, k5, k6, k7⟩ := HP.out X (Below.refl _ _)
  have HT := irow_at (hs.under HXB.out)
  have HL := Lib.hid hl
  have hm1 : (m : Int) ≤ 1000 := by omega
  have HBN : Hid (C.p.bs.length = C.bn) := Lib.hid (by unfold CM.p; rw [List.length_map]; exact h)
  clear h hl hs
  go_enter Try.func37, Try.ntmps37
  go_wp2_with fail
  clear hX hV
  go_loopw [5] (fun t wr => ∃ i : Nat, t = .int .i64 (i : Int) ∧ i ≤ m ∧ X = wr ∧ Hid (∀ r ∈ rs.take i, 0 ≤ r ∧ r ≤ 1000)) (fun t _ => m - (RowKit.intOf t).toNat)
  case atStart => exact ⟨0, rfl, by omega, rfl, Lib.hid (by simp)⟩
  case round =>
    obtain ⟨i, rfl, hi, rfl, HI⟩ := hrel
    have hi0 : (0 : Int) ≤ (i : Int) := by omega
    by_cases hlt : i < m
    · have hlt2 : (i : Int) < (m : Int) := by omega
      obtain ⟨g, off, x, rfl, ht, q0⟩ := HT.out X i (Below.refl _ _) (by rw [HL.out]; exact hlt)
      have wi : IntKind.i64.wrap ((i : Int) + 1) = (i : Int) + 1 := IntWalk.i64_in _ (by omega)
      by_cases c1 : x < 0
      · have d1 : decide (x < 0) = true := decide_eq_true c1
        have HF : Hid (¬ RunsOk C.p rs) := Lib.hid fun h => by have := h.2 x (List.mem_of_getElem? ht.out); omega
        go_wp2_with fail
        go_ret
        exact ⟨by rw [decide_eq_false HF.out]; rfl, HXB.out⟩
      have d1 : decide (x < 0) = false := decide_eq_false c1
      by_cases c2 : 1000 < x
      · have d2 : decide (1000 < x) = true := decide_eq_true c2
        have HF : Hid (¬ RunsOk C.p rs) := Lib.hid fun h => by have := h.2 x (List.mem_of_getElem? ht.out); omega
        go_wp2_with fail
        go_ret
        exact ⟨by rw [decide_eq_false HF.out]; rfl, HXB.out⟩
      have d2 : decide (1000 < x) = false := decide_eq_false c2
      have HI2 : Hid (∀ r ∈ rs.take (i + 1), 0 ≤ r ∧ r ≤ 1000) := Lib.hid fun r hr => by
        rcases (Cat.mem_take_succ ht.out).1 hr with hr | rfl
        · exact HI.out r hr
        · omega
      go_wp2_with fail
      go_roundw
      case rel => exact ⟨i + 1, by go_num, by omega, by first | rfl | trivial, HI2⟩
      case measure => simp [RowKit.intOf]; omega
    · obtain rfl : i = m := by omega
      have HA : Hid (∀ r ∈ rs, 0 ≤ r ∧ r ≤ 1000) := Lib.hid (by
        have := HI.out
        rw [List.take_of_length_le (by rw [HL.out]; exact Nat.le_refl _)] at this
        exact this)
      by_cases c1 : i = C.bn
      · have d1 : ((i : Int) == (C.bn : Int)) = true := by rw [c1]; simp
        have HF : Hid (RunsOk C.p rs) := Lib.hid ⟨by rw [HL.out, HBN.out]; exact c1, HA.out⟩
        go_wp2_with fail
        go_ret
        exact ⟨by rw [decide_eq_true HF.out]; rfl, HXB.out⟩
      · have d1 : ((i : Int) == (C.bn : Int)) = false := by simp; omega
        have HF : Hid (¬ RunsOk C.p rs) := Lib.hid fun h => c1 (by rw [← HL.out, h.1, HBN.out])
        go_wp2_with fail
        go_ret
        exact ⟨by rw [decide_eq_false HF.out]; rfl, HXB.out⟩
end Go.Proofs.Ytdbhdlgoecpeaaa.Bom
namespace Go.Proofs.Ytdbhdlgoecpeaaa.Recipe
open Go.RowKit Go.Lib

theorem dup (n k : Int) (w : World) (n0 : 0 ≤ n) (n1 : n ≤ 2305843009213693952) (k0 : 1 ≤ k) (k1 : k ≤ 4611686018427387904) : Calls Try.prog 69 #[.int .i64 n, .int .i64 k] w fun e w' => e = .returned (.int .i64 (up n k)) ∧ w = w' := by
  have w1 : IntKind.i64.wrap (n + k) = n + k := IntWalk.i64_in _ (by omega)
  have w2 : IntKind.i64.wrap (n + k - 1) = n + k - 1 := IntWalk.i64_in _ (by omega)
  have c2 : ¬ k = 0 := by omega
  have c3 : (k == 0) = false := by simpa using c2
  obtain ⟨q, hq⟩ : ∃ q, up n k = q := ⟨_, rfl⟩
  have ht : (n + k - 1).tdiv k = q := by rw [← hq]; unfold up; exact Int.tdiv_eq_ediv_of_nonneg (by omega)
  have hq0 : 0 ≤ q := by rw [← hq]; exact up_nonneg n0 (by omega)
  have hq1 : q ≤ n := by rw [← hq]; exact up_le n0 (by omega)
  have w3 : IntKind.i64.wrap q = q := IntWalk.i64_in _ (by omega)
  rw [hq]
  clear hq
  go_enter Try.func69, Try.ntmps69
  go_wp2_with fail
  go_ret
  exact ⟨rfl, rfl⟩
end Go.Proofs.Ytdbhdlgoecpeaaa.Recipe
namespace Go.Proofs.Ytdbhdlgoecpeaaa.Recipe
open Go.RowKit Go.Lib
open Goods (St Sts OwnS)

set_option maxRecDepth 100000 in
set_option maxHeartbeats 8000000 in
theorem dtime (b : Bl) (lv r : Int) (w : World) (hb : BlIn w b) :
    Calls Try.prog 38 #[blV b, .int .i64 lv, .int .i64 r] w fun e w' => e = .returned (.tuple #[.int .i64 (timeV b lv r), .int .i64 (timeE b lv r)]) ∧ Below w.heap.size w w' := by
  obtain ⟨V, X, hV, hX, HXB, HP⟩ := box_blue w b
  obtain ⟨k0, k1, k2, k3, k4, k5, k6⟩ := HP.out X (Below.refl _ _)
  have HCK := check_at b X (hb.under HXB.out)
  have HNO : Hid (∀ W, Below X.heap.size X W → Below w.heap.size w W) := Lib.hid (fun W hW => below_then HXB.out hW)
  by_cases hok : BlOk b 32
  case neg =>
    obtain ⟨e1, e2⟩ := time_arg (b := b) (lv := lv) (r := r) (fun h => hok h.1)
    have HC := Lib.hid (HCK.out X 1 (Below.refl _ _) (chkB_no hok))
    rw [e1, e2]
    clear e1 e2 hok hb HCK
    go_enter Try.func38, Try.ntmps38
    go_wp2_with fail
    clear hX hV
    refine HC.out.mono ?_
    rintro e w1 ⟨rfl, H1⟩
    go_wp2_with fail
    go_ret2
    exact ⟨rfl, HNO.out _ H1.out⟩
  have HC := Lib.hid (HCK.out X 0 (Below.refl _ _) (chkB_yes hok))
  by_cases q0 : 0 ≤ lv ∧ lv ≤ 10
  case neg =>
    obtain ⟨e1, e2⟩ := time_arg (b := b) (lv := lv) (r := r) (fun h => q0 (h.2.1))
    have HN := Lib.hid (fun W => in_no (lv) (0) (10) W (by omega))
    rw [e1, e2]
    clear e1 e2 hok hb HCK
    go_enter Try.func38, Try.ntmps38
    go_wp2_with fail
    clear hX hV
    refine HC.out.mono ?_
    rintro e w1 ⟨rfl, H1⟩
    obtain ⟨y0, y1, y2, y3, y4, y5, y6⟩ := HP.out w1 H1.out
    clear k0 k1 k2 k3 k4 k5 k6
    go_wp2_with fail
    refine (HN.out _).mono ?_
    rintro e w' ⟨rfl, rfl⟩
    go_wp2_with fail
    go_ret2
    exact ⟨rfl, HNO.out _ H1.out⟩
  have HI0 := Lib.hid (fun W => in_yes (lv) (0) (10) W q0.1 q0.2)
  by_cases q1 : 1 ≤ r ∧ r ≤ 1000
  case neg =>
    obtain ⟨e1, e2⟩ := time_arg (b := b) (lv := lv) (r := r) (fun h => q1 (h.2.2))
    have HN := Lib.hid (fun W => in_no (r) (1) (1000) W (by omega))
    rw [e1, e2]
    clear e1 e2 hok hb HCK
    go_enter Try.func38, Try.ntmps38
    go_wp2_with fail
    clear hX hV
    refine HC.out.mono ?_
    rintro e w1 ⟨rfl, H1⟩
    obtain ⟨y0, y1, y2, y3, y4, y5, y6⟩ := HP.out w1 H1.out
    clear k0 k1 k2 k3 k4 k5 k6
    go_wp2_with fail
    refine (HI0.out _).mono ?_
    rintro e w' ⟨rfl, rfl⟩
    go_wp2_with fail
    refine (HN.out _).mono ?_
    rintro e w' ⟨rfl, rfl⟩
    go_wp2_with fail
    go_ret2
    exact ⟨rfl, HNO.out _ H1.out⟩
  have HI1 := Lib.hid (fun W => in_yes (r) (1) (1000) W q1.1 q1.2)
  obtain ⟨e1, e2⟩ := time_ok (b := b) (lv := lv) (r := r) hok ⟨q0, q1⟩
  rw [e1, e2]
  clear e1 e2
  have ht := hok.2.2.2.1
  obtain ⟨h1, h2, h3, h4⟩ := prod3 (a := b.tm) (b := r) (c := 100 - 2 * lv) (by omega) (by omega) (by omega) ht.2 q1.2 (show 100 - 2 * lv ≤ 100 by omega)
  have HU := Lib.hid (fun W => dup (b.tm * r * (100 - 2 * lv)) 100 W h3 (by omega) (by omega) (by omega))
  have w1 : IntKind.i64.wrap (b.tm * r) = b.tm * r := IntWalk.i64_in _ (by omega)
  have w2 : IntKind.i64.wrap (2 * lv) = 2 * lv := IntWalk.i64_in _ (by omega)
  have w3 : IntKind.i64.wrap (100 - 2 * lv) = 100 - 2 * lv := IntWalk.i64_in _ (by omega)
  have w4 : IntKind.i64.wrap (b.tm * r * (100 - 2 * lv)) = b.tm * r * (100 - 2 * lv) := IntWalk.i64_in _ (by omega)
  clear hok hb HCK h1 h2 h3 h4 ht
  go_enter Try.func38, Try.ntmps38
  go_wp2_with fail
  clear hX hV
  refine HC.out.mono ?_
  rintro e w1 ⟨rfl, H1⟩
  obtain ⟨y0, y1, y2, y3, y4, y5, y6⟩ := HP.out w1 H1.out
  clear k0 k1 k2 k3 k4 k5 k6
  go_wp2_with fail
  refine (HI0.out _).mono ?_
  rintro e w' ⟨rfl, rfl⟩
  go_wp2_with fail
  refine (HI1.out _).mono ?_
  rintro e w' ⟨rfl, rfl⟩
  go_wp2_with fail
  refine (HU.out _).mono ?_
  rintro e w' ⟨rfl, rfl⟩
  go_wp2_with fail
  go_ret2
  exact ⟨rfl, HNO.out _ H1.out⟩
end Go.Proofs.Ytdbhdlgoecpeaaa.Recipe
namespace Go.Proofs.Ytdbhdlgoecpeaaa.Bom
open Go.RowKit Go.Lib IRows
open Goods (St Sts OwnS cnt)
open Cat (Cat PB CM CatAt Lim box_cat pOf)
open Recipe (BlIn)

theorem time_le (b : Recipe.Bl) (lv r : Int) : Recipe.timeV b lv r ≤ 104857600000 := by
  by_cases h : Recipe.timeE b lv r = 0
  · unfold Recipe.timeV
    rw [if_pos h]
    unfold Recipe.timeE at h
    split at h
    · rename_i hk
      have ht := hk.1.2.2.2.1
      have hl := hk.2
      obtain ⟨_, _, h3, h4⟩ := Recipe.prod3 (a := b.tm) (b := r) (c := 100 - 2 * lv) (A := 1048576) (B := 1000) (C := 100) (by omega) (by have := hl.2; omega) (by have := hl.1; omega) (by omega) (by have := hl.2; omega) (by have := hl.1; omega)
      have := Recipe.up_le (k := 100) h3 (by omega)
      unfold Recipe.tmv
      omega
    · omega
  · unfold Recipe.timeV
    rw [if_neg h]
    decide
theorem tim_le (lv : Int) (b : PB) (r : Int) : tim lv b r ≤ 104857600000 := by
  unfold tim
  split
  · decide
  · exact time_le _ _ _
theorem whl_in (lv : Int) : ∀ (bs : List PB) (rs : List Int), 0 ≤ whl lv bs rs ∧ whl lv bs rs ≤ bs.length * 104857600000
  | [], rs => by cases rs <;> simp [whl]
  | b :: bs, [] => by simp [whl]; omega
  | b :: bs, r :: rs => by
    have h1 := whl_in lv bs rs
    have h2 := tim_le lv b r
    have h3 := tim_nonneg lv b r
    rw [whl, List.length_cons]
    constructor <;> omega
theorem whl_take (lv : Int) : ∀ {bs : List PB} {rs : List Int} {i : Nat} {b : PB} {r : Int}, bs[i]? = some b → rs[i]? = some r → whl lv (bs.take (i + 1)) (rs.take (i + 1)) = whl lv (bs.take i) (rs.take i) + tim lv b r
  | [], _, i, b, r, h, _ => by simp at h
  | _ :: _, [], i, b, r, _, h => by simp at h
  | c :: bs, q :: rs, 0, b, r, h1, h2 => by
    simp at h1 h2
    subst h1 h2
    simp [whl]
  | c :: bs, q :: rs, i + 1, b, r, h1, h2 => by
    have h1 : bs[i]? = some b := by simpa using h1
    have h2 : rs[i]? = some r := by simpa using h2
    have := whl_take lv h1 h2
    rw [List.take_succ_cons, List.take_succ_cons, whl, this, List.take_succ_cons, List.take_succ_cons, whl]
    omega
open Classical in
noncomputable def wholeE (C : Cat) (rs : List Int) (lv : Int) : Int := if mayE C 1 lv [] = 0 then (if RunsOk C rs then 0 else 1) else mayE C 1 lv []
open Classical in
noncomputable def wholeV (C : Cat) (rs : List Int) (lv : Int) : Int := if mayE C 1 lv [] = 0 ∧ RunsOk C rs then whl lv C.bs rs else 0
theorem sts_nil (w : World) : Sts w none [] := fun i t h => by simp at h
/-- A blueprint's runs take as long, wherever its needs lie. -/
theorem tim_blue (b : Recipe.Bl) (lv : Int) {r : Int} (h : r ≠ 0) : tim lv (pOf b) r = Recipe.timeV b lv r := by
  unfold tim
  rw [if_neg h]
  rfl
set_option maxRecDepth 100000 in
set_option maxHeartbeats 8000000 in
theorem dwhole (C : CM) (a : Option Addr) (m c : Nat) (rs : List Int) (lv : Int) (w : World) (h : CatAt w C) (hl : Lim C) (hr : rs.length = m) (hs : IRow w a rs) (hm : m ≤ 1000) :
    Calls Try.prog 17 #[C.v, .slice a m c, .int .i64 lv] w fun e w' => e = .returned (.tuple #[.int .i64 (wholeV C.p rs lv), .int .i64 (wholeE C.p rs lv)]) ∧ Below w.heap.size w w' := by
  obtain ⟨V, X, hV, hX, HXB, HP⟩ := box_cat w C
  have HPE : Hid (∀ W, Below X.heap.size X W → W.cell? ⟨V, 0, none⟩ = some (.int .i64 C.ty) ∧ W.cell? ⟨V, 1, none⟩ = some (.slice C.ba C.bn C.bc) ∧ W.cell? ⟨V, 2, none⟩ = some (.int .i64 C.pl) ∧ W.cell? ⟨V, 3, none⟩ = some (.slice C.ya C.yn C.yc) ∧ W.cell? ⟨V, 4, none⟩ = some (.int .i64 C.ch) ∧ W.cell? ⟨V, 5, none⟩ = some (.int .i64 C.f.broker) ∧ W.cell? ⟨V, 6, none⟩ = some (.int .i64 C.f.least) ∧ W.cell? ⟨V, 7, none⟩ = some (.int .i64 C.f.sales)) := Lib.hid fun W hW => HP.out W hW
  obtain ⟨k0, k1, k2, k3, k4, k5, k6, k7⟩ := HPE.out X (Below.refl _ _)
  obtain ⟨er, her⟩ : ∃ er, mayE C.p 1 lv [] = er := ⟨_, rfl⟩
  have HM : Hid (Calls Try.prog 36 #[.agg #[.int .i64 C.ty, .slice C.ba C.bn C.bc, .int .i64 C.pl, .slice C.ya C.yn C.yc, .int .i64 C.ch, .int .i64 C.f.broker, .int .i64 C.f.least, .int .i64 C.f.sales], .int .i64 1, .int .i64 lv, .slice none 0 0] X fun e w' => e = .returned (.int .i64 er) ∧ Hid (Below X.heap.size X w')) := Lib.hid (by
    rw [← her]
    exact (dmay C 1 lv none 0 0 [] X (h.under HXB.out) hl rfl (sts_nil _) (by omega)).mono fun _ _ ⟨e, h⟩ => ⟨e, Lib.hid h⟩)
  have HNO : Hid (∀ W, Below X.heap.size X W → Below w.heap.size w W) := Lib.hid fun W hW => below_then HXB.out hW
  have HRU : Hid (∀ W t, Below X.heap.size X W → (@decide (RunsOk C.p rs) (Classical.propDecidable _)) = t → Calls Try.prog 37 #[.agg #[.int .i64 C.ty, .slice C.ba C.bn C.bc, .int .i64 C.pl, .slice C.ya C.yn C.yc, .int .i64 C.ch, .int .i64 C.f.broker, .int .i64 C.f.least, .int .i64 C.f.sales], .slice a m c] W fun e w' => e = .returned (.bool t) ∧ Hid (Below X.heap.size X w')) := Lib.hid fun W t hW ht => by
    subst ht
    exact (druns15 C a m c rs W h.1.1 hr (hs.under (below_then HXB.out hW)) hm).mono fun _ _ ⟨e, h⟩ => ⟨e, Lib.hid (below_then hW h)⟩
  have HB := Cat.blue_at (h.under HXB.out)
  have HSM : Hid (∀ b ∈ C.bs, b.sm ≤ 12) := Lib.hid hl.1
  have HBN : Hid (C.p.bs.length = C.bn) := Lib.hid (by unfold CM.p; rw [List.length_map]; exact h.1.1)
  have HBP : Hid (∀ (i : Nat) (b : Recipe.Bl), C.bs[i]? = some b → C.p.bs[i]? = some (pOf b)) := Lib.hid fun i b h => by unfold CM.p; simp [h]
  have hb1 : C.bn ≤ 20 := hl.2.1
  have HT := irow_at (hs.under HXB.out)
  have HL := Lib.hid hr
  clear h hl hs hr
  by_cases he : er = 0
  case neg =>
    have n1 : (er == 0) = false := by simpa using he
    have n2 : (er != 0) = true := by simpa using he
    have e1 : wholeE C.p rs lv = er := by unfold wholeE; rw [her, if_neg he]
    have e2 : wholeV C.p rs lv = 0 := by unfold wholeV; rw [her, if_neg fun h => he h.1]
    rw [e1, e2]
    clear e1 e2 her
    go_enter Try.func17, Try.ntmps17
    go_wp2_with fail
    clear hX hV
    refine HM.out.mono ?_
    rintro e w1 ⟨rfl, H1⟩
    go_wp2_with fail
    go_ret2
    exact ⟨rfl, HNO.out _ H1.out⟩
  subst he
  by_cases hk : RunsOk C.p rs
  case neg =>
    have e1 : wholeE C.p rs lv = 1 := by unfold wholeE; rw [if_pos her, if_neg hk]
    have e2 : wholeV C.p rs lv = 0 := by unfold wholeV; rw [if_neg fun h => hk h.2]
    have HZ : Hid (@decide (RunsOk C.p rs) (Classical.propDecidable _) = false) := Lib.hid (by simpa using hk)
    rw [e1, e2]
    clear e1 e2 her hk
    go_enter Try.func17, Try.ntmps17
    go_wp2_with fail
    clear hX hV
    refine HM.out.mono ?_
    rintro e w1 ⟨rfl, H1⟩
    obtain ⟨y0, y1, y2, y3, y4, y5, y6, y7⟩ := HPE.out w1 H1.out
    clear k0 k1 k2 k3 k4 k5 k6 k7
    go_wp2_with fail
    refine (HRU.out w1 false H1.out HZ.out).mono ?_
    rintro e w2 ⟨rfl, H2⟩
    go_wp2_with fail
    go_ret2
    exact ⟨rfl, HNO.out _ H2.out⟩
  have e1 : wholeE C.p rs lv = 0 := by unfold wholeE; rw [if_pos her, if_pos hk]
  have HEV : Hid (wholeV C.p rs lv = whl lv C.p.bs rs) := Lib.hid (by unfold wholeV; rw [if_pos ⟨her, hk⟩])
  have HZ : Hid (@decide (RunsOk C.p rs) (Classical.propDecidable _) = true) := Lib.hid (by simpa using hk)
  have HNN : Hid (∀ r ∈ rs, 0 ≤ r ∧ r ≤ 1000) := Lib.hid hk.2
  obtain rfl : m = C.bn := by rw [← HL.out, hk.1, HBN.out]
  rw [e1]
  clear e1 her hk
  go_enter Try.func17, Try.ntmps17
  go_wp2_with fail
  clear hX hV
  refine HM.out.mono ?_
  rintro e w1 ⟨rfl, H1⟩
  obtain ⟨y0, y1, y2, y3, y4, y5, y6, y7⟩ := HPE.out w1 H1.out
  clear k0 k1 k2 k3 k4 k5 k6 k7
  go_wp2_with fail
  refine (HRU.out w1 true H1.out HZ.out).mono ?_
  rintro e w2 ⟨rfl, H2⟩
  clear y0 y1 y2 y3 y4 y5 y6 y7
  go_wp2_with fail
  go_loopw [9, 10] (fun u t wr => ∃ (i : Nat) (s : Int), u = .int .i64 s ∧ t = .int .i64 (i : Int) ∧ i ≤ C.bn ∧ (0 ≤ s ∧ s ≤ 2097152000000) ∧ Hid (whl lv (C.p.bs.take i) (rs.take i) = s) ∧ Hid (Below X.heap.size X wr)) (fun _ t _ => C.bn - (RowKit.intOf t).toNat)
  case atStart => exact ⟨0, 0, rfl, rfl, by omega, by omega, Lib.hid (by simp [whl]), H2⟩
  case round =>
    obtain ⟨i, s, rfl, rfl, hi, hsb, HI, HW⟩ := hrel
    have hi0 : (0 : Int) ≤ (i : Int) := by omega
    obtain ⟨y0, y1, y2, y3, y4, y5, y6, y7⟩ := HPE.out wr HW.out
    by_cases hlt : i < C.bn
    · have hlt2 : (i : Int) < (C.bn : Int) := by omega
      have hd1 : decide (i < C.bn) = true := decide_eq_true hlt
      obtain ⟨g, off, b, hba, ht, q0, q1, q2, q3, q4, q5, q6⟩ := HB.out wr i HW.out hlt
      obtain ⟨g2, off2, r, rfl, hr, z0⟩ := HT.out wr i HW.out (by rw [HL.out]; exact hlt)
      have hrb := HNN.out r (List.mem_of_getElem? hr.out)
      have HTK := Lib.hid (whl_take lv (HBP.out i b ht.out.1) hr.out)
      have HUP := Lib.hid (whl_in lv (C.p.bs.take (i + 1)) (rs.take (i + 1)))
      have HLT : Hid ((C.p.bs.take (i + 1)).length ≤ 20) := Lib.hid (by rw [List.length_take, HBN.out]; omega)
      have wi : IntKind.i64.wrap ((i : Int) + 1) = (i : Int) + 1 := IntWalk.i64_in _ (by omega)
      by_cases c1 : 0 < r
      case neg =>
        have d1 : decide (0 < r) = false := decide_eq_false c1
        have HI2 : Hid (whl lv (C.p.bs.take (i + 1)) (rs.take (i + 1)) = s) := Lib.hid (by
          rw [HTK.out, HI.out, show r = 0 by omega]
          unfold tim
          simp)
        go_wp2_with fail
        go_roundw
        case rel => exact ⟨i + 1, s, rfl, by go_num, by omega, hsb, HI2, HW⟩
        case measure => simp [RowKit.intOf]; omega
      have d1 : decide (0 < r) = true := decide_eq_true c1
      have h12 := HSM.out b (List.mem_of_getElem? ht.out.1)
      obtain ⟨tv, htv⟩ : ∃ tv, Recipe.timeV b lv r = tv := ⟨_, rfl⟩
      obtain ⟨te, hte⟩ : ∃ te, Recipe.timeE b lv r = te := ⟨_, rfl⟩
      have HBI : Hid (BlIn wr b) := Lib.hid ⟨ht.out.2.1, ht.out.2.2, by omega⟩
      have HTI : Hid (Calls Try.prog 38 #[.agg #[.int .i64 b.ot, .int .i64 b.per, .int .i64 b.tm, .slice b.sa b.sm b.sc, .int .i64 b.cp, .int .i64 b.st, .int .i64 b.mo], .int .i64 lv, .int .i64 r] wr.drew fun e w' => e = .returned (.tuple #[.int .i64 tv, .int .i64 te]) ∧ Hid (Below wr.heap.size wr w')) := Lib.hid (by
        rw [← htv, ← hte]
        exact (Recipe.dtime b lv r wr.drew HBI.out).mono fun _ _ ⟨e, h⟩ => ⟨e, Lib.hid (((Below.refl _ wr).drew).trans h)⟩)
      have HTV : Hid (tim lv (pOf b) r = tv) := Lib.hid (by rw [← htv]; exact tim_blue b lv (by omega))
      have hsum : 0 ≤ s + tv ∧ s + tv ≤ 2097152000000 := by
        have h1 := HUP.out
        have h2 := HLT.out
        rw [HTK.out, HI.out, HTV.out] at h1
        omega
      have ws : IntKind.i64.wrap (s + tv) = s + tv := IntWalk.i64_in _ (by omega)
      have HI2 : Hid (whl lv (C.p.bs.take (i + 1)) (rs.take (i + 1)) = s + tv) := Lib.hid (by rw [HTK.out, HI.out, HTV.out])
      have HCS : Hid (∀ W, Below wr.heap.size wr W → W.cell? ⟨V, 1, none⟩ = some (.slice (some ⟨g, off, none⟩) C.bn C.bc) ∧ W.cell? ⟨g, off + i * 7, none⟩ = some (.int .i64 b.ot) ∧ W.cell? ⟨g, off + i * 7 + 1, none⟩ = some (.int .i64 b.per) ∧ W.cell? ⟨g, off + i * 7 + 2, none⟩ = some (.int .i64 b.tm) ∧ W.cell? ⟨g, off + i * 7 + 3, none⟩ = some (.slice b.sa b.sm b.sc) ∧ W.cell? ⟨g, off + i * 7 + 4, none⟩ = some (.int .i64 b.cp) ∧ W.cell? ⟨g, off + i * 7 + 5, none⟩ = some (.int .i64 b.st) ∧ W.cell? ⟨g, off + i * 7 + 6, none⟩ = some (.int .i64 b.mo) ∧ W.cell? ⟨g2, off2 + i, none⟩ = some (.int .i64 r)) := Lib.hid (fun W hW => by
        have hX2 := below_then HW.out hW
        obtain ⟨g3, off3, b3, e3, ht3, p0, p1, p2, p3, p4, p5, p6⟩ := HB.out W i hX2 hlt
        rw [hba] at e3
        injection e3 with e3
        cases e3
        have e4 := ht3.out.1
        rw [ht.out.1] at e4
        cases e4
        obtain ⟨g5, off5, r5, e5, hr5, c5⟩ := HT.out W i hX2 (by rw [HL.out]; exact hlt)
        cases e5
        have e6 := hr5.out
        rw [hr.out] at e6
        cases e6
        obtain ⟨_, v1, _⟩ := HPE.out W hX2
        rw [hba] at v1
        exact ⟨v1, p0, p1, p2, p3, p4, p5, p6, c5⟩)
      rw [hba] at y1
      clear htv hte c1 hrb hba
      go_wp2_with fail
      go_region_held3 (fun W => W.cell? ⟨V, 1, none⟩ = some (.slice (some ⟨g, off, none⟩) C.bn C.bc) ∧ W.cell? ⟨g, off + i * 7, none⟩ = some (.int .i64 b.ot) ∧ W.cell? ⟨g, off + i * 7 + 1, none⟩ = some (.int .i64 b.per) ∧ W.cell? ⟨g, off + i * 7 + 2, none⟩ = some (.int .i64 b.tm) ∧ W.cell? ⟨g, off + i * 7 + 3, none⟩ = some (.slice b.sa b.sm b.sc) ∧ W.cell? ⟨g, off + i * 7 + 4, none⟩ = some (.int .i64 b.cp) ∧ W.cell? ⟨g, off + i * 7 + 5, none⟩ = some (.int .i64 b.st) ∧ W.cell? ⟨g, off + i * 7 + 6, none⟩ = some (.int .i64 b.mo) ∧ W.cell? ⟨g2, off2 + i, none⟩ = some (.int .i64 r))
        (first | exact HCS.out _ (Below.refl _ wr).drew | exact HCS.out _ H6.out)
        (first
          | (go_at_call 38; refine HTI.out.mono ?_; rintro e w6 ⟨rfl, H6⟩))
      all_goals
        have HW6 : Hid (Below X.heap.size X w6) := Lib.hid (below_then HW.out H6.out)
        go_wp2_with fail
        go_roundw
        case rel => exact ⟨i + 1, s + tv, rfl, by go_num, by omega, hsum, HI2, HW6⟩
        case measure => simp [RowKit.intOf]; omega
    · obtain rfl : i = C.bn := by omega
      have hd1 : decide (C.bn < C.bn) = false := by simp
      have HF : Hid (wholeV C.p rs lv = s) := Lib.hid (by
        have := HI.out
        rw [List.take_of_length_le (by rw [HBN.out]; exact Nat.le_refl _), List.take_of_length_le (by rw [HL.out]; exact Nat.le_refl _)] at this
        rw [HEV.out, this])
      go_wp2_with fail
      go_ret2
      exact ⟨by rw [HF.out]; rfl, HNO.out _ HW.out⟩
end Go.Proofs.Ytdbhdlgoecpeaaa.Bom
