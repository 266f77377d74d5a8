/- The program's Whole. The program's each, by Needs' closure; its Needs. -/
import Derived.Test.YtohlkaoophbinaaZCalcScaleP
namespace Go.Proofs.Ytohlkaoophbinaa.Bom.Im
open Go.RowKit Go.Lib IRows
open Goods (St Sts OwnS cnt)
open Cat (Cat PB CM CatAt Lim I64 pOf box_cat)
open Recipe (needsE needsL needL up nd BlIn)

/-- A blueprint's seven cells in a box stay. -/
theorem box_at (w : World) (b : Recipe.Bl) : ∃ U Y, w.heap.size = U ∧ w.alloc (.cells #[.int .i64 b.ot, .int .i64 b.per, .int .i64 b.tm, .slice b.sa b.sm b.sc, .int .i64 b.cp, .int .i64 b.st, .int .i64 b.mo] 54) = Y ∧ Hid (Below w.heap.size w Y ∧ U < Y.heap.size) ∧ Hid (∀ W, Below Y.heap.size Y W → W.cell? ⟨U, 0, none⟩ = some (.int .i64 b.ot) ∧ W.cell? ⟨U, 1, none⟩ = some (.int .i64 b.per) ∧ W.cell? ⟨U, 2, none⟩ = some (.int .i64 b.tm) ∧ W.cell? ⟨U, 3, none⟩ = some (.slice b.sa b.sm b.sc) ∧ W.cell? ⟨U, 4, none⟩ = some (.int .i64 b.cp) ∧ W.cell? ⟨U, 5, none⟩ = some (.int .i64 b.st) ∧ W.cell? ⟨U, 6, none⟩ = some (.int .i64 b.mo)) := by
  have hb := heap_alloc_new w (.cells #[.int .i64 b.ot, .int .i64 b.per, .int .i64 b.tm, .slice b.sa b.sm b.sc, .int .i64 b.cp, .int .i64 b.st, .int .i64 b.mo] 54)
  refine ⟨_, _, rfl, rfl, Lib.hid ⟨(Below.refl _ _).alloc (Nat.le_refl _) _, by simp⟩, Lib.hid fun W hW => ?_⟩
  have h1 := (hW.block _ (Array.getElem?_eq_some_iff.1 hb).1).trans hb
  exact ⟨cell_block (j := 0) h1 rfl, cell_block (j := 1) h1 rfl, cell_block (j := 2) h1 rfl, cell_block (j := 3) h1 rfl, cell_block (j := 4) h1 rfl, cell_block (j := 5) h1 rfl, cell_block (j := 6) h1 rfl⟩
theorem may_chk {C : Cat} {k lv : Int} {l : List St} (h : mayE C k lv l = 0) : Cat.chkC C = 0 := (mayE_zero h).1
theorem may_one {C : Cat} {lv : Int} (h : Cat.chkC C = 0) : mayE C 1 lv [] = if 0 ≤ lv ∧ lv ≤ 10 then 0 else 1 := by
  have hk := (Cat.chk_zero h).1.1
  by_cases hl : 0 ≤ lv ∧ lv ≤ 10
  · rw [if_pos hl]
    exact mayE_ok h ⟨by omega, hk.1⟩ hl (listed_nil _)
  · rw [if_neg hl]
    exact mayE_bad h fun h => hl h.2.1
set_option maxRecDepth 100000 in
set_option maxHeartbeats 8000000 in
theorem whole_im (C : CM) (a : Option Addr) (m c : Nat) (rs : List Int) (lv : Int) (w : World) (h : CatAt w C) (hl : Lim C) (hr : rs.length = m) (hs : IRow w a rs) (hm : m ≤ 1000) :
    Calls Try.prog 14 #[C.v, .slice a m c, .int .i64 lv] w fun e w' => e = .returned (.tuple #[.int .i64 (wholeV C.p rs lv), .int .i64 (wholeE C.p rs lv)]) ∧ Below w.heap.size w w' := by
  obtain ⟨V, X, hV, hX, HXB, HP⟩ := box_cat w C
  have HPE : Hid (∀ W, Below X.heap.size X W → W.cell? ⟨V, 0, none⟩ = some (.int .i64 C.ty) ∧ W.cell? ⟨V, 1, none⟩ = some (.slice C.ba C.bn C.bc) ∧ W.cell? ⟨V, 2, none⟩ = some (.int .i64 C.pl) ∧ W.cell? ⟨V, 3, none⟩ = some (.slice C.ya C.yn C.yc) ∧ W.cell? ⟨V, 4, none⟩ = some (.int .i64 C.ch) ∧ W.cell? ⟨V, 5, none⟩ = some (.int .i64 C.f.broker) ∧ W.cell? ⟨V, 6, none⟩ = some (.int .i64 C.f.least) ∧ W.cell? ⟨V, 7, none⟩ = some (.int .i64 C.f.sales)) := Lib.hid fun W hW => HP.out W hW
  obtain ⟨k0, k1, k2, k3, k4, k5, k6, k7⟩ := HPE.out X (Below.refl _ _)
  obtain ⟨er, her⟩ : ∃ er, Cat.chkC C.p = er := ⟨_, rfl⟩
  have HM : Hid (Calls Try.prog 43 #[.agg #[.int .i64 C.ty, .slice C.ba C.bn C.bc, .int .i64 C.pl, .slice C.ya C.yn C.yc, .int .i64 C.ch, .int .i64 C.f.broker, .int .i64 C.f.least, .int .i64 C.f.sales]] X fun e w' => e = .returned (.int .i64 er) ∧ Hid (Below X.heap.size X w')) := Lib.hid (by
    rw [← her]
    exact (Cat.Im.check_im C X (h.under HXB.out) hl).mono fun _ _ ⟨e, h⟩ => ⟨e, Lib.hid h⟩)
  have HNO : Hid (∀ W, Below X.heap.size X W → Below w.heap.size w W) := Lib.hid fun W hW => below_then HXB.out hW
  obtain ⟨tr, HR0, ER⟩ := runs_at C a m c rs X h.1.1 hl.2.1 hr (hs.under HXB.out) hm
  have HRU : Hid (∀ W, Below X.heap.size X W → Calls Try.prog 37 #[.agg #[.int .i64 C.ty, .slice C.ba C.bn C.bc, .int .i64 C.pl, .slice C.ya C.yn C.yc, .int .i64 C.ch, .int .i64 C.f.broker, .int .i64 C.f.least, .int .i64 C.f.sales], .slice a m c] W fun e w' => e = .returned (.bool tr) ∧ Hid (Below X.heap.size X w')) := Lib.hid fun W hW => (HR0.out W hW).mono fun _ _ ⟨e, h⟩ => ⟨e, Lib.hid (below_then hW h.out)⟩
  obtain ⟨tl, HLV, EL⟩ := level_at lv
  have HB := Cat.blue_at (h.under HXB.out)
  have HSM : Hid (∀ b ∈ C.bs, b.sm ≤ 12) := Lib.hid hl.1
  have HBN : Hid (C.p.bs.length = C.bn) := Lib.hid (by unfold CM.p; rw [List.length_map]; exact h.1.1)
  have HBP : Hid (∀ (i : Nat) (b : Recipe.Bl), C.bs[i]? = some b → C.p.bs[i]? = some (pOf b)) := Lib.hid fun i b h => by unfold CM.p; simp [h]
  have hb1 : C.bn ≤ 20 := hl.2.1
  have HT := irow_at (hs.under HXB.out)
  have HL := Lib.hid hr
  clear h hl hs hr HR0
  by_cases he : er = 0
  case neg =>
    have n1 : (er == 0) = false := by simpa using he
    have n2 : (er != 0) = true := by simpa using he
    have hme : mayE C.p 1 lv [] = er := by rw [mayE_err (by rw [her]; exact he), her]
    have e1 : wholeE C.p rs lv = er := by unfold wholeE; rw [hme, if_neg he]
    have e2 : wholeV C.p rs lv = 0 := by unfold wholeV; rw [hme, if_neg fun h => he h.1]
    rw [e1, e2]
    clear e1 e2 her hme
    go_enter Try.func14, Try.ntmps14
    go_wp2_with fail
    clear hX hV
    refine HM.out.mono ?_
    rintro e w1 ⟨rfl, H1⟩
    go_wp2_with fail
    go_ret2
    exact ⟨rfl, HNO.out _ H1.out⟩
  subst he
  have HOK := Lib.hid (Cat.chk_zero her)
  have hmo := may_one (lv := lv) her
  rcases tr with _ | _
  · have hk : ¬ RunsOk C.p rs := fun h => by have := ER.out.2 h; cases this
    have e1 : wholeE C.p rs lv = 1 := by
      unfold wholeE
      by_cases h2 : 0 ≤ lv ∧ lv ≤ 10
      · rw [if_pos h2] at hmo
        rw [hmo, if_pos rfl, if_neg hk]
      · rw [if_neg h2] at hmo
        rw [hmo, if_neg (by omega)]
    have e2 : wholeV C.p rs lv = 0 := by unfold wholeV; rw [if_neg fun h => hk h.2]
    rw [e1, e2]
    clear e1 e2 her hk hmo
    go_enter Try.func14, Try.ntmps14
    go_wp2_with fail
    clear hX hV
    refine HM.out.mono ?_
    rintro e w1 ⟨rfl, H1⟩
    obtain ⟨y0, y1, y2, y3, y4, y5, y6, y7⟩ := HPE.out w1 H1.out
    clear k0 k1 k2 k3 k4 k5 k6 k7
    go_wp2_with fail
    refine (HRU.out w1 H1.out).mono ?_
    rintro e w2 ⟨rfl, H2⟩
    go_wp2_with fail
    go_ret2
    exact ⟨rfl, HNO.out _ H2.out⟩
  have hk : RunsOk C.p rs := ER.out.1 rfl
  rcases tl with _ | _
  · have hlv : ¬ (0 ≤ lv ∧ lv ≤ 10) := fun h => by have := EL.out.2 h; cases this
    rw [if_neg hlv] at hmo
    have e1 : wholeE C.p rs lv = 1 := by unfold wholeE; rw [hmo, if_neg (by omega)]
    have e2 : wholeV C.p rs lv = 0 := by unfold wholeV; rw [hmo, if_neg fun h => by have := h.1; omega]
    rw [e1, e2]
    clear e1 e2 her hk hmo hlv
    go_enter Try.func14, Try.ntmps14
    go_wp2_with fail
    clear hX hV
    refine HM.out.mono ?_
    rintro e w1 ⟨rfl, H1⟩
    obtain ⟨y0, y1, y2, y3, y4, y5, y6, y7⟩ := HPE.out w1 H1.out
    clear k0 k1 k2 k3 k4 k5 k6 k7
    go_wp2_with fail
    refine (HRU.out w1 H1.out).mono ?_
    rintro e w2 ⟨rfl, H2⟩
    clear y0 y1 y2 y3 y4 y5 y6 y7
    go_wp2_with fail
    refine (HLV.out _).mono ?_
    rintro e w2 ⟨rfl, rfl⟩
    go_wp2_with fail
    go_ret2
    exact ⟨rfl, HNO.out _ H2.out⟩
  have hlv : 0 ≤ lv ∧ lv ≤ 10 := EL.out.1 rfl
  rw [if_pos hlv] at hmo
  have e1 : wholeE C.p rs lv = 0 := by unfold wholeE; rw [if_pos hmo, if_pos hk]
  have HEV : Hid (wholeV C.p rs lv = whl lv C.p.bs rs) := Lib.hid (by unfold wholeV; rw [if_pos ⟨hmo, hk⟩])
  have HNN : Hid (∀ r ∈ rs, 0 ≤ r ∧ r ≤ 1000) := Lib.hid hk.2
  have HLVB := Lib.hid hlv
  obtain rfl : m = C.bn := by rw [← HL.out, hk.1, HBN.out]
  rw [e1]
  clear e1 her hk hmo hlv
  go_enter Try.func14, Try.ntmps14
  go_wp2_with fail
  clear hX hV
  refine HM.out.mono ?_
  rintro e w1 ⟨rfl, H1⟩
  obtain ⟨y0, y1, y2, y3, y4, y5, y6, y7⟩ := HPE.out w1 H1.out
  clear k0 k1 k2 k3 k4 k5 k6 k7
  go_wp2_with fail
  refine (HRU.out w1 H1.out).mono ?_
  rintro e w2 ⟨rfl, H2⟩
  clear y0 y1 y2 y3 y4 y5 y6 y7
  obtain ⟨y0, y1, y2, y3, y4, y5, y6, y7⟩ := HPE.out w2 H2.out
  go_wp2_with fail
  refine (HLV.out _).mono ?_
  rintro e w2 ⟨rfl, rfl⟩
  go_wp2_with fail
  clear y0 y1 y2 y3 y4 y5 y6 y7
  go_loopw [9, 30] (fun u t wr => ∃ (i : Nat) (s : Int), u = .int .i64 s ∧ t = .int .i64 (i : Int) ∧ i ≤ C.bn ∧ (0 ≤ s ∧ s ≤ 2097152000000) ∧ Hid (whl lv (C.p.bs.take i) (rs.take i) = s) ∧ Hid (Below X.heap.size X wr)) (fun _ t _ => C.bn - (RowKit.intOf t).toNat)
  case atStart => exact ⟨0, 0, rfl, rfl, by omega, by omega, Lib.hid (by simp [whl]), H2⟩
  case round =>
    obtain ⟨i, s, rfl, rfl, hi, hsb, HI, HW⟩ := hrel
    have hi0 : (0 : Int) ≤ (i : Int) := by omega
    by_cases hlt : i < C.bn
    · have hlt2 : (i : Int) < (C.bn : Int) := by omega
      have hd1 : decide (i < C.bn) = true := decide_eq_true hlt
      obtain ⟨g, off, b, hba, ht, q0, q1, q2, q3, q4, q5, q6⟩ := HB.out wr i HW.out hlt
      obtain ⟨U, Y, hU, hY, HUY, HUC⟩ := box_at wr b
      have HY1 : Hid (Below X.heap.size X Y) := Lib.hid (below_then HW.out HUY.out.1)
      obtain ⟨g2, off2, r, rfl, hr, z0⟩ := HT.out Y i HY1.out (by rw [HL.out]; exact hlt)
      have hrb := HNN.out r (List.mem_of_getElem? hr.out)
      have HTK := Lib.hid (whl_take lv (HBP.out i b ht.out.1) hr.out)
      have HUP := Lib.hid (whl_in lv (C.p.bs.take (i + 1)) (rs.take (i + 1)))
      have HLT : Hid ((C.p.bs.take (i + 1)).length ≤ 20) := Lib.hid (by rw [List.length_take, HBN.out]; omega)
      have wi : IntKind.i64.wrap ((i : Int) + 1) = (i : Int) + 1 := IntWalk.i64_in _ (by omega)
      by_cases c1 : r = 0
      · have d1 : (r == 0) = true := by simpa using c1
        have HI2 : Hid (whl lv (C.p.bs.take (i + 1)) (rs.take (i + 1)) = s) := Lib.hid (by
          rw [HTK.out, HI.out, c1]
          unfold tim
          simp)
        rw [hba]
        clear hba c1
        go_wp2_with fail
        clear hY hU
        go_roundw
        case rel => exact ⟨i + 1, s, rfl, by go_num, by omega, hsb, HI2, HY1⟩
        case measure => simp [RowKit.intOf]; omega
      have d1 : (r == 0) = false := by simpa using c1
      have h12 := HSM.out b (List.mem_of_getElem? ht.out.1)
      obtain ⟨tv, htv⟩ : ∃ tv, Recipe.timeV b lv r = tv := ⟨_, rfl⟩
      have HBI : Hid (BlIn Y b) := Lib.hid (by
        have h1 : BlIn wr b := ⟨ht.out.2.1, ht.out.2.2, by omega⟩
        exact h1.under HUY.out.1)
      have HTV : Hid (tim lv (pOf b) r = tv) := Lib.hid (by rw [← htv]; exact tim_blue b lv c1)
      have hsum : 0 ≤ s + tv ∧ s + tv ≤ 2097152000000 := by
        have h1 := HUP.out
        have h2 := HLT.out
        rw [HTK.out, HI.out, HTV.out] at h1
        omega
      have HTI : Hid (Calls Try.prog 40 #[.int .i64 s, .agg #[.int .i64 b.ot, .int .i64 b.per, .int .i64 b.tm, .slice b.sa b.sm b.sc, .int .i64 b.cp, .int .i64 b.st, .int .i64 b.mo], .int .i64 lv, .int .i64 r] Y.drew fun e w' => e = .returned (.tuple #[.int .i64 (s + tv), .int .i64 0]) ∧ Hid (Below Y.heap.size Y w')) := Lib.hid (by
        have hok : Recipe.BlOk b 32 := blok_32 (HOK.out.2.1 (pOf b) (List.mem_of_getElem? (HBP.out i b ht.out.1)))
        have hte := (Recipe.time_ok hok ⟨HLVB.out, by omega, hrb.2⟩).1
        have h0 := time_nonneg b lv r
        have := longer_im b s lv r Y.drew (HBI.out.under (Below.refl _ Y).drew) hte hsb.1 (by rw [htv]; omega) h0
        rw [htv] at this
        exact this.mono fun _ _ ⟨e, h⟩ => ⟨e, Lib.hid (((Below.refl _ Y).drew).trans h)⟩)
      have HI2 : Hid (whl lv (C.p.bs.take (i + 1)) (rs.take (i + 1)) = s + tv) := Lib.hid (by rw [HTK.out, HI.out, HTV.out])
      have HCS : Hid (∀ W, Below Y.heap.size Y W → (W.cell? ⟨U, 0, none⟩ = some (.int .i64 b.ot) ∧ W.cell? ⟨U, 1, none⟩ = some (.int .i64 b.per) ∧ W.cell? ⟨U, 2, none⟩ = some (.int .i64 b.tm) ∧ W.cell? ⟨U, 3, none⟩ = some (.slice b.sa b.sm b.sc) ∧ W.cell? ⟨U, 4, none⟩ = some (.int .i64 b.cp) ∧ W.cell? ⟨U, 5, none⟩ = some (.int .i64 b.st) ∧ W.cell? ⟨U, 6, none⟩ = some (.int .i64 b.mo)) ∧ W.cell? ⟨g2, off2 + i, none⟩ = some (.int .i64 r)) := Lib.hid (fun W hW => by
        obtain ⟨g5, off5, r5, e5, hr5, c5⟩ := HT.out W i (below_then HY1.out hW) (by rw [HL.out]; exact hlt)
        cases e5
        have e6 := hr5.out
        rw [hr.out] at e6
        cases e6
        exact ⟨HUC.out W hW, c5⟩)
      rw [hba]
      clear htv c1 hrb hba
      go_upto_region 12 with fail
      clear hY hU
      go_region_held3 (fun W => (W.cell? ⟨U, 0, none⟩ = some (.int .i64 b.ot) ∧ W.cell? ⟨U, 1, none⟩ = some (.int .i64 b.per) ∧ W.cell? ⟨U, 2, none⟩ = some (.int .i64 b.tm) ∧ W.cell? ⟨U, 3, none⟩ = some (.slice b.sa b.sm b.sc) ∧ W.cell? ⟨U, 4, none⟩ = some (.int .i64 b.cp) ∧ W.cell? ⟨U, 5, none⟩ = some (.int .i64 b.st) ∧ W.cell? ⟨U, 6, none⟩ = some (.int .i64 b.mo)) ∧ W.cell? ⟨g2, off2 + i, none⟩ = some (.int .i64 r))
        (first | exact HCS.out _ (Below.refl _ Y).drew | exact HCS.out _ H6.out)
        (first
          | (go_at_call 40; refine HTI.out.mono ?_; rintro e w6 ⟨rfl, H6⟩))
      all_goals
        have HW6 : Hid (Below X.heap.size X w6) := Lib.hid (below_then HY1.out H6.out)
        go_wp2_with fail
        go_roundw
        case rel => exact ⟨i + 1, s + tv, rfl, by go_num, by omega, hsum, HI2, HW6⟩
        case measure => simp [RowKit.intOf]; omega
    · obtain rfl : i = C.bn := by omega
      have hd1 : decide (C.bn < C.bn) = false := by simp
      have HF : Hid (wholeV C.p rs lv = s) := Lib.hid (by
        have := HI.out
        rw [List.take_of_length_le (by rw [HBN.out]; exact Nat.le_refl _), List.take_of_length_le (by rw [HL.out]; exact Nat.le_refl _)] at this
        rw [HEV.out, this])
      go_wp2_with fail
      go_ret2
      exact ⟨by rw [HF.out]; rfl, HNO.out _ HW.out⟩
end Go.Proofs.Ytohlkaoophbinaa.Bom.Im
namespace Go.Proofs.Ytohlkaoophbinaa.Recipe.Im
open Go.RowKit Go.Lib
open Goods (St Sts OwnS)

/-- The closure's two boxes: runs and level. -/
def Boxes (w : World) (g h : Nat) (lv r : Int) : Prop := w.cell? ⟨g, 0, none⟩ = some (.int .i64 r) ∧ w.cell? ⟨h, 0, none⟩ = some (.int .i64 lv)
set_option maxRecDepth 100000 in
set_option maxHeartbeats 8000000 in
theorem each_im (a : Option Addr) (n c : Nat) (l : List St) (lv r : Int) (g h : Nat) (w : World) (hl : l.length = n) (hs : Sts w a l) (hn : n ≤ 1000) (hq : ∀ t ∈ l, 0 ≤ t.qty ∧ t.qty ≤ mq) (hlv : LvOk lv r) (hbx : ∀ W, Below w.heap.size w W → Boxes W g h lv r) :
    Calls Try.prog 76 #[.slice a n c, .func (.func 77) #[] #[.pointer (some ⟨g, 0, none⟩), .pointer (some ⟨h, 0, none⟩)]] w fun e w' => ∃ a' m' c' z L, e = .returned (.tuple #[.slice a' m' c', .int .i64 z]) ∧ Hid (OwnS w' w.heap.size (.slice a' m' c') L ∧ Below w.heap.size w w' ∧ ((z = 0 ∧ L = needL l lv r ∧ ∀ t ∈ l, nd t.qty lv r ≤ mq) ∨ (z = 5 ∧ L = [] ∧ ¬ ∀ t ∈ l, nd t.qty lv r ≤ mq))) := by
  have HT := Goods.sts_at hs
  have HL := Lib.hid hl
  have HQT := Lib.hid hq
  have hn1 : (n : Int) ≤ 1000 := by omega
  have HN := Lib.hid hn
  have HTELL : Hid (∀ q W, 0 ≤ q ∧ q ≤ mq → Below w.heap.size w W → Calls Try.prog 77 #[.int .i64 q, .pointer (some ⟨g, 0, none⟩), .pointer (some ⟨h, 0, none⟩)] W fun e w' => e = .returned (.tuple #[.int .i64 (tellV q lv r), .int .i64 (tellE q lv r)]) ∧ Hid (Below W.heap.size W w')) := Lib.hid (fun q W hq hW => tell_im q lv r g h W hq.1 hq.2 hlv (hbx W hW).1 (hbx W hW).2 (fun W2 h2 => (hbx W2 (below_then hW h2)).1))
  have H0 : Hid (OwnS w w.heap.size (.slice none 0 0) []) := Lib.hid (World.ownsRow_nil w w.heap.size 51 2)
  clear hs hn hl hq hlv hbx
  go_enter Try.func76, Try.ntmps76
  go_wp2_with fail
  go_loopw [6, 13] (fun s t wr => ∃ (i : Nat) (a1 : Option Addr) (c1 : Nat), s = .slice a1 i c1 ∧ t = .int .i64 (i : Int) ∧ i ≤ n ∧ Hid (OwnS wr w.heap.size (.slice a1 i c1) (needL (l.take i) lv r)) ∧ Hid (Below w.heap.size w wr) ∧ Hid (∀ t ∈ l.take i, nd t.qty lv r ≤ mq)) (fun _ t _ => n - (RowKit.intOf t).toNat)
  case atStart => exact ⟨0, none, 0, rfl, rfl, by omega, H0, Lib.hid (Below.refl _ _), Lib.hid (fun t ht => by simp at ht)⟩
  case round =>
    clear H0
    obtain ⟨i, a1, c1, rfl, rfl, hi, HO, HB, HQ⟩ := hrel
    have hi0 : (0 : Int) ≤ (i : Int) := by omega
    by_cases hlt : i < n
    · have hlt2 : (i : Int) < (n : Int) := by omega
      obtain ⟨b, off, t, rfl, ht, k0, k1⟩ := HT.out wr i HB.out (by rw [HL.out]; exact hlt)
      have wi : IntKind.i64.wrap ((i : Int) + 1) = (i : Int) + 1 := IntWalk.i64_in _ (by omega)
      obtain ⟨U, hU⟩ : ∃ U, wr.heap.size = U := ⟨_, rfl⟩
      obtain ⟨Y, hY⟩ : ∃ Y, wr.alloc (.cells #[.int .i64 t.kind, .int .i64 t.qty] 51) = Y := ⟨_, rfl⟩
      have hbY : Below wr.heap.size wr Y := by rw [← hY]; exact (Below.refl _ wr).alloc (Nat.le_refl _) _
      have hVY : Y.heap[U]? = some (.cells t.cells 51 (0, 0)) := by rw [← hY, ← hU]; exact heap_alloc_new wr _
      have v0 : Y.cell? ⟨U, 0, none⟩ = some (.int .i64 t.kind) := cell_block (j := 0) hVY rfl
      have v1 : Y.cell? ⟨U, 1, none⟩ = some (.int .i64 t.qty) := cell_block (j := 1) hVY rfl
      have HBY := Lib.hid (below_then HB.out hbY)
      have HOY := Lib.hid (Goods.own_under HO.out hbY)
      have HZ : Hid (∀ W, Below Y.heap.size Y W → W.cell? ⟨U, 0, none⟩ = some (.int .i64 t.kind)) := Lib.hid (fun W hW => cell_block (j := 0) ((hW.block U (Array.getElem?_eq_some_iff.1 hVY).1).trans hVY) rfl)
      have HC := Lib.hid (HTELL.out t.qty Y (HQT.out t (List.mem_of_getElem? ht.out)) HBY.out)
      obtain ⟨z, hz⟩ : ∃ z, tellE t.qty lv r = z := ⟨_, rfl⟩
      obtain ⟨v, hv⟩ : ∃ v, tellV t.qty lv r = v := ⟨_, rfl⟩
      rw [hz, hv] at HC
      clear hbY hVY HO
      by_cases k : nd t.qty lv r ≤ mq
      · have HV : Hid (v = nd t.qty lv r) := Lib.hid (by rw [← hv]; unfold tellV; rw [if_pos k])
        obtain rfl : z = 0 := by rw [← hz]; unfold tellE; rw [if_pos k]
        have HQ2 : Hid (∀ u ∈ l.take (i + 1), nd u.qty lv r ≤ mq) := Lib.hid (fun u hu => by
          rcases (Goods.mem_take_succ ht.out).1 hu with hu | rfl
          · exact HQ.out u hu
          · exact k)
        have HAP : Hid (∀ W, Below Y.heap.size Y W → ∃ a3 c3 W3, Hid ((Builtin.append_ #[30, 30] 30 #[.slice a1 i c1, .slice (some ⟨W.heap.size, 0, none⟩) 1 1]).run Try.prog (W.alloc (.cells #[.int .i64 t.kind, .int .i64 v] 51)) = .ok (.slice a3 (i + 1) c3) W3) ∧ Hid (OwnS W3 w.heap.size (.slice a3 (i + 1) c3) (needL (l.take (i + 1)) lv r)) ∧ Hid (Below w.heap.size w W3)) := Lib.hid (fun W hW => by
          have hbW := below_then HBY.out hW
          obtain ⟨a3, c3, W3, h1, h2, h3⟩ := app1s W (B := w.heap.size) ⟨t.kind, v⟩ (Goods.own_under HOY.out hW) (by have := HN.out; omega) hbW.size
          refine ⟨a3, c3, W3, h1, Lib.hid ?_, Lib.hid (hbW.trans h3)⟩
          rw [needL_take ht.out, ← HV.out]
          exact h2)
        clear k hz hv
        go_wp2_with fail
        clear hY hU k0 k1
        refine HC.out.mono ?_
        rintro e w2 ⟨rfl, H2⟩
        have z0 := HZ.out w2 H2.out
        obtain ⟨a3, c3, W3, HR3, HO3, HB3⟩ := HAP.out w2 H2.out
        clear v0 v1
        go_wp2_with (at_builtin; refine walk_run (v' := .slice a3 (i + 1) c3) (w' := W3) rfl _ _ _ _ rfl _ _ rfl rfl ?_ ?_; exact HR3.out)
        go_roundw
        case rel => exact ⟨i + 1, a3, c3, rfl, by go_num, by omega, HO3, HB3, HQ2⟩
        case measure => simp [RowKit.intOf]; omega
      · obtain rfl : z = 5 := by rw [← hz]; unfold tellE; rw [if_neg k]
        have HK : Hid (¬ ∀ t ∈ l, nd t.qty lv r ≤ mq) := Lib.hid (fun h => k (h t (List.mem_of_getElem? ht.out)))
        clear k hz hv
        go_wp2_with fail
        clear hY hU k0 k1
        refine HC.out.mono ?_
        rintro e w2 ⟨rfl, H2⟩
        go_wp2_with fail
        go_ret2
        exact ⟨none, 0, 0, 5, [], rfl, Lib.hid ⟨World.ownsRow_nil _ _ _ _, below_then HBY.out H2.out, .inr ⟨rfl, rfl, HK.out⟩⟩⟩
    · obtain rfl : i = n := by omega
      have HE : Hid (l.take i = l) := Lib.hid (List.take_of_length_le (by rw [HL.out]; exact Nat.le_refl _))
      go_wp2_with fail
      go_ret2
      refine ⟨a1, i, c1, 0, needL l lv r, rfl, Lib.hid ⟨?_, HB.out, .inl ⟨rfl, rfl, ?_⟩⟩⟩
      · have := HO.out
        rw [HE.out] at this
        exact this
      · have := HQ.out
        rw [HE.out] at this
        exact this
set_option maxRecDepth 100000 in
set_option maxHeartbeats 8000000 in
theorem needs_im (b : Bl) (lv r : Int) (w : World) (hb : BlIn w b) :
    Calls Try.prog 45 #[blV b, .int .i64 lv, .int .i64 r] w fun e w' => ∃ a' m' c', e = .returned (.tuple #[.slice a' m' c', .int .i64 (needsE b lv r)]) ∧ Hid (OwnS w' w.heap.size (.slice a' m' c') (needsL b lv r) ∧ Below w.heap.size w w') := by
  obtain ⟨V, X, hV, hX, HXB, HP⟩ := box_blue w b
  obtain ⟨G, hG⟩ : ∃ G, X.heap.size = G := ⟨_, rfl⟩
  obtain ⟨Y, hY⟩ : ∃ Y, X.alloc (.cells #[.int .i64 lv] 3) = Y := ⟨_, rfl⟩
  obtain ⟨K, hK⟩ : ∃ K, Y.heap.size = K := ⟨_, rfl⟩
  obtain ⟨Z, hZ⟩ : ∃ Z, Y.alloc (.cells #[.int .i64 r] 3) = Z := ⟨_, rfl⟩
  have hYB : Below X.heap.size X Y := by rw [← hY]; exact (Below.refl _ X).alloc (Nat.le_refl _) _
  have hZB : Below Y.heap.size Y Z := by rw [← hZ]; exact (Below.refl _ Y).alloc (Nat.le_refl _) _
  have hXZ : Below X.heap.size X Z := below_then hYB hZB
  have HWZ : Hid (Below w.heap.size w Z) := Lib.hid (below_then HXB.out hXZ)
  have hGY : Y.heap[G]? = some (.cells #[.int .i64 lv] 3 (0, 0)) := by rw [← hY, ← hG]; exact heap_alloc_new X _
  have hGZ : Z.heap[G]? = some (.cells #[.int .i64 lv] 3 (0, 0)) := (hZB.block G (Array.getElem?_eq_some_iff.1 hGY).1).trans hGY
  have hKZ : Z.heap[K]? = some (.cells #[.int .i64 r] 3 (0, 0)) := by rw [← hZ, ← hK]; exact heap_alloc_new Y _
  have HBX : Hid (∀ W, Below Z.heap.size Z W → Boxes W K G lv r) := Lib.hid (fun W hW => ⟨cell_block (j := 0) ((hW.block K (Array.getElem?_eq_some_iff.1 hKZ).1).trans hKZ) rfl, cell_block (j := 0) ((hW.block G (Array.getElem?_eq_some_iff.1 hGZ).1).trans hGZ) rfl⟩)
  have HPZ : Hid (∀ W, Below Z.heap.size Z W → CellsU W V b) := Lib.hid (fun W hW => HP.out W (below_then hXZ hW))
  have HNO : Hid (∀ W, Below Z.heap.size Z W → Below w.heap.size w W) := Lib.hid (fun W hW => below_then HWZ.out hW)
  have HNI : Hid (∀ W, Below Z.heap.size Z W → needsL b lv r = [] → OwnS W w.heap.size (.slice none 0 0) (needsL b lv r) ∧ Below w.heap.size w W) := Lib.hid (fun W hW e => by rw [e]; exact ⟨World.ownsRow_nil _ _ _ _, HNO.out W hW⟩)
  obtain ⟨k0, k1, k2, k3, k4, k5, k6⟩ := HPZ.out Z (Below.refl _ _)
  obtain ⟨kr, kl⟩ := HBX.out Z (Below.refl _ _)
  obtain ⟨tm, HM, EM⟩ := may_at b Z (hb.under HWZ.out)
  obtain ⟨tl, HL, EL⟩ := level_at lv
  obtain ⟨tr, HR, ER⟩ := runs_at r
  have HC := Lib.hid (HM.out Z (Below.refl _ _))
  have HEA : Hid (BlOk b 32 → LvOk lv r → ∀ W, Below Z.heap.size Z W → Calls Try.prog 76 #[.slice b.sa b.sm b.sc, .func (.func 77) #[] #[.pointer (some ⟨K, 0, none⟩), .pointer (some ⟨G, 0, none⟩)]] W fun e w' => ∃ a' m' c', e = .returned (.tuple #[.slice a' m' c', .int .i64 (needsE b lv r)]) ∧ Hid (OwnS w' w.heap.size (.slice a' m' c') (needsL b lv r) ∧ Below w.heap.size w w')) := Lib.hid (fun hok hlv W hW => by
    have hwW := HNO.out W hW
    refine (each_im b.sa b.sm b.sc b.s lv r K G W hb.1 (hb.2.1.under hwW) hb.2.2 (ok_qty hok) hlv (fun W2 h2 => HBX.out W2 (below_then hW h2))).mono ?_
    rintro e w' ⟨a', m', c', z, L, rfl, hh⟩
    obtain ⟨h1, h2, h3⟩ := hh.out
    rcases h3 with ⟨rfl, rfl, h4⟩ | ⟨rfl, rfl, h4⟩
    · obtain ⟨e1, e2⟩ := needsE_ok hok hlv h4
      rw [e1, e2]
      exact ⟨a', m', c', rfl, Lib.hid ⟨World.ownsRow.mono h1 hwW.size, below_then hwW h2⟩⟩
    · obtain ⟨e1, e2⟩ := needsE_over hok hlv h4
      rw [e1, e2]
      exact ⟨a', m', c', rfl, Lib.hid ⟨World.ownsRow.mono h1 hwW.size, below_then hwW h2⟩⟩)
  clear hb hYB hZB hXZ hGY hGZ hKZ HM
  rcases tm with _ | _
  · obtain ⟨e1, e2⟩ := needsE_arg (b := b) (lv := lv) (r := r) (fun h => EM.out.2 rfl h.1)
    have HE2 := Lib.hid e2
    rw [e1]
    clear e1 e2
    go_enter Try.func45, Try.ntmps45
    go_wp2_with fail
    clear hX hV hY hG hZ hK
    refine HC.out.mono ?_
    rintro e w1 ⟨rfl, H1⟩
    go_wp2_with fail
    go_ret2
    exact ⟨none, 0, 0, rfl, Lib.hid (HNI.out _ H1.out HE2.out)⟩
  rcases tl with _ | _
  · obtain ⟨e1, e2⟩ := needsE_arg (b := b) (lv := lv) (r := r) (fun h => EL.out.2 rfl h.2.1)
    have HE2 := Lib.hid e2
    rw [e1]
    clear e1 e2
    go_enter Try.func45, Try.ntmps45
    go_wp2_with fail
    clear hX hV hY hG hZ hK
    refine HC.out.mono ?_
    rintro e w1 ⟨rfl, H1⟩
    obtain ⟨yr, yl⟩ := HBX.out w1 H1.out
    clear k0 k1 k2 k3 k4 k5 k6 kr kl
    go_wp2_with fail
    refine (HL.out _).mono ?_
    rintro e w' ⟨rfl, rfl⟩
    go_wp2_with fail
    go_ret2
    exact ⟨none, 0, 0, rfl, Lib.hid (HNI.out _ H1.out HE2.out)⟩
  rcases tr with _ | _
  · obtain ⟨e1, e2⟩ := needsE_arg (b := b) (lv := lv) (r := r) (fun h => ER.out.2 rfl h.2.2)
    have HE2 := Lib.hid e2
    rw [e1]
    clear e1 e2
    go_enter Try.func45, Try.ntmps45
    go_wp2_with fail
    clear hX hV hY hG hZ hK
    refine HC.out.mono ?_
    rintro e w1 ⟨rfl, H1⟩
    obtain ⟨yr, yl⟩ := HBX.out w1 H1.out
    clear k0 k1 k2 k3 k4 k5 k6 kr kl
    go_wp2_with fail
    refine (HL.out _).mono ?_
    rintro e w' ⟨rfl, rfl⟩
    go_wp2_with fail
    refine (HR.out _).mono ?_
    rintro e w' ⟨rfl, rfl⟩
    go_wp2_with fail
    go_ret2
    exact ⟨none, 0, 0, rfl, Lib.hid (HNI.out _ H1.out HE2.out)⟩
  have HE := Lib.hid (HEA.out (EM.out.1 rfl) ⟨EL.out.1 rfl, ER.out.1 rfl⟩)
  go_enter Try.func45, Try.ntmps45
  go_wp2_with fail
  clear hX hV hY hG hZ hK
  refine HC.out.mono ?_
  rintro e w1 ⟨rfl, H1⟩
  obtain ⟨yr, yl⟩ := HBX.out w1 H1.out
  obtain ⟨y0, y1, y2, y3, y4, y5, y6⟩ := HPZ.out w1 H1.out
  clear k0 k1 k2 k3 k4 k5 k6 kr kl
  go_wp2_with fail
  refine (HL.out _).mono ?_
  rintro e w' ⟨rfl, rfl⟩
  go_wp2_with fail
  refine (HR.out _).mono ?_
  rintro e w' ⟨rfl, rfl⟩
  go_wp2_with fail
  refine (HE.out _ H1.out).mono ?_
  rintro e w2 ⟨a', m', c', rfl, H2⟩
  go_wp2_with fail
  go_ret2
  exact ⟨a', m', c', rfl, H2⟩
end Go.Proofs.Ytohlkaoophbinaa.Recipe.Im
