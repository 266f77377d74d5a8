/- Which bay is the cheapest; the document's Cheapest. -/
import Derived.Test.YtdbhdlgoecpeaaaZCatBy
namespace Go.Proofs.Ytdbhdlgoecpeaaa.Quo
open Go.RowKit Go.Lib IRows
open Goods (St Sts)
open Cat (Cat PB Ba CM CatAt Lim box_cat pOf)
open Bom (RunsOk)

/-- The cheapest of the first so many bays, and what it asks. -/
def chp (f : Ba → Int) (ys : List Ba) : Nat → Int × Int
  | 0 => (0, 0)
  | j + 1 => match ys[j]? with
    | none => chp f ys j
    | some y => if y.mf = 0 then chp f ys j else if (chp f ys j).1 = 0 ∨ f y < (chp f ys j).2 then ((j : Int) + 1, f y) else chp f ys j
theorem chp_next {f : Ba → Int} {ys : List Ba} {j : Nat} {y : Ba} (h : ys[j]? = some y) : chp f ys (j + 1) = if y.mf = 0 then chp f ys j else if (chp f ys j).1 = 0 ∨ f y < (chp f ys j).2 then ((j : Int) + 1, f y) else chp f ys j := by rw [chp, h]
theorem chp_bd (f : Ba → Int) (ys : List Ba) : ∀ j : Nat, 0 ≤ (chp f ys j).1 ∧ (chp f ys j).1 ≤ j
  | 0 => ⟨Int.le_refl _, Int.le_refl _⟩
  | j + 1 => by
    have h := chp_bd f ys j
    rw [chp]
    cases ys[j]? with
    | none => simp only []; omega
    | some y =>
      simp only []
      split
      · omega
      · split
        · simp only []; omega
        · omega
theorem chp_zero {f : Ba → Int} {ys : List Ba} : ∀ {j : Nat}, (chp f ys j).1 = 0 ↔ ∀ y ∈ ys.take j, y.mf = 0
  | 0 => by simp [chp]
  | j + 1 => by
    have ih := @chp_zero f ys j
    have hb := chp_bd f ys j
    cases hy : ys[j]? with
    | none =>
      have e : chp f ys (j + 1) = chp f ys j := by rw [chp, hy]
      rw [e, ih, List.take_add_one, hy]
      simp
    | some y =>
      have hm : ∀ x, x ∈ ys.take (j + 1) ↔ x ∈ ys.take j ∨ x = y := fun x => Cat.mem_take_succ hy
      rw [chp_next hy]
      by_cases h0 : y.mf = 0
      · rw [if_pos h0, ih]
        refine ⟨fun h x hx => ?_, fun h x hx => h x ((hm x).2 (.inl hx))⟩
        rcases (hm x).1 hx with h1 | h1
        · exact h x h1
        · rw [h1]; exact h0
      · rw [if_neg h0]
        have hno : ¬ ∀ x ∈ ys.take (j + 1), x.mf = 0 := fun h => h0 (h y ((hm y).2 (.inr rfl)))
        refine ⟨fun h => ?_, fun h => absurd h hno⟩
        split at h
        · simp only [] at h
          omega
        · rename_i hh
          exact absurd (.inl h) hh
def ArgOk (C : Cat) (rs : List Int) (lv : Int) : Prop := RunsOk C rs ∧ 0 ≤ lv ∧ lv ≤ 10
open Classical in
noncomputable def cheapE (C : Cat) (rs : List Int) (lv : Int) : Int := if Cat.chkC C = 0 then (if ∀ y ∈ C.ys, y.mf = 0 then 3 else if ArgOk C rs lv then 0 else 1) else Cat.chkC C
noncomputable def feeOf (C : Cat) (rs : List Int) (lv : Int) (y : Ba) : Int := feeV y.rt lv C.bs rs
noncomputable def cheapV (C : Cat) (rs : List Int) (lv : Int) : Int := if cheapE C rs lv = 0 then (chp (feeOf C rs lv) C.ys C.ys.length).1 else 0
theorem cheap_err {C : Cat} {rs : List Int} {lv : Int} (h : ¬ Cat.chkC C = 0) : cheapE C rs lv = Cat.chkC C ∧ cheapV C rs lv = 0 := by
  have e : cheapE C rs lv = Cat.chkC C := by unfold cheapE; rw [if_neg h]
  exact ⟨e, by unfold cheapV; rw [e, if_neg h]⟩
theorem cheap_none {C : Cat} {rs : List Int} {lv : Int} (h : Cat.chkC C = 0) (h1 : ∀ y ∈ C.ys, y.mf = 0) : cheapE C rs lv = 3 ∧ cheapV C rs lv = 0 := by
  have e : cheapE C rs lv = 3 := by unfold cheapE; rw [if_pos h, if_pos h1]
  exact ⟨e, by unfold cheapV; rw [e, if_neg (by omega)]⟩
theorem cheap_arg {C : Cat} {rs : List Int} {lv : Int} (h : Cat.chkC C = 0) (h1 : ¬ ∀ y ∈ C.ys, y.mf = 0) (h2 : ¬ ArgOk C rs lv) : cheapE C rs lv = 1 ∧ cheapV C rs lv = 0 := by
  have e : cheapE C rs lv = 1 := by unfold cheapE; rw [if_pos h, if_neg h1, if_neg h2]
  exact ⟨e, by unfold cheapV; rw [e, if_neg (by omega)]⟩
theorem cheap_ok {C : Cat} {rs : List Int} {lv : Int} (h : Cat.chkC C = 0) (h1 : ¬ ∀ y ∈ C.ys, y.mf = 0) (h2 : ArgOk C rs lv) : cheapE C rs lv = 0 ∧ cheapV C rs lv = (chp (feeOf C rs lv) C.ys C.ys.length).1 := by
  have e : cheapE C rs lv = 0 := by unfold cheapE; rw [if_pos h, if_neg h1, if_pos h2]
  exact ⟨e, by unfold cheapV; rw [e, if_pos rfl]⟩

set_option maxRecDepth 100000 in
set_option maxHeartbeats 8000000 in
theorem dcheap (C : CM) (a : Option Addr) (n c : Nat) (rs : List Int) (lv : Int) (w : World) (h : CatAt w C) (hl : Lim C) (hn : rs.length = n) (hs : IRow w a rs) (h4 : n ≤ 1000) :
    Calls Try.prog 13 #[C.v, .slice a n c, .int .i64 lv] w fun e w' => e = .returned (.tuple #[.int .i64 (cheapV C.p rs lv), .int .i64 (cheapE C.p rs lv)]) ∧ Below w.heap.size w w' := by
  obtain ⟨V, X, hV, hX, HXB, HP⟩ := box_cat w C
  have HPE : Hid (∀ W, Below X.heap.size X W → W.cell? ⟨V, 0, none⟩ = some (.int .i64 C.ty) ∧ W.cell? ⟨V, 1, none⟩ = some (.slice C.ba C.bn C.bc) ∧ W.cell? ⟨V, 2, none⟩ = some (.int .i64 C.pl) ∧ W.cell? ⟨V, 3, none⟩ = some (.slice C.ya C.yn C.yc) ∧ W.cell? ⟨V, 4, none⟩ = some (.int .i64 C.ch) ∧ W.cell? ⟨V, 5, none⟩ = some (.int .i64 C.f.broker) ∧ W.cell? ⟨V, 6, none⟩ = some (.int .i64 C.f.least) ∧ W.cell? ⟨V, 7, none⟩ = some (.int .i64 C.f.sales)) := Lib.hid fun W hW => HP.out W hW
  obtain ⟨k0, k1, k2, k3, k4, k5, k6, k7⟩ := HPE.out X (Below.refl _ _)
  obtain ⟨er, her⟩ : ∃ er, Cat.chkC C.p = er := ⟨_, rfl⟩
  have HC : Hid (Calls Try.prog 32 #[.agg #[.int .i64 C.ty, .slice C.ba C.bn C.bc, .int .i64 C.pl, .slice C.ya C.yn C.yc, .int .i64 C.ch, .int .i64 C.f.broker, .int .i64 C.f.least, .int .i64 C.f.sales]] X fun e w' => e = .returned (.int .i64 er) ∧ Hid (Below X.heap.size X w')) := Lib.hid (by
    rw [← her]
    exact (Cat.dcheck C X (h.under HXB.out) hl).mono fun _ _ ⟨e, h⟩ => ⟨e, Lib.hid h⟩)
  have HNO : Hid (∀ W, Below X.heap.size X W → Below w.heap.size w W) := Lib.hid fun W hW => below_then HXB.out hW
  by_cases he : er = 0
  case neg =>
    have n1 : (er == 0) = false := by simpa using he
    have n2 : (er != 0) = true := by simpa using he
    obtain ⟨e1, e2⟩ := cheap_err (rs := rs) (lv := lv) (by rw [her]; exact he : ¬ Cat.chkC C.p = 0)
    rw [e1, e2, her]
    clear e1 e2 her h hl hn hs h4
    go_enter Try.func13, Try.ntmps13
    go_wp2_with fail
    clear hX hV
    refine HC.out.mono ?_
    rintro e w1 ⟨rfl, H1⟩
    go_wp2_with fail
    go_ret2
    exact ⟨rfl, HNO.out _ H1.out⟩
  subst he
  have hyl : C.p.ys.length = C.yn := h.2.1
  have hyb : (C.yn : Int) ≤ 12 := by have := hl.2.2; omega
  have HYL := Lib.hid hyl
  have HBY := Lib.hid (fun j hj => bay_cells HP (h.under HXB.out) j hj)
  have HCH := Lib.hid her
  have HFQ : Hid (∀ (W : World) (j : Nat) (y : Ba) (v x : Int), Below X.heap.size X W → C.p.ys[j]? = some y → feeQ C.p ((j : Int) + 1) rs lv = v → mayQ C.p ((j : Int) + 1) rs lv = x → Calls Try.prog 11 #[.agg #[.int .i64 C.ty, .slice C.ba C.bn C.bc, .int .i64 C.pl, .slice C.ya C.yn C.yc, .int .i64 C.ch, .int .i64 C.f.broker, .int .i64 C.f.least, .int .i64 C.f.sales], .int .i64 ((j : Int) + 1), .slice a n c, .int .i64 lv] W fun e w' => e = .returned (.tuple #[.int .i64 v, .int .i64 x]) ∧ Hid (Below X.heap.size X w')) := Lib.hid fun W j y v x hW hj hv hx => by
    subst hv hx
    exact (dfeeq C ((j : Int) + 1) a n c rs lv W ((h.under HXB.out).under hW) hl hn ((hs.under HXB.out).under hW) h4).mono fun _ _ ⟨e, h⟩ => ⟨e, Lib.hid (below_then hW h)⟩
  clear her h hl hn hs h4 hyl
  go_enter Try.func13, Try.ntmps13
  go_wp2_with fail
  clear hX hV
  refine HC.out.mono ?_
  rintro e w1 ⟨rfl, H1⟩
  clear k0 k1 k2 k3 k4 k5 k6 k7
  go_wp2_with fail
  go_loopw [9, 10, 11] (fun u v t wr => ∃ (j : Nat) (b l i : Int), u = .int .i64 b ∧ v = .int .i64 l ∧ t = .int .i64 i ∧ i = (j : Int) + 1 ∧ j ≤ C.yn ∧ Hid (chp (feeOf C.p rs lv) C.p.ys j = (b, l)) ∧ Hid (¬ ArgOk C.p rs lv → ∀ y ∈ C.p.ys.take j, y.mf = 0) ∧ Hid (Below X.heap.size X wr)) (fun _ _ t _ => C.yn + 1 - (RowKit.intOf t).toNat)
  case atStart => exact ⟨0, 0, 0, 1, rfl, rfl, rfl, by omega, by omega, Lib.hid rfl, Lib.hid (by simp), H1⟩
  case round =>
    obtain ⟨j, b, l, i, rfl, rfl, rfl, hij, hj, HI, HA, HW⟩ := hrel
    have hi1 : 1 ≤ i := by omega
    have HIJ := Lib.hid hij
    by_cases hlt : j < C.yn
    · have hd1 : decide (i ≤ (C.yn : Int)) = true := decide_eq_true (by omega)
      have wi : IntKind.i64.wrap (i + 1) = i + 1 := IntWalk.i64_in _ (by omega)
      have wj : IntKind.i64.wrap (i - 1) = (j : Int) := by rw [show i - 1 = (j : Int) by omega]; exact IntWalk.i64_in _ (by omega)
      have hj0 : (0 : Int) ≤ (j : Int) := by omega
      have hj1 : (j : Int) < (C.yn : Int) := by omega
      obtain ⟨gy, oy, y, HYA, HYT, HYC⟩ := HBY.out j hlt
      have HN := Lib.hid (chp_next (f := feeOf C.p rs lv) HYT.out)
      have HMT := Lib.hid (fun x => (Cat.mem_take_succ HYT.out : x ∈ C.p.ys.take (j + 1) ↔ x ∈ C.p.ys.take j ∨ x = y))
      obtain ⟨v3, vm, vr⟩ := HYC.out wr HW.out
      by_cases c0 : y.mf = 0
      · have d0 : (y.mf == 0) = true := by simpa using c0
        have HI2 : Hid (chp (feeOf C.p rs lv) C.p.ys (j + 1) = (b, l)) := Lib.hid (by rw [HN.out, if_pos c0, HI.out])
        have HA2 : Hid (¬ ArgOk C.p rs lv → ∀ y ∈ C.p.ys.take (j + 1), y.mf = 0) := Lib.hid fun hno x hx => by
          rcases (HMT.out x).1 hx with h1 | h1
          · exact HA.out hno x h1
          · rw [h1]; exact c0
        clear c0 hij
        go_wp2_with fail
        go_roundw
        case rel => exact ⟨j + 1, b, l, i + 1, rfl, rfl, rfl, by have := HIJ.out; omega, by omega, HI2, HA2, HW⟩
        case measure =>
          have := HIJ.out
          simp [RowKit.intOf]
          omega
      have d0 : (y.mf == 0) = false := by simpa using c0
      have hsome : ¬ ∀ y ∈ C.p.ys, y.mf = 0 := fun h => c0 (h y (List.mem_of_getElem? HYT.out))
      by_cases hok : ArgOk C.p rs lv
      case neg =>
        have hx : mayQ C.p ((j : Int) + 1) rs lv = 1 := may_arg HCH.out ⟨by omega, by rw [HYL.out]; omega⟩ hok
        obtain ⟨e1, e2⟩ := cheap_arg HCH.out hsome hok
        have HE : Hid (cheapE C.p rs lv = 1 ∧ cheapV C.p rs lv = 0) := Lib.hid ⟨e1, e2⟩
        have HF := Lib.hid (fun W hW => HFQ.out W j y 0 1 hW HYT.out (fee_not (by rw [hx]; omega)) hx)
        rw [← hij] at HF
        clear c0 hij e1 e2 hx hsome hok
        obtain ⟨y0, y1, y2, y3, y4, y5, y6, y7⟩ := HPE.out wr HW.out
        clear y3
        rw [HYA.out] at HF
        go_wp2_with fail
        clear v3 vm vr
        refine (HF.out wr HW.out).mono ?_
        rintro e w3 ⟨rfl, H3⟩
        go_wp2_with fail
        go_ret2
        exact ⟨by rw [HE.out.1, HE.out.2]; rfl, HNO.out _ H3.out⟩
      obtain ⟨fv, hfv⟩ : ∃ fv, feeOf C.p rs lv y = fv := ⟨_, rfl⟩
      have hx : mayQ C.p ((j : Int) + 1) rs lv = 0 := may_ok HCH.out ⟨by omega, by rw [HYL.out]; omega⟩ hok
      have HF := Lib.hid (fun W hW => HFQ.out W j y fv 0 hW HYT.out (by rw [fee_is hx, (Cat.bay_yes HYT.out).2]; exact hfv) hx)
      rw [← hij] at HF
      have HA2 : Hid (¬ ArgOk C.p rs lv → ∀ y ∈ C.p.ys.take (j + 1), y.mf = 0) := Lib.hid fun hno => absurd hok hno
      have HN2 : Hid (chp (feeOf C.p rs lv) C.p.ys (j + 1) = if b = 0 ∨ fv < l then (i, fv) else (b, l)) := Lib.hid (by rw [HN.out, if_neg c0, HI.out, hfv, ← hij])
      clear hij hx hsome hok hfv
      have c0 := Lib.hid c0
      by_cases cb : b = 0
      · have e0 : (b == 0) = true := by simpa using cb
        have HI2 : Hid (chp (feeOf C.p rs lv) C.p.ys (j + 1) = (i, fv)) := Lib.hid (by rw [HN2.out, if_pos (.inl cb)])
        clear cb
        obtain ⟨y0, y1, y2, y3, y4, y5, y6, y7⟩ := HPE.out wr HW.out
        clear y3
        rw [HYA.out] at HF
        go_wp2_with fail
        clear v3 vm vr
        refine (HF.out wr HW.out).mono ?_
        rintro e w3 ⟨rfl, H3⟩
        clear y0 y1 y2 y4 y5 y6 y7
        go_wp2_with fail
        go_roundw
        case rel => exact ⟨j + 1, i, fv, i + 1, rfl, rfl, rfl, by have := HIJ.out; omega, by omega, HI2, HA2, H3⟩
        case measure =>
          have := HIJ.out
          simp [RowKit.intOf]
          omega
      have e0 : (b == 0) = false := by simpa using cb
      by_cases cl : fv < l
      · have e1 : decide (fv < l) = true := decide_eq_true cl
        have HI2 : Hid (chp (feeOf C.p rs lv) C.p.ys (j + 1) = (i, fv)) := Lib.hid (by rw [HN2.out, if_pos (.inr cl)])
        clear cb
        obtain ⟨y0, y1, y2, y3, y4, y5, y6, y7⟩ := HPE.out wr HW.out
        clear y3
        rw [HYA.out] at HF
        go_wp2_with fail
        clear v3 vm vr
        refine (HF.out wr HW.out).mono ?_
        rintro e w3 ⟨rfl, H3⟩
        clear y0 y1 y2 y4 y5 y6 y7
        go_wp2_with fail
        go_roundw
        case rel => exact ⟨j + 1, i, fv, i + 1, rfl, rfl, rfl, by have := HIJ.out; omega, by omega, HI2, HA2, H3⟩
        case measure =>
          have := HIJ.out
          simp [RowKit.intOf]
          omega
      · have e1 : decide (fv < l) = false := decide_eq_false cl
        have HI2 : Hid (chp (feeOf C.p rs lv) C.p.ys (j + 1) = (b, l)) := Lib.hid (by rw [HN2.out, if_neg (fun h => h.elim cb cl)])
        clear cb
        obtain ⟨y0, y1, y2, y3, y4, y5, y6, y7⟩ := HPE.out wr HW.out
        clear y3
        rw [HYA.out] at HF
        go_wp2_with fail
        clear v3 vm vr
        refine (HF.out wr HW.out).mono ?_
        rintro e w3 ⟨rfl, H3⟩
        clear y0 y1 y2 y4 y5 y6 y7
        go_wp2_with fail
        go_roundw
        case rel => exact ⟨j + 1, b, l, i + 1, rfl, rfl, rfl, by have := HIJ.out; omega, by omega, HI2, HA2, H3⟩
        case measure =>
          have := HIJ.out
          simp [RowKit.intOf]
          omega
    · obtain rfl : j = C.yn := by omega
      have hd1 : decide (i ≤ (C.yn : Int)) = false := decide_eq_false (by omega)
      have HZ := Lib.hid (chp_zero (f := feeOf C.p rs lv) (ys := C.p.ys) (j := C.yn))
      have HTL : Hid (C.p.ys.take C.yn = C.p.ys) := Lib.hid (List.take_of_length_le (by rw [HYL.out]; exact Nat.le_refl _))
      obtain ⟨y0, y1, y2, y3, y4, y5, y6, y7⟩ := HPE.out wr HW.out
      by_cases cb : b = 0
      · have e0 : (b == 0) = true := by simpa using cb
        have HE : Hid (cheapE C.p rs lv = 3 ∧ cheapV C.p rs lv = 0) := Lib.hid (cheap_none HCH.out (by rw [← HTL.out]; exact HZ.out.1 (by rw [HI.out]; exact cb)))
        clear cb hij
        go_wp2_with fail
        go_ret2
        exact ⟨by rw [HE.out.1, HE.out.2]; rfl, HNO.out _ HW.out⟩
      · have e0 : (b == 0) = false := by simpa using cb
        have HE : Hid (cheapE C.p rs lv = 0 ∧ cheapV C.p rs lv = b) := Lib.hid (by
          have hno : ¬ ∀ y ∈ C.p.ys, y.mf = 0 := fun h => cb (by have := HZ.out.2 (by rw [HTL.out]; exact h); rw [HI.out] at this; exact this)
          have hok : ArgOk C.p rs lv := Classical.byContradiction fun hno2 => hno (by have := HA.out hno2; rw [HTL.out] at this; exact this)
          obtain ⟨e1, e2⟩ := cheap_ok HCH.out hno hok
          refine ⟨e1, ?_⟩
          rw [e2, HYL.out, HI.out])
        clear cb hij
        go_wp2_with fail
        go_ret2
        exact ⟨by rw [HE.out.1, HE.out.2]; rfl, HNO.out _ HW.out⟩
end Go.Proofs.Ytdbhdlgoecpeaaa.Quo
