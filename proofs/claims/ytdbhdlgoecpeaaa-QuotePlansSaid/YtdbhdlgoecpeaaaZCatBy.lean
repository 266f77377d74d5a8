/- Bays of a catalogue as results. What all jobs cost; the document's Fee. -/
import Derived.Test.YtdbhdlgoecpeaaaZRecA
import Derived.Laws.ResultCell
import Derived.Laws.Rows
import Derived.Test.YtdbhdlgoecpeaaaZQuoB
namespace Go.Proofs.Ytdbhdlgoecpeaaa.Cat
open Go.RowKit Go.Lib
open Goods (St Sts OwnS)
open Recipe (Bl BlIn blV)

theorem ret_ba2 {fn : Func} {R : Ending → World → Prop} {a : Act} {w : World} {p u : Tmp} {g : Nat} {c0 c1 c2 c3 x : Value} {T : TypeId} (h : fn.results = #[.cell p 48, .tmp u]) (hd : a.defers = [])
    (ht : a.tmps.getD p undef = .pointer (some ⟨g, 0, none⟩)) (hu : a.tmps.getD u undef = x) (hb : w.heap[g]? = some (.cells #[c0, c1, c2, c3] T (0, 0))) (hR : R (.returned (.tuple #[.agg #[c0, c1, c2, c3], x])) w) : bodyPost Try.prog fn R .ret a w := by
  refine bodyPost_ret (v := .tuple #[.agg #[c0, c1, c2, c3], x]) ?_ hd hR
  rw [results_cell_tmp h, ht, hu]
  simp [asAddr, run_loadVar_row (P := Try.prog) w g T 48 #[c0, c1, c2, c3] (0, 0) _ hb Try.underlying48 rfl (by kernel_rfl), Result.andThen]
theorem ba_set {w : World} {g : Nat} {a b c d x0 x1 x2 x3 : Value} {T : TypeId} (hb : w.heap[g]? = some (.cells #[a, b, c, d] T (0, 0))) :
    ((((w.setCell ⟨g, 0, none⟩ x0).setCell ⟨g, 1, none⟩ x1).setCell ⟨g, 2, none⟩ x2).setCell ⟨g, 3, none⟩ x3).heap[g]? = some (.cells #[x0, x1, x2, x3] T (0, 0)) := by
  have h0 := heap_setCell_same w g 0 _ _ x0 hb
  have h1 := heap_setCell_same _ g 1 _ _ x1 h0
  have h2 := heap_setCell_same _ g 2 _ _ x2 h1
  exact heap_setCell_same _ g 3 _ _ x3 h2
theorem bay_no {C : Cat} {n : Int} (h : ¬ (1 ≤ n ∧ n ≤ C.ys.length)) : bayE C n = 3 ∧ bayV C n = zBa := by
  unfold bayE bayV
  rw [if_neg h, if_neg h]
  exact ⟨rfl, rfl⟩
theorem bay_yes {C : Cat} {i : Nat} {b : Ba} (h : C.ys[i]? = some b) : bayE C ((i : Int) + 1) = 0 ∧ bayV C ((i : Int) + 1) = b := by
  obtain ⟨hi, e⟩ := List.getElem?_eq_some_iff.1 h
  unfold bayE bayV
  rw [if_pos (by omega), if_pos (by omega), show ((i : Int) + 1 - 1).toNat = i by omega]
  exact ⟨rfl, by simp [h]⟩
end Go.Proofs.Ytdbhdlgoecpeaaa.Cat
namespace Go.Proofs.Ytdbhdlgoecpeaaa.Quo
open Go.RowKit Go.Lib IRows
open Goods (St Sts)
open Cat (Cat PB Ba CM CatAt Lim box_cat pOf)
open Bom (RunsOk tim tim_blue tim_le tim_nonneg)
open Recipe (BlIn)

/-- What is asked for all jobs at a rate. -/
noncomputable def feeV (rt lv : Int) : List PB → List Int → Int
  | b :: bs, r :: rs => (if 0 < r then Fee.bayV rt (tim lv b r) else 0) + feeV rt lv bs rs
  | _, _ => 0
theorem fee_one {rt : Int} (h : 0 ≤ rt ∧ rt ≤ 10000) (lv : Int) (b : PB) (r : Int) : Fee.BayOk rt (tim lv b r) ∧ 0 ≤ Fee.bayV rt (tim lv b r) ∧ Fee.bayV rt (tim lv b r) ≤ 104857600001 := by
  have h1 := tim_le lv b r
  have h2 := tim_nonneg lv b r
  have hk : Fee.BayOk rt (tim lv b r) := ⟨h, h2, by omega⟩
  have h3 : tim lv b r * rt ≤ tim lv b r * 10000 := Int.mul_le_mul_of_nonneg_left h.2 h2
  have h4 : 0 ≤ tim lv b r * rt := Int.mul_nonneg h2 h.1
  have h5 : 0 ≤ tim lv b r * rt / 10000 := Int.ediv_nonneg h4 (by omega)
  have h6 : tim lv b r * rt / 10000 ≤ tim lv b r := Int.ediv_le_of_le_mul (by omega) h3
  refine ⟨hk, ?_⟩
  rw [(Fee.bay_yes hk).1]
  unfold Fee.sc
  split <;> omega
theorem feeV_in {rt : Int} (h : 0 ≤ rt ∧ rt ≤ 10000) (lv : Int) : ∀ (bs : List PB) (rs : List Int), 0 ≤ feeV rt lv bs rs ∧ feeV rt lv bs rs ≤ bs.length * 104857600001
  | [], rs => by cases rs <;> simp [feeV]
  | b :: bs, [] => by simp [feeV]; omega
  | b :: bs, r :: rs => by
    have h1 := feeV_in h lv bs rs
    have h2 := (fee_one h lv b r).2
    rw [feeV, List.length_cons]
    split <;> constructor <;> omega
theorem feeV_take (rt lv : Int) : ∀ {bs : List PB} {rs : List Int} {i : Nat} {b : PB} {r : Int}, bs[i]? = some b → rs[i]? = some r → feeV rt lv (bs.take (i + 1)) (rs.take (i + 1)) = feeV rt lv (bs.take i) (rs.take i) + (if 0 < r then Fee.bayV rt (tim lv b r) else 0)
  | [], _, i, b, r, h, _ => by simp at h
  | _ :: _, [], i, b, r, _, h => by simp at h
  | c :: bs, q :: rs, 0, b, r, h1, h2 => by
    simp at h1 h2
    subst h1 h2
    simp [feeV]
  | c :: bs, q :: rs, i + 1, b, r, h1, h2 => by
    have h1 : bs[i]? = some b := by simpa using h1
    have h2 : rs[i]? = some r := by simpa using h2
    have := feeV_take rt lv h1 h2
    rw [List.take_succ_cons, List.take_succ_cons, feeV, this, List.take_succ_cons, List.take_succ_cons, feeV]
    omega
noncomputable def feeQ (C : Cat) (bay : Int) (rs : List Int) (lv : Int) : Int := if mayQ C bay rs lv = 0 then feeV (Cat.bayV C bay).rt lv C.bs rs else 0
theorem fee_not {C : Cat} {bay lv : Int} {rs : List Int} (h : ¬ mayQ C bay rs lv = 0) : feeQ C bay rs lv = 0 := by unfold feeQ; rw [if_neg h]
theorem fee_is {C : Cat} {bay lv : Int} {rs : List Int} (h : mayQ C bay rs lv = 0) : feeQ C bay rs lv = feeV (Cat.bayV C bay).rt lv C.bs rs := by unfold feeQ; rw [if_pos h]
/-- A bay of a catalogue: all cells that a walk reads. -/
theorem bay_cells {X : World} {C : CM} {V : Nat} (HP : Hid (∀ W, Below X.heap.size X W → Cat.CellsC W V C)) (h : CatAt X C) (j : Nat) (hj : j < C.yn) :
    ∃ g off y, Hid (C.ya = some ⟨g, off, none⟩) ∧ Hid (C.p.ys[j]? = some y) ∧ Hid (∀ W, Below X.heap.size X W → W.cell? ⟨V, 3, none⟩ = some (.slice (some ⟨g, off, none⟩) C.yn C.yc) ∧ W.cell? ⟨g, off + j * 4 + 1, none⟩ = some (.int .i64 y.mf) ∧ W.cell? ⟨g, off + j * 4 + 3, none⟩ = some (.int .i64 y.rt)) := by
  obtain ⟨g, off, y, hya, ht, _⟩ := (Cat.bay_at h).out X j (Below.refl _ _) hj
  refine ⟨g, off, y, Lib.hid hya, Lib.hid ht.out, Lib.hid fun W hW => ?_⟩
  obtain ⟨g3, off3, y3, e3, ht3, p0, p1, p2, p3⟩ := (Cat.bay_at h).out W j hW hj
  rw [hya] at e3
  injection e3 with e3
  cases e3
  have e4 := ht3.out
  rw [ht.out] at e4
  cases e4
  obtain ⟨_, _, _, v3, _⟩ := HP.out W hW
  rw [hya] at v3
  exact ⟨v3, p1, p3⟩
theorem bay_ok {C : Cat} {j : Nat} {y : Ba} (h : Cat.chkC C = 0) (hj : C.ys[j]? = some y) : (0 ≤ y.mf ∧ y.mf ≤ 8) ∧ 0 ≤ y.rt ∧ y.rt ≤ 10000 := by
  obtain ⟨_, _, h3⟩ := Cat.chk_zero h
  obtain ⟨_, h4, _, h5⟩ := h3 y (List.mem_of_getElem? hj)
  exact ⟨h4, h5⟩
theorem blues_len (C : CM) (w : World) (h : CatAt w C) : C.p.bs.length = C.bn := by unfold CM.p; rw [List.length_map]; exact h.1.1
theorem blue_p {C : CM} {i : Nat} {b : Recipe.Bl} (h : C.bs[i]? = some b) : C.p.bs[i]? = some (pOf b) := by unfold CM.p; simp [h]

set_option maxRecDepth 100000 in
set_option maxHeartbeats 8000000 in
theorem dfeeq (C : CM) (bay : Int) (a : Option Addr) (n c : Nat) (rs : List Int) (lv : Int) (w : World) (h : CatAt w C) (hl : Lim C) (hn : rs.length = n) (hs : IRow w a rs) (h4 : n ≤ 1000) :
    Calls Try.prog 11 #[C.v, .int .i64 bay, .slice a n c, .int .i64 lv] w fun e w' => e = .returned (.tuple #[.int .i64 (feeQ C.p bay rs lv), .int .i64 (mayQ C.p bay rs lv)]) ∧ Below w.heap.size w w' := by
  obtain ⟨V, X, hV, hX, HXB, HP⟩ := box_cat w C
  have HPE : Hid (∀ W, Below X.heap.size X W → W.cell? ⟨V, 0, none⟩ = some (.int .i64 C.ty) ∧ W.cell? ⟨V, 1, none⟩ = some (.slice C.ba C.bn C.bc) ∧ W.cell? ⟨V, 2, none⟩ = some (.int .i64 C.pl) ∧ W.cell? ⟨V, 3, none⟩ = some (.slice C.ya C.yn C.yc) ∧ W.cell? ⟨V, 4, none⟩ = some (.int .i64 C.ch) ∧ W.cell? ⟨V, 5, none⟩ = some (.int .i64 C.f.broker) ∧ W.cell? ⟨V, 6, none⟩ = some (.int .i64 C.f.least) ∧ W.cell? ⟨V, 7, none⟩ = some (.int .i64 C.f.sales)) := Lib.hid fun W hW => HP.out W hW
  obtain ⟨k0, k1, k2, k3, k4, k5, k6, k7⟩ := HPE.out X (Below.refl _ _)
  obtain ⟨er, her⟩ : ∃ er, mayQ C.p bay rs lv = er := ⟨_, rfl⟩
  have HM : Hid (Calls Try.prog 24 #[.agg #[.int .i64 C.ty, .slice C.ba C.bn C.bc, .int .i64 C.pl, .slice C.ya C.yn C.yc, .int .i64 C.ch, .int .i64 C.f.broker, .int .i64 C.f.least, .int .i64 C.f.sales], .int .i64 bay, .slice a n c, .int .i64 lv] X fun e w' => e = .returned (.int .i64 er) ∧ Hid (Below X.heap.size X w')) := Lib.hid (by
    rw [← her]
    exact (dmayq C bay a n c rs lv X (h.under HXB.out) hl hn (hs.under HXB.out) h4).mono fun _ _ ⟨e, h⟩ => ⟨e, Lib.hid h⟩)
  have HNO : Hid (∀ W, Below X.heap.size X W → Below w.heap.size w W) := Lib.hid fun W hW => below_then HXB.out hW
  by_cases he : er = 0
  case neg =>
    have n1 : (er == 0) = false := by simpa using he
    have n2 : (er != 0) = true := by simpa using he
    rw [fee_not (by rw [her]; exact he), her]
    clear her h hl hn hs h4
    go_enter Try.func11, Try.ntmps11
    go_wp2_with fail
    clear hX hV
    refine HM.out.mono ?_
    rintro e w1 ⟨rfl, H1⟩
    go_wp2_with fail
    go_ret2
    exact ⟨rfl, HNO.out _ H1.out⟩
  subst he
  obtain ⟨hch, hbay, hR, hlv⟩ := may_zero her
  obtain ⟨j, hj⟩ := Int.eq_ofNat_of_zero_le (show 0 ≤ bay - 1 by omega)
  obtain rfl : bay = (j : Int) + 1 := by omega
  have hyl : C.p.ys.length = C.yn := h.2.1
  have hjl : j < C.yn := by omega
  have hyb : (C.yn : Int) ≤ 12 := by have := hl.2.2; omega
  obtain ⟨gy, oy, y, HYA, HYT, HYC⟩ := bay_cells HP (h.under HXB.out) j hjl
  have hyo := bay_ok hch HYT.out
  have hj0 : (0 : Int) ≤ (j : Int) := by omega
  have hj1 : (j : Int) < (C.yn : Int) := by omega
  have wj : IntKind.i64.wrap ((j : Int) + 1 - 1) = (j : Int) := by rw [show (j : Int) + 1 - 1 = (j : Int) by omega]; exact IntWalk.i64_in _ (by omega)
  have HFQ : Hid (feeQ C.p ((j : Int) + 1) rs lv = feeV y.rt lv C.p.bs rs) := Lib.hid (by rw [fee_is her, (Cat.bay_yes HYT.out).2])
  have HBN := Lib.hid (blues_len C w h)
  obtain rfl : n = C.bn := by rw [← hn, hR.1, HBN.out]
  have hb1 : C.bn ≤ 20 := hl.2.1
  have HBC : ∀ k, k < C.bn → _ := fun k hk => blue_cells HP (h.under HXB.out) hl hn (hs.under HXB.out) k hk
  have HBC := Lib.hid HBC
  have HL := Lib.hid hn
  have HTM : Hid (∀ (W : World) (k : Nat) (b0 : Recipe.Bl) (r0 : Int), Below X.heap.size X W → k < C.bn → C.bs[k]? = some b0 → rs[k]? = some r0 → Calls Try.prog 26 #[.agg #[.int .i64 C.ty, .slice C.ba C.bn C.bc, .int .i64 C.pl, .slice C.ya C.yn C.yc, .int .i64 C.ch, .int .i64 C.f.broker, .int .i64 C.f.least, .int .i64 C.f.sales], .int .i64 (k : Int), .slice a C.bn c, .int .i64 lv] W fun e w' => e = .returned (.int .i64 (Recipe.timeV b0 lv r0)) ∧ Hid (Below X.heap.size X w')) := Lib.hid fun W k b0 r0 hW hk h1 h2 =>
    (dtimeq C k a c rs lv W ((h.under HXB.out).under hW) hl hn ((hs.under HXB.out).under hW) hk b0 r0 h1 h2).mono fun _ _ ⟨e, h⟩ => ⟨e, Lib.hid (below_then hW h)⟩
  have HFB : Hid (∀ (W : World) (b : PB) (r t : Int), Below X.heap.size X W → tim lv b r = t → Calls Try.prog 28 #[.int .i64 y.rt, .int .i64 t] W fun e w' => e = .returned (.tuple #[.int .i64 (Fee.bayV y.rt t), .int .i64 0]) ∧ Hid (Below X.heap.size X w')) := Lib.hid fun W b r t hW ht => by
    have h1 := Fee.dbay y.rt t W
    rw [(Fee.bay_yes (ht ▸ (fee_one hyo.2 lv b r).1)).2] at h1
    exact h1.mono fun _ _ ⟨e, h⟩ => ⟨e, Lib.hid (below_then hW h)⟩
  have HNN : Hid (∀ r ∈ rs, 0 ≤ r ∧ r ≤ 1000) := Lib.hid hR.2
  have HYO := Lib.hid hyo.2
  have HT := irow_at (hs.under HXB.out)
  rw [her]
  clear her h hl hn hs h4 hch hbay hR hlv hj hyl hyo
  go_enter Try.func11, Try.ntmps11
  go_wp2_with fail
  clear hX hV
  refine HM.out.mono ?_
  rintro e w1 ⟨rfl, H1⟩
  clear k0 k1 k2 k3 k4 k5 k6 k7
  go_wp2_with fail
  go_loopw [11, 12] (fun u t wr => ∃ (i : Nat) (s : Int), u = .int .i64 s ∧ t = .int .i64 (i : Int) ∧ i ≤ C.bn ∧ (0 ≤ s ∧ s ≤ 2097152000020) ∧ Hid (feeV y.rt lv (C.p.bs.take i) (rs.take i) = s) ∧ Hid (Below X.heap.size X wr)) (fun _ t _ => C.bn - (RowKit.intOf t).toNat)
  case atStart => exact ⟨0, 0, rfl, rfl, by omega, by omega, Lib.hid (by simp [feeV]), H1⟩
  case round =>
    obtain ⟨i, s, rfl, rfl, hi, hsb, HI, HW⟩ := hrel
    have hi0 : (0 : Int) ≤ (i : Int) := by omega
    obtain ⟨y0, y1, y2, y3, y4, y5, y6, y7⟩ := HPE.out wr HW.out
    by_cases hlt : i < C.bn
    · have hlt2 : (i : Int) < (C.bn : Int) := by omega
      have hd1 : decide (i < C.bn) = true := decide_eq_true hlt
      obtain ⟨g2, off2, r, rfl, hr, z0⟩ := HT.out wr i HW.out (by rw [HL.out]; exact hlt)
      obtain ⟨_, _, b, _, _, r2, _, _, HTB, _⟩ := HBC.out i hlt
      have hrr : r2 = r := by have h1 := HTB.out.2.1; rw [hr.out] at h1; injection h1 with h1; exact h1.symm
      have HTK := Lib.hid (feeV_take y.rt lv (blue_p HTB.out.1) hr.out)
      have HUP := Lib.hid (feeV_in HYO.out lv (C.p.bs.take (i + 1)) (rs.take (i + 1)))
      have HLT : Hid ((C.p.bs.take (i + 1)).length ≤ 20) := Lib.hid (by rw [List.length_take, HBN.out]; omega)
      have wi : IntKind.i64.wrap ((i : Int) + 1) = (i : Int) + 1 := IntWalk.i64_in _ (by omega)
      by_cases c1 : 0 < r
      case neg =>
        have d1 : decide (0 < r) = false := decide_eq_false c1
        have HI2 : Hid (feeV y.rt lv (C.p.bs.take (i + 1)) (rs.take (i + 1)) = s) := Lib.hid (by
          rw [HTK.out, HI.out, if_neg c1, Int.add_zero])
        clear hrr
        go_wp2_with fail
        go_roundw
        case rel => exact ⟨i + 1, s, rfl, by go_num, by omega, hsb, HI2, HW⟩
        case measure => simp [RowKit.intOf]; omega
      have d1 : decide (0 < r) = true := decide_eq_true c1
      obtain ⟨tv, htv⟩ : ∃ tv, Recipe.timeV b lv r = tv := ⟨_, rfl⟩
      have htm : tim lv (pOf b) r = tv := by rw [← htv]; exact tim_blue b lv (by omega)
      have htl : tv ≤ 104857600000 := by rw [← htm]; exact tim_le _ _ _
      have d2 : decide (1099511627776 < tv) = false := decide_eq_false (by omega)
      have HC1 := Lib.hid (HTM.out wr i b r HW.out hlt HTB.out.1 hr.out)
      rw [htv] at HC1
      obtain ⟨fv, hfv⟩ : ∃ fv, Fee.bayV y.rt tv = fv := ⟨_, rfl⟩
      have HC2 := Lib.hid (fun W hW => HFB.out W (pOf b) r tv hW htm)
      rw [hfv] at HC2
      have hsum : 0 ≤ s + fv ∧ s + fv ≤ 2097152000020 := by
        have h1 := HUP.out
        have h2 := HLT.out
        rw [HTK.out, HI.out, if_pos c1, htm, hfv] at h1
        omega
      have ws : IntKind.i64.wrap (s + fv) = s + fv := IntWalk.i64_in _ (by omega)
      have HI2 : Hid (feeV y.rt lv (C.p.bs.take (i + 1)) (rs.take (i + 1)) = s + fv) := Lib.hid (by rw [HTK.out, HI.out, if_pos c1, htm, hfv])
      clear htv htm hfv hrr htl
      go_wp2_with fail
      refine HC1.out.mono ?_
      rintro e w3 ⟨rfl, H3⟩
      obtain ⟨v3, vm, vr⟩ := HYC.out w3 H3.out
      clear y0 y1 y2 y3 y4 y5 y6 y7 z0
      go_wp2_with fail
      refine (HC2.out w3 H3.out).mono ?_
      rintro e w4 ⟨rfl, H4⟩
      clear v3 vm vr
      go_wp2_with fail
      go_roundw
      case rel => exact ⟨i + 1, s + fv, rfl, by go_num, by omega, hsum, HI2, H4⟩
      case measure => simp [RowKit.intOf]; omega
    · obtain rfl : i = C.bn := by omega
      have hd1 : decide (C.bn < C.bn) = false := by simp
      have HF : Hid (feeQ C.p ((j : Int) + 1) rs lv = s) := Lib.hid (by
        have := HI.out
        rw [List.take_of_length_le (by rw [HBN.out]; exact Nat.le_refl _), List.take_of_length_le (by rw [HL.out]; exact Nat.le_refl _)] at this
        rw [HFQ.out, this])
      go_wp2_with fail
      go_ret2
      exact ⟨by rw [HF.out]; rfl, HNO.out _ HW.out⟩
end Go.Proofs.Ytdbhdlgoecpeaaa.Quo
