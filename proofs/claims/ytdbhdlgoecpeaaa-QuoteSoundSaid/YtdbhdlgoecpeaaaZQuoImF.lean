/- What is asked of all bays, of all jobs; the program's Cheapest. The program's Cheapest. -/
import Derived.Test.YtdbhdlgoecpeaaaZFeeImBay
namespace Go.Proofs.Ytdbhdlgoecpeaaa.Quo.Im
open Go.RowKit Go.Lib IRows
open Cat (Cat PB Ba CM CatAt Lim box_cat pOf I64 baV)
open Bom (RunsOk tim tim_blue tim_le tim_nonneg)

theorem nx1_none {f : Nat → Bool} : ∀ {d k : Nat}, nx1 f d k = -1 ↔ ∀ i, k ≤ i → i < k + d → f i = false
  | 0, k => ⟨fun _ i h1 h2 => by omega, fun _ => rfl⟩
  | d + 1, k => by
    have ih := @nx1_none f d (k + 1)
    rw [nx1]
    cases hf : f k with
    | true =>
      refine ⟨fun h => ?_, fun h => ?_⟩
      · rw [if_pos rfl] at h
        omega
      · have := h k (Nat.le_refl _) (by omega)
        rw [hf] at this
        cases this
    | false =>
      rw [if_neg (by simp), ih]
      refine ⟨fun h i h1 h2 => ?_, fun h i h1 h2 => h i (by omega) (by omega)⟩
      by_cases e : i = k
      · rw [e]; exact hf
      · exact h i (by omega) (by omega)
theorem nx1_in {f : Nat → Bool} : ∀ {d k : Nat}, nx1 f d k = -1 ∨ ∃ i : Nat, nx1 f d k = (i : Int) ∧ k ≤ i ∧ i < k + d ∧ f i = true
  | 0, _ => .inl rfl
  | d + 1, k => by
    have ih := @nx1_in f d (k + 1)
    rw [nx1]
    cases hf : f k with
    | true => exact .inr ⟨k, by simp, Nat.le_refl _, by omega, hf⟩
    | false =>
      rw [if_neg (by simp)]
      rcases ih with h | ⟨i, h1, h2, h3, h4⟩
      · exact .inl h
      · exact .inr ⟨i, h1, by omega, by omega, h4⟩
def mkF (ys : List Ba) (k : Nat) : Bool := match ys[k]? with
  | none => false
  | some y => decide (0 < y.mf)
set_option maxRecDepth 100000 in
set_option maxHeartbeats 4000000 in
theorem index_by (C : CM) (w : World) (h : CatAt w C) (hb : C.yn ≤ 12) (z : Int) (hz : nx1 (mkF C.p.ys) C.yn 0 = z) :
    Calls Try.prog 58 #[.slice C.ya C.yn C.yc, .func (.func 20) #[] #[]] w fun e w' => e = .returned (.int .i64 z) ∧ Below w.heap.size w w' := by
  have HB := Cat.bay_at h
  have HL : Hid (C.p.ys.length = C.yn) := Lib.hid h.2.1
  have HPY : Hid (C.p.ys = C.ys) := Lib.hid rfl
  have hb1 : (C.yn : Int) ≤ 12 := by omega
  have HZ := Lib.hid hz
  clear h hb hz
  go_enter Try.func58, Try.ntmps58
  go_wp2_with fail
  go_loopw [8] (fun s wr => ∃ i : Nat, s = .int .i64 i ∧ i ≤ C.yn ∧ Hid (Below w.heap.size w wr) ∧ Hid (nx1 (mkF C.p.ys) (C.yn - i) i = z)) (fun s _ => C.yn - (RowKit.intOf s).toNat)
  case atStart => exact ⟨0, rfl, by omega, Lib.hid (Below.refl _ _), HZ⟩
  case round =>
    obtain ⟨i, rfl, hi, HW, HI⟩ := hrel
    have hi0 : (0 : Int) ≤ (i : Int) := by omega
    by_cases hlt : i < C.yn
    · have hlt2 : (i : Int) < (C.yn : Int) := by omega
      obtain ⟨g, off, y, hya, ht, q0, q1, q2, q3⟩ := HB.out wr i HW.out hlt
      have wi : IntKind.i64.wrap ((i : Int) + 1) = (i : Int) + 1 := IntWalk.i64_in _ (by omega)
      obtain ⟨q, hq⟩ : ∃ q, decide (0 < y.mf) = q := ⟨_, rfl⟩
      have HM := Lib.hid (makes_im y wr q hq)
      have HN : Hid ((if q then (i : Int) else nx1 (mkF C.p.ys) (C.yn - (i + 1)) (i + 1)) = z) := Lib.hid (by
        have h1 := HI.out
        have h2 : mkF C.p.ys i = q := by unfold mkF; rw [HPY.out, ht.out]; exact hq
        rw [show C.yn - i = (C.yn - (i + 1)) + 1 by omega, nx1, h2] at h1
        exact h1)
      rw [hya]
      clear hya hq
      rcases q with _ | _
      · have HF : Hid (nx1 (mkF C.p.ys) (C.yn - (i + 1)) (i + 1) = z) := Lib.hid HN.out
        go_wp2_with fail
        refine HM.out.mono ?_
        rintro e w2 ⟨rfl, H2⟩
        have HW2 := Lib.hid (below_then HW.out H2)
        go_wp2_with fail
        go_roundw
        case rel => exact ⟨i + 1, by go_num, by omega, HW2, HF⟩
        case measure => simp [RowKit.intOf]; omega
      · have HF : Hid ((i : Int) = z) := Lib.hid HN.out
        go_wp2_with fail
        refine HM.out.mono ?_
        rintro e w2 ⟨rfl, H2⟩
        go_wp2_with fail
        go_ret
        exact ⟨ret_i64 HF.out, below_then HW.out H2⟩
    · obtain rfl : i = C.yn := by omega
      have HF : Hid (-1 = z) := Lib.hid (by have h1 := HI.out; rw [Nat.sub_self] at h1; exact h1)
      go_wp2_with fail
      go_ret
      exact ⟨ret_i64 HF.out, HW.out⟩
theorem any_by (C : CM) (w : World) (h : CatAt w C) (hb : C.yn ≤ 12) (q : Bool) (hq : (nx1 (mkF C.p.ys) C.yn 0 = -1 ∧ q = false) ∨ (0 ≤ nx1 (mkF C.p.ys) C.yn 0 ∧ q = true)) :
    Calls Try.prog 30 #[.slice C.ya C.yn C.yc, .func (.func 20) #[] #[]] w fun e w' => e = .returned (.bool q) ∧ Below w.heap.size w w' := by
  obtain ⟨z, hz⟩ : ∃ z, nx1 (mkF C.p.ys) C.yn 0 = z := ⟨_, rfl⟩
  have HI := Lib.hid (index_by C w h hb z hz)
  rw [hz] at hq
  have d : decide (0 ≤ z) = q := by
    rcases hq with ⟨rfl, rfl⟩ | ⟨h1, rfl⟩
    · rfl
    · exact decide_eq_true h1
  clear h hb hz hq
  go_enter Try.func30, Try.ntmps30
  go_wp2_with fail
  refine HI.out.mono ?_
  rintro e w1 ⟨rfl, H1⟩
  go_wp2_with fail
  go_ret
  exact ⟨by rw [← d]; first | rfl | simp, H1⟩
set_option maxRecDepth 100000 in
set_option maxHeartbeats 4000000 in
theorem index_jb (a : Option Addr) (n c : Nat) (t : Nat → Int) (ws : Nat → List Int) (w : World) (hj : JobsAt w a n t ws) (hn : n ≤ 20) (z : Int) (hz : nx1 (fun k => decide (0 < t k)) n 0 = z) :
    Calls Try.prog 40 #[.slice a n c, .func (.func 22) #[] #[]] w fun e w' => e = .returned (.int .i64 z) ∧ Below w.heap.size w w' := by
  have HJ := jobs_at hj
  have hn1 : (n : Int) ≤ 20 := by omega
  have HZ := Lib.hid hz
  clear hj hz
  go_enter Try.func40, Try.ntmps40
  go_wp2_with fail
  go_loopw [8] (fun s wr => ∃ i : Nat, s = .int .i64 i ∧ i ≤ n ∧ Hid (Below w.heap.size w wr) ∧ Hid (nx1 (fun k => decide (0 < t k)) (n - i) i = z)) (fun s _ => n - (RowKit.intOf s).toNat)
  case atStart => exact ⟨0, rfl, by omega, Lib.hid (Below.refl _ _), HZ⟩
  case round =>
    obtain ⟨i, rfl, hi, HW, HI⟩ := hrel
    have hi0 : (0 : Int) ≤ (i : Int) := by omega
    by_cases hlt : i < n
    · have hlt2 : (i : Int) < (n : Int) := by omega
      have wi : IntKind.i64.wrap ((i : Int) + 1) = (i : Int) + 1 := IntWalk.i64_in _ (by omega)
      obtain ⟨g, ak, ck, HA, HJC⟩ := HJ.out i hlt
      obtain rfl : a = some ⟨g, 0, none⟩ := HA.out
      obtain ⟨⟨c0, c1⟩, _⟩ := HJC.out wr HW.out
      obtain ⟨tk, htk⟩ : ∃ tk, t i = tk := ⟨_, rfl⟩
      obtain ⟨nk, hnk⟩ : ∃ nk, (ws i).length = nk := ⟨_, rfl⟩
      rw [htk] at c0
      rw [hnk] at c1
      obtain ⟨q, hq⟩ : ∃ q, decide (0 < tk) = q := ⟨_, rfl⟩
      have HM := Lib.hid (is_im tk ak nk ck wr q hq)
      have HN : Hid ((if q then (i : Int) else nx1 (fun k => decide (0 < t k)) (n - (i + 1)) (i + 1)) = z) := Lib.hid (by
        have h1 := HI.out
        rw [show n - i = (n - (i + 1)) + 1 by omega, nx1, htk, hq] at h1
        exact h1)
      clear hq htk hnk
      rcases q with _ | _
      · have HF : Hid (nx1 (fun k => decide (0 < t k)) (n - (i + 1)) (i + 1) = z) := Lib.hid HN.out
        go_wp2_with fail
        refine HM.out.mono ?_
        rintro e w2 ⟨rfl, H2⟩
        have HW2 := Lib.hid (below_then HW.out H2)
        go_wp2_with fail
        go_roundw
        case rel => exact ⟨i + 1, by go_num, by omega, HW2, HF⟩
        case measure => simp [RowKit.intOf]; omega
      · have HF : Hid ((i : Int) = z) := Lib.hid HN.out
        go_wp2_with fail
        refine HM.out.mono ?_
        rintro e w2 ⟨rfl, H2⟩
        go_wp2_with fail
        go_ret
        exact ⟨ret_i64 HF.out, below_then HW.out H2⟩
    · obtain rfl : i = n := by omega
      have HF : Hid (-1 = z) := Lib.hid (by have h1 := HI.out; rw [Nat.sub_self] at h1; exact h1)
      go_wp2_with fail
      go_ret
      exact ⟨ret_i64 HF.out, HW.out⟩
theorem any_jb (a : Option Addr) (n c : Nat) (t : Nat → Int) (ws : Nat → List Int) (w : World) (hj : JobsAt w a n t ws) (hn : n ≤ 20) (q : Bool) (hq : (nx1 (fun k => decide (0 < t k)) n 0 = -1 ∧ q = false) ∨ (0 ≤ nx1 (fun k => decide (0 < t k)) n 0 ∧ q = true)) :
    Calls Try.prog 21 #[.slice a n c, .func (.func 22) #[] #[]] w fun e w' => e = .returned (.bool q) ∧ Below w.heap.size w w' := by
  obtain ⟨z, hz⟩ : ∃ z, nx1 (fun k => decide (0 < t k)) n 0 = z := ⟨_, rfl⟩
  have HI := Lib.hid (index_jb a n c t ws w hj hn z hz)
  rw [hz] at hq
  have d : decide (0 ≤ z) = q := by
    rcases hq with ⟨rfl, rfl⟩ | ⟨h1, rfl⟩
    · rfl
    · exact decide_eq_true h1
  clear hj hz hq
  go_enter Try.func21, Try.ntmps21
  go_wp2_with fail
  refine HI.out.mono ?_
  rintro e w1 ⟨rfl, H1⟩
  go_wp2_with fail
  go_ret
  exact ⟨by rw [← d]; first | rfl | simp, H1⟩
end Go.Proofs.Ytdbhdlgoecpeaaa.Quo.Im
namespace Go.Proofs.Ytdbhdlgoecpeaaa.Quo.Im
open Go.RowKit Go.Lib IRows
open Cat (Cat PB Ba CM CatAt Lim box_cat pOf I64 baV)
open Bom (RunsOk tim tim_blue tim_le tim_nonneg)

set_option maxRecDepth 100000 in
set_option maxHeartbeats 16000000 in
theorem cheap_im (C : CM) (a : Option Addr) (m c : Nat) (rs : List Int) (lv : Int) (w : World) (h : CatAt w C) (hl : Lim C) (hr : rs.length = m) (hs : IRow w a rs) (hm : m ≤ 1000) :
    Calls Try.prog 12 #[C.v, .slice a m c, .int .i64 lv] w fun e w' => e = .returned (.tuple #[.int .i64 (cheapV C.p rs lv), .int .i64 (cheapE C.p rs lv)]) ∧ Below w.heap.size w w' := by
  obtain ⟨V, X, hV, hX, HXB, HP⟩ := box_cat w C
  have HPE : Hid (∀ W, Below X.heap.size X W → W.cell? ⟨V, 0, none⟩ = some (.int .i64 C.ty) ∧ W.cell? ⟨V, 1, none⟩ = some (.slice C.ba C.bn C.bc) ∧ W.cell? ⟨V, 2, none⟩ = some (.int .i64 C.pl) ∧ W.cell? ⟨V, 3, none⟩ = some (.slice C.ya C.yn C.yc) ∧ W.cell? ⟨V, 4, none⟩ = some (.int .i64 C.ch) ∧ W.cell? ⟨V, 5, none⟩ = some (.int .i64 C.f.broker) ∧ W.cell? ⟨V, 6, none⟩ = some (.int .i64 C.f.least) ∧ W.cell? ⟨V, 7, none⟩ = some (.int .i64 C.f.sales)) := Lib.hid fun W hW => HP.out W hW
  obtain ⟨k0, k1, k2, k3, k4, k5, k6, k7⟩ := HPE.out X (Below.refl _ _)
  obtain ⟨er, her⟩ : ∃ er, Cat.chkC C.p = er := ⟨_, rfl⟩
  have HC : Hid (Calls Try.prog 29 #[.agg #[.int .i64 C.ty, .slice C.ba C.bn C.bc, .int .i64 C.pl, .slice C.ya C.yn C.yc, .int .i64 C.ch, .int .i64 C.f.broker, .int .i64 C.f.least, .int .i64 C.f.sales]] X fun e w' => e = .returned (.int .i64 er) ∧ Hid (Below X.heap.size X w')) := Lib.hid (by
    rw [← her]
    exact (Cat.Im.check_im C X (h.under HXB.out) hl).mono fun _ _ ⟨e, h⟩ => ⟨e, Lib.hid h⟩)
  have HNO : Hid (∀ W, Below X.heap.size X W → Below w.heap.size w W) := Lib.hid fun W hW => below_then HXB.out hW
  by_cases he : er = 0
  case neg =>
    have n1 : (er == 0) = false := by simpa using he
    have n2 : (er != 0) = true := by simpa using he
    obtain ⟨e1, e2⟩ := cheap_err (rs := rs) (lv := lv) (by rw [her]; exact he : ¬ Cat.chkC C.p = 0)
    rw [e1, e2, her]
    clear e1 e2 her h hl hr hs hm
    go_enter Try.func12, Try.ntmps12
    go_wp2_with fail
    clear hX hV
    refine HC.out.mono ?_
    rintro e w1 ⟨rfl, H1⟩
    go_wp2_with fail
    go_ret2
    exact ⟨rfl, HNO.out _ H1.out⟩
  subst he
  have hyb : C.yn ≤ 12 := hl.2.2
  have hyb2 : (C.yn : Int) ≤ 12 := by omega
  have hyl : C.p.ys.length = C.yn := h.2.1
  have hmk : ∀ k y, C.p.ys[k]? = some y → mkF C.p.ys k = decide (0 < y.mf) := fun k y hy => by unfold mkF; rw [hy]
  have hall : (∀ y ∈ C.p.ys, y.mf = 0) ↔ nx1 (mkF C.p.ys) C.yn 0 = -1 := by
    rw [nx1_none]
    constructor
    · intro h1 i _ hi
      have hy := List.getElem?_eq_getElem (show i < C.p.ys.length by omega)
      rw [hmk i _ hy, h1 _ (List.mem_of_getElem? hy)]
      rfl
    · intro h1 y hy
      obtain ⟨i, hi, e⟩ := List.getElem_of_mem hy
      have hy2 : C.p.ys[i]? = some y := by rw [List.getElem?_eq_getElem hi, e]
      have h2 := h1 i (Nat.zero_le _) (by omega)
      rw [hmk i y hy2] at h2
      have h3 := (bay_ok her hy2).1
      have h4 := of_decide_eq_false h2
      omega
  have HAB : Hid (∀ W q, Below X.heap.size X W → ((nx1 (mkF C.p.ys) C.yn 0 = -1 ∧ q = false) ∨ (0 ≤ nx1 (mkF C.p.ys) C.yn 0 ∧ q = true)) → Calls Try.prog 30 #[.slice C.ya C.yn C.yc, .func (.func 20) #[] #[]] W fun e w' => e = .returned (.bool q) ∧ Hid (Below X.heap.size X w')) := Lib.hid fun W q hW hq =>
    (any_by C W ((h.under HXB.out).under hW) hyb q hq).mono fun _ _ ⟨e, h⟩ => ⟨e, Lib.hid (below_then hW h)⟩
  by_cases hno : ∀ y ∈ C.p.ys, y.mf = 0
  · obtain ⟨e1, e2⟩ := cheap_none (rs := rs) (lv := lv) her hno
    have HA := Lib.hid (fun W hW => HAB.out W false hW (.inl ⟨hall.1 hno, rfl⟩))
    rw [e1, e2]
    clear e1 e2 her h hl hr hs hm hall hmk hno
    go_enter Try.func12, Try.ntmps12
    go_wp2_with fail
    clear hX hV
    refine HC.out.mono ?_
    rintro e w1 ⟨rfl, H1⟩
    clear k0 k1 k2 k3 k4 k5 k6 k7
    obtain ⟨y0, y1, y2, y3, y4, y5, y6, y7⟩ := HPE.out w1 H1.out
    go_wp2_with fail
    refine (HA.out w1 H1.out).mono ?_
    rintro e w2 ⟨rfl, H2⟩
    go_wp2_with fail
    go_ret2
    exact ⟨rfl, HNO.out _ H2.out⟩
  have HA := Lib.hid (fun W hW => HAB.out W true hW (.inr ⟨by
    rcases @nx1_in (mkF C.p.ys) C.yn 0 with h1 | ⟨i, h1, _⟩
    · exact absurd (hall.2 h1) hno
    · omega, rfl⟩))
  have HJB : Hid (∀ W, Below X.heap.size X W → Calls Try.prog 31 #[.agg #[.int .i64 C.ty, .slice C.ba C.bn C.bc, .int .i64 C.pl, .slice C.ya C.yn C.yc, .int .i64 C.ch, .int .i64 C.f.broker, .int .i64 C.f.least, .int .i64 C.f.sales], .slice a m c, .int .i64 lv] W fun e w' => ∃ a' n' c', e = .returned (.tuple #[.slice a' n' c', .int .i64 (argE C.p rs lv)]) ∧ Hid (Below X.heap.size X w' ∧ (argE C.p rs lv = 0 → n' = C.bn ∧ JobsAt w' a' C.bn (tmJ C.p rs lv) (wsJ C.p rs)))) := Lib.hid fun W hW =>
    (jobs_im C a m c rs lv W ((h.under HXB.out).under hW) hl her hr ((hs.under HXB.out).under hW) hm).mono fun _ _ ⟨a', n', c', e, h⟩ => ⟨a', n', c', e, Lib.hid ⟨below_then hW h.out.1, fun h0 => ⟨(h.out.2 h0).1, (h.out.2 h0).2.1⟩⟩⟩
  have HBN := Lib.hid (blues_len C w h)
  have hb1 : C.bn ≤ 20 := hl.2.1
  by_cases hok : ArgOk C.p rs lv
  case neg =>
    obtain ⟨e1, e2⟩ := cheap_arg her hno hok
    have hae : argE C.p rs lv = 1 := by unfold argE; rw [if_neg hok]
    rw [hae] at HJB
    rw [e1, e2]
    clear e1 e2 her h hl hr hs hm hall hmk hno hok hae HAB
    go_enter Try.func12, Try.ntmps12
    go_wp2_with fail
    clear hX hV
    refine HC.out.mono ?_
    rintro e w1 ⟨rfl, H1⟩
    clear k0 k1 k2 k3 k4 k5 k6 k7
    obtain ⟨y0, y1, y2, y3, y4, y5, y6, y7⟩ := HPE.out w1 H1.out
    go_wp2_with fail
    refine (HA.out w1 H1.out).mono ?_
    rintro e w2 ⟨rfl, H2⟩
    clear y0 y1 y2 y3 y4 y5 y6 y7
    obtain ⟨y0, y1, y2, y3, y4, y5, y6, y7⟩ := HPE.out w2 H2.out
    go_wp2_with fail
    refine (HJB.out w2 H2.out).mono ?_
    rintro e w3 ⟨a3, n3, c3, rfl, H3⟩
    go_wp2_with fail
    go_ret2
    exact ⟨rfl, HNO.out _ H3.out.1⟩
  obtain ⟨e1, e2⟩ := cheap_ok her hno hok
  have hae : argE C.p rs lv = 0 := by unfold argE; rw [if_pos hok]
  rw [hae] at HJB
  rw [e1, e2]
  have HYO : Hid (∀ (k : Nat) (y : Ba), C.p.ys[k]? = some y → (0 ≤ y.mf ∧ y.mf ≤ 8) ∧ 0 ≤ y.rt ∧ y.rt ≤ 10000) := Lib.hid fun k y hy => bay_ok her hy
  have HRO := Lib.hid hok.1
  have HYL := Lib.hid hyl
  have HBY := Cat.bay_at (h.under HXB.out)
  have HPY : Hid (C.p.ys = C.ys) := Lib.hid rfl
  clear e1 e2 her h hl hr hs hm hall hmk hno hok hae HAB hyl
  go_enter Try.func12, Try.ntmps12
  go_wp2_with fail
  clear hX hV
  refine HC.out.mono ?_
  rintro e w1 ⟨rfl, H1⟩
  clear k0 k1 k2 k3 k4 k5 k6 k7
  obtain ⟨y0, y1, y2, y3, y4, y5, y6, y7⟩ := HPE.out w1 H1.out
  go_wp2_with fail
  refine (HA.out w1 H1.out).mono ?_
  rintro e w2 ⟨rfl, H2⟩
  clear y0 y1 y2 y3 y4 y5 y6 y7
  obtain ⟨y0, y1, y2, y3, y4, y5, y6, y7⟩ := HPE.out w2 H2.out
  go_wp2_with fail
  refine (HJB.out w2 H2.out).mono ?_
  rintro e w3 ⟨a3, n3, c3, rfl, H3⟩
  clear y0 y1 y2 y3 y4 y5 y6 y7
  obtain ⟨rfl, hJ3⟩ := H3.out.2 (by first | rfl | trivial)
  have HJ3 := Lib.hid hJ3
  have HX3 := Lib.hid H3.out.1
  clear hJ3
  have HSM : Hid (∀ (W : World) (y : Ba) (v : Int), Below w3.heap.size w3 W → (0 ≤ y.rt ∧ y.rt ≤ 10000) → feeOf C.p rs lv y = v → Calls Try.prog 27 #[.int .i64 y.rt, .slice a3 C.bn c3] W fun e w' => e = .returned (.tuple #[.int .i64 v, .int .i64 0]) ∧ Hid (Below w3.heap.size w3 w')) := Lib.hid fun W y v hW hy hv => by
    have h1 := sum_im y.rt a3 C.bn c3 (tmJ C.p rs lv) (wsJ C.p rs) W (HJ3.out.under hW) hb1 hy (fun k => jb_t C.p rs lv 0 k)
    rw [← HBN.out, sum_fee hy HRO.out] at h1
    have h2 : feeV y.rt lv C.p.bs rs = v := hv
    rw [h2] at h1
    rw [← HBN.out]
    exact h1.mono fun _ _ ⟨e, h⟩ => ⟨e, Lib.hid (below_then hW h)⟩
  obtain ⟨y0, y1, y2, y3, y4, y5, y6, y7⟩ := HPE.out w3 HX3.out
  go_wp2_with fail
  clear y0 y1 y2 y3 y4 y5 y6 y7
  go_loopw [11, 12, 39] (fun u v t wr => ∃ (k : Nat) (b l : Int), u = .int .i64 b ∧ v = .int .i64 l ∧ t = .int .i64 (k : Int) ∧ k ≤ C.yn ∧ Hid (chp (feeOf C.p rs lv) C.p.ys k = (b, l)) ∧ Hid (Below w3.heap.size w3 wr)) (fun _ _ t _ => C.yn - (RowKit.intOf t).toNat)
  case atStart => exact ⟨0, 0, 0, rfl, rfl, rfl, by omega, Lib.hid rfl, Lib.hid (Below.refl _ _)⟩
  case round =>
    obtain ⟨k, b, l, rfl, rfl, rfl, hk, HI, HW⟩ := hrel
    have hk0 : (0 : Int) ≤ (k : Int) := by omega
    by_cases hlt : k < C.yn
    case neg =>
      obtain rfl : k = C.yn := by omega
      have hd1 : decide (C.yn < C.yn) = false := by simp
      have HF : Hid ((chp (feeOf C.p rs lv) C.p.ys C.p.ys.length).1 = b) := Lib.hid (by rw [HYL.out, HI.out])
      go_wp2_with fail
      go_ret2
      exact ⟨by rw [HF.out]; rfl, HNO.out _ (below_then HX3.out HW.out)⟩
    have hlt2 : (k : Int) < (C.yn : Int) := by omega
    have hd1 : decide (k < C.yn) = true := decide_eq_true hlt
    have wk : IntKind.i64.wrap ((k : Int) + 1) = (k : Int) + 1 := IntWalk.i64_in _ (by omega)
    obtain ⟨g, off, y, hya, ht, q0, q1, q2, q3⟩ := HBY.out wr k (below_then HX3.out HW.out) hlt
    have HYT : Hid (C.p.ys[k]? = some y) := Lib.hid (by rw [HPY.out]; exact ht.out)
    have HN := Lib.hid (chp_next (f := feeOf C.p rs lv) HYT.out)
    have hyo := HYO.out k y HYT.out
    obtain ⟨U, Y, hU, hY, HYB, HUC⟩ := box_by wr y
    have HWY : Hid (Below w3.heap.size w3 Y) := Lib.hid (below_then HW.out HYB.out)
    obtain ⟨u0, u1, u2, u3⟩ := HUC.out Y (Below.refl _ _)
    obtain ⟨q, hq⟩ : ∃ q, decide (0 < y.mf) = q := ⟨_, rfl⟩
    have HMK : Hid (Calls Try.prog 20 #[.agg #[.int .i64 y.pl, .int .i64 y.mf, .int .i64 y.lb, .int .i64 y.rt]] Y fun e w' => e = .returned (.bool q) ∧ Hid (Below Y.heap.size Y w')) := Lib.hid ((makes_im y Y q hq).mono fun _ _ ⟨e, h⟩ => ⟨e, Lib.hid h⟩)
    obtain ⟨fv, hfv⟩ : ∃ fv, feeOf C.p rs lv y = fv := ⟨_, rfl⟩
    have HS := Lib.hid (fun W hW => HSM.out W y fv hW hyo.2 hfv)
    have HN2 : Hid (chp (feeOf C.p rs lv) C.p.ys (k + 1) = if y.mf = 0 then (b, l) else if b = 0 ∨ fv < l then ((k : Int) + 1, fv) else (b, l)) := Lib.hid (by rw [HN.out, HI.out, hfv])
    rw [hya]
    rcases q with _ | _
    · have HI2 : Hid (chp (feeOf C.p rs lv) C.p.ys (k + 1) = (b, l)) := Lib.hid (by rw [HN2.out, if_pos (by have := of_decide_eq_false hq; omega)])
      clear hya hq hfv hyo
      go_wp2_with fail
      clear hU hY
      refine HMK.out.mono ?_
      rintro e w4 ⟨rfl, H4⟩
      have HW4 : Hid (Below w3.heap.size w3 w4) := Lib.hid (below_then HWY.out H4.out)
      clear u0 u1 u2 u3 q0 q1 q2 q3
      go_wp2_with fail
      go_roundw
      case rel => exact ⟨k + 1, b, l, rfl, rfl, by go_num, by omega, HI2, HW4⟩
      case measure => simp [RowKit.intOf]; omega
    have HN3 : Hid (chp (feeOf C.p rs lv) C.p.ys (k + 1) = if b = 0 ∨ fv < l then ((k : Int) + 1, fv) else (b, l)) := Lib.hid (by rw [HN2.out, if_neg (by have := of_decide_eq_true hq; omega)])
    have hcase : (b = 0) ∨ ((b == 0) = false ∧ decide (fv < l) = true ∧ chp (feeOf C.p rs lv) C.p.ys (k + 1) = ((k : Int) + 1, fv)) ∨ ((b == 0) = false ∧ decide (fv < l) = false ∧ chp (feeOf C.p rs lv) C.p.ys (k + 1) = (b, l)) := by
      by_cases h0 : b = 0
      · exact .inl h0
      · by_cases h1 : fv < l
        · exact .inr (.inl ⟨by simpa using h0, decide_eq_true h1, by rw [HN3.out, if_pos (.inr h1)]⟩)
        · exact .inr (.inr ⟨by simpa using h0, decide_eq_false h1, by rw [HN3.out, if_neg fun h => h.elim h0 h1]⟩)
    clear hya hq hfv hyo
    rcases hcase with h0 | ⟨e0, e1, h2⟩ | ⟨e0, e1, h2⟩
    · have e0 : (b == 0) = true := by simpa using h0
      have HI2 : Hid (chp (feeOf C.p rs lv) C.p.ys (k + 1) = ((k : Int) + 1, fv)) := Lib.hid (by rw [HN3.out, if_pos (.inl h0)])
      clear h0
      go_wp2_with fail
      clear hU hY
      refine HMK.out.mono ?_
      rintro e w4 ⟨rfl, H4⟩
      have HW4 : Hid (Below w3.heap.size w3 w4) := Lib.hid (below_then HWY.out H4.out)
      clear u0 u1 u2 u3 q0 q1 q2 q3
      obtain ⟨u0, u1, u2, u3⟩ := HUC.out w4 H4.out
      go_wp2_with fail
      refine (HS.out w4 HW4.out).mono ?_
      rintro e w5 ⟨rfl, H5⟩
      clear u0 u1 u2 u3
      go_wp2_with fail
      go_roundw
      case rel => exact ⟨k + 1, (k : Int) + 1, fv, by go_num, rfl, by go_num, by omega, HI2, H5⟩
      case measure => simp [RowKit.intOf]; omega
    · have HI2 := Lib.hid h2
      clear h2
      go_wp2_with fail
      clear hU hY
      refine HMK.out.mono ?_
      rintro e w4 ⟨rfl, H4⟩
      have HW4 : Hid (Below w3.heap.size w3 w4) := Lib.hid (below_then HWY.out H4.out)
      clear u0 u1 u2 u3 q0 q1 q2 q3
      obtain ⟨u0, u1, u2, u3⟩ := HUC.out w4 H4.out
      go_wp2_with fail
      refine (HS.out w4 HW4.out).mono ?_
      rintro e w5 ⟨rfl, H5⟩
      clear u0 u1 u2 u3
      go_wp2_with fail
      go_roundw
      case rel => exact ⟨k + 1, (k : Int) + 1, fv, by go_num, rfl, by go_num, by omega, HI2, H5⟩
      case measure => simp [RowKit.intOf]; omega
    · have HI2 := Lib.hid h2
      clear h2
      go_wp2_with fail
      clear hU hY
      refine HMK.out.mono ?_
      rintro e w4 ⟨rfl, H4⟩
      have HW4 : Hid (Below w3.heap.size w3 w4) := Lib.hid (below_then HWY.out H4.out)
      clear u0 u1 u2 u3 q0 q1 q2 q3
      obtain ⟨u0, u1, u2, u3⟩ := HUC.out w4 H4.out
      go_wp2_with fail
      refine (HS.out w4 HW4.out).mono ?_
      rintro e w5 ⟨rfl, H5⟩
      clear u0 u1 u2 u3
      go_wp2_with fail
      go_roundw
      case rel => exact ⟨k + 1, b, l, rfl, rfl, by go_num, by omega, HI2, H5⟩
      case measure => simp [RowKit.intOf]; omega
end Go.Proofs.Ytdbhdlgoecpeaaa.Quo.Im
