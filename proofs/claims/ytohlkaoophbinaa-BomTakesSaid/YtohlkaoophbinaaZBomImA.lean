/- The program's in, isKind, isLevel, areRuns, mayAsk, orderOf. Rows of 33 numbers of the program's bills: count. -/
import Derived.Test.YtohlkaoophbinaaZCatOrd
import Derived.Test.YtohlkaoophbinaaZCatImD
import Derived.Test.YtohlkaoophbinaaZCatImA
import Derived.Test.YtohlkaoophbinaaZGraphImC
import Derived.Deep.CutRange
import Derived.Deep.RegionHeld3
import Derived.Deep.WholeRow
import Derived.Deep.MidRow
import Derived.BigRegion
namespace Go.Proofs.Ytohlkaoophbinaa.Bom.Im
open Go.RowKit Go.Lib IRows
open Goods (St Sts OwnS cnt)
open Cat (Cat PB CM CatAt Lim I64 pOf box_cat)
open Recipe (needsE needsL needL up nd BlIn)
open Graph (Nd Nds OwnN)

set_option maxRecDepth 100000 in
theorem in_at (n a b : Int) : ∃ t : Bool, Hid (∀ w, Calls Try.prog 52 #[.int .i64 n, .int .i64 a, .int .i64 b] w fun e w' => e = .returned (.bool t) ∧ w = w') ∧ Hid (t = true ↔ a ≤ n ∧ n ≤ b) := by
  by_cases h1 : a ≤ n
  · have e1 : decide (a ≤ n) = true := decide_eq_true h1
    by_cases h2 : n ≤ b
    · have e2 : decide (n ≤ b) = true := decide_eq_true h2
      refine ⟨true, Lib.hid fun w => ?_, Lib.hid ⟨fun _ => ⟨h1, h2⟩, fun _ => rfl⟩⟩
      clear h1 h2
      go_enter Try.func52, Try.ntmps52
      go_wp2_with fail
      go_ret
      exact ⟨rfl, rfl⟩
    · have e2 : decide (n ≤ b) = false := decide_eq_false h2
      refine ⟨false, Lib.hid fun w => ?_, Lib.hid ⟨fun h => (by cases h), fun h => absurd h.2 h2⟩⟩
      clear h1 h2
      go_enter Try.func52, Try.ntmps52
      go_wp2_with fail
      go_ret
      exact ⟨rfl, rfl⟩
  · have e1 : decide (a ≤ n) = false := decide_eq_false h1
    refine ⟨false, Lib.hid fun w => ?_, Lib.hid ⟨fun h => (by cases h), fun h => absurd h.1 h1⟩⟩
    clear h1
    go_enter Try.func52, Try.ntmps52
    go_wp2_with fail
    go_ret
    exact ⟨rfl, rfl⟩
set_option maxRecDepth 100000 in
theorem level_at (n : Int) : ∃ t : Bool, Hid (∀ w, Calls Try.prog 38 #[.int .i64 n] w fun e w' => e = .returned (.bool t) ∧ w = w') ∧ Hid (t = true ↔ 0 ≤ n ∧ n ≤ 10) := by
  obtain ⟨t, H, E⟩ := in_at n 0 10
  refine ⟨t, Lib.hid fun w => ?_, E⟩
  clear E
  go_enter Try.func38, Try.ntmps38
  go_wp2_with fail
  refine (H.out _).mono ?_
  rintro e w' ⟨rfl, rfl⟩
  go_wp2_with fail
  go_ret
  exact ⟨rfl, rfl⟩
set_option maxRecDepth 100000 in
theorem kind_at (C : CM) (n : Int) : ∃ t : Bool, Hid (∀ w, Calls Try.prog 36 #[C.v, .int .i64 n] w fun e w' => e = .returned (.bool t) ∧ Hid (Below w.heap.size w w')) ∧ Hid (t = true ↔ 1 ≤ n ∧ n ≤ C.ty) := by
  obtain ⟨t, H, E⟩ := in_at n 1 C.ty
  refine ⟨t, Lib.hid fun w => ?_, E⟩
  clear E
  obtain ⟨V, X, hV, hX, HXB, HP⟩ := box_cat w C
  obtain ⟨k0, k1, k2, k3, k4, k5, k6, k7⟩ := HP.out X (Below.refl _ _)
  go_enter Try.func36, Try.ntmps36
  go_wp2_with fail
  clear hX hV
  refine (H.out _).mono ?_
  rintro e w' ⟨rfl, rfl⟩
  go_wp2_with fail
  go_ret
  exact ⟨rfl, HXB⟩
set_option maxRecDepth 100000 in
set_option maxHeartbeats 8000000 in
theorem runs_at (C : CM) (a : Option Addr) (m c : Nat) (rs : List Int) (w : World) (h : C.bs.length = C.bn) (hb : C.bn ≤ 20) (hl : rs.length = m) (hs : IRow w a rs) (hm : m ≤ 1000) :
    ∃ t : Bool, Hid (∀ W, Below w.heap.size w W → Calls Try.prog 37 #[C.v, .slice a m c] W fun e w' => e = .returned (.bool t) ∧ Hid (Below W.heap.size W w')) ∧ Hid (t = true ↔ RunsOk C.p rs) := by
  have HBN : Hid (C.p.bs.length = C.bn) := Lib.hid (by unfold CM.p; rw [List.length_map]; exact h)
  have HL := Lib.hid hl
  have HS := Lib.hid hs
  have hm1 : (m : Int) ≤ 1000 := by omega
  have hb1 : (C.bn : Int) ≤ 20 := by omega
  obtain ⟨t, ht⟩ : ∃ t : Bool, t = true ↔ RunsOk C.p rs := by
    by_cases hk : RunsOk C.p rs
    · exact ⟨true, fun _ => hk, fun _ => rfl⟩
    · exact ⟨false, fun h => (by cases h), fun h => absurd h hk⟩
  have HT := Lib.hid ht
  have HF : Hid (¬ RunsOk C.p rs → t = false) := Lib.hid fun hk => by
    cases t with
    | false => rfl
    | true => exact absurd (ht.1 rfl) hk
  refine ⟨t, Lib.hid fun W hW => ?_, HT⟩
  clear ht hs hl h hb
  obtain ⟨V, X, hV, hX, HXB, HP⟩ := box_cat W C
  have HNO : Hid (∀ Z, Below X.heap.size X Z → Below W.heap.size W Z) := Lib.hid fun Z hZ => below_then HXB.out hZ
  have HR := irow_at (HS.out.under (below_then hW HXB.out))
  obtain ⟨k0, k1, k2, k3, k4, k5, k6, k7⟩ := HP.out X (Below.refl _ _)
  clear hW HS
  by_cases c0 : m = C.bn
  case neg =>
    have d0 : ((m : Int) == (C.bn : Int)) = false := by simp; omega
    have d1 : ((m : Int) != (C.bn : Int)) = true := by simp; omega
    have HE := Lib.hid (HF.out fun h => c0 (by rw [← HL.out, h.1, HBN.out]))
    go_enter Try.func37, Try.ntmps37
    go_wp2_with fail
    clear hX hV
    go_ret
    exact ⟨by rw [HE.out]; rfl, Lib.hid (HNO.out _ (Below.refl _ _))⟩
  subst c0
  go_enter Try.func37, Try.ntmps37
  go_wp2_with fail
  clear hX hV
  go_loopw [15] (fun v wr => ∃ i : Nat, v = .int .i64 (i : Int) ∧ i ≤ C.bn ∧ X = wr ∧ Hid (∀ r ∈ rs.take i, 0 ≤ r ∧ r ≤ 1000)) (fun v _ => C.bn - (RowKit.intOf v).toNat)
  case atStart => exact ⟨0, rfl, by omega, rfl, Lib.hid (by simp)⟩
  case round =>
    obtain ⟨i, rfl, hi, rfl, HI⟩ := hrel
    have hi0 : (0 : Int) ≤ (i : Int) := by omega
    by_cases hlt : i < C.bn
    · have hlt2 : (i : Int) < (C.bn : Int) := by omega
      obtain ⟨g, off, x, rfl, ht, q0⟩ := HR.out X i (Below.refl _ _) (by rw [HL.out]; exact hlt)
      have wi : IntKind.i64.wrap ((i : Int) + 1) = (i : Int) + 1 := IntWalk.i64_in _ (by omega)
      obtain ⟨z, HZ, EZ⟩ := in_at x 0 1000
      rcases z with _ | _
      · have HE := Lib.hid (HF.out fun h => by have := EZ.out.2 (h.2 x (List.mem_of_getElem? ht.out)); cases this)
        go_wp2_with fail
        refine (HZ.out _).mono ?_
        rintro e w' ⟨rfl, rfl⟩
        go_wp2_with fail
        go_ret
        exact ⟨by rw [HE.out]; rfl, Lib.hid (HNO.out _ (Below.refl _ _))⟩
      · have HI2 : Hid (∀ r ∈ rs.take (i + 1), 0 ≤ r ∧ r ≤ 1000) := Lib.hid fun r hr => by
          rcases (Cat.mem_take_succ ht.out).1 hr with hr | rfl
          · exact HI.out r hr
          · exact EZ.out.1 rfl
        go_wp2_with fail
        refine (HZ.out _).mono ?_
        rintro e w' ⟨rfl, rfl⟩
        go_wp2_with fail
        go_roundw
        case rel => exact ⟨i + 1, by go_num, by omega, by first | rfl | trivial, HI2⟩
        case measure => simp [RowKit.intOf]; omega
    · obtain rfl : i = C.bn := by omega
      have hd1 : decide (C.bn < C.bn) = false := by simp
      have HE : Hid (t = true) := Lib.hid (HT.out.2 ⟨by rw [HL.out, HBN.out], by
        have := HI.out
        rw [List.take_of_length_le (by rw [HL.out]; exact Nat.le_refl _)] at this
        exact this⟩)
      go_wp2_with fail
      go_ret
      exact ⟨by rw [HE.out]; rfl, Lib.hid (HNO.out _ (Below.refl _ _))⟩
def AskOk (C : CM) (k n lv : Int) (hv : List St) : Prop := (1 ≤ k ∧ k ≤ C.ty) ∧ (1 ≤ n ∧ n ≤ 1125899906842624) ∧ (0 ≤ lv ∧ lv ≤ 10) ∧ Goods.Listed hv C.ty
set_option maxRecDepth 100000 in
set_option maxHeartbeats 8000000 in
theorem ask_at (C : CM) (k n lv : Int) (a : Option Addr) (m c : Nat) (hv : List St) (w : World) (hl : hv.length = m) (hs : Sts w a hv) (hm : m ≤ 1000) :
    ∃ t : Bool, Hid (∀ W, Below w.heap.size w W → Calls Try.prog 23 #[C.v, .int .i64 k, .int .i64 n, .int .i64 lv, .slice a m c] W fun e w' => e = .returned (.bool t) ∧ Hid (Below W.heap.size W w')) ∧ Hid (t = true ↔ AskOk C k n lv hv) := by
  obtain ⟨t1, H1, E1⟩ := kind_at C k
  obtain ⟨t2, H2, E2⟩ := in_at n 1 1125899906842624
  obtain ⟨t3, H3, E3⟩ := level_at lv
  obtain ⟨z, hz, EZ⟩ : ∃ z, Goods.chk hv C.ty = z ∧ Hid ((z = 0 ∧ Goods.Listed hv C.ty) ∨ (z = 1 ∧ ¬ Goods.Listed hv C.ty)) := by
    by_cases hk : Goods.Listed hv C.ty
    · exact ⟨0, Goods.chk_yes hk, Lib.hid (.inl ⟨rfl, hk⟩)⟩
    · exact ⟨1, Goods.chk_no hk, Lib.hid (.inr ⟨rfl, hk⟩)⟩
  have H4 : Hid (∀ W, Below w.heap.size w W → Calls Try.prog 53 #[.slice a m c, .int .i64 C.ty] W fun e w' => e = .returned (.int .i64 z) ∧ Hid (Below W.heap.size W w')) := Lib.hid fun W hW => by
    subst hz
    exact (Goods.Im.check_any a m c hv C.ty W hl (hs.under hW) (by omega)).mono fun _ _ ⟨e, h⟩ => ⟨e, Lib.hid h⟩
  clear hz hl hs hm
  rcases t1 with _ | _
  · refine ⟨false, Lib.hid fun W hW => ?_, Lib.hid ⟨fun h => (by cases h), fun h => E1.out.2 h.1⟩⟩
    obtain ⟨V, X, hV, hX, HXB, HP⟩ := box_cat W C
    have HX0 := HXB
    obtain ⟨k0, k1, k2, k3, k4, k5, k6, k7⟩ := HP.out X (Below.refl _ _)
    clear hW
    go_enter Try.func23, Try.ntmps23
    go_wp2_with fail
    clear hX hV
    refine (H1.out _).mono ?_
    rintro e w1 ⟨rfl, G1⟩
    go_wp2_with fail
    go_ret
    exact ⟨rfl, Lib.hid (below_then HX0.out G1.out)⟩
  rcases t2 with _ | _
  · refine ⟨false, Lib.hid fun W hW => ?_, Lib.hid ⟨fun h => (by cases h), fun h => E2.out.2 h.2.1⟩⟩
    obtain ⟨V, X, hV, hX, HXB, HP⟩ := box_cat W C
    have HX0 := HXB
    obtain ⟨k0, k1, k2, k3, k4, k5, k6, k7⟩ := HP.out X (Below.refl _ _)
    clear hW
    go_enter Try.func23, Try.ntmps23
    go_wp2_with fail
    clear hX hV
    refine (H1.out _).mono ?_
    rintro e w1 ⟨rfl, G1⟩
    go_wp2_with fail
    refine (H2.out _).mono ?_
    rintro e w2 ⟨rfl, rfl⟩
    go_wp2_with fail
    go_ret
    exact ⟨rfl, Lib.hid (below_then HX0.out G1.out)⟩
  rcases t3 with _ | _
  · refine ⟨false, Lib.hid fun W hW => ?_, Lib.hid ⟨fun h => (by cases h), fun h => E3.out.2 h.2.2.1⟩⟩
    obtain ⟨V, X, hV, hX, HXB, HP⟩ := box_cat W C
    have HX0 := HXB
    obtain ⟨k0, k1, k2, k3, k4, k5, k6, k7⟩ := HP.out X (Below.refl _ _)
    clear hW
    go_enter Try.func23, Try.ntmps23
    go_wp2_with fail
    clear hX hV
    refine (H1.out _).mono ?_
    rintro e w1 ⟨rfl, G1⟩
    go_wp2_with fail
    refine (H2.out _).mono ?_
    rintro e w2 ⟨rfl, rfl⟩
    go_wp2_with fail
    refine (H3.out _).mono ?_
    rintro e w2 ⟨rfl, rfl⟩
    go_wp2_with fail
    go_ret
    exact ⟨rfl, Lib.hid (below_then HX0.out G1.out)⟩
  have HEND : Hid ((z = 0 ∧ Goods.Listed hv C.ty) ∨ (z = 1 ∧ ¬ Goods.Listed hv C.ty)) := EZ
  have HGO : Hid (∀ (t : Bool), (z == 0) = t → ∀ W, Below w.heap.size w W → Calls Try.prog 23 #[C.v, .int .i64 k, .int .i64 n, .int .i64 lv, .slice a m c] W fun e w' => e = .returned (.bool t) ∧ Hid (Below W.heap.size W w')) := Lib.hid fun t ht W hW => by
    obtain ⟨V, X, hV, hX, HXB, HP⟩ := box_cat W C
    have HX0 := HXB
    have HW0 := Lib.hid hW
    have HPE : Hid (∀ W, Below X.heap.size X W → W.cell? ⟨V, 0, none⟩ = some (.int .i64 C.ty)) := Lib.hid fun W hW => (HP.out W hW).1
    obtain ⟨k0, k1, k2, k3, k4, k5, k6, k7⟩ := HP.out X (Below.refl _ _)
    clear hW EZ HEND
    go_enter Try.func23, Try.ntmps23
    go_wp2_with fail
    clear hX hV
    refine (H1.out _).mono ?_
    rintro e w1 ⟨rfl, G1⟩
    clear k0 k1 k2 k3 k4 k5 k6 k7
    have k0 := HPE.out w1 G1.out
    go_wp2_with fail
    refine (H2.out _).mono ?_
    rintro e w2 ⟨rfl, rfl⟩
    go_wp2_with fail
    refine (H3.out _).mono ?_
    rintro e w2 ⟨rfl, rfl⟩
    go_wp2_with fail
    refine (H4.out _ (below_then HW0.out (below_then HX0.out G1.out))).mono ?_
    rintro e w2 ⟨rfl, G2⟩
    go_wp2_with fail
    go_ret
    exact ⟨by first | rfl | rw [ht] | simp [ht], Lib.hid (below_then (below_then HX0.out G1.out) G2.out)⟩
  rcases EZ.out with ⟨rfl, hL⟩ | ⟨rfl, hL⟩
  · exact ⟨true, Lib.hid fun W hW => HGO.out true rfl W hW, Lib.hid ⟨fun _ => ⟨E1.out.1 rfl, E2.out.1 rfl, E3.out.1 rfl, hL⟩, fun _ => rfl⟩⟩
  · exact ⟨false, Lib.hid fun W hW => HGO.out false rfl W hW, Lib.hid ⟨fun h => (by cases h), fun h => absurd h.2.2.2 hL⟩⟩
theorem chk_ord {C : Cat} (h : Cat.chkC C = 0) : Graph.ordE C.ty (Cat.ndL C.bs) = 0 := Classical.byContradiction fun h2 => by
  have hk := Cat.chk_zero h
  rw [Cat.chk_err hk h2] at h
  exact h2 h
set_option maxRecDepth 100000 in
set_option maxHeartbeats 8000000 in
theorem order_of (C : CM) (w : World) (h : CatAt w C) (hl : Lim C) :
    Calls Try.prog 22 #[C.v] w fun e w' => ∃ a n c, e = .returned (.tuple #[.slice a n c, .int .i64 (Cat.chkC C.p)]) ∧ Hid ((Cat.chkC C.p = 0 → (Graph.ordV C.ty (Cat.ndL C.p.bs)).length = n ∧ KS w' w.heap.size (.slice a n c) (Graph.ordV C.ty (Cat.ndL C.p.bs))) ∧ Below w.heap.size w w') := by
  obtain ⟨V, X, hV, hX, HXB, HP⟩ := box_cat w C
  have HCE : Hid (∀ W, Below X.heap.size X W → W.cell? ⟨V, 0, none⟩ = some (.int .i64 C.ty) ∧ W.cell? ⟨V, 1, none⟩ = some (.slice C.ba C.bn C.bc) ∧ W.cell? ⟨V, 2, none⟩ = some (.int .i64 C.pl) ∧ W.cell? ⟨V, 3, none⟩ = some (.slice C.ya C.yn C.yc) ∧ W.cell? ⟨V, 4, none⟩ = some (.int .i64 C.ch) ∧ W.cell? ⟨V, 5, none⟩ = some (.int .i64 C.f.broker) ∧ W.cell? ⟨V, 6, none⟩ = some (.int .i64 C.f.least) ∧ W.cell? ⟨V, 7, none⟩ = some (.int .i64 C.f.sales)) := Lib.hid fun W hW => HP.out W hW
  obtain ⟨k0, k1, k2, k3, k4, k5, k6, k7⟩ := HCE.out X (Below.refl _ _)
  obtain ⟨er, her⟩ : ∃ er, Cat.chkC C.p = er := ⟨_, rfl⟩
  have HC : Hid (Calls Try.prog 43 #[.agg #[.int .i64 C.ty, .slice C.ba C.bn C.bc, .int .i64 C.pl, .slice C.ya C.yn C.yc, .int .i64 C.ch, .int .i64 C.f.broker, .int .i64 C.f.least, .int .i64 C.f.sales]] X fun e w' => e = .returned (.int .i64 er) ∧ Hid (Below X.heap.size X w')) := Lib.hid (by
    rw [← her]
    exact (Cat.Im.check_im C X (h.under HXB.out) hl).mono fun _ _ ⟨e, h⟩ => ⟨e, Lib.hid h⟩)
  obtain ⟨NL, hNL⟩ : ∃ NL, Cat.ndL C.p.bs = NL := ⟨_, rfl⟩
  obtain ⟨O, hO⟩ : ∃ O, Graph.ordV C.ty NL = O := ⟨_, rfl⟩
  have HNE : Hid (∀ W, Below X.heap.size X W → Calls Try.prog 51 #[.agg #[.int .i64 C.ty, .slice C.ba C.bn C.bc, .int .i64 C.pl, .slice C.ya C.yn C.yc, .int .i64 C.ch, .int .i64 C.f.broker, .int .i64 C.f.least, .int .i64 C.f.sales]] W fun e w' => ∃ a n c, e = .returned (.slice a n c) ∧ Hid ((NL.length = n ∧ n ≤ 240 ∧ Nds w' a NL) ∧ Below X.heap.size X w')) := Lib.hid fun W hW => by
    refine (Cat.Im.needs_im C W ((h.under HXB.out).under hW) hl).mono ?_
    rintro e w' ⟨a, n, c, rfl, H⟩
    rw [hNL] at H
    exact ⟨a, n, c, rfl, Lib.hid ⟨⟨H.out.1, H.out.2.1, (Graph.nds_own H.out.2.2.1).2⟩, below_then hW H.out.2.2.2⟩⟩
  have HOR : Hid (er = 0 → ∀ W a n c, Below X.heap.size X W → (NL.length = n ∧ n ≤ 240 ∧ Nds W a NL) → Calls Try.prog 50 #[.int .i64 C.ty, .slice a n c] W fun e w' => ∃ a' m' c', e = .returned (.tuple #[.slice a' m' c', .int .i64 0]) ∧ Hid ((O.length = m' ∧ KS w' w.heap.size (.slice a' m' c') O) ∧ Below X.heap.size X w')) := Lib.hid fun hz W a n c hW hn => by
    have := Graph.Im.order_im C.ty a n c NL W hn.1 hn.2.2 (by omega)
    have ho : Graph.ordE C.ty NL = 0 := by rw [← hNL]; exact chk_ord (her.trans hz)
    rw [ho, hO] at this
    refine this.mono ?_
    rintro e w' ⟨a', m', c', rfl, H⟩
    exact ⟨_, m', c', rfl, Lib.hid ⟨⟨H.out.1, World.ownsRow.mono H.out.2.1 (below_then HXB.out hW).size⟩, below_then hW H.out.2.2⟩⟩
  have HNO : Hid (∀ W, Below X.heap.size X W → Below w.heap.size w W) := Lib.hid fun W hW => below_then HXB.out hW
  rw [her, hNL, hO]
  clear h hl hNL hO her
  by_cases he : er = 0
  case neg =>
    have n1 : (er == 0) = false := by simpa using he
    have n2 : (er != 0) = true := by simpa using he
    have HE := Lib.hid he
    go_enter Try.func22, Try.ntmps22
    go_wp2_with fail
    clear hX hV
    refine HC.out.mono ?_
    rintro e w1 ⟨rfl, H1⟩
    go_wp2_with fail
    go_ret2
    exact ⟨none, 0, 0, rfl, Lib.hid ⟨fun h => absurd h HE.out, HNO.out _ H1.out⟩⟩
  subst he
  have HO2 := Lib.hid (HOR.out rfl)
  clear HOR
  go_enter Try.func22, Try.ntmps22
  go_wp2_with fail
  clear hX hV
  refine HC.out.mono ?_
  rintro e w1 ⟨rfl, H1⟩
  clear k0 k1 k2 k3 k4 k5 k6 k7
  have HD0 : Hid (Below X.heap.size X w1.drew) := Lib.hid H1.out.drew
  go_wp2_with fail
  go_region_held3 (fun W => W.cell? ⟨V, 0, none⟩ = some (.int .i64 C.ty) ∧ W.cell? ⟨V, 1, none⟩ = some (.slice C.ba C.bn C.bc) ∧ W.cell? ⟨V, 2, none⟩ = some (.int .i64 C.pl) ∧ W.cell? ⟨V, 3, none⟩ = some (.slice C.ya C.yn C.yc) ∧ W.cell? ⟨V, 4, none⟩ = some (.int .i64 C.ch) ∧ W.cell? ⟨V, 5, none⟩ = some (.int .i64 C.f.broker) ∧ W.cell? ⟨V, 6, none⟩ = some (.int .i64 C.f.least) ∧ W.cell? ⟨V, 7, none⟩ = some (.int .i64 C.f.sales))
    (first | exact HCE.out _ HD0.out | exact HCE.out _ N6.out.2 | exact HCE.out _ N7.out.2)
    (first
      | (go_at_call 51; refine (HNE.out _ HD0.out).mono ?_; rintro e w6 ⟨a6, n6, c6, rfl, N6⟩)
      | (go_at_call 50; refine (HO2.out _ _ _ _ N6.out.2 N6.out.1).mono ?_; rintro e w7 ⟨a7, n7, c7, rfl, N7⟩))
  all_goals
    go_wp2_with fail
    go_ret2
    exact ⟨a7, n7, c7, rfl, Lib.hid ⟨fun _ => N7.out.1, HNO.out _ N7.out.2⟩⟩
end Go.Proofs.Ytohlkaoophbinaa.Bom.Im
namespace Go.Proofs.Ytohlkaoophbinaa.Bom.Im
open Go.RowKit Go.Lib IRows
open Goods (St Sts OwnS cnt)

theorem info33 : (Try.prog.info? 62).map (fun i => (i.zero, i.size)) = some (some (.agg (Array.replicate 33 (.int .i64 0))), 33) := by kernel_rfl
/-- A row of 33 numbers as a value. -/
def rowL (f : Int → Int) : List Value := (List.range 33).map fun i => Value.int .i64 (f ((i : Nat) : Int))
theorem rowL_len (f : Int → Int) : (rowL f).length = 33 := by simp [rowL]
theorem rowL_at (f : Int → Int) {i : Nat} (h : i < 33) : (rowL f)[i]? = some (.int .i64 (f (i : Int))) := by simp [rowL, h]
theorem rowL_one (f : Int → Int) : ∀ v ∈ rowL f, v.oneCell' = true := fun v hv => by
  simp [rowL] at hv
  obtain ⟨i, _, rfl⟩ := hv
  rfl
theorem rowL_get {f : Int → Int} {j : Nat} {v : Value} (h : (rowL f)[j]? = some v) : j < 33 ∧ v = .int .i64 (f (j : Int)) := by
  have hlt := (List.getElem?_eq_some_iff.1 h).1
  rw [rowL_len] at hlt
  rw [rowL_at f hlt] at h
  injection h with h
  exact ⟨hlt, h.symm⟩
theorem rowL_congr {f g : Int → Int} (h : ∀ i : Nat, i < 33 → f (i : Int) = g (i : Int)) : rowL f = rowL g := by
  unfold rowL
  refine List.map_congr_left fun i hi => ?_
  rw [h i (List.mem_range.1 hi)]
/-- A row of 33 numbers of the call's own, from a place on. -/
def RI (W : World) (A o : Nat) (f : Int → Int) : Prop := ∀ i : Nat, i < 33 → W.cell? ⟨A, o + i, none⟩ = some (.int .i64 (f (i : Int))) ∧ W.frozen? ⟨A, o + i, none⟩ = false
theorem RI.same {W W' : World} {A o : Nat} {f : Int → Int} (h : RI W A o f) (hb : W'.heap[A]? = W.heap[A]?) : RI W' A o f := fun i hi => by
  obtain ⟨h1, h2⟩ := h i hi
  exact ⟨(World.cell?_of_block hb).trans h1, (World.frozen?_of_block hb).trans h2⟩
theorem RI.under {W W' : World} {A o : Nat} {f : Int → Int} (h : RI W A o f) (hA : A < W.heap.size) (hb : Below W.heap.size W W') : RI W' A o f := h.same (hb.block A hA)
theorem RI.range {W : World} {A o : Nat} {f : Int → Int} (h : RI W A o f) : W.rangeAt A o (rowL f) := fun j v hj => by
  obtain ⟨h1, h2⟩ := rowL_get hj
  rw [h2]
  exact (h j h1).1
theorem RI.there {W : World} {A o : Nat} {f : Int → Int} (h : RI W A o f) : W.there A o 33 := fun j hj => ⟨by rw [(h j hj).1]; rfl, (h j hj).2⟩
theorem RI.congr {W : World} {A o : Nat} {f g : Int → Int} (h : RI W A o f) (e : ∀ i : Nat, i < 33 → f (i : Int) = g (i : Int)) : RI W A o g := fun i hi => by
  rw [← e i hi]
  exact h i hi
theorem RI.set {W : World} {A o : Nat} {f : Int → Int} (h : RI W A o f) (k : Nat) (v : Int) : RI (W.setCell ⟨A, o + k, none⟩ (.int .i64 v)) A o (upd f (k : Int) v) := fun i hi => by
  rw [World.frozen?_setCell]
  refine ⟨?_, (h i hi).2⟩
  by_cases e : i = k
  · subst e
    rw [upd_same, World.cell?_setCell_same (h := (h i hi).1)]
  · rw [upd_other _ _ (by omega), World.cell?_setCell_other (h := addr_ne (.inr (by omega)))]
    exact (h i hi).1
theorem RI.other {W : World} {A o : Nat} {f : Int → Int} (h : RI W A o f) (B j : Nat) (v : Value) (hn : B ≠ A ∨ j < o ∨ o + 33 ≤ j) : RI (W.setCell ⟨B, j, none⟩ v) A o f := fun i hi => by
  rw [World.frozen?_setCell, World.cell?_setCell_other (h := addr_ne (by omega))]
  exact h i hi
theorem RI.store {W : World} {A o : Nat} (h : W.there A o 33) (f : Int → Int) : RI (W.setCells A o (rowL f)) A o f := fun i hi => by
  have h1 := World.rangeAt_setCells_same W A o (rowL f) (by rw [rowL_len]; exact h)
  refine ⟨h1 i _ (rowL_at f hi), ?_⟩
  rw [World.frozen?_setCells]
  exact (h i hi).2
theorem setCells_other : ∀ (vs : List Value) (W : World) (A o k : Nat), k ≠ A → (W.setCells A o vs).heap[k]? = W.heap[k]?
  | [], _, _, _, _, _ => rfl
  | v :: vs, W, A, o, k, h => by
    rw [World.setCells, setCells_other vs _ A (o + 1) k h]
    exact heap_setCell_other W ⟨A, o, none⟩ k v h
theorem setCells_below : ∀ (vs : List Value) (W : World) (A o B : Nat), B ≤ A → Below B W (W.setCells A o vs)
  | [], W, _, _, B, _ => Below.refl B W
  | v :: vs, W, A, o, B, h => by
    rw [World.setCells]
    exact ((Below.refl B W).setCell (p := ⟨A, o, none⟩) h v).trans (setCells_below vs _ A (o + 1) B h)
theorem RI.apart {W : World} {A o : Nat} {f : Int → Int} (h : RI W A o f) (B j : Nat) (vs : List Value) (hn : B ≠ A) : RI (W.setCells B j vs) A o f := h.same (setCells_other vs W B j A (Ne.symm hn))
theorem size33 : (Try.prog.info? 62).map (·.size) = some 33 := (zero_of_info info33).2
/-- A new row: nothing of each. -/
theorem box33 (w : World) (Z : Array Value) (hZ : Array.replicate 33 (.int .i64 0) = Z) (T : TypeId) : ∃ B Y, w.heap.size = B ∧ w.alloc (.cells Z T) = Y ∧ Hid (Below w.heap.size w Y ∧ Y.heap.size = B + 1 ∧ RI Y B 0 (fun _ => 0)) := by
  have hb := heap_alloc_new w (.cells Z T)
  refine ⟨_, _, rfl, rfl, Lib.hid ⟨(Below.refl _ _).alloc (Nat.le_refl _) _, by simp, fun i hi => ?_⟩⟩
  rw [Nat.zero_add]
  exact ⟨cell_block hb (by rw [← hZ, Array.getElem?_replicate, if_pos hi]), free_block i hb⟩
/-- A row as it is handed in. -/
theorem box_rw (w : World) (f : Int → Int) (cs : List Value) (hc : rowL f = cs) (T : TypeId) : ∃ B Y, w.heap.size = B ∧ w.alloc (.cells cs.toArray T) = Y ∧ Hid (Below w.heap.size w Y ∧ Y.heap.size = B + 1 ∧ RI Y B 0 f) := by
  have hb := heap_alloc_new w (.cells cs.toArray T)
  refine ⟨_, _, rfl, rfl, Lib.hid ⟨(Below.refl _ _).alloc (Nat.le_refl _) _, by simp, fun i hi => ?_⟩⟩
  rw [Nat.zero_add]
  exact ⟨cell_block hb (by rw [← hc]; simp [rowL_at f hi]), free_block i hb⟩
theorem ret_row {fn : Func} {R : Ending → World → Prop} {a : Act} {w : World} {p : Tmp} {g : Nat} {f : Int → Int} (h : fn.results = #[.cell p 62]) (hd : a.defers = [])
    (ht : a.tmps.getD p undef = .pointer (some ⟨g, 0, none⟩)) (hb : RI w g 0 f) (hR : R (.returned (.agg (rowL f).toArray)) w) : bodyPost Try.prog fn R .ret a w := by
  refine bodyPost_ret (v := .agg (rowL f).toArray) ?_ hd hR
  have hp : a.tmps[p]?.getD undef = .pointer (some ⟨g, 0, none⟩) := by simpa using ht
  simp [results, h, hp, asAddr, run_loadVar_mid (P := Try.prog) w g 0 62 (rowL f) _ hb.range Try.underlying62 rfl (by rw [rowL_len]; exact size33)]
theorem cnt_upd {l : List St} {i : Nat} {t : St} (hn : (l.map St.kind).Nodup) (ht : l[i]? = some t) (x : Int) : cnt (l.take (i + 1)) x = upd (cnt (l.take i)) t.kind t.qty x := by
  rw [Goods.cnt_take_succ ht]
  by_cases e : x = t.kind
  · subst e
    rw [upd_same, if_pos rfl, Goods.cnt_none fun s hs e => ?_]
    · omega
    · have h1 : l = l.take i ++ t :: l.drop (i + 1) := take_split ht
      rw [h1, List.map_append, List.map_cons] at hn
      exact (List.nodup_append.1 hn).2.2 s.kind (List.mem_map.2 ⟨s, hs, rfl⟩) t.kind (List.mem_cons_self ..) e
  · rw [upd_other _ _ e, if_neg (fun h => e h.symm)]
    omega
theorem norm_nodup {l : List St} (h : Goods.Norm l) : (l.map St.kind).Nodup := by
  unfold List.Nodup
  rw [List.pairwise_map]
  exact h.1.imp fun {a b} h => by omega
theorem listed_norm {l : List St} {ty : Int} (h : Goods.Listed l ty) : Goods.Norm l := (Goods.Im.listed_iff.1 h).2.1
set_option maxRecDepth 100000 in
set_option maxHeartbeats 4000000 in
theorem count_im (a : Option Addr) (m c : Nat) (hv : List St) (ty : Int) (w : World) (hl : hv.length = m) (hs : Sts w a hv) (hL : Goods.Listed hv ty) (hty : ty ≤ 32) :
    Calls Try.prog 24 #[.slice a m c] w fun e w' => e = .returned (.agg (rowL (cnt hv)).toArray) ∧ Hid (Below w.heap.size w w') := by
  have hz := (zero_of_info info33).1
  obtain ⟨Z, hZ⟩ : ∃ Z, (Array.replicate 33 (.int .i64 0) : Array Value) = Z := ⟨_, rfl⟩
  rw [hZ] at hz
  have hZs : Z.size = 33 := by rw [← hZ]; exact Array.size_replicate
  have hZn : ¬ Z = #[] := fun e => by rw [e] at hZs; cases hZs
  obtain ⟨G, W1, hG, hW1, H1⟩ := box33 w Z hZ 62
  obtain ⟨A, W2, hA, hW2, H2⟩ := box33 W1 Z hZ 62
  have HSZ : Hid (w.heap.size = G ∧ A = G + 1 ∧ W2.heap.size = G + 2) := Lib.hid ⟨hG, by have := H1.out.2.1; omega, by have := H1.out.2.1; have := H2.out.2.1; omega⟩
  have HB2 : Hid (Below w.heap.size w W2) := Lib.hid (below_then H1.out.1 H2.out.1)
  have HG2 : Hid (RI W2 G 0 (fun _ => 0)) := Lib.hid (H1.out.2.2.under (by have := H1.out.2.1; omega) H2.out.1)
  have HT := Goods.sts_at hs
  have HL := Lib.hid hl
  have HN := Lib.hid (norm_nodup (listed_norm hL))
  have HK := Lib.hid (kind_listed hL)
  have hm : (m : Int) ≤ 8 := by have := hL.1; omega
  have HTY := Lib.hid hty
  clear hZ hl hs hL hty
  go_enter Try.func24, Try.ntmps24
  go_wp2_with fail
  clear hW1 hW2 hG hA hz
  go_loopw [8] (fun v wr => ∃ i : Nat, v = .int .i64 (i : Int) ∧ i ≤ m ∧ Hid (Below w.heap.size w wr ∧ G + 2 ≤ wr.heap.size ∧ RI wr G 0 (fun _ => 0) ∧ RI wr A 0 (cnt (hv.take i)))) (fun v _ => m - (RowKit.intOf v).toNat)
  case atStart => exact ⟨0, rfl, by omega, Lib.hid ⟨HB2.out, by have := HSZ.out; omega, HG2.out, H2.out.2.2⟩⟩
  case round =>
    obtain ⟨i, rfl, hi, HI⟩ := hrel
    have hi0 : (0 : Int) ≤ (i : Int) := by omega
    by_cases hlt : i < m
    · have hlt2 : (i : Int) < (m : Int) := by omega
      obtain ⟨g, off, t, rfl, ht, q0, q1⟩ := HT.out wr i HI.out.1 (by rw [HL.out]; exact hlt)
      obtain ⟨U, Y, hU, hY, u0, u1, HU⟩ := Cat.Im.box_st wr t
      have wi : IntKind.i64.wrap ((i : Int) + 1) = (i : Int) + 1 := IntWalk.i64_in _ (by omega)
      have hkk := HK.out t (List.mem_of_getElem? ht.out)
      obtain ⟨p, hp⟩ := Int.eq_ofNat_of_zero_le (show 0 ≤ t.kind by omega)
      have HP : Hid (t.kind = (p : Int) ∧ p < 33) := Lib.hid ⟨hp, by have := HTY.out; omega⟩
      have hp0 : (0 : Int) ≤ (p : Int) := by omega
      have hp33 : (p : Int) < 33 := by have := HP.out.2; omega
      have HY2 : Hid (Below w.heap.size w Y ∧ G + 2 ≤ Y.heap.size ∧ RI Y G 0 (fun _ => 0) ∧ RI Y A 0 (cnt (hv.take i))) := Lib.hid ⟨below_then HI.out.1 HU.out, Nat.le_trans HI.out.2.1 HU.out.size, HI.out.2.2.1.under (by have := HI.out.2.1; omega) HU.out, HI.out.2.2.2.under (by have := HI.out.2.1; have := HSZ.out; omega) HU.out⟩
      obtain ⟨x0, x1⟩ := HY2.out.2.2.2 p HP.out.2
      rw [Nat.zero_add] at x0 x1
      rw [hp] at q0 u0 hY
      obtain ⟨v, hv2⟩ : ∃ v, cnt (hv.take i) (p : Int) = v := ⟨_, rfl⟩
      rw [hv2] at x0
      have HST : Hid (Below w.heap.size w (Y.setCell ⟨A, p, none⟩ (.int .i64 t.qty)) ∧ G + 2 ≤ (Y.setCell ⟨A, p, none⟩ (.int .i64 t.qty)).heap.size ∧ RI (Y.setCell ⟨A, p, none⟩ (.int .i64 t.qty)) G 0 (fun _ => 0) ∧ RI (Y.setCell ⟨A, p, none⟩ (.int .i64 t.qty)) A 0 (cnt (hv.take (i + 1)))) := Lib.hid (by
        have hsz := HSZ.out
        have h1 := HY2.out
        refine ⟨h1.1.setCell (p := ⟨A, p, none⟩) (by show w.heap.size ≤ A; omega) _, by simp [World.setCell]; exact h1.2.1, h1.2.2.1.other A p _ (.inl (by omega)), ?_⟩
        have h2 := h1.2.2.2.set p t.qty
        rw [Nat.zero_add] at h2
        refine h2.congr fun x _ => ?_
        rw [cnt_upd HN.out ht.out, ← HP.out.1])
      clear hp hkk hv2
      go_wp2_with fail
      clear hY hU
      go_roundw
      case rel => exact ⟨i + 1, by go_num, by omega, HST⟩
      case measure => simp [RowKit.intOf]; omega
    · obtain rfl : i = m := by omega
      have hd1 : decide (i < i) = false := by simp
      have HR : Hid (RI wr A 0 (cnt hv)) := Lib.hid (by
        have := HI.out.2.2.2
        rw [List.take_of_length_le (by rw [HL.out]; exact Nat.le_refl _)] at this
        exact this)
      obtain ⟨cs, hcs⟩ : ∃ cs, rowL (cnt hv) = cs := ⟨_, rfl⟩
      have hrng : wr.rangeAt A 0 cs := by rw [← hcs]; exact HR.out.range
      have hlen : cs.length = 33 := by rw [← hcs]; exact rowL_len _
      have hsz1 : (Try.prog.info? 62).map (·.size) = some cs.length := by rw [hlen]; exact size33
      have hsz2 : (Try.prog.info? 62).map (·.size) = some cs.toArray.size := by rw [List.size_toArray]; exact hsz1
      have hth : wr.there G 0 cs.toArray.size := by rw [List.size_toArray, hlen]; exact HI.out.2.2.1.there
      have hone : cs.toArray.all (·.oneCell') = true := all_oneCell_toArray (by rw [← hcs]; exact rowL_one _)
      have HEND : Hid (RI (wr.setCells G 0 cs.toArray.toList) G 0 (cnt hv) ∧ Below w.heap.size w (wr.setCells G 0 cs.toArray.toList)) := Lib.hid (by
        rw [← hcs]
        exact ⟨RI.store HI.out.2.2.1.there _, HI.out.1.trans (setCells_below _ _ _ _ _ (by have := HSZ.out; omega))⟩)
      have HCS := Lib.hid hcs
      clear hcs hlen
      go_wp2_with (first
        | (refine wpList_load_mid rfl 62 _ rfl A 0 rfl cs _ hrng Try.underlying62 rfl hsz1 ?_)
        | (refine wpList_store_mid rfl 62 _ _ rfl G 0 cs.toArray rfl rfl hth hsz2 hone ?_))
      exact ret_row rfl rfl rfl HEND.out.1 ⟨rfl, Lib.hid HEND.out.2⟩
end Go.Proofs.Ytohlkaoophbinaa.Bom.Im
