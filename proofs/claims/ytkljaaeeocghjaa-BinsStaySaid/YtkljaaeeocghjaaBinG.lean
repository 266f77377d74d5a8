/- The document's Of, Same. -/
import Derived.Test.YtkljaaeeocghjaaBinE
namespace Go.Proofs.Ytkljaaeeocghjaa.Bins
open Go.RowKit Go.Lib
open Goods (St Sts OwnS)

theorem of_length (l : List Lt) (x : Bn) : ∀ j, (ofTo l x j).length ≤ j
  | 0 => Nat.le_refl _
  | j + 1 => by
    have := of_length l x j
    unfold ofTo
    rw [List.length_append]
    split <;> simp <;> omega
/-- One more stack at a row's end. -/
theorem app1s (W : World) {B : Nat} {a : Option Addr} {m c : Nat} {o : List St} (t : St) (h : OwnS W B (.slice a m c) o) (hm : m ≤ 1048576) (hB : B ≤ W.heap.size) :
    ∃ a' c' W', Hid ((Builtin.append_ #[35, 35] 35 #[.slice a m c, .slice (some ⟨W.heap.size, 0, none⟩) 1 1]).run Try.prog (W.alloc (.cells #[.int .i64 t.kind, .int .i64 t.qty] 54)) = .ok (.slice a' (m + 1) c') W') ∧ OwnS W' B (.slice a' (m + 1) c') (o ++ [t]) ∧ Below B W W' := by
  have hl : o.length = m := by
    obtain ⟨a', c', e, _⟩ := Goods.rowS h
    injection e with _ e2 _
    exact e2.symm
  have hA : Below B W (W.alloc (.cells #[.int .i64 t.kind, .int .i64 t.qty] 54)) := (Below.refl B W).alloc hB _
  obtain ⟨v2, W3, r2, o2, b2⟩ := Goods.app_st (W.alloc (.cells #[.int .i64 t.kind, .int .i64 t.qty] 54)) B _ o [t] (h.alloc _) (some ⟨W.heap.size, 0, none⟩) 1 1 rfl (fun j u hj => ⟨_, rfl, by
    have hblk := heap_alloc_new W (.cells #[.int .i64 t.kind, .int .i64 t.qty] 54)
    rw [addr_add, Nat.zero_add]
    refine cell_block (j := j) hblk ?_
    rw [← Array.getElem?_toList]
    exact hj⟩) (by simp; omega) (Nat.le_trans hB hA.size)
  obtain ⟨a2, c2, rfl, _⟩ := Goods.rowS o2
  have e : (o ++ [t]).length = m + 1 := by simp [hl]
  rw [e] at r2 o2
  exact ⟨a2, c2, W3, Lib.hid r2, by rw [e] at *; exact o2, below_cat hA b2⟩
theorem stk_own {w : World} {B : Nat} {a : Option Addr} {n c : Nat} {l : List St} (h : OwnS w B (.slice a n c) l) : l.length = n ∧ Sts w a l := by
  obtain ⟨a', c', e, h1⟩ := Goods.sts_own h
  injection e with e1 e2 _
  subst e1
  exact ⟨e2.symm, h1⟩
set_option maxRecDepth 100000 in
set_option maxHeartbeats 4000000 in
theorem dof {a : Option Addr} {n c : Nat} {l : List Lt} (x : Bn) (w : World) (h : Lots w a l) (hl : l.length = n) (hn : n ≤ 4096) (_ : Good l) :
    Calls Try.prog 21 #[.slice a n c, bV x] w fun e w' => ∃ a' m' c', e = .returned (.slice a' m' c') ∧ Hid (OwnS w' w.heap.size (.slice a' m' c') (ofL l x) ∧ Below w.heap.size w w') := by
  obtain ⟨V, X, hV, hX, HP⟩ := box_bin w x
  have HXB : Hid (Below w.heap.size w X) := Lib.hid (by rw [← hX]; exact (Below.refl _ w).alloc (Nat.le_refl _) _)
  have HW : Hid (∀ W k, Below X.heap.size X W → Calls Try.prog 44 #[bV x, .int .i64 k] W fun e w' => e = .returned (bV (withB x k)) ∧ Hid (Below X.heap.size X w' ∧ Below W.heap.size W w')) := Lib.hid (fun W k hW => (dwith x k W).mono fun _ _ ⟨e, h⟩ => ⟨e, Lib.hid ⟨below_then hW h, h⟩⟩)
  have HQ : Hid (∀ W y z, Below X.heap.size X W → qty l y = z → Calls Try.prog 16 #[.slice a n c, bV y] W fun e w' => e = .returned (.int .i64 z) ∧ Hid (Below X.heap.size X w' ∧ Below W.heap.size W w')) := Lib.hid (fun W y z hW hz => by
    subst hz
    exact (dqty y W (h.under (below_then HXB.out hW)) hl hn).mono fun _ _ ⟨e, h⟩ => ⟨e, Lib.hid ⟨below_then hW h, h⟩⟩)
  have H0 : Hid (OwnS X X.heap.size (.slice none 0 0) []) := Lib.hid (World.ownsRow_nil X X.heap.size 54 2)
  clear h hl hn
  go_enter Try.func21, Try.ntmps21
  go_wp2_with fail
  clear hX hV
  go_loopw [5, 6] (fun s t wr => ∃ (j : Nat) (b : Option Addr) (m k : Nat), s = .slice b m k ∧ t = .int .i64 ((j : Int) + 1) ∧ j ≤ 32 ∧ m ≤ j ∧ Hid (OwnS wr X.heap.size (.slice b m k) (ofTo l x j)) ∧ Hid (Below X.heap.size X wr)) (fun _ t _ => 33 - (RowKit.intOf t).toNat)
  case atStart => exact ⟨0, none, 0, 0, rfl, rfl, by omega, by omega, H0, Lib.hid (Below.refl _ _)⟩
  case round =>
    clear H0
    obtain ⟨j, b, m, k, rfl, rfl, hj, hmj, HO, HB⟩ := hrel
    obtain ⟨⟨b0, b1, b2, b3⟩, HBW⟩ := HP.out wr HB.out
    by_cases hlt : j < 32
    · have d1 : decide ((j : Int) + 1 ≤ 32) = true := decide_eq_true (by omega)
      obtain ⟨y, hy⟩ : ∃ y, qty l (withB x ((j + 1 : Nat) : Int)) = y := ⟨_, rfl⟩
      have hcast : ((j + 1 : Nat) : Int) = (j : Int) + 1 := by omega
      have HQ2 : Hid (∀ W, Below X.heap.size X W → Calls Try.prog 16 #[.slice a n c, bV (withB x ((j : Int) + 1))] W fun e w' => e = .returned (.int .i64 y) ∧ Hid (Below X.heap.size X w' ∧ Below W.heap.size W w')) := Lib.hid (fun W hW => HQ.out W _ y hW (by rw [← hcast]; exact hy))
      have hof : ofTo l x (j + 1) = ofTo l x j ++ if 0 < y then [⟨((j + 1 : Nat) : Int), y⟩] else [] := by rw [← hy]; rfl
      rw [hcast] at hof
      clear hy hcast
      have wj : IntKind.i64.wrap ((j : Int) + 1 + 1) = (j : Int) + 1 + 1 := IntWalk.i64_in _ (by omega)
      by_cases hy0 : 0 < y
      · rw [if_pos hy0] at hof
        have d2 : decide (0 < y) = true := decide_eq_true hy0
        have HOF := Lib.hid hof
        clear hof hy0
        go_wp2_with fail
        refine (HW.out wr ((j : Int) + 1) HB.out).mono ?_
        rintro e w1 ⟨rfl, H1⟩
        go_wp2_with fail
        refine (HQ2.out w1 H1.out.1).mono ?_
        rintro e w2 ⟨rfl, H2⟩
        obtain ⟨a3, c3, W3, HR3, ho3, h3⟩ := app1s w2 (B := X.heap.size) ⟨(j : Int) + 1, y⟩ (Goods.own_under (Goods.own_under HO.out H1.out.2) H2.out.2) (by omega) H2.out.1.size
        have HO3 : Hid (OwnS W3 X.heap.size (.slice a3 (m + 1) c3) (ofTo l x (j + 1))) := Lib.hid (by rw [HOF.out]; exact ho3)
        have HB3 : Hid (Below X.heap.size X W3) := Lib.hid (H2.out.1.trans h3)
        clear ho3 h3 b0 b1 b2 b3
        go_wp2_with (at_builtin; refine walk_run (v' := .slice a3 (m + 1) c3) (w' := W3) rfl _ _ _ _ rfl _ _ rfl rfl ?_ ?_; exact HR3.out)
        go_roundw
        case rel => exact ⟨j + 1, a3, m + 1, c3, rfl, by go_num, by omega, by omega, HO3, HB3⟩
        case measure => simp [RowKit.intOf]; omega
      · rw [if_neg hy0, List.append_nil] at hof
        have d2 : decide (0 < y) = false := decide_eq_false hy0
        have HOF := Lib.hid hof
        clear hof hy0
        go_wp2_with fail
        refine (HW.out wr ((j : Int) + 1) HB.out).mono ?_
        rintro e w1 ⟨rfl, H1⟩
        go_wp2_with fail
        refine (HQ2.out w1 H1.out.1).mono ?_
        rintro e w2 ⟨rfl, H2⟩
        have HO3 : Hid (OwnS w2 X.heap.size (.slice b m k) (ofTo l x (j + 1))) := Lib.hid (by rw [HOF.out]; exact Goods.own_under (Goods.own_under HO.out H1.out.2) H2.out.2)
        clear b0 b1 b2 b3
        go_wp2_with fail
        go_roundw
        case rel => exact ⟨j + 1, b, m, k, rfl, by go_num, by omega, by omega, HO3, Lib.hid H2.out.1⟩
        case measure => simp [RowKit.intOf]; omega
    · obtain rfl : j = 32 := by omega
      have HE : Hid (OwnS wr w.heap.size (.slice b m k) (ofL l x) ∧ Below w.heap.size w wr) := Lib.hid ⟨World.ownsRow.mono HO.out HXB.out.size, HBW.out⟩
      go_wp2_with fail
      go_ret
      exact ⟨b, m, k, rfl, HE⟩
theorem lt_iff (x y : Lt) : x = y ↔ x.b = y.b ∧ x.q = y.q := ⟨fun h => by rw [h]; exact ⟨rfl, rfl⟩, fun h => Lt.ext' h.1 h.2⟩
open Classical in
set_option maxRecDepth 100000 in
set_option maxHeartbeats 2000000 in
theorem run_lots (x y : Lt) (W : World) : (binOp .neq 66 (sV x) (sV y)).run Try.prog W = .ok (.bool (!decide (x = y))) W := by
  rw [run_neq_struct]
  go_simp
  by_cases h1 : x.b.o = y.b.o
  · by_cases h2 : x.b.d = y.b.d
    · by_cases h3 : x.b.p = y.b.p
      · by_cases h4 : x.b.t = y.b.t
        · by_cases h5 : x.q = y.q
          · have : x = y := (lt_iff x y).2 ⟨(bn_iff x.b y.b).2 ⟨h1, h2, h3, h4⟩, h5⟩
            simp [this]
          · have : ¬ x = y := fun e => h5 (by rw [e])
            simp [h1, h2, h3, h4, h5, this]
        · have : ¬ x = y := fun e => h4 (by rw [e])
          simp [h1, h2, h3, h4, this]
      · have : ¬ x = y := fun e => h3 (by rw [e])
        simp [h1, h2, h3, this]
    · have : ¬ x = y := fun e => h2 (by rw [e])
      simp [h1, h2, this]
  · have : ¬ x = y := fun e => h1 (by rw [e])
    simp [h1, this]
theorem take_ne {l k : List Lt} {i : Nat} {t u : Lt} (h1 : l[i]? = some t) (h2 : k[i]? = some u) (h : t ≠ u) : l ≠ k := fun e => h (by rw [e, h2] at h1; injection h1 with h1; exact h1.symm)
theorem take_both {l k : List Lt} {i : Nat} {t : Lt} (h1 : l[i]? = some t) (h2 : k[i]? = some t) (h : l.take i = k.take i) : l.take (i + 1) = k.take (i + 1) := by
  rw [List.take_add_one, List.take_add_one, h1, h2, h]
open Classical in
set_option maxRecDepth 100000 in
set_option maxHeartbeats 2000000 in
theorem dsame (a : Option Addr) (n c : Nat) (l : List Lt) (b : Option Addr) (m d : Nat) (k : List Lt) (w : World) (hl : l.length = n) (hs : Lots w a l) (hn : n ≤ 1048576) (hk : k.length = m) (ht : Lots w b k) (hm : m ≤ 1048576) :
    Calls Try.prog 13 #[.slice a n c, .slice b m d] w fun e w' => e = .returned (.bool (decide (l = k))) ∧ Below w.heap.size w w' := by
  by_cases hnm : n = m
  · subst hnm
    have HL := Lib.hid hl; have HK := Lib.hid hk
    have H1 := lots_at hs; have H2 := lots_at ht
    have hn1 : (n : Int) ≤ 1048576 := by omega
    have hee : ((n : Int) == (n : Int)) = true := by simp
    clear hl hs hn hk ht hm
    go_enter Try.func13, Try.ntmps13
    go_wp2_with fail
    go_loopw [5] (fun s wr => ∃ i : Nat, s = .int .i64 i ∧ i ≤ n ∧ Hid (Below w.heap.size w wr) ∧ Hid (l.take i = k.take i)) (fun s _ => n - (RowKit.intOf s).toNat)
    case atStart => exact ⟨0, rfl, by omega, Lib.hid (Below.refl _ _), Lib.hid rfl⟩
    case round =>
      obtain ⟨i, rfl, hi, HB, HI⟩ := hrel
      have hi0 : (0 : Int) ≤ (i : Int) := by omega
      by_cases hlt : i < n
      · have hlt2 : (i : Int) < (n : Int) := by omega
        obtain ⟨g, off, t, rfl, hti, q0, q1, q2, q3, q4⟩ := H1.out _ i HB.out (by rw [HL.out]; exact hlt)
        obtain ⟨g', off', u, rfl, hui, r0, r1, r2, r3, r4⟩ := H2.out _ i HB.out (by rw [HK.out]; exact hlt)
        by_cases c1 : t = u
        · have HI2 : Hid (l.take (i + 1) = k.take (i + 1)) := Lib.hid (take_both hti.out (by rw [c1]; exact hui.out) HI.out)
          have hrun : ∀ W, (binOp .neq 66 (sV t) (sV u)).run Try.prog W = .ok (.bool false) W := fun W => by rw [run_lots, decide_eq_true c1]; rfl
          clear c1
          go_wp2_with fail
          go_quiet (fail)
          go_wp2_with fail
          go_roundw
          case rel => exact ⟨i + 1, by go_num, by omega, Lib.hid (below_drewN HB.out _), HI2⟩
          case measure => simp [RowKit.intOf]; omega
        · have HF : Hid (l ≠ k) := Lib.hid (take_ne hti.out hui.out c1)
          have hrun : ∀ W, (binOp .neq 66 (sV t) (sV u)).run Try.prog W = .ok (.bool true) W := fun W => by rw [run_lots, decide_eq_false c1]; rfl
          clear c1
          go_wp2_with fail
          go_quiet (fail)
          go_wp2_with fail
          go_ret
          exact ⟨by rw [decide_eq_false HF.out]; rfl, below_drewN HB.out _⟩
      · obtain rfl : i = n := by omega
        have HF : Hid (l = k) := Lib.hid (by
          have := HI.out
          rw [List.take_of_length_le (by rw [HL.out]; exact Nat.le_refl _), List.take_of_length_le (by rw [HK.out]; exact Nat.le_refl _)] at this
          exact this)
        go_wp2_with fail
        go_ret
        exact ⟨by rw [decide_eq_true HF.out]; rfl, HB.out⟩
  · have hf : decide (l = k) = false := decide_eq_false fun e => hnm (by rw [← hl, ← hk, e])
    rw [hf]
    have hne : ((n : Int) == (m : Int)) = false := by simp; omega
    have hn2 : ¬ (n : Int) = (m : Int) := by omega
    clear hl hs hn hk ht hm hf
    go_enter Try.func13, Try.ntmps13
    go_wp2_with fail
    go_ret
    exact ⟨rfl, Below.refl _ _⟩
end Go.Proofs.Ytkljaaeeocghjaa.Bins
