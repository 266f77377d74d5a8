/- The program's Needs of a catalogue; rows that grow beside boxes. The program's Maker of a catalogue; IndexFunc as it calls it. What a blueprint is as the laws have it; rows of stacks; without the program. The program's Check, apart (a seat without the others builds it alone). -/
import Derived.Test.YtdbhdlgoecpeaaaZGraphRows
import Derived.Test.YtdbhdlgoecpeaaaZGoodsB
import Derived.Laws.ResultCell
import Derived.Laws.Rows
import Derived.BigQuiet
import Derived.RegionTactic
import Derived.Deep.RegionWith
import Derived.Test.YtdbhdlgoecpeaaaZCatRow
import Derived.Test.YtdbhdlgoecpeaaaZRecA
namespace Go.Proofs.Ytdbhdlgoecpeaaa.Cat.Im
open Go.RowKit Go.Lib
open Goods (St Sts OwnS)
open Recipe (Bl BlIn blV)
open Graph (Nd Nds OwnN)

theorem in_yes (n a b : Int) (w : World) (h0 : a ≤ n) (h1 : n ≤ b) : Calls Try.prog 70 #[.int .i64 n, .int .i64 a, .int .i64 b] w fun e w' => e = .returned (.bool true) ∧ w = w' := by
  have d1 : decide (a ≤ n) = true := decide_eq_true h0
  have d2 : decide (n ≤ b) = true := decide_eq_true h1
  go_enter Try.func70, Try.ntmps70
  go_wp2_with fail
  go_ret
  exact ⟨rfl, rfl⟩
theorem in_no (n a b : Int) (w : World) (h : n < a ∨ b < n) : Calls Try.prog 70 #[.int .i64 n, .int .i64 a, .int .i64 b] w fun e w' => e = .returned (.bool false) ∧ w = w' := by
  by_cases k : a ≤ n
  · have d1 : decide (a ≤ n) = true := decide_eq_true k
    have d2 : decide (n ≤ b) = false := decide_eq_false (by omega)
    clear h
    go_enter Try.func70, Try.ntmps70
    go_wp2_with fail
    go_ret
    exact ⟨rfl, rfl⟩
  · have d1 : decide (a ≤ n) = false := decide_eq_false k
    clear h
    go_enter Try.func70, Try.ntmps70
    go_wp2_with fail
    go_ret
    exact ⟨rfl, rfl⟩
/-- As walks want it: what it tells is named ahead. -/
theorem in_at (n a b : Int) : ∃ t : Bool, Hid (∀ w, Calls Try.prog 70 #[.int .i64 n, .int .i64 a, .int .i64 b] w fun e w' => e = .returned (.bool t) ∧ w = w') ∧ Hid ((t = true → a ≤ n ∧ n ≤ b) ∧ (t = false → ¬ (a ≤ n ∧ n ≤ b))) := by
  by_cases h : a ≤ n ∧ n ≤ b
  · exact ⟨true, Lib.hid fun w => in_yes n a b w h.1 h.2, Lib.hid ⟨fun _ => h, fun h => (by cases h)⟩⟩
  · exact ⟨false, Lib.hid fun w => in_no n a b w (by omega), Lib.hid ⟨fun h => (by cases h), fun _ => h⟩⟩
/-! a row of one's own that grows: boxes of another type stay -/
theorem own_kept {w w' : World} {B : Nat} {e T : TypeId} {size n U : Nat} {v : Value} {xs : List Value} {cs : Array Value} (h : w.ownsRow B e size v n xs) (hg : w.grownBy w' v.ownBlock) (hU : w.heap[U]? = some (.cells cs T (0, 0))) (hT : T ≠ e) : w'.heap[U]? = some (.cells cs T (0, 0)) := grown_block hg hU fun e1 => by
  obtain ⟨_, _, cur, h3⟩ := own_type h e1
  rw [hU] at h3
  injection h3 with h3
  injection h3 with _ h4
  exact hT h4
theorem own_low {w w' : World} {B : Nat} {e : TypeId} {size n : Nat} {v : Value} {xs : List Value} (h : w.ownsRow B e size v n xs) (hg : w.grownBy w' v.ownBlock) (hB : B ≤ w.heap.size) : Below B w w' := (Below.refl B w).grown hg hB fun k hk => (h.lt k hk).1
theorem app_n (W : World) {B : Nat} {a : Option Addr} {m c : Nat} {o : List Nd} (t : Nd) (h : OwnN W B (.slice a m c) o) (hm : m ≤ 1048576) (hB : B ≤ W.heap.size) :
    ∃ a' c' W', Hid ((Builtin.append_ #[94, 94] 94 #[.slice a m c, .slice (some ⟨W.heap.size, 0, none⟩) 1 1]).run Try.prog (W.alloc (.cells #[.int .i64 t.a, .int .i64 t.b] 28)) = .ok (.slice a' (m + 1) c') W') ∧ OwnN W' B (.slice a' (m + 1) c') (o ++ [t]) ∧ W.grownBy W' (Value.slice a m c).ownBlock := by
  have hl : o.length = m := (Graph.nds_own h).1
  obtain ⟨i0, hi, hz0, hz1, hz2⟩ := info_parts Graph.info_nd
  have hA : (OwnN (W.alloc (.cells #[.int .i64 t.a, .int .i64 t.b] 28)) B (.slice a m c) o) := h.alloc _
  have hb := (Below.refl W.heap.size W).alloc (Nat.le_refl _) (.cells #[.int .i64 t.a, .int .i64 t.b] 28)
  obtain ⟨v2, W3, r2, o2, b2⟩ := app_any (P := Try.prog) (t := 94) (e := 28) (i := i0) (W.alloc (.cells #[.int .i64 t.a, .int .i64 t.b] 28)) B 94 Graph.zeroNdV 2 16 Try.underlying94 hi hz0 hz1 hz2 rfl (by omega) _ o.length (Graph.ncells o) hA (some ⟨W.heap.size, 0, none⟩) 1 1 (Graph.ncells [t]) rfl (fun j u hj => ⟨_, rfl, by
    have hblk := heap_alloc_new W (.cells #[.int .i64 t.a, .int .i64 t.b] 28)
    rw [Goods.addr_add, Nat.zero_add]
    refine cell_block (j := j) hblk ?_
    rw [← Array.getElem?_toList]
    exact hj⟩) (Graph.ncells_one _) (by unfold maxLen; omega) (by omega) (Nat.le_trans hB hb.size)
  have e3 : Graph.ncells o ++ Graph.ncells [t] = Graph.ncells (o ++ [t]) := (Graph.ncells_append o [t]).symm
  have e4 : o.length + 1 = (o ++ [t]).length := by simp
  rw [e3, e4] at o2
  obtain ⟨a2, c2, rfl, _⟩ := Graph.rowN o2
  have e : (o ++ [t]).length = m + 1 := by simp [hl]
  have hg : W.grownBy W3 (Value.slice a m c).ownBlock :=
    ⟨b2.os.trans hb.os, b2.tape.trans hb.tape, b2.output.trans hb.output, Nat.le_trans hb.size b2.size, fun k hk hr => (b2.block k (Nat.lt_of_lt_of_le hk hb.size) hr).trans (hb.block k hk)⟩
  rw [e] at r2 o2
  exact ⟨a2, c2, W3, Lib.hid r2, by show World.ownsRow _ _ _ _ _ _ _; rw [e]; exact o2, hg⟩
/-! boxes -/
abbrev bArr (b : Bl) : Array Value := #[.int .i64 b.ot, .int .i64 b.per, .int .i64 b.tm, .slice b.sa b.sm b.sc, .int .i64 b.cp, .int .i64 b.st, .int .i64 b.mo]
theorem box_bl (w : World) (b : Bl) : ∃ U Y, w.heap.size = U ∧ w.alloc (.cells #[.int .i64 b.ot, .int .i64 b.per, .int .i64 b.tm, .slice b.sa b.sm b.sc, .int .i64 b.cp, .int .i64 b.st, .int .i64 b.mo] 51) = Y ∧ Hid (Below w.heap.size w Y ∧ Y.heap[U]? = some (.cells (bArr b) 51 (0, 0))) :=
  ⟨_, _, rfl, rfl, Lib.hid ⟨(Below.refl _ w).alloc (Nat.le_refl _) _, heap_alloc_new w _⟩⟩
theorem cellsU {w : World} {U : Nat} {b : Bl} {T : TypeId} (h1 : w.heap[U]? = some (.cells (bArr b) T (0, 0))) : Recipe.CellsU w U b :=
  ⟨cell_block (j := 0) h1 rfl, cell_block (j := 1) h1 rfl, cell_block (j := 2) h1 rfl, cell_block (j := 3) h1 rfl, cell_block (j := 4) h1 rfl, cell_block (j := 5) h1 rfl, cell_block (j := 6) h1 rfl⟩
theorem box_st (w : World) (t : St) : ∃ S Z, w.heap.size = S ∧ w.alloc (.cells #[.int .i64 t.kind, .int .i64 t.qty] 79) = Z ∧ Z.cell? ⟨S, 0, none⟩ = some (.int .i64 t.kind) ∧ Z.cell? ⟨S, 1, none⟩ = some (.int .i64 t.qty) ∧ Hid (Below w.heap.size w Z) :=
  ⟨_, _, rfl, rfl, cell_block (j := 0) (heap_alloc_new w _) rfl, cell_block (j := 1) (heap_alloc_new w _) rfl, Lib.hid ((Below.refl _ w).alloc (Nat.le_refl _) _)⟩
theorem block_at {w w' : World} {U : Nat} {o : Obj} (h : w.heap[U]? = some o) (hb : Below w.heap.size w w') : w'.heap[U]? = some o := (hb.block U (Array.getElem?_eq_some_iff.1 h).1).trans h
set_option maxRecDepth 100000 in
set_option maxHeartbeats 8000000 in
theorem needs_im (C : CM) (w : World) (h : CatAt w C) (hl : Lim C) :
    Calls Try.prog 57 #[C.v] w fun e w' => ∃ a n c, e = .returned (.slice a n c) ∧ Hid ((ndL C.p.bs).length = n ∧ n ≤ 240 ∧ OwnN w' w.heap.size (.slice a n c) (ndL C.p.bs) ∧ Below w.heap.size w w') := by
  obtain ⟨V, X, hV, hX, HXB, HP⟩ := box_cat w C
  obtain ⟨k0, k1, k2, k3, k4, k5, k6, k7⟩ := HP.out X (Below.refl _ _)
  have HB := blue_at (h.under HXB.out)
  have HSM : Hid (∀ b ∈ C.bs, b.sm ≤ 12) := Lib.hid hl.1
  have HL := Lib.hid h.1.1
  have hb1 : C.bn ≤ 20 := hl.2.1
  have hb2 : (C.bn : Int) ≤ 20 := by omega
  have H0 : Hid (OwnN X X.heap.size (.slice none 0 0) []) := Lib.hid (World.ownsRow_nil _ _ _ _)
  clear h hl
  go_enter Try.func57, Try.ntmps57
  go_wp2_with fail
  clear hX hV k0 k1 k2 k3 k4 k5 k6 k7
  go_loopw [3, 11] (fun v t wr => ∃ (i j : Nat) (a1 : Option Addr) (c1 : Nat), v = .slice a1 j c1 ∧ t = .int .i64 (i : Int) ∧ i ≤ C.bn ∧ Hid (j ≤ 12 * i) ∧ Hid (OwnN wr X.heap.size (.slice a1 j c1) (ndL (C.p.bs.take i)) ∧ Below X.heap.size X wr)) (fun _ t _ => C.bn - (RowKit.intOf t).toNat)
  case atStart => exact ⟨0, 0, none, 0, rfl, rfl, by omega, Lib.hid (by omega), Lib.hid ⟨H0.out, Below.refl _ _⟩⟩
  case round =>
    clear H0
    obtain ⟨i, j, a1, c1, rfl, rfl, hi, HJ, HO⟩ := hrel
    have hi0 : (0 : Int) ≤ (i : Int) := by omega
    by_cases hlt : i < C.bn
    · have hlt2 : (i : Int) < (C.bn : Int) := by omega
      obtain ⟨W0, rfl⟩ : ∃ W0, W0 = wr := ⟨_, rfl⟩
      obtain ⟨g, off, b, hba, ht, q0, q1, q2, q3, q4, q5, q6⟩ := HB.out W0 i HO.out.2 hlt
      have hp : C.p.bs[i]? = some (pOf b) := by unfold CM.p; simp [ht.out.1]
      have HM := Lib.hid (ndL_take hp)
      have hsm := HSM.out b (List.mem_of_getElem? ht.out.1)
      have hsm1 : (b.sm : Int) ≤ 12 := by omega
      have wi : IntKind.i64.wrap ((i : Int) + 1) = (i : Int) + 1 := IntWalk.i64_in _ (by omega)
      have HSL := Lib.hid ht.out.2.1
      have HST : Hid (∀ W, Below W0.heap.size W0 W → Sts W b.sa b.s) := Lib.hid (fun W hW => ht.out.2.2.under hW)
      obtain ⟨U, Y, hU, hY, HY⟩ := box_bl W0 b
      obtain ⟨y0, y1, y2, y3, y4, y5, y6⟩ := cellsU HY.out.2
      have HST2 : Hid (∀ W, Below X.heap.size X W → Sts W b.sa b.s) := Lib.hid (fun W hW => by
        obtain ⟨g2, off2, b2, hba2, ht2, c⟩ := HB.out W i hW hlt
        have e2 := ht2.out.1
        rw [ht.out.1] at e2
        cases e2
        exact ht2.out.2.2)
      have HO1 : Hid (OwnN Y X.heap.size (.slice a1 j c1) (ndL (C.p.bs.take i) ++ nd1 b.ot (b.s.take 0)) ∧ Below X.heap.size X Y ∧ Y.heap[U]? = some (.cells (bArr b) 51 (0, 0))) := Lib.hid ⟨by
        rw [List.take_zero]
        show OwnN _ _ _ (_ ++ [])
        rw [List.append_nil]
        exact Graph.own_under HO.out.1 HY.out.1, below_then HO.out.2 HY.out.1, HY.out.2⟩
      rw [hba]
      clear hp ht hba HO HST
      go_wp2_with fail
      clear hY hU q0 q1 q2 q3 q4 q5 q6 y0 y1 y2 y3 y4 y5 y6
      go_loopw [3, 18] (fun v t wr => ∃ (k m : Nat) (a1 : Option Addr) (c1 : Nat), v = .slice a1 m c1 ∧ t = .int .i64 (k : Int) ∧ k ≤ b.sm ∧ Hid (m ≤ 12 * i + k) ∧ Hid (OwnN wr X.heap.size (.slice a1 m c1) (ndL (C.p.bs.take i) ++ nd1 b.ot (b.s.take k)) ∧ Below X.heap.size X wr ∧ wr.heap[U]? = some (.cells (bArr b) 51 (0, 0)))) (fun _ t _ => b.sm - (RowKit.intOf t).toNat)
      case atStart => exact ⟨0, j, a1, c1, rfl, rfl, by omega, Lib.hid (by have := HJ.out; omega), HO1⟩
      case round =>
        clear HO1 HJ
        obtain ⟨k, m, a3, c3, rfl, rfl, hk, HJ, HO⟩ := hrel
        have hk0 : (0 : Int) ≤ (k : Int) := by omega
        by_cases hkt : k < b.sm
        · have hkt2 : (k : Int) < (b.sm : Int) := by omega
          have wk : IntKind.i64.wrap ((k : Int) + 1) = (k : Int) + 1 := IntWalk.i64_in _ (by omega)
          obtain ⟨g2, off2, t, hsa, hts, z0, z1⟩ := (Goods.sts_at (HST2.out wr HO.out.2.1)).out wr k (Below.refl _ _) (by rw [HSL.out]; exact hkt)
          obtain ⟨S, Z, hS, hZ, s0, s1, HZ⟩ := box_st wr t
          have hbz := block_at HO.out.2.2 HZ.out
          obtain ⟨y0, y1, y2, y3, y4, y5, y6⟩ := cellsU hbz
          have hoz := Graph.own_under HO.out.1 HZ.out
          have hlz := below_then HO.out.2.1 HZ.out
          obtain ⟨a2, c2, W2, HR1, o2, hg2⟩ := app_n Z ⟨b.ot, t.kind⟩ hoz (by have := HJ.out; omega) hlz.size
          have HO2 : Hid (OwnN W2 X.heap.size (.slice a2 (m + 1) c2) (ndL (C.p.bs.take i) ++ nd1 b.ot (b.s.take (k + 1))) ∧ Below X.heap.size X W2 ∧ W2.heap[U]? = some (.cells (bArr b) 51 (0, 0))) := Lib.hid ⟨by
            rw [nd1_take hts.out, ← List.append_assoc]
            exact o2, hlz.trans (own_low hoz hg2 hlz.size), own_kept hoz hg2 hbz (by decide)⟩
          clear o2 hg2 hoz hlz hbz
          rw [hsa]
          clear hsa
          go_wp2_with (at_builtin; refine walk_run (v' := .slice a2 (m + 1) c2) (w' := W2) rfl _ _ _ _ rfl _ _ rfl rfl ?_ ?_; exact HR1.out)
          clear hS hZ s0 s1 z0 z1 y0 y1 y2 y3 y4 y5 y6
          go_roundw
          case rel => exact ⟨k + 1, m + 1, a2, c2, rfl, by go_num, by omega, Lib.hid (by have := HJ.out; omega), HO2⟩
          case measure => simp [RowKit.intOf]; omega
        · obtain rfl : k = b.sm := by omega
          have HO2 : Hid (OwnN wr X.heap.size (.slice a3 m c3) (ndL (C.p.bs.take (i + 1))) ∧ Below X.heap.size X wr) := Lib.hid (by
            have := HO.out
            rw [List.take_of_length_le (l := b.s) (by rw [HSL.out]; exact Nat.le_refl _)] at this
            rw [HM.out]
            exact ⟨this.1, this.2.1⟩)
          go_wp2_with fail
          go_roundw
          case rel => exact ⟨i + 1, m, a3, c3, rfl, by go_num, by omega, Lib.hid (by have := HJ.out; omega), HO2⟩
          case measure => simp [RowKit.intOf]; omega
    · obtain rfl : i = C.bn := by omega
      have HF : Hid (OwnN wr X.heap.size (.slice a1 j c1) (ndL C.p.bs)) := Lib.hid (by
        have := HO.out.1
        rw [List.take_of_length_le (by unfold CM.p; rw [List.length_map, HL.out]; exact Nat.le_refl _)] at this
        exact this)
      go_wp2_with fail
      go_ret
      exact ⟨a1, j, c1, rfl, Lib.hid ⟨(Graph.nds_own HF.out).1, by have := HJ.out; omega, World.ownsRow.mono HF.out HXB.out.size, below_then HXB.out HO.out.2⟩⟩
end Go.Proofs.Ytdbhdlgoecpeaaa.Cat.Im
namespace Go.Proofs.Ytdbhdlgoecpeaaa.Cat.Im
open Go.RowKit Go.Lib
open Goods (St Sts OwnS)
open Recipe (Bl BlIn blV)

/-! Maker -/
theorem mkr_bd (k : Int) : ∀ (l : List PB) (i : Int), 0 ≤ i → 0 ≤ mkr k l i ∧ mkr k l i ≤ i + l.length
  | [], i, h => by
    show 0 ≤ (0 : Int) ∧ (0 : Int) ≤ i + (0 : Nat)
    omega
  | b :: l, i, h => by
    have ih := mkr_bd k l (i + 1) (by omega)
    show 0 ≤ (if b.ot = k then i + 1 else mkr k l (i + 1)) ∧ (if b.ot = k then i + 1 else mkr k l (i + 1)) ≤ i + ((l.length + 1 : Nat) : Int)
    split <;> omega
set_option maxRecDepth 100000 in
set_option maxHeartbeats 2000000 in
theorem makes_im (b : Bl) (k : Int) (P : Nat) (w : World) (q : Bool) (hq : (b.ot == k) = q) (hP : w.cell? ⟨P, 0, none⟩ = some (.int .i64 k)) (hlt : P < w.heap.size) :
    Calls Try.prog 96 #[blV b, .pointer (some ⟨P, 0, none⟩)] w fun e w' => e = .returned (.bool q) ∧ Hid (Below w.heap.size w w') := by
  obtain ⟨U, Y, hU, hY, HY⟩ := box_bl w b
  obtain ⟨y0, y1, y2, y3, y4, y5, y6⟩ := cellsU HY.out.2
  have p0 := ((bcell HY.out.1).1 P 0 hlt).trans hP
  clear hP hlt
  go_enter Try.func96, Try.ntmps96
  go_wp2_with fail
  go_ret
  exact ⟨rfl, Lib.hid HY.out.1⟩
set_option maxRecDepth 100000 in
set_option maxHeartbeats 4000000 in
theorem index_im (C : CM) (k : Int) (P : Nat) (w : World) (h : CatAt w C) (hb : C.bn ≤ 4611686018427387904) (hP : w.cell? ⟨P, 0, none⟩ = some (.int .i64 k)) (hlt : P < w.heap.size) (z : Int) (hz : mkr k C.p.bs 0 - 1 = z) :
    Calls Try.prog 95 #[.slice C.ba C.bn C.bc, .func (.func 96) #[] #[.pointer (some ⟨P, 0, none⟩)]] w fun e w' => e = .returned (.int .i64 z) ∧ Hid (Below w.heap.size w w') := by
  have HB := blue_at h
  have HL := Lib.hid h.1.1
  have hb1 : (C.bn : Int) ≤ 4611686018427387904 := by omega
  have HPP : Hid (∀ W, Below w.heap.size w W → W.cell? ⟨P, 0, none⟩ = some (.int .i64 k) ∧ P < W.heap.size) := Lib.hid fun W hW => ⟨((bcell hW).1 P 0 hlt).trans hP, Nat.lt_of_lt_of_le hlt hW.size⟩
  have HZ := Lib.hid hz
  clear h hb hP hlt hz
  go_enter Try.func95, Try.ntmps95
  go_wp2_with fail
  go_loopw [8] (fun s wr => ∃ i : Nat, s = .int .i64 i ∧ i ≤ C.bn ∧ Hid (Below w.heap.size w wr) ∧ Hid (mkr k (C.p.bs.drop i) i = mkr k C.p.bs 0)) (fun s _ => C.bn - (RowKit.intOf s).toNat)
  case atStart => exact ⟨0, rfl, by omega, Lib.hid (Below.refl _ _), Lib.hid rfl⟩
  case round =>
    obtain ⟨i, rfl, hi, HW, HI⟩ := hrel
    have hi0 : (0 : Int) ≤ (i : Int) := by omega
    by_cases hlt : i < C.bn
    · have hlt2 : (i : Int) < (C.bn : Int) := by omega
      obtain ⟨g, off, b, hba, ht, q0, q1, q2, q3, q4, q5, q6⟩ := HB.out wr i HW.out hlt
      have hp : C.p.bs[i]? = some (pOf b) := by unfold CM.p; simp [ht.out.1]
      have HM := Lib.hid (mkr_drop (k := k) hp)
      clear hp
      have wi : IntKind.i64.wrap ((i : Int) + 1) = (i : Int) + 1 := IntWalk.i64_in _ (by omega)
      have HPW := Lib.hid (HPP.out wr HW.out)
      rw [hba]
      clear hba
      by_cases c1 : b.ot = k
      · have HC := Lib.hid (makes_im b k P wr true (by simpa using c1) HPW.out.1 HPW.out.2)
        have HF : Hid ((i : Int) = z) := Lib.hid (by
          have h1 := HM.out
          rw [HI.out, if_pos (by exact c1)] at h1
          rw [← HZ.out, h1]
          omega)
        clear c1
        go_wp2_with fail
        refine HC.out.mono ?_
        rintro e w2 ⟨rfl, H2⟩
        go_wp2_with fail
        go_ret
        exact ⟨ret_i64 HF.out, Lib.hid (below_then HW.out H2.out)⟩
      · have HC := Lib.hid (makes_im b k P wr false (by simpa using c1) HPW.out.1 HPW.out.2)
        have HF : Hid (mkr k (C.p.bs.drop (i + 1)) ((i + 1 : Nat) : Int) = mkr k C.p.bs 0) := Lib.hid (by rw [← HI.out, HM.out, if_neg (by exact c1)])
        clear c1
        go_wp2_with fail
        refine HC.out.mono ?_
        rintro e w2 ⟨rfl, H2⟩
        have HW2 := Lib.hid (below_then HW.out H2.out)
        go_wp2_with fail
        go_roundw
        case rel => exact ⟨i + 1, by go_num, by omega, HW2, HF⟩
        case measure => simp [RowKit.intOf]; omega
    · obtain rfl : i = C.bn := by omega
      have HF : Hid (-1 = z) := Lib.hid (by
        rw [← HZ.out, ← HI.out, List.drop_eq_nil_of_le (by unfold CM.p; rw [List.length_map, HL.out]; exact Nat.le_refl _)]
        rfl)
      go_wp2_with fail
      go_ret
      exact ⟨ret_i64 HF.out, HW⟩
set_option maxRecDepth 100000 in
set_option maxHeartbeats 2000000 in
theorem maker_im (C : CM) (k : Int) (w : World) (h : CatAt w C) (hb : C.bn ≤ 4611686018427387904) :
    Calls Try.prog 82 #[C.v, .int .i64 k] w fun e w' => e = .returned (.int .i64 (mkr k C.p.bs 0)) ∧ Below w.heap.size w w' := by
  obtain ⟨V, X, hV, hX, HXB, HP⟩ := box_cat w C
  obtain ⟨Q, Y, hQ, hY, HY⟩ : ∃ Q Y, X.heap.size = Q ∧ X.alloc (.cells #[.int .i64 k] 3) = Y ∧ Hid (Below X.heap.size X Y ∧ Y.cell? ⟨Q, 0, none⟩ = some (.int .i64 k) ∧ Q < Y.heap.size) := by
    have h0 := heap_alloc_new X (.cells #[.int .i64 k] 3)
    exact ⟨_, _, rfl, rfl, Lib.hid ⟨(Below.refl _ _).alloc (Nat.le_refl _) _, cell_block (j := 0) h0 rfl, (Array.getElem?_eq_some_iff.1 h0).1⟩⟩
  obtain ⟨k0, k1, k2, k3, k4, k5, k6, k7⟩ := HP.out Y HY.out.1
  obtain ⟨z, hz⟩ : ∃ z, mkr k C.p.bs 0 - 1 = z := ⟨_, rfl⟩
  have hbd := mkr_bd k C.p.bs 0 (by omega)
  have hlen : C.p.bs.length = C.bn := by unfold CM.p; rw [List.length_map]; exact h.1.1
  have wz : IntKind.i64.wrap (1 + z) = 1 + z := IntWalk.i64_in _ (by omega)
  have HE : Hid (1 + z = mkr k C.p.bs 0) := Lib.hid (by omega)
  have HC := Lib.hid (index_im C k Q Y ((h.under HXB.out).under HY.out.1) hb HY.out.2.1 HY.out.2.2 z hz)
  clear h hb hz hbd hlen
  go_enter Try.func82, Try.ntmps82
  go_wp2_with fail
  clear hX hV hQ hY
  refine HC.out.mono ?_
  rintro e w2 ⟨rfl, H2⟩
  go_wp2_with fail
  go_ret
  exact ⟨ret_i64 HE.out, below_then HXB.out (below_then HY.out.1 H2.out)⟩
end Go.Proofs.Ytdbhdlgoecpeaaa.Cat.Im
namespace Go.Proofs.Ytdbhdlgoecpeaaa.Recipe
open Go.RowKit Go.Lib
open Goods (St Sts OwnS)

def I64 (x : Int) : Prop := -9223372036854775808 ≤ x ∧ x ≤ 9223372036854775807
def InS (s : List St) : Prop := ∀ t ∈ s, I64 t.kind ∧ I64 t.qty
def InBl (b : Bl) : Prop := I64 b.ot ∧ I64 b.per ∧ I64 b.tm ∧ I64 b.cp ∧ I64 b.st ∧ I64 b.mo ∧ InS b.s
/-- A blueprint as the laws have it. -/
def Fit (w : World) (b : Bl) : Prop := BlIn w b ∧ InBl b ∧ b.sm ≤ 12
theorem Fit.under {w w' : World} {b : Bl} (h : Fit w b) (hb : Below w.heap.size w w') : Fit w' b := ⟨h.1.under hb, h.2⟩
theorem own_sts {w : World} {B : Nat} {a : Option Addr} {n c : Nat} {l : List St} (h : OwnS w B (.slice a n c) l) : l.length = n ∧ Sts w a l := by
  obtain ⟨a', c', e, h1⟩ := Goods.sts_own h
  injection e with e1 e2 _
  subst e1
  exact ⟨e2.symm, h1⟩
open Classical in
/-- Two rows of the same stacks. -/
theorem same_at {W : World} {l : List St} {a b : Option Addr} {n c m d : Nat} (h1 : l.length = n) (s1 : Sts W a l) (h2 : l.length = m) (s2 : Sts W b l) (hl : l.length ≤ 1000) : Calls Try.prog 86 #[.slice a n c, .slice b m d] W fun e w' => e = .returned (.bool true) ∧ Hid (Below W.heap.size W w') := by
  have := Goods.dsame a n c l b m d l W h1 s1 (by omega) h2 s2 (by omega)
  rw [decide_eq_true rfl] at this
  exact this.mono fun _ _ ⟨e, h⟩ => ⟨e, Lib.hid h⟩
/-- Stacks that a composite literal lays. -/
theorem sts_lit {w : World} {g : Nat} {cs : Array Value} {T : TypeId} (l : List St) (h : w.heap[g]? = some (.cells cs T (0, 0))) (hc : cs.toList = Goods.scells l) : Sts w (some ⟨g, 0, none⟩) l := fun i t hi => by
  have hq : ∀ j u, (Goods.stCells t)[j]? = some u → w.cell? ⟨g, 0 + i * 2 + j, none⟩ = some u := fun j u hj => by
    rw [Nat.zero_add]
    refine cell_block (j := i * 2 + j) h ?_
    rw [← Array.getElem?_toList, hc]
    exact Goods.scells_at l i t hi j u hj
  exact ⟨g, 0, rfl, (Array.getElem?_eq_some_iff.1 h).1, hq 0 _ rfl, hq 1 _ rfl⟩
end Go.Proofs.Ytdbhdlgoecpeaaa.Recipe
namespace Go.Proofs.Ytdbhdlgoecpeaaa.Goods.Im
open Go.RowKit Go.Lib

theorem listed_iff {l : List St} {ty : Int} : Listed l ty ↔ l.length ≤ 8 ∧ Norm l ∧ (∀ s ∈ l, s.qty ≤ mq) ∧ ∀ s ∈ l, s.kind ≤ ty := by
  constructor
  · rintro ⟨h8, he, hn, hk⟩
    have hN := norm_nl (errN_zero he).1
    rw [hn] at hN
    refine ⟨h8, hN, fun s hs => ?_, hk⟩
    have := valN_le l s (by rw [valN_ok he, hn]; exact hs)
    exact this
  · rintro ⟨h8, hN, hq, hk⟩
    refine ⟨h8, errN_ok (fine_norm hN) fun ⟨k, h⟩ => ?_, nl_norm hN, hk⟩
    by_cases hex : ∃ s ∈ l, s.kind = k
    · obtain ⟨s, hs, rfl⟩ := hex
      rw [cnt_at hN.rise hs] at h
      have := hq s hs
      omega
    · rw [cnt_none fun s hs e => hex ⟨s, hs, e⟩] at h
      unfold mq at h
      omega
/-- The first stacks may stand so, the last of them of type z. -/
structure Upon (l : List St) (ty : Int) (i : Nat) (z : Int) : Prop where
  norm : Norm (l.take i)
  qty : ∀ s ∈ l.take i, s.qty ≤ mq
  kind : ∀ s ∈ l.take i, s.kind ≤ ty
  most : ∀ s ∈ l.take i, s.kind ≤ z
  zero : 0 ≤ z
  last : z = 0 ∨ ∃ s ∈ l.take i, s.kind = z
theorem upon_zero (l : List St) (ty : Int) : Upon l ty 0 0 := by
  refine ⟨⟨.nil, ?_, ?_⟩, ?_, ?_, ?_, Int.le_refl _, .inl rfl⟩
  all_goals
    intro s hs
    rw [List.take_zero] at hs
    cases hs
theorem upon_next {l : List St} {ty z : Int} {i : Nat} {t : St} (h : Upon l ty i z) (ht : l[i]? = some t) (h1 : z < t.kind) (h2 : t.kind ≤ ty) (h3 : 1 ≤ t.qty) (h4 : t.qty ≤ mq) : Upon l ty (i + 1) t.kind := by
  have hz := h.zero
  have hm : ∀ s, s ∈ l.take (i + 1) → s ∈ l.take i ∨ s = t := fun s hs => (mem_take_succ ht).1 hs
  refine ⟨⟨?_, fun s hs => ?_, fun s hs => ?_⟩, fun s hs => ?_, fun s hs => ?_, fun s hs => ?_, by omega, .inr ⟨t, (mem_take_succ ht).2 (.inr rfl), rfl⟩⟩
  · rw [List.take_add_one, ht]
    refine List.pairwise_append.2 ⟨h.norm.rise, List.pairwise_singleton _ _, fun s hs u hu => ?_⟩
    rw [List.mem_singleton.1 hu]
    have := h.most s hs
    omega
  · rcases hm s hs with hs | rfl
    · exact h.norm.kind s hs
    · omega
  · rcases hm s hs with hs | rfl
    · exact h.norm.qty s hs
    · exact h3
  · rcases hm s hs with hs | rfl
    · exact h.qty s hs
    · exact h4
  · rcases hm s hs with hs | rfl
    · exact h.kind s hs
    · exact h2
  · rcases hm s hs with hs | rfl
    · have := h.most s hs
      omega
    · exact Int.le_refl _
theorem upon_no {l : List St} {ty z : Int} {i : Nat} {t : St} (h : Upon l ty i z) (ht : l[i]? = some t) (hno : t.kind ≤ z ∨ ty < t.kind ∨ t.qty < 1 ∨ mq < t.qty) : ¬ Listed l ty := by
  rw [listed_iff]
  rintro ⟨_, hN, hq, hk⟩
  have hmem := List.mem_of_getElem? ht
  have h1 := hN.kind t hmem
  have h2 := hN.qty t hmem
  have h3 := hq t hmem
  have h4 := hk t hmem
  rcases hno with h5 | h5 | h5 | h5
  · rcases h.last with h6 | ⟨s, hs, h6⟩
    · omega
    · have hr : Rise (l.take (i + 1)) := List.Pairwise.sublist (List.take_sublist _ _) hN.rise
      rw [List.take_add_one, ht] at hr
      have := (List.pairwise_append.1 hr).2.2 s hs t (by simp)
      omega
  · omega
  · omega
  · omega
theorem upon_all {l : List St} {ty z : Int} {i : Nat} (h : Upon l ty i z) (hi : l.length = i) (h8 : i ≤ 8) : Listed l ty := by
  have e : l.take i = l := List.take_of_length_le (by omega)
  rw [listed_iff]
  have h1 := h.norm
  have h2 := h.qty
  have h3 := h.kind
  rw [e] at h1 h2 h3
  exact ⟨by omega, h1, h2, h3⟩
set_option maxRecDepth 100000 in
set_option maxHeartbeats 4000000 in
theorem check_any (a : Option Addr) (n c : Nat) (l : List St) (ty : Int) (w : World) (hl : l.length = n) (hs : Sts w a l) (hn : n ≤ 1024) :
    Calls Try.prog 91 #[.slice a n c, .int .i64 ty] w fun e w' => e = .returned (.int .i64 (chk l ty)) ∧ Below w.heap.size w w' := by
  have HT := sts_at hs
  have HL := Lib.hid hl
  have hn1 : (n : Int) ≤ 1048576 := by omega
  by_cases h8 : 8 < n
  · have hd : decide (8 < (n : Int)) = true := by simp; omega
    rw [chk_no fun h => by have := h.1; omega]
    clear hs hn hl h8
    go_enter Try.func91, Try.ntmps91
    go_wp2_with fail
    go_ret
    exact ⟨rfl, Below.refl _ _⟩
  have hd : decide (8 < (n : Int)) = false := by simp; omega
  have H8 : Hid (n ≤ 8) := Lib.hid (by omega)
  clear hs hn hl h8
  go_enter Try.func91, Try.ntmps91
  go_wp2_with fail
  go_loopw [5, 13] (fun s t wr => ∃ (z : Int) (i : Nat), s = .int .i64 z ∧ t = .int .i64 i ∧ i ≤ n ∧ Hid (Below w.heap.size w wr) ∧ Hid (Upon l ty i z)) (fun _ t _ => n - (RowKit.intOf t).toNat)
  case atStart => exact ⟨0, 0, rfl, rfl, by omega, Lib.hid (Below.refl _ _), Lib.hid (upon_zero l ty)⟩
  case round =>
    obtain ⟨z, i, rfl, rfl, hi, HB, HU⟩ := hrel
    have hi0 : (0 : Int) ≤ (i : Int) := by omega
    by_cases hlt : i < n
    · have hlt2 : (i : Int) < (n : Int) := by omega
      obtain ⟨g, off, t, rfl, ht, k0, k1⟩ := HT.out wr i HB.out (by rw [HL.out]; exact hlt)
      obtain ⟨V, hV⟩ : ∃ V, wr.heap.size = V := ⟨_, rfl⟩
      obtain ⟨Y, hY⟩ : ∃ Y, wr.alloc (.cells #[.int .i64 t.kind, .int .i64 t.qty] 79) = Y := ⟨_, rfl⟩
      have hbY : Below wr.heap.size wr Y := by rw [← hY]; exact (Below.refl _ wr).alloc (Nat.le_refl _) _
      have hVY : Y.heap[V]? = some (.cells t.cells 79 (0, 0)) := by rw [← hY, ← hV]; exact heap_alloc_new wr _
      have v0 : Y.cell? ⟨V, 0, none⟩ = some (.int .i64 t.kind) := cell_block (j := 0) hVY rfl
      have v1 : Y.cell? ⟨V, 1, none⟩ = some (.int .i64 t.qty) := cell_block (j := 1) hVY rfl
      have HBY := Lib.hid (below_then HB.out hbY)
      clear hbY hVY
      by_cases c1 : t.kind ≤ z
      · have d1 : decide (t.kind ≤ z) = true := decide_eq_true c1
        have HE := Lib.hid (chk_no (upon_no HU.out ht.out (.inl c1)))
        clear c1
        go_wp2_with fail
        clear hY hV k0 k1
        go_ret
        exact ⟨by rw [HE.out]; rfl, HBY.out⟩
      have d1 : decide (t.kind ≤ z) = false := decide_eq_false c1
      by_cases c2 : ty < t.kind
      · have d2 : decide (ty < t.kind) = true := decide_eq_true c2
        have HE := Lib.hid (chk_no (upon_no HU.out ht.out (.inr (.inl c2))))
        clear c1 c2
        go_wp2_with fail
        clear hY hV k0 k1
        go_ret
        exact ⟨by rw [HE.out]; rfl, HBY.out⟩
      have d2 : decide (ty < t.kind) = false := decide_eq_false c2
      by_cases c3 : t.qty < 1
      · have d3 : decide (t.qty < 1) = true := decide_eq_true c3
        have HE := Lib.hid (chk_no (upon_no HU.out ht.out (.inr (.inr (.inl c3)))))
        clear c1 c2 c3
        go_wp2_with fail
        clear hY hV k0 k1
        go_ret
        exact ⟨by rw [HE.out]; rfl, HBY.out⟩
      have d3 : decide (t.qty < 1) = false := decide_eq_false c3
      by_cases c4 : 1125899906842624 < t.qty
      · have d4 : decide (1125899906842624 < t.qty) = true := decide_eq_true c4
        have HE := Lib.hid (chk_no (upon_no HU.out ht.out (.inr (.inr (.inr (by unfold mq; omega))))))
        clear c1 c2 c3 c4
        go_wp2_with fail
        clear hY hV k0 k1
        go_ret
        exact ⟨by rw [HE.out]; rfl, HBY.out⟩
      have d4 : decide (1125899906842624 < t.qty) = false := decide_eq_false c4
      have HU2 := Lib.hid (upon_next HU.out ht.out (by omega) (by omega) (by omega) (by unfold mq; omega))
      clear c1 c2 c3 c4
      go_wp2_with fail
      clear hY hV k0 k1
      go_roundw
      case rel => exact ⟨t.kind, i + 1, rfl, by go_num, by omega, HBY, HU2⟩
      case measure => simp [RowKit.intOf]; omega
    · obtain rfl : i = n := by omega
      have HE := Lib.hid (chk_yes (upon_all HU.out HL.out H8.out))
      go_wp2_with fail
      go_ret
      exact ⟨by rw [HE.out]; rfl, HB.out⟩
end Go.Proofs.Ytdbhdlgoecpeaaa.Goods.Im
