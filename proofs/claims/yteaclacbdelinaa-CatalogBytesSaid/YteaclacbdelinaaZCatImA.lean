/- The program's Needs of a catalogue; rows that grow beside boxes. -/
import Derived.Test.YteaclacbdelinaaZCatB
import Derived.Test.YteaclacbdelinaaZCatC
import Derived.Test.YteaclacbdelinaaZCatRow
namespace Go.Proofs.Yteaclacbdelinaa.Cat.Im
open Go.RowKit Go.Lib
open Goods (St Sts OwnS)
open Recipe (Bl BlIn blV)
open Graph (Nd Nds OwnN)

theorem in_yes (n a b : Int) (w : World) (h0 : a ≤ n) (h1 : n ≤ b) : Calls Try.prog 25 #[.int .i64 n, .int .i64 a, .int .i64 b] w fun e w' => e = .returned (.bool true) ∧ w = w' := by
  have d1 : decide (a ≤ n) = true := decide_eq_true h0
  have d2 : decide (n ≤ b) = true := decide_eq_true h1
  go_enter Try.func25, Try.ntmps25
  go_wp2_with fail
  go_ret
  exact ⟨rfl, rfl⟩
theorem in_no (n a b : Int) (w : World) (h : n < a ∨ b < n) : Calls Try.prog 25 #[.int .i64 n, .int .i64 a, .int .i64 b] w fun e w' => e = .returned (.bool false) ∧ w = w' := by
  by_cases k : a ≤ n
  · have d1 : decide (a ≤ n) = true := decide_eq_true k
    have d2 : decide (n ≤ b) = false := decide_eq_false (by omega)
    clear h
    go_enter Try.func25, Try.ntmps25
    go_wp2_with fail
    go_ret
    exact ⟨rfl, rfl⟩
  · have d1 : decide (a ≤ n) = false := decide_eq_false k
    clear h
    go_enter Try.func25, Try.ntmps25
    go_wp2_with fail
    go_ret
    exact ⟨rfl, rfl⟩
/-- As walks want it: what it tells is named ahead. -/
theorem in_at (n a b : Int) : ∃ t : Bool, Hid (∀ w, Calls Try.prog 25 #[.int .i64 n, .int .i64 a, .int .i64 b] w fun e w' => e = .returned (.bool t) ∧ w = w') ∧ Hid ((t = true → a ≤ n ∧ n ≤ b) ∧ (t = false → ¬ (a ≤ n ∧ n ≤ b))) := by
  by_cases h : a ≤ n ∧ n ≤ b
  · exact ⟨true, Lib.hid fun w => in_yes n a b w h.1 h.2, Lib.hid ⟨fun _ => h, fun h => (by cases h)⟩⟩
  · exact ⟨false, Lib.hid fun w => in_no n a b w (by omega), Lib.hid ⟨fun h => (by cases h), fun _ => h⟩⟩
/-! a row of one's own that grows: boxes of another type stay -/
theorem own_kept {w w' : World} {B : Nat} {e T : TypeId} {size n U : Nat} {v : Value} {xs : List Value} {cs : Array Value} (h : w.ownsRow B e size v n xs) (hg : w.grownBy w' v.ownBlock) (hU : w.heap[U]? = some (.cells cs T (0, 0))) (hT : T ≠ e) : w'.heap[U]? = some (.cells cs T (0, 0)) := grown_block hg hU fun e1 => by
  obtain ⟨_, _, cur, h3⟩ := own_type h e1
  rw [hU] at h3
  injection h3 with h3
  injection h3 with _ h4
  exact hT h4
theorem own_low {w w' : World} {B : Nat} {e : TypeId} {size n : Nat} {v : Value} {xs : List Value} (h : w.ownsRow B e size v n xs) (hg : w.grownBy w' v.ownBlock) (hB : B ≤ w.heap.size) : Below B w w' := (Below.refl B w).grown hg hB fun k hk => (h.lt k hk).1
theorem app_n (W : World) {B : Nat} {a : Option Addr} {m c : Nat} {o : List Nd} (t : Nd) (h : OwnN W B (.slice a m c) o) (hm : m ≤ 1048576) (hB : B ≤ W.heap.size) :
    ∃ a' c' W', Hid ((Builtin.append_ #[30, 30] 30 #[.slice a m c, .slice (some ⟨W.heap.size, 0, none⟩) 1 1]).run Try.prog (W.alloc (.cells #[.int .i64 t.a, .int .i64 t.b] 32)) = .ok (.slice a' (m + 1) c') W') ∧ OwnN W' B (.slice a' (m + 1) c') (o ++ [t]) ∧ W.grownBy W' (Value.slice a m c).ownBlock := by
  have hl : o.length = m := (Graph.nds_own h).1
  obtain ⟨i0, hi, hz0, hz1, hz2⟩ := info_parts Graph.info_nd
  have hA : (OwnN (W.alloc (.cells #[.int .i64 t.a, .int .i64 t.b] 32)) B (.slice a m c) o) := h.alloc _
  have hb := (Below.refl W.heap.size W).alloc (Nat.le_refl _) (.cells #[.int .i64 t.a, .int .i64 t.b] 32)
  obtain ⟨v2, W3, r2, o2, b2⟩ := app_any (P := Try.prog) (t := 30) (e := 32) (i := i0) (W.alloc (.cells #[.int .i64 t.a, .int .i64 t.b] 32)) B 30 Graph.zeroNdV 2 16 Try.underlying30 hi hz0 hz1 hz2 rfl (by omega) _ o.length (Graph.ncells o) hA (some ⟨W.heap.size, 0, none⟩) 1 1 (Graph.ncells [t]) rfl (fun j u hj => ⟨_, rfl, by
    have hblk := heap_alloc_new W (.cells #[.int .i64 t.a, .int .i64 t.b] 32)
    rw [Goods.addr_add, Nat.zero_add]
    refine cell_block (j := j) hblk ?_
    rw [← Array.getElem?_toList]
    exact hj⟩) (Graph.ncells_one _) (by unfold maxLen; omega) (by omega) (Nat.le_trans hB hb.size)
  have e3 : Graph.ncells o ++ Graph.ncells [t] = Graph.ncells (o ++ [t]) := (Graph.ncells_append o [t]).symm
  have e4 : o.length + 1 = (o ++ [t]).length := by simp
  rw [e3, e4] at o2
  obtain ⟨a2, c2, rfl, _⟩ := Graph.rowN o2
  have e : (o ++ [t]).length = m + 1 := by simp [hl]
  have hg : W.grownBy W3 (Value.slice a m c).ownBlock :=
    ⟨b2.os.trans hb.os, b2.tape.trans hb.tape, b2.output.trans hb.output, Nat.le_trans hb.size b2.size, fun k hk hr => (b2.block k (Nat.lt_of_lt_of_le hk hb.size) hr).trans (hb.block k hk)⟩
  rw [e] at r2 o2
  exact ⟨a2, c2, W3, Lib.hid r2, by show World.ownsRow _ _ _ _ _ _ _; rw [e]; exact o2, hg⟩
/-! boxes -/
abbrev bArr (b : Bl) : Array Value := #[.int .i64 b.ot, .int .i64 b.per, .int .i64 b.tm, .slice b.sa b.sm b.sc, .int .i64 b.cp, .int .i64 b.st, .int .i64 b.mo]
theorem box_bl (w : World) (b : Bl) : ∃ U Y, w.heap.size = U ∧ w.alloc (.cells #[.int .i64 b.ot, .int .i64 b.per, .int .i64 b.tm, .slice b.sa b.sm b.sc, .int .i64 b.cp, .int .i64 b.st, .int .i64 b.mo] 35) = Y ∧ Hid (Below w.heap.size w Y ∧ Y.heap[U]? = some (.cells (bArr b) 35 (0, 0))) :=
  ⟨_, _, rfl, rfl, Lib.hid ⟨(Below.refl _ w).alloc (Nat.le_refl _) _, heap_alloc_new w _⟩⟩
theorem cellsU {w : World} {U : Nat} {b : Bl} {T : TypeId} (h1 : w.heap[U]? = some (.cells (bArr b) T (0, 0))) : Recipe.CellsU w U b :=
  ⟨cell_block (j := 0) h1 rfl, cell_block (j := 1) h1 rfl, cell_block (j := 2) h1 rfl, cell_block (j := 3) h1 rfl, cell_block (j := 4) h1 rfl, cell_block (j := 5) h1 rfl, cell_block (j := 6) h1 rfl⟩
theorem box_st (w : World) (t : St) : ∃ S Z, w.heap.size = S ∧ w.alloc (.cells #[.int .i64 t.kind, .int .i64 t.qty] 54) = Z ∧ Z.cell? ⟨S, 0, none⟩ = some (.int .i64 t.kind) ∧ Z.cell? ⟨S, 1, none⟩ = some (.int .i64 t.qty) ∧ Hid (Below w.heap.size w Z) :=
  ⟨_, _, rfl, rfl, cell_block (j := 0) (heap_alloc_new w _) rfl, cell_block (j := 1) (heap_alloc_new w _) rfl, Lib.hid ((Below.refl _ w).alloc (Nat.le_refl _) _)⟩
theorem block_at {w w' : World} {U : Nat} {o : Obj} (h : w.heap[U]? = some o) (hb : Below w.heap.size w w') : w'.heap[U]? = some o := (hb.block U (Array.getElem?_eq_some_iff.1 h).1).trans h
set_option maxRecDepth 100000 in
set_option maxHeartbeats 8000000 in
theorem needs_im (C : CM) (w : World) (h : CatAt w C) (hl : Lim C) :
    Calls Try.prog 8 #[C.v] w fun e w' => ∃ a n c, e = .returned (.slice a n c) ∧ Hid ((ndL C.p.bs).length = n ∧ n ≤ 240 ∧ OwnN w' w.heap.size (.slice a n c) (ndL C.p.bs) ∧ Below w.heap.size w w') := by
  obtain ⟨V, X, hV, hX, HXB, HP⟩ := box_cat w C
  obtain ⟨k0, k1, k2, k3, k4, k5, k6, k7⟩ := HP.out X (Below.refl _ _)
  have HB := blue_at (h.under HXB.out)
  have HSM : Hid (∀ b ∈ C.bs, b.sm ≤ 12) := Lib.hid hl.1
  have HL := Lib.hid h.1.1
  have hb1 : C.bn ≤ 20 := hl.2.1
  have hb2 : (C.bn : Int) ≤ 20 := by omega
  have H0 : Hid (OwnN X X.heap.size (.slice none 0 0) []) := Lib.hid (World.ownsRow_nil _ _ _ _)
  clear h hl
  go_enter Try.func8, Try.ntmps8
  go_wp2_with fail
  clear hX hV k0 k1 k2 k3 k4 k5 k6 k7
  go_loopw [3, 11] (fun v t wr => ∃ (i j : Nat) (a1 : Option Addr) (c1 : Nat), v = .slice a1 j c1 ∧ t = .int .i64 (i : Int) ∧ i ≤ C.bn ∧ Hid (j ≤ 12 * i) ∧ Hid (OwnN wr X.heap.size (.slice a1 j c1) (ndL (C.p.bs.take i)) ∧ Below X.heap.size X wr)) (fun _ t _ => C.bn - (RowKit.intOf t).toNat)
  case atStart => exact ⟨0, 0, none, 0, rfl, rfl, by omega, Lib.hid (by omega), Lib.hid ⟨H0.out, Below.refl _ _⟩⟩
  case round =>
    clear H0
    obtain ⟨i, j, a1, c1, rfl, rfl, hi, HJ, HO⟩ := hrel
    have hi0 : (0 : Int) ≤ (i : Int) := by omega
    by_cases hlt : i < C.bn
    · have hlt2 : (i : Int) < (C.bn : Int) := by omega
      obtain ⟨W0, rfl⟩ : ∃ W0, W0 = wr := ⟨_, rfl⟩
      obtain ⟨g, off, b, hba, ht, q0, q1, q2, q3, q4, q5, q6⟩ := HB.out W0 i HO.out.2 hlt
      have hp : C.p.bs[i]? = some (pOf b) := by unfold CM.p; simp [ht.out.1]
      have HM := Lib.hid (ndL_take hp)
      have hsm := HSM.out b (List.mem_of_getElem? ht.out.1)
      have hsm1 : (b.sm : Int) ≤ 12 := by omega
      have wi : IntKind.i64.wrap ((i : Int) + 1) = (i : Int) + 1 := IntWalk.i64_in _ (by omega)
      have HSL := Lib.hid ht.out.2.1
      have HST : Hid (∀ W, Below W0.heap.size W0 W → Sts W b.sa b.s) := Lib.hid (fun W hW => ht.out.2.2.under hW)
      obtain ⟨U, Y, hU, hY, HY⟩ := box_bl W0 b
      obtain ⟨y0, y1, y2, y3, y4, y5, y6⟩ := cellsU HY.out.2
      have HST2 : Hid (∀ W, Below X.heap.size X W → Sts W b.sa b.s) := Lib.hid (fun W hW => by
        obtain ⟨g2, off2, b2, hba2, ht2, c⟩ := HB.out W i hW hlt
        have e2 := ht2.out.1
        rw [ht.out.1] at e2
        cases e2
        exact ht2.out.2.2)
      have HO1 : Hid (OwnN Y X.heap.size (.slice a1 j c1) (ndL (C.p.bs.take i) ++ nd1 b.ot (b.s.take 0)) ∧ Below X.heap.size X Y ∧ Y.heap[U]? = some (.cells (bArr b) 35 (0, 0))) := Lib.hid ⟨by
        rw [List.take_zero]
        show OwnN _ _ _ (_ ++ [])
        rw [List.append_nil]
        exact Graph.own_under HO.out.1 HY.out.1, below_then HO.out.2 HY.out.1, HY.out.2⟩
      rw [hba]
      clear hp ht hba HO HST
      go_wp2_with fail
      clear hY hU q0 q1 q2 q3 q4 q5 q6 y0 y1 y2 y3 y4 y5 y6
      go_loopw [3, 18] (fun v t wr => ∃ (k m : Nat) (a1 : Option Addr) (c1 : Nat), v = .slice a1 m c1 ∧ t = .int .i64 (k : Int) ∧ k ≤ b.sm ∧ Hid (m ≤ 12 * i + k) ∧ Hid (OwnN wr X.heap.size (.slice a1 m c1) (ndL (C.p.bs.take i) ++ nd1 b.ot (b.s.take k)) ∧ Below X.heap.size X wr ∧ wr.heap[U]? = some (.cells (bArr b) 35 (0, 0)))) (fun _ t _ => b.sm - (RowKit.intOf t).toNat)
      case atStart => exact ⟨0, j, a1, c1, rfl, rfl, by omega, Lib.hid (by have := HJ.out; omega), HO1⟩
      case round =>
        clear HO1 HJ
        obtain ⟨k, m, a3, c3, rfl, rfl, hk, HJ, HO⟩ := hrel
        have hk0 : (0 : Int) ≤ (k : Int) := by omega
        by_cases hkt : k < b.sm
        · have hkt2 : (k : Int) < (b.sm : Int) := by omega
          have wk : IntKind.i64.wrap ((k : Int) + 1) = (k : Int) + 1 := IntWalk.i64_in _ (by omega)
          obtain ⟨g2, off2, t, hsa, hts, z0, z1⟩ := (Goods.sts_at (HST2.out wr HO.out.2.1)).out wr k (Below.refl _ _) (by rw [HSL.out]; exact hkt)
          obtain ⟨S, Z, hS, hZ, s0, s1, HZ⟩ := box_st wr t
          have hbz := block_at HO.out.2.2 HZ.out
          obtain ⟨y0, y1, y2, y3, y4, y5, y6⟩ := cellsU hbz
          have hoz := Graph.own_under HO.out.1 HZ.out
          have hlz := below_then HO.out.2.1 HZ.out
          obtain ⟨a2, c2, W2, HR1, o2, hg2⟩ := app_n Z ⟨b.ot, t.kind⟩ hoz (by have := HJ.out; omega) hlz.size
          have HO2 : Hid (OwnN W2 X.heap.size (.slice a2 (m + 1) c2) (ndL (C.p.bs.take i) ++ nd1 b.ot (b.s.take (k + 1))) ∧ Below X.heap.size X W2 ∧ W2.heap[U]? = some (.cells (bArr b) 35 (0, 0))) := Lib.hid ⟨by
            rw [nd1_take hts.out, ← List.append_assoc]
            exact o2, hlz.trans (own_low hoz hg2 hlz.size), own_kept hoz hg2 hbz (by decide)⟩
          clear o2 hg2 hoz hlz hbz
          rw [hsa]
          clear hsa
          go_wp2_with (at_builtin; refine walk_run (v' := .slice a2 (m + 1) c2) (w' := W2) rfl _ _ _ _ rfl _ _ rfl rfl ?_ ?_; exact HR1.out)
          clear hS hZ s0 s1 z0 z1 y0 y1 y2 y3 y4 y5 y6
          go_roundw
          case rel => exact ⟨k + 1, m + 1, a2, c2, rfl, by go_num, by omega, Lib.hid (by have := HJ.out; omega), HO2⟩
          case measure => simp [RowKit.intOf]; omega
        · obtain rfl : k = b.sm := by omega
          have HO2 : Hid (OwnN wr X.heap.size (.slice a3 m c3) (ndL (C.p.bs.take (i + 1))) ∧ Below X.heap.size X wr) := Lib.hid (by
            have := HO.out
            rw [List.take_of_length_le (l := b.s) (by rw [HSL.out]; exact Nat.le_refl _)] at this
            rw [HM.out]
            exact ⟨this.1, this.2.1⟩)
          go_wp2_with fail
          go_roundw
          case rel => exact ⟨i + 1, m, a3, c3, rfl, by go_num, by omega, Lib.hid (by have := HJ.out; omega), HO2⟩
          case measure => simp [RowKit.intOf]; omega
    · obtain rfl : i = C.bn := by omega
      have HF : Hid (OwnN wr X.heap.size (.slice a1 j c1) (ndL C.p.bs)) := Lib.hid (by
        have := HO.out.1
        rw [List.take_of_length_le (by unfold CM.p; rw [List.length_map, HL.out]; exact Nat.le_refl _)] at this
        exact this)
      go_wp2_with fail
      go_ret
      exact ⟨a1, j, c1, rfl, Lib.hid ⟨(Graph.nds_own HF.out).1, by have := HJ.out; omega, World.ownsRow.mono HF.out HXB.out.size, below_then HXB.out HO.out.2⟩⟩
end Go.Proofs.Yteaclacbdelinaa.Cat.Im
