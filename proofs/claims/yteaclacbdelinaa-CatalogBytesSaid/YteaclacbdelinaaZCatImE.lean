/- The program's numbers of a catalogue: what is put, one behind the other. -/
import Derived.Test.YteaclacbdelinaaZCatImC
import Derived.Test.YteaclacbdelinaaZCatG
namespace Go.Proofs.Yteaclacbdelinaa.Cat.Im
open Go.RowKit Go.Lib IRows
open Goods (St Sts OwnS)
open Recipe (Bl BlIn blV)

theorem ks_len {w : World} {B : Nat} {a : Option Addr} {m c : Nat} {o : List Int} (h : KS w B (.slice a m c) o) : o.length = m := by
  obtain ⟨a', c', e, _⟩ := h.at
  injection e with _ e2 _
  exact e2.symm
/-- Some numbers more at a row's end, as a literal lays them. -/
theorem app_ks (W : World) {B : Nat} {a : Option Addr} {m c : Nat} {o : List Int} (xs : List Int) (cs : Array Value) (k : Nat) (hcs : cs.toList = xs.map (Value.int .i64)) (hk : xs.length = k) (h : KS W B (.slice a m c) o) (hm : m ≤ 1048576) (hk2 : k ≤ 1048576) (hB : B ≤ W.heap.size) :
    ∃ a' c' W', Hid ((Builtin.append_ #[60, 60] 60 #[.slice a m c, .slice (some ⟨W.heap.size, 0, none⟩) k k]).run Try.prog (W.alloc (.cells cs 3)) = .ok (.slice a' (m + k) c') W') ∧ KS W' B (.slice a' (m + k) c') (o ++ xs) ∧ W.grownBy W' (Value.slice a m c).ownBlock := by
  have hl := ks_len h
  obtain ⟨i0, hi, hz0, hz1, hz2⟩ := info_parts info_int
  have hA : KS (W.alloc (.cells cs 3)) B (.slice a m c) o := h.alloc _
  have hb := (Below.refl W.heap.size W).alloc (Nat.le_refl _) (.cells cs 3)
  obtain ⟨v2, W3, r2, o2, b2⟩ := app_any (P := Try.prog) (t := 60) (e := 3) (i := i0) (W.alloc (.cells cs 3)) B 60 (.int .i64 0) 1 8 Try.underlying60 hi hz0 hz1 hz2 rfl (by omega) _ o.length (o.map (Value.int .i64)) hA (some ⟨W.heap.size, 0, none⟩) k k (xs.map (Value.int .i64)) (by rw [List.length_map, hk]; omega) (fun j u hj => ⟨_, rfl, by
    have hblk := heap_alloc_new W (.cells cs 3)
    rw [addr_add, Nat.zero_add]
    refine cell_block (j := j) hblk ?_
    rw [← Array.getElem?_toList, hcs]
    exact hj⟩) (fun u hu => by
      obtain ⟨x, _, rfl⟩ := List.mem_map.1 hu
      rfl) (by unfold maxLen; omega) (by omega) (Nat.le_trans hB hb.size)
  have e3 : o.map (Value.int .i64) ++ xs.map (Value.int .i64) = (o ++ xs).map (Value.int .i64) := (List.map_append ..).symm
  have e4 : o.length + k = (o ++ xs).length := by rw [List.length_append, hk]
  rw [e3, e4] at o2
  obtain ⟨a2, c2, rfl, _⟩ := KS.at (w := W3) (B := B) (l := o ++ xs) o2
  have e : (o ++ xs).length = m + k := by rw [List.length_append, hl, hk]
  have hg : W.grownBy W3 (Value.slice a m c).ownBlock :=
    ⟨b2.os.trans hb.os, b2.tape.trans hb.tape, b2.output.trans hb.output, Nat.le_trans hb.size b2.size, fun q hq hr => (b2.block q (Nat.lt_of_lt_of_le hq hb.size) hr).trans (hb.block q hq)⟩
  rw [e] at r2 o2
  exact ⟨a2, c2, W3, Lib.hid r2, by show World.ownsRow _ _ _ _ _ _ _; rw [e]; exact o2, hg⟩
/-- While numbers are gathered: the row, and what there was. -/
def Gat (X w : World) (v : Value) (o : List Int) : Prop := KS w X.heap.size v o ∧ Below X.heap.size X w
theorem Gat.under {X w w' : World} {v : Value} {o : List Int} (h : Gat X w v o) (hb : Below w.heap.size w w') : Gat X w' v o := ⟨h.1.under hb, below_then h.2 hb⟩
/-- Some numbers more; boxes of another type stay. -/
theorem Gat.app {X W : World} {a : Option Addr} {m c : Nat} {o : List Int} (h : Gat X W (.slice a m c) o) (xs : List Int) (cs : Array Value) (k : Nat) (hcs : cs.toList = xs.map (Value.int .i64)) (hk : xs.length = k) (hm : m ≤ 1000) (hk2 : k ≤ 10) :
    ∃ a' c' W', Hid ((Builtin.append_ #[60, 60] 60 #[.slice a m c, .slice (some ⟨W.heap.size, 0, none⟩) k k]).run Try.prog (W.alloc (.cells cs 3)) = .ok (.slice a' (m + k) c') W') ∧ Hid (Gat X W' (.slice a' (m + k) c') (o ++ xs)) ∧ Hid (∀ (U : Nat) (ds : Array Value) (T : TypeId), W.heap[U]? = some (.cells ds T (0, 0)) → T ≠ 3 → W'.heap[U]? = some (.cells ds T (0, 0))) := by
  obtain ⟨a2, c2, W2, hr, ho, hg⟩ := app_ks W xs cs k hcs hk h.1 (by omega) (by omega) h.2.size
  exact ⟨a2, c2, W2, hr, Lib.hid ⟨ho, h.2.trans (own_low h.1 hg h.2.size)⟩, Lib.hid fun U ds T hU hT => own_kept h.1 hg hU hT⟩
set_option maxRecDepth 100000 in
set_option maxHeartbeats 16000000 in
theorem numbers_im (C : CM) (w : World) (h : CatAt w C) (hl : Lim C) :
    Calls Try.prog 39 #[C.v] w fun e w' => ∃ a n c, e = .returned (.slice a n c) ∧ Hid ((ints C.p).length = n ∧ n ≤ 1000 ∧ KS w' w.heap.size (.slice a n c) (ints C.p) ∧ Below w.heap.size w w') := by
  obtain ⟨V, X, hV, hX, HXB, HP⟩ := box_cat w C
  obtain ⟨k0, k1, k2, k3, k4, k5, k6, k7⟩ := HP.out X (Below.refl _ _)
  have HB := blue_at (h.under HXB.out)
  have HY := bay_at (h.under HXB.out)
  have HSM : Hid (∀ b ∈ C.bs, b.sm ≤ 12) := Lib.hid hl.1
  have HL1 : Hid (C.p.bs.length = C.bn ∧ C.ys.length = C.yn ∧ C.bs.length = C.bn) := Lib.hid ⟨by unfold CM.p; rw [List.length_map]; exact h.1.1, h.2.1, h.1.1⟩
  have hb1 : C.bn ≤ 20 := hl.2.1
  have hb2 : (C.bn : Int) ≤ 20 := by omega
  have hy1 : C.yn ≤ 12 := hl.2.2
  have hy2 : (C.yn : Int) ≤ 12 := by omega
  obtain ⟨G, hG⟩ : ∃ G, X.heap.size = G := ⟨_, rfl⟩
  obtain ⟨X1, hX1⟩ : ∃ X1, X.alloc (.cells #[.int .i64 C.ty, .int .i64 (C.bn : Int)] 3) = X1 := ⟨_, rfl⟩
  have HG1 : Hid (Gat X X1 (.slice (some ⟨G, 0, none⟩) 2 2) ([C.ty, (C.bn : Int)] ++ intsBs (C.p.bs.take 0))) := Lib.hid ⟨by
    rw [← hX1, ← hG]
    exact World.ownsRow_lit X #[.int .i64 C.ty, .int .i64 (C.bn : Int)] 2 (Nat.le_refl _) (by unfold maxLen; omega) rfl, by rw [← hX1]; exact (Below.refl _ X).alloc (Nat.le_refl _) _⟩
  obtain ⟨z0, z1, z2, z3, z4, z5, z6, z7⟩ := HP.out X1 HG1.out.2
  clear h hl
  go_enter Try.func39, Try.ntmps39
  go_wp2_with fail
  clear hX hV hG hX1 k0 k1 k2 k3 k4 k5 k6 k7 z0 z1 z2 z3 z4 z5 z6 z7
  go_loopw [3, 19] (fun v t wr => ∃ (i j : Nat) (a1 : Option Addr) (c1 : Nat), v = .slice a1 j c1 ∧ t = .int .i64 (i : Int) ∧ i ≤ C.bn ∧ Hid (j ≤ 2 + 31 * i) ∧ Hid (Gat X wr (.slice a1 j c1) ([C.ty, (C.bn : Int)] ++ intsBs (C.p.bs.take i)))) (fun _ t _ => C.bn - (RowKit.intOf t).toNat)
  case atStart => exact ⟨0, 2, some ⟨G, 0, none⟩, 2, rfl, rfl, by omega, Lib.hid (by omega), HG1⟩
  case round =>
    clear HG1
    obtain ⟨i, j, a1, c1, rfl, rfl, hi, HJ, HO⟩ := hrel
    have hi0 : (0 : Int) ≤ (i : Int) := by omega
    by_cases hlt : i < C.bn
    · have hlt2 : (i : Int) < (C.bn : Int) := by omega
      obtain ⟨W0, rfl⟩ : ∃ W0, W0 = wr := ⟨_, rfl⟩
      obtain ⟨g, off, b, hba, ht, q0, q1, q2, q3, q4, q5, q6⟩ := HB.out W0 i HO.out.2 hlt
      have hp : C.p.bs[i]? = some (pOf b) := by unfold CM.p; simp [ht.out.1]
      have HM := Lib.hid (intsBs_take hp)
      have hsm := HSM.out b (List.mem_of_getElem? ht.out.1)
      have hsm1 : (b.sm : Int) ≤ 12 := by omega
      have wi : IntKind.i64.wrap ((i : Int) + 1) = (i : Int) + 1 := IntWalk.i64_in _ (by omega)
      have HSL := Lib.hid ht.out.2.1
      obtain ⟨U, Y, hU, hY, HYB⟩ := box_bl W0 b
      obtain ⟨y0, y1, y2, y3, y4, y5, y6⟩ := cellsU HYB.out.2
      have HST : Hid (∀ W, Below X.heap.size X W → Sts W b.sa b.s) := Lib.hid (fun W hW => by
        obtain ⟨g2, off2, b2, hba2, ht2, c⟩ := HB.out W i hW hlt
        have e2 := ht2.out.1
        rw [ht.out.1] at e2
        cases e2
        exact ht2.out.2.2)
      obtain ⟨L, hL⟩ : ∃ L, [C.ty, (C.bn : Int)] ++ intsBs (C.p.bs.take i) = L := ⟨_, rfl⟩
      have HL : Hid ([C.ty, (C.bn : Int)] ++ intsBs (C.p.bs.take (i + 1)) = L ++ intsB (pOf b)) := Lib.hid (by rw [HM.out, ← List.append_assoc, hL])
      rw [hL] at HO
      obtain ⟨a2, c2, W2, HR2, HO2, HK2⟩ := (HO.out.under HYB.out.1).app [b.ot, b.per, b.tm, (b.sm : Int)] #[.int .i64 b.ot, .int .i64 b.per, .int .i64 b.tm, .int .i64 (b.sm : Int)] 4 rfl rfl (by have := HJ.out; omega) (by omega)
      have HU2 : Hid (W2.heap[U]? = some (.cells (bArr b) 35 (0, 0))) := Lib.hid (HK2.out U _ _ HYB.out.2 (by decide))
      obtain ⟨u0, u1, u2, u3, u4, u5, u6⟩ := cellsU HU2.out
      rw [hba]
      clear hp ht hba HO HM hL HK2
      go_wp2_with (at_builtin; refine walk_run (v' := .slice a2 (j + 4) c2) (w' := W2) rfl _ _ _ _ rfl _ _ rfl rfl ?_ ?_; exact HR2.out)
      clear hY hU q0 q1 q2 q3 q4 q5 q6 y0 y1 y2 y3 y4 y5 y6 u0 u1 u2 u3 u4 u5 u6
      go_loopw [3, 38] (fun v t wr => ∃ (k m : Nat) (a1 : Option Addr) (c1 : Nat), v = .slice a1 m c1 ∧ t = .int .i64 (k : Int) ∧ k ≤ b.sm ∧ Hid (m ≤ 2 + 31 * i + 4 + 2 * k) ∧ Hid (Gat X wr (.slice a1 m c1) (L ++ [b.ot, b.per, b.tm, (b.sm : Int)] ++ intsS (b.s.take k))) ∧ Hid (wr.heap[U]? = some (.cells (bArr b) 35 (0, 0)))) (fun _ t _ => b.sm - (RowKit.intOf t).toNat)
      case atStart => exact ⟨0, j + 4, a2, c2, rfl, rfl, by omega, Lib.hid (by have := HJ.out; omega), Lib.hid (by rw [List.take_zero]; show Gat _ _ _ (_ ++ []); rw [List.append_nil]; exact HO2.out), HU2⟩
      case round =>
        clear HO2 HJ HU2
        obtain ⟨k, m, a3, c3, rfl, rfl, hk, HJ, HO, HU3⟩ := hrel
        have hk0 : (0 : Int) ≤ (k : Int) := by omega
        by_cases hkt : k < b.sm
        · have hkt2 : (k : Int) < (b.sm : Int) := by omega
          have wk : IntKind.i64.wrap ((k : Int) + 1) = (k : Int) + 1 := IntWalk.i64_in _ (by omega)
          obtain ⟨g2, off2, t, hsa, hts, z0, z1⟩ := (Goods.sts_at (HST.out wr HO.out.2)).out wr k (Below.refl _ _) (by rw [HSL.out]; exact hkt)
          obtain ⟨S, Z, hS, hZ, s0, s1, HZ⟩ := box_st wr t
          have hbz := block_at HU3.out HZ.out
          obtain ⟨a4, c4, W4, HR4, HO4, HK4⟩ := (HO.out.under HZ.out).app [t.kind, t.qty] #[.int .i64 t.kind, .int .i64 t.qty] 2 rfl rfl (by have := HJ.out; omega) (by omega)
          have HO5 : Hid (Gat X W4 (.slice a4 (m + 2) c4) (L ++ [b.ot, b.per, b.tm, (b.sm : Int)] ++ intsS (b.s.take (k + 1)))) := Lib.hid (by
            rw [intsS_take hts.out, ← List.append_assoc]
            exact HO4.out)
          have HU5 : Hid (W4.heap[U]? = some (.cells (bArr b) 35 (0, 0))) := Lib.hid (HK4.out U _ _ hbz (by decide))
          clear HO4 HK4 hbz
          rw [hsa]
          clear hsa
          go_wp2_with (at_builtin; refine walk_run (v' := .slice a4 (m + 2) c4) (w' := W4) rfl _ _ _ _ rfl _ _ rfl rfl ?_ ?_; exact HR4.out)
          clear hS hZ s0 s1 z0 z1
          go_roundw
          case rel => exact ⟨k + 1, m + 2, a4, c4, rfl, by go_num, by omega, Lib.hid (by have := HJ.out; omega), HO5, HU5⟩
          case measure => simp [RowKit.intOf]; omega
        · obtain rfl : k = b.sm := by omega
          obtain ⟨u0, u1, u2, u3, u4, u5, u6⟩ := cellsU HU3.out
          obtain ⟨a4, c4, W4, HR4, HO4, HK4⟩ := HO.out.app [b.cp, b.st, b.mo] #[.int .i64 b.cp, .int .i64 b.st, .int .i64 b.mo] 3 rfl rfl (by have := HJ.out; omega) (by omega)
          have HO5 : Hid (Gat X W4 (.slice a4 (m + 3) c4) ([C.ty, (C.bn : Int)] ++ intsBs (C.p.bs.take (i + 1)))) := Lib.hid (by
            have h1 := HO4.out
            rw [List.take_of_length_le (by rw [HSL.out]; exact Nat.le_refl _)] at h1
            have e : intsB (pOf b) = [b.ot, b.per, b.tm, (b.sm : Int)] ++ (intsS b.s ++ [b.cp, b.st, b.mo]) := by
              rw [← HSL.out]
              rfl
            rw [HL.out, e]
            simpa only [List.append_assoc] using h1)
          clear HO4 HK4
          go_wp2_with (at_builtin; refine walk_run (v' := .slice a4 (m + 3) c4) (w' := W4) rfl _ _ _ _ rfl _ _ rfl rfl ?_ ?_; exact HR4.out)
          clear u0 u1 u2 u3 u4 u5 u6
          go_roundw
          case rel => exact ⟨i + 1, m + 3, a4, c4, rfl, by go_num, by omega, Lib.hid (by have := HJ.out; omega), HO5⟩
          case measure => simp [RowKit.intOf]; omega
    · obtain rfl : i = C.bn := by omega
      obtain ⟨W0, rfl⟩ : ∃ W0, W0 = wr := ⟨_, rfl⟩
      obtain ⟨k0, k1, k2, k3, k4, k5, k6, k7⟩ := HP.out W0 HO.out.2
      obtain ⟨L, hL⟩ : ∃ L, [C.ty, (C.bn : Int)] ++ intsBs C.p.bs = L := ⟨_, rfl⟩
      have HO1 : Hid (Gat X W0 (.slice a1 j c1) L) := Lib.hid (by
        have := HO.out
        rw [List.take_of_length_le (by rw [HL1.out.1]; exact Nat.le_refl _), hL] at this
        exact this)
      have HL := Lib.hid hL
      obtain ⟨a2, c2, W2, HR2, HO2, HK2⟩ := HO1.out.app [C.pl, (C.yn : Int)] #[.int .i64 C.pl, .int .i64 (C.yn : Int)] 2 rfl rfl (by have := HJ.out; omega) (by omega)
      obtain ⟨z0, z1, z2, z3, z4, z5, z6, z7⟩ := HP.out W2 HO2.out.2
      clear HO hL HK2 HO1
      go_wp2_with (at_builtin; refine walk_run (v' := .slice a2 (j + 2) c2) (w' := W2) rfl _ _ _ _ rfl _ _ rfl rfl ?_ ?_; exact HR2.out)
      clear k0 k1 k2 k3 k4 k5 k6 k7 z0 z1 z2 z3 z4 z5 z6 z7
      go_loopw [3, 71] (fun v t wr => ∃ (k m : Nat) (a1 : Option Addr) (c1 : Nat), v = .slice a1 m c1 ∧ t = .int .i64 (k : Int) ∧ k ≤ C.yn ∧ Hid (m ≤ 2 + 31 * 20 + 2 + 4 * k) ∧ Hid (Gat X wr (.slice a1 m c1) (L ++ [C.pl, (C.yn : Int)] ++ intsYs (C.ys.take k)))) (fun _ t _ => C.yn - (RowKit.intOf t).toNat)
      case atStart => exact ⟨0, j + 2, a2, c2, rfl, rfl, by omega, Lib.hid (by have := HJ.out; omega), Lib.hid (by rw [List.take_zero]; show Gat _ _ _ (_ ++ []); rw [List.append_nil]; exact HO2.out)⟩
      case round =>
        clear HO2 HJ
        obtain ⟨k, m, a3, c3, rfl, rfl, hk, HJ, HO⟩ := hrel
        have hk0 : (0 : Int) ≤ (k : Int) := by omega
        by_cases hkt : k < C.yn
        · have hkt2 : (k : Int) < (C.yn : Int) := by omega
          have wk : IntKind.i64.wrap ((k : Int) + 1) = (k : Int) + 1 := IntWalk.i64_in _ (by omega)
          obtain ⟨g2, off2, y, hya, hts, q0, q1, q2, q3⟩ := HY.out wr k HO.out.2 hkt
          obtain ⟨S, Z, hS, hZ, s0, s1, s2, s3, HZ⟩ := box_ba wr y
          obtain ⟨a4, c4, W4, HR4, HO4, HK4⟩ := (HO.out.under HZ.out).app [y.pl, y.mf, y.lb, y.rt] #[.int .i64 y.pl, .int .i64 y.mf, .int .i64 y.lb, .int .i64 y.rt] 4 rfl rfl (by have := HJ.out; omega) (by omega)
          have HO5 : Hid (Gat X W4 (.slice a4 (m + 4) c4) (L ++ [C.pl, (C.yn : Int)] ++ intsYs (C.ys.take (k + 1)))) := Lib.hid (by
            rw [intsYs_take hts.out, ← List.append_assoc]
            exact HO4.out)
          clear HO4 HK4
          rw [hya]
          clear hya
          go_wp2_with (at_builtin; refine walk_run (v' := .slice a4 (m + 4) c4) (w' := W4) rfl _ _ _ _ rfl _ _ rfl rfl ?_ ?_; exact HR4.out)
          clear hS hZ s0 s1 s2 s3 q0 q1 q2 q3
          go_roundw
          case rel => exact ⟨k + 1, m + 4, a4, c4, rfl, by go_num, by omega, Lib.hid (by have := HJ.out; omega), HO5⟩
          case measure => simp [RowKit.intOf]; omega
        · obtain rfl : k = C.yn := by omega
          obtain ⟨k0, k1, k2, k3, k4, k5, k6, k7⟩ := HP.out wr HO.out.2
          obtain ⟨a4, c4, W4, HR4, HO4, HK4⟩ := HO.out.app [C.ch, C.f.broker, C.f.least, C.f.sales] #[.int .i64 C.ch, .int .i64 C.f.broker, .int .i64 C.f.least, .int .i64 C.f.sales] 4 rfl rfl (by have := HJ.out; omega) (by omega)
          have HO5 : Hid (Gat X W4 (.slice a4 (m + 4) c4) (ints C.p)) := Lib.hid (by
            have h1 := HO4.out
            rw [List.take_of_length_le (by rw [HL1.out.2.1]; exact Nat.le_refl _)] at h1
            have e : ints C.p = L ++ [C.pl, (C.yn : Int)] ++ intsYs C.ys ++ [C.ch, C.f.broker, C.f.least, C.f.sales] := by
              unfold ints intsF
              rw [← HL.out, HL1.out.1]
              show _ ++ (_ ++ ([C.pl, (C.ys.length : Int)] ++ (intsYs C.ys ++ _))) = _
              rw [HL1.out.2.1]
              simp only [List.append_assoc]
              rfl
            rw [e]
            exact h1)
          clear HO4 HK4
          go_wp2_with (at_builtin; refine walk_run (v' := .slice a4 (m + 4) c4) (w' := W4) rfl _ _ _ _ rfl _ _ rfl rfl ?_ ?_; exact HR4.out)
          go_ret
          exact ⟨a4, m + 4, c4, rfl, Lib.hid ⟨ks_len HO5.out.1, by have := HJ.out; omega, World.ownsRow.mono HO5.out.1 HXB.out.size, below_then HXB.out HO5.out.2⟩⟩
end Go.Proofs.Yteaclacbdelinaa.Cat.Im
