/- The document's Needs. -/
import Derived.Test.YteaclacbdelinaaZCatA
import Derived.Test.YteaclacbdelinaaZGraphRows
import Derived.BigRegion
namespace Go.Proofs.Yteaclacbdelinaa.Cat
open Go.RowKit Go.Lib
open Goods (St Sts OwnS)
open Recipe (Bl BlIn blV)
open Graph (Nd Nds OwnN)

theorem ndL_take {l : List PB} {i : Nat} {b : PB} (h : l[i]? = some b) : ndL (l.take (i + 1)) = ndL (l.take i) ++ nd1 b.ot b.s := by
  rw [List.take_add_one, h]
  simp [ndL]
theorem nd1_take {o : Int} {s : List St} {k : Nat} {t : St} (h : s[k]? = some t) : nd1 o (s.take (k + 1)) = nd1 o (s.take k) ++ [⟨o, t.kind⟩] := by
  unfold nd1
  rw [List.take_add_one, h, List.map_append]
  rfl
theorem nd1_length (o : Int) (s : List St) : (nd1 o s).length = s.length := by simp [nd1]
set_option maxRecDepth 100000 in
set_option maxHeartbeats 8000000 in
theorem dneeds (C : CM) (w : World) (h : CatAt w C) (hl : Lim C) :
    Calls Try.prog 9 #[C.v] w fun e w' => ∃ a n c, e = .returned (.slice a n c) ∧ Hid ((ndL C.p.bs).length = n ∧ n ≤ 240 ∧ OwnN w' w.heap.size (.slice a n c) (ndL C.p.bs) ∧ Below w.heap.size w w') := by
  obtain ⟨V, X, hV, hX, HXB, HP⟩ := box_cat w C
  obtain ⟨k0, k1, k2, k3, k4, k5, k6, k7⟩ := HP.out X (Below.refl _ _)
  have HB := blue_at (h.under HXB.out)
  have HSM : Hid (∀ b ∈ C.bs, b.sm ≤ 12) := Lib.hid hl.1
  have HL := Lib.hid h.1.1
  have hb1 : C.bn ≤ 20 := hl.2.1
  have hb2 : (C.bn : Int) ≤ 20 := by omega
  have H0 : Hid (OwnN X X.heap.size (.slice none 0 0) []) := Lib.hid (World.ownsRow_nil _ _ _ _)
  clear h hl
  go_enter Try.func9, Try.ntmps9
  go_wp2_with fail
  clear hX hV
  go_loopw [3, 4] (fun v t wr => ∃ (i j : Nat) (a1 : Option Addr) (c1 : Nat), v = .slice a1 j c1 ∧ t = .int .i64 (i : Int) ∧ i ≤ C.bn ∧ Hid (j ≤ 12 * i) ∧ Hid (OwnN wr X.heap.size (.slice a1 j c1) (ndL (C.p.bs.take i)) ∧ Below X.heap.size X wr)) (fun _ t _ => C.bn - (RowKit.intOf t).toNat)
  case atStart => exact ⟨0, 0, none, 0, rfl, rfl, by omega, Lib.hid (by omega), Lib.hid ⟨H0.out, Below.refl _ _⟩⟩
  case round =>
    clear H0
    obtain ⟨i, j, a1, c1, rfl, rfl, hi, HJ, HO⟩ := hrel
    have hi0 : (0 : Int) ≤ (i : Int) := by omega
    obtain ⟨k0, k1, k2, k3, k4, k5, k6, k7⟩ := HP.out wr HO.out.2
    by_cases hlt : i < C.bn
    · have hlt2 : (i : Int) < (C.bn : Int) := by omega
      obtain ⟨g, off, b, hba, ht, q0, q1, q2, q3, q4, q5, q6⟩ := HB.out wr i HO.out.2 hlt
      rw [hba] at k1
      have hp : C.p.bs[i]? = some (pOf b) := by unfold CM.p; simp [ht.out.1]
      have HM := Lib.hid (ndL_take hp)
      have hsm := HSM.out b (List.mem_of_getElem? ht.out.1)
      have hsm1 : (b.sm : Int) ≤ 12 := by omega
      have wi : IntKind.i64.wrap ((i : Int) + 1) = (i : Int) + 1 := IntWalk.i64_in _ (by omega)
      have HBI : Hid (∀ W, Below X.heap.size X W → CellsB W g (off + i * 7) b) := Lib.hid (fun W hW => by
        obtain ⟨g2, off2, b2, hba2, ht2, c⟩ := HB.out W i hW hlt
        rw [hba] at hba2
        injection hba2 with e
        cases e
        have e2 := ht2.out.1
        rw [ht.out.1] at e2
        cases e2
        exact c)
      have HSL := Lib.hid ht.out.2.1
      have HST := Lib.hid (fun W (hW : Below X.heap.size X W) => by
        obtain ⟨g2, off2, b2, hba2, ht2, c⟩ := HB.out W i hW hlt
        have e2 := ht2.out.1
        rw [ht.out.1] at e2
        cases e2
        exact (Goods.sts_at ht2.out.2.2).out)
      obtain ⟨W0, rfl⟩ : ∃ W0, W0 = wr := ⟨_, rfl⟩
      clear hp ht
      go_wp2_with fail
      go_loopw [3, 5] (fun v t wr => ∃ (k m : Nat) (a1 : Option Addr) (c1 : Nat), v = .slice a1 m c1 ∧ t = .int .i64 (k : Int) ∧ k ≤ b.sm ∧ Hid (m ≤ 12 * i + k) ∧ Hid (OwnN wr X.heap.size (.slice a1 m c1) (ndL (C.p.bs.take i) ++ nd1 b.ot (b.s.take k)) ∧ Below X.heap.size X wr)) (fun _ t _ => b.sm - (RowKit.intOf t).toNat)
      case atStart => exact ⟨0, j, a1, c1, rfl, rfl, by omega, Lib.hid (by have := HJ.out; omega), Lib.hid ⟨by simpa [nd1] using HO.out.1, HO.out.2⟩⟩
      case round =>
        clear HO HJ k0 k1 k2 k3 k4 k5 k6 k7 q0 q1 q2 q3 q4 q5 q6
        obtain ⟨k, m, a3, c3, rfl, rfl, hk, HJ, HO⟩ := hrel
        have hk0 : (0 : Int) ≤ (k : Int) := by omega
        obtain ⟨k0, k1, k2, k3, k4, k5, k6, k7⟩ := HP.out wr HO.out.2
        obtain ⟨q0, q1, q2, q3, q4, q5, q6⟩ := HBI.out wr HO.out.2
        rw [hba] at k1
        by_cases hkt : k < b.sm
        · have hkt2 : (k : Int) < (b.sm : Int) := by omega
          have wk : IntKind.i64.wrap ((k : Int) + 1) = (k : Int) + 1 := IntWalk.i64_in _ (by omega)
          obtain ⟨g2, off2, t, hsa, hts, z0, z1⟩ := (HST.out wr HO.out.2) wr k (Below.refl _ _) (by rw [HSL.out]; exact hkt)
          rw [hsa] at q3
          obtain ⟨a2, c2, W2, HR1, o2, b2⟩ := Graph.app1n wr.drew ⟨b.ot, t.kind⟩ (Graph.own_under HO.out.1 (Below.refl _ wr).drew) (by have := HJ.out; omega) HO.out.2.size
          have HO2 : Hid (OwnN W2 X.heap.size (.slice a2 (m + 1) c2) (ndL (C.p.bs.take i) ++ nd1 b.ot (b.s.take (k + 1))) ∧ Below X.heap.size X W2) := Lib.hid ⟨by
            rw [nd1_take hts.out, ← List.append_assoc]
            exact o2, HO.out.2.drew.trans b2⟩
          clear o2 b2
          go_wp2_with fail
          go_region_law (first | (refine step_run (by rfl) _ _ _ _ (by rfl) _ _ (by rfl) (by rfl) HR1.out ?_))
          all_goals
            go_wp2_with fail
            go_roundw
            case rel => exact ⟨k + 1, m + 1, a2, c2, rfl, by go_num, by omega, Lib.hid (by have := HJ.out; omega), HO2⟩
            case measure => simp [RowKit.intOf]; omega
        · obtain rfl : k = b.sm := by omega
          have HO2 : Hid (OwnN wr X.heap.size (.slice a3 m c3) (ndL (C.p.bs.take (i + 1))) ∧ Below X.heap.size X wr) := Lib.hid (by
            have := HO.out
            rw [List.take_of_length_le (l := b.s) (by rw [HSL.out]; exact Nat.le_refl _)] at this
            rw [HM.out]
            exact this)
          go_wp2_with fail
          go_roundw
          case rel => exact ⟨i + 1, m, a3, c3, rfl, by go_num, by omega, Lib.hid (by have := HJ.out; omega), HO2⟩
          case measure => simp [RowKit.intOf]; omega
    · obtain rfl : i = C.bn := by omega
      have HF : Hid (OwnN wr X.heap.size (.slice a1 j c1) (ndL C.p.bs)) := Lib.hid (by
        have := HO.out.1
        rw [List.take_of_length_le (by unfold CM.p; rw [List.length_map, HL.out]; exact Nat.le_refl _)] at this
        exact this)
      go_wp2_with fail
      go_ret
      exact ⟨a1, j, c1, rfl, Lib.hid ⟨(Graph.nds_own HF.out).1, by have := HJ.out; omega, World.ownsRow.mono HF.out HXB.out.size, below_then HXB.out HO.out.2⟩⟩
end Go.Proofs.Yteaclacbdelinaa.Cat
