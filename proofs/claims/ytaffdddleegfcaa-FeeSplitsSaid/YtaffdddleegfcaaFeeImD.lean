/- The program's mostFirst: a row of places, sorted by what is left. -/
import Derived.Test.YtaffdddleegfcaaFeeImB
import Derived.Deep.OwnRows
namespace Go.Proofs.Ytaffdddleegfcaa.Fee
open Go.RowKit Go.Lib IRows

theorem info_one : (Try.prog.info? 3).map (fun i => (i.zero, i.size, i.bytes)) = some (some (.int .i64 0), 1, 8) := by kernel_rfl
theorem made_ints (n : Nat) : (madeCells #[(Value.int .i64 0)] n).toList = (List.replicate n (0 : Int)).map (Value.int .i64) := by
  rw [List.map_replicate]
  apply List.ext_getElem?
  intro i
  by_cases h : i < n
  · rw [List.getElem?_replicate, if_pos h, Array.getElem?_toList]
    simp [madeCells, h, Nat.mod_one]
  · rw [List.getElem?_replicate, if_neg h, Array.getElem?_toList]
    simp [madeCells, h]
/-- A row of zeros that make has made. -/
theorem ks_made (w : World) (n : Nat) {B : Nat} (hB : B ≤ w.heap.size) (hn : n ≤ 1048576) : KS (w.alloc (.cells (madeCells #[(Value.int .i64 0)] n) 3)) B (.slice (some ⟨w.heap.size, 0, none⟩) n n) (List.replicate n 0) := by
  have h := heap_alloc_new w (.cells (madeCells #[(Value.int .i64 0)] n) 3)
  have hs : (madeCells #[(Value.int .i64 0)] n).size = n * 1 := by simp [madeCells]
  refine ⟨by simp, .inr ⟨w.heap.size, n, madeCells #[(Value.int .i64 0)] n, by simp, hB, h, by simp, by unfold maxLen; omega, hs, ?_⟩⟩
  rw [made_ints, List.take_of_length_le (by simp)]
theorem ks_base {w : World} {B g n c : Nat} {l : List Int} (h : KS w B (.slice (some ⟨g, 0, none⟩) n c) l) {B' : Nat} (hB : B' ≤ g) : KS w B' (.slice (some ⟨g, 0, none⟩) n c) l := by
  refine ⟨h.1, ?_⟩
  rcases h.2 with h1 | ⟨g', cap, cur, hv, h1, h2⟩
  · exact .inl h1
  · have e := hv
    injection e with e _ _
    injection e with e
    injection e with e _ _
    subst e
    exact .inr ⟨g, cap, cur, hv, hB, h2⟩
/-- Filled as far as i. -/
def part (m i : Nat) : List Int := ints (List.range i) ++ List.replicate (m - i) 0
theorem part_zero (m : Nat) : part m 0 = List.replicate m 0 := by simp [part]
theorem part_all (m : Nat) : part m m = ints (List.range m) := by simp [part]
theorem part_length {m i : Nat} (h : i ≤ m) : (part m i).length = m := by simp [part]; omega
theorem part_set {m i : Nat} (h : i < m) : (part m i).set i (i : Int) = part m (i + 1) := by
  obtain ⟨k, hk⟩ : ∃ k, m - i = k + 1 := ⟨m - i - 1, by omega⟩
  have e1 : ints (List.range (i + 1)) = ints (List.range i) ++ [(i : Int)] := by simp [ints, List.range_succ]
  unfold part
  rw [hk, show m - (i + 1) = k by omega, List.replicate_succ, e1, List.set_append_right _ _ (by simp [ints])]
  simp [ints]
set_option maxRecDepth 100000 in
set_option maxHeartbeats 8000000 in
theorem most_im (r : List Int) (ar : Option Addr) (m cr : Nat) (w : World) (hr : r.length = m) (hs : IRow w ar r) (m0 : 1 ≤ m) (m1 : m ≤ 16) :
    Calls Try.prog 23 #[.slice ar m cr] w fun e w' => ∃ g, e = .returned (.slice (some ⟨g, 0, none⟩) m m) ∧ KS w' w.heap.size (.slice (some ⟨g, 0, none⟩) m m) (ints (ordF r)) ∧ Below w.heap.size w w' := by
  obtain ⟨V, hV⟩ : ∃ V, w.heap.size = V := ⟨_, rfl⟩
  obtain ⟨Y, hY⟩ : ∃ Y, w.alloc (.cells #[.slice ar m cr] 31) = Y := ⟨_, rfl⟩
  have hbY : Below w.heap.size w Y := by rw [← hY]; exact (Below.refl _ w).alloc (Nat.le_refl _) _
  have hVY : Y.heap[V]? = some (.cells #[.slice ar m cr] 31 (0, 0)) := by rw [← hY, ← hV]; exact heap_alloc_new w _
  have v0 : Y.cell? ⟨V, 0, none⟩ = some (.slice ar m cr) := cell_block (j := 0) hVY rfl
  have hVl : V < Y.heap.size := (Array.getElem?_eq_some_iff.1 hVY).1
  obtain ⟨G, hG⟩ : ∃ G, Y.heap.size = G := ⟨_, rfl⟩
  obtain ⟨Z, hZ⟩ : ∃ Z, Y.alloc (.cells (madeCells #[(Value.int .i64 0)] m) 3) = Z := ⟨_, rfl⟩
  have hGV : V < G := by rw [← hG]; exact hVl
  have HSZ : Hid (w.heap.size ≤ G ∧ V < G) := Lib.hid ⟨by rw [hV]; omega, hGV⟩
  have hZ1 : KS Z w.heap.size (.slice (some ⟨G, 0, none⟩) m m) (List.replicate m 0) := by rw [← hZ, ← hG]; exact ks_made Y m hbY.size (by omega)
  have hZ2 : Z.heap[V]? = some (.cells #[.slice ar m cr] 31 (0, 0)) := by rw [← hZ, ← hVY]; exact heap_alloc_old Y _ hVl
  have hZ3 : Below w.heap.size w Z := by rw [← hZ]; exact hbY.alloc hbY.size _
  have HZ := Lib.hid (And.intro hZ1 (And.intro hZ2 hZ3))
  have hmk := run_make_row' (P := Try.prog) 31 3 (.int .i64 0) 8 Try.underlying31 info_one rfl .i64 .i64 m (by omega) (by omega)
  have hm1 : (m : Int) ≤ 16 := by omega
  have HR := Lib.hid hr; have HS := Lib.hid hs
  have HM : Hid (1 ≤ m ∧ m ≤ 16) := Lib.hid ⟨m0, m1⟩
  clear hVl hbY hVY hZ1 hZ2 hZ3 hr hs hGV m0 m1
  go_enter Try.func23, Try.ntmps23
  go_wp2_with fail
  clear hmk hY hZ hG v0 hV
  go_loopw [10] (fun t wr => ∃ i : Nat, t = .int .i64 i ∧ i ≤ m ∧ Hid (KS wr w.heap.size (.slice (some ⟨G, 0, none⟩) m m) (part m i) ∧ wr.heap[V]? = some (.cells #[.slice ar m cr] 31 (0, 0)) ∧ Below w.heap.size w wr)) (fun t _ => m - (RowKit.intOf t).toNat)
  case atStart => exact ⟨0, rfl, by omega, by rw [part_zero]; exact HZ⟩
  case round =>
    clear HZ
    obtain ⟨i, rfl, hi, HI⟩ := hrel
    have hi0 : (0 : Int) ≤ (i : Int) := by omega
    by_cases hlt : i < m
    · have hlt2 : (i : Int) < (m : Int) := by omega
      obtain ⟨h1, h2, h3⟩ := HI.out
      obtain ⟨u, k0, f0⟩ : ∃ u, wr.cell? ⟨G, i, none⟩ = some (.int .i64 u) ∧ wr.frozen? ⟨G, i, none⟩ = false := by
        obtain ⟨a3, c4, e3, _, hat⟩ := h1.at
        injection e3 with e3 _ _
        subst e3
        obtain ⟨q, e, _, k0, f0⟩ := hat i _ (nth_some (by rw [part_length hi]; exact hlt))
        cases e
        exact ⟨_, k0, f0⟩
      obtain ⟨s1, s2, s3⟩ := set_int h1 i (i : Int)
      rw [part_set hlt] at s1
      have HI2 : Hid (KS (wr.setCell ⟨G, i, none⟩ (.int .i64 (i : Int))) w.heap.size (.slice (some ⟨G, 0, none⟩) m m) (part m (i + 1)) ∧ (wr.setCell ⟨G, i, none⟩ (.int .i64 (i : Int))).heap[V]? = some (.cells #[.slice ar m cr] 31 (0, 0)) ∧ Below w.heap.size w (wr.setCell ⟨G, i, none⟩ (.int .i64 (i : Int)))) := Lib.hid ⟨s1, (s3 V (by have := HSZ.out.2; omega)).trans h2, h3.trans s2⟩
      clear h1 h2 h3 s1 s2 s3 HI
      go_wp2_with fail
      go_roundw
      case rel => exact ⟨i + 1, by go_num, by omega, HI2⟩
      case measure => simp [RowKit.intOf]; omega
    · obtain rfl : i = m := by omega
      have HC := Lib.hid (sort_im r i G i V wr HR.out HM.out.1 HM.out.2 (ks_base (by have := HI.out.1; rw [part_all] at this; exact this) (Nat.zero_le _)) (fun W x y hW hx hy => closure_im r ar i cr V x y W HR.out (by
        have h2 := (hW.block V (Array.getElem?_eq_some_iff.1 HI.out.2.1).1 (fun e => by have := HSZ.out.2; injection e with e; omega)).trans HI.out.2.1
        exact cell_block (j := 0) h2 rfl) (HS.out.under (below_of_only HI.out.2.2 HSZ.out.1 hW)) hx hy))
      go_wp2_with fail
      refine HC.out.mono ?_
      rintro e w' ⟨rfl, h1, h2⟩
      have HF : Hid (KS w' w.heap.size (.slice (some ⟨G, 0, none⟩) i i) (ints (ordF r)) ∧ Below w.heap.size w w') := Lib.hid ⟨ks_base h1 HSZ.out.1, below_of_only HI.out.2.2 HSZ.out.1 h2⟩
      clear h1 h2 HI
      go_wp2_with fail
      go_ret
      exact ⟨G, rfl, HF.out.1, HF.out.2⟩
end Go.Proofs.Ytaffdddleegfcaa.Fee
