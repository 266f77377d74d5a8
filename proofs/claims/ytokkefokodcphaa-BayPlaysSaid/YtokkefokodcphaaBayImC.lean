/- slices.Insert of one number: in a new row; at the end; whichever it is. -/
import Derived.Test.YtokkefokodcphaaBayImB
namespace Go.Proofs.Ytokkefokodcphaa.Bay
open Go.RowKit Go.Lib IRows

set_option maxHeartbeats 1000000 in
set_option maxRecDepth 100000 in
/-- There is no room. -/
theorem insert_grow (g off n c i gx : Nat) (cs : List Value) (x : Int) (w : World) (cur : Array Value) (T : TypeId) (hi : i < n) (hnc : n ≤ c) (hroom : c < n + 1) (hbig : n ≤ 1000)
    (hcl : cs.length = n) (hb : w.heap[g]? = some (.cells cur T (0, 0))) (hcs : ∀ j v, cs[j]? = some v → cur[off + j]? = some v) (h1c : ∀ v ∈ cs, v.oneCell' = true)
    (tx : TypeId) (hx : w.heap[gx]? = some (.cells #[.int .i64 x] tx (0, 0))) :
    Calls Try.prog 50 #[.slice (some ⟨g, off, none⟩) n c, .int .i64 i, .slice (some ⟨gx, 0, none⟩) 1 1] w fun e w' => ∃ G ROW, Hid (n + 1 ≤ G ∧ G ≤ maxLen ∧ ROW.size = G) ∧ 
      e = .returned (.slice (some ⟨w.heap.size, 0, none⟩) (n + 1) G) ∧
      w' = (((w.alloc (.cells ROW 3)).drew.setCells w.heap.size i [.int .i64 x]).drew).setCells w.heap.size (i + 1) (cs.drop i) ∧ Hid (∀ j, j < i → ROW[j]? = cs[j]?) := by
  obtain ⟨i0, hi0, hz0, hzs, hzb⟩ := info1
  have hsz := size1
  have hz2 : ¬ ((i : Int) = (n : Int)) := by omega
  have hz3 : (c : Int) < (n : Int) + 1 := by omega
  have hbw : g < w.heap.size := (Array.getElem?_eq_some_iff.1 hb).1
  have hvw : gx < w.heap.size := (Array.getElem?_eq_some_iff.1 hx).1
  have hkk : (n : Int) + 1 - (i : Int) = ((n + 1 - i : Nat) : Int) := by omega
  have hik : i + (n + 1 - i) = n + 1 := by omega
  have hold : (Builtin.firstCells i0.size i (.slice (some ⟨g, off, none⟩) i c)).run Try.prog w.drew = .ok (cs.take i).toArray w.drew := by
    rw [hzs]
    exact run_firstCells_some w.drew 1 i ⟨g, off, none⟩ i c (cs.take i) (by rw [List.length_take]; omega) (fun j v hj => by
      rw [addr_add]
      rw [List.getElem?_take] at hj
      split at hj
      · exact cell_block (w := w.drew) hb (hcs j v hj)
      · cases hj)
  have hrz : ∀ ty, (Builtin.append_ #[52, 3] ty #[.slice (some ⟨g, off, none⟩) i c, .int .i64 ((n : Int) + 1 - (i : Int))]).run Try.prog w =
      .ok (.slice (some ⟨w.heap.size, 0, none⟩) (n + 1) (grownCap w (n + 1) c 3)) (w.drew.alloc (.cells ((cs.take i).toArray ++ Builtin.zeroCells (Value.int .i64 0).cells (n + 1 - i) ++ Builtin.zeroCells (Value.int .i64 0).cells (grownCap w (n + 1) c 3 - (n + 1))) 3)) := fun ty => by
    have h := Lib.run_append_grow_zeros (P := Try.prog) w 52 3 ty 3 i0 _ .i64 .i64 Try.underlying52 (by kernel_rfl) hi0 hz0 (some ⟨g, off, none⟩) i c (cs.take i) hold (n + 1 - i) (by omega) (by omega) (by omega) (by omega) (by rw [hzb]; omega) (by rw [hzb, hik]; exact growslice_fits hroom (by omega))
    rw [hik] at h
    rw [hkk]
    exact h
  obtain ⟨G, hG⟩ : ∃ G, G = grownCap w (n + 1) c 3 := ⟨_, rfl⟩
  obtain ⟨ROW, hROW⟩ : ∃ ROW : Array Value, ROW = (cs.take i).toArray ++ Builtin.zeroCells (Value.int .i64 0).cells (n + 1 - i) ++ Builtin.zeroCells (Value.int .i64 0).cells (G - (n + 1)) := ⟨_, rfl⟩
  rw [← hG] at hrz
  rw [← hROW] at hrz
  have hGn : n + 1 ≤ G := by rw [hG]; exact grownCap_ge w _ _ _
  have hGm : G ≤ maxLen := by rw [hG]; exact grownCap_le_maxLen w _ _ _ (by unfold maxLen; omega)
  have hRs : ROW.size = G := by
    rw [hROW]
    simp [Builtin.zeroCells, Value.cells]
    omega
  have HP : Hid (n + 1 ≤ G ∧ G ≤ maxLen ∧ ROW.size = G) := Lib.hid ⟨hGn, hGm, hRs⟩
  have HT : Hid (∀ j, j < i → ROW[j]? = cs[j]?) := Lib.hid (fun j hj => by
    rw [hROW, Array.append_assoc, Array.getElem?_append_left (by simp; omega), List.getElem?_toArray, List.getElem?_take, if_pos hj])
  obtain ⟨W1, hW1⟩ : ∃ W1, W1 = w.drew.alloc (.cells ROW 3) := ⟨_, rfl⟩
  have hN : W1.heap[w.heap.size]? = some (.cells ROW 3 (0, 0)) := by rw [hW1]; exact heap_alloc_new w.drew _
  have hOx : W1.heap[gx]? = some (.cells #[.int .i64 x] tx (0, 0)) := by rw [hW1]; exact (heap_alloc_old w.drew _ hvw).trans hx
  have hOb : W1.heap[g]? = some (.cells cur T (0, 0)) := by rw [hW1]; exact (heap_alloc_old w.drew _ hbw).trans hb
  rw [← hW1] at hrz
  have hcpA : ∀ (W : World), W.heap = W1.heap → ∀ ty dc, (Builtin.copy_ #[52, 52] ty #[.slice (some ⟨w.heap.size, i, none⟩) (n + 1 - i) dc, .slice (some ⟨gx, 0, none⟩) 1 1]).run Try.prog W = .ok (goInt 1) (W.setCells w.heap.size i [.int .i64 x]) := fun W hW ty dc =>
    run_copy_cells W _ _ ty 3 w.heap.size i (n + 1 - i) dc ⟨gx, 0, none⟩ 1 1 [.int .i64 x] Try.underlying52 hsz (by show 1 = _; simp only [Nat.min_def]; split <;> omega)
      (fun j v hj => by
        match j, hj with
        | 0, hj =>
          have : Value.int .i64 x = v := by simpa using hj
          rw [← this, addr_add]
          exact cell_block (by rw [hW]; exact hOx) rfl)
      (fun j hj => by
        rw [cell_of_row W w.heap.size _ ROW 3 (0, 0) (by rw [hW]; exact hN)]
        simp at hj ⊢
        omega) (fun j _ => free_block _ (by rw [hW]; exact hN)) (fun v hv => by simp at hv; subst hv; rfl)
  obtain ⟨⟨cur2, hb2, hs2, _, _⟩, hg2⟩ := cells_set w.heap.size 3 [.int .i64 x] i W1 ROW hN (by simp; omega)
  have hOb2 : (W1.setCells w.heap.size i [.int .i64 x]).heap[g]? = some (.cells cur T (0, 0)) := (hg2.block g (Array.getElem?_eq_some_iff.1 hOb).1 (fun e => by have := Option.some.inj e; omega)).trans hOb
  have hdl : (cs.drop i).length = n - i := by rw [List.length_drop, hcl]
  have hcpB : ∀ (W : World), W.heap = (W1.setCells w.heap.size i [.int .i64 x]).heap → ∀ ty dc sc, (Builtin.copy_ #[52, 52] ty #[.slice (some ⟨w.heap.size, i + 1, none⟩) (n - i) dc, .slice (some ⟨g, off + i, none⟩) (n - i) sc]).run Try.prog W = .ok (goInt (cs.drop i).length) (W.setCells w.heap.size (i + 1) (cs.drop i)) := fun W hW ty dc sc =>
    run_copy_cells W _ _ ty 3 w.heap.size (i + 1) (n - i) dc ⟨g, off + i, none⟩ (n - i) sc (cs.drop i) Try.underlying52 hsz (by rw [hdl]; simp only [Nat.min_def]; split <;> omega)
      (fun j v hj => by
        rw [addr_add, Nat.add_assoc]
        exact cell_block (by rw [hW]; exact hOb2) (hcs (i + j) v (by rwa [List.getElem?_drop] at hj)))
      (fun j hj => by
        rw [cell_of_row W w.heap.size _ cur2 3 (0, 0) (by rw [hW]; exact hb2)]
        simp
        omega) (fun j _ => free_block _ (by rw [hW]; exact hb2)) (fun v hv => h1c v (List.mem_of_mem_drop hv))
  have hG63 : (G : Int) ≤ 9223372036854775807 := by unfold maxLen at hGm; omega
  have hGi : ¬ (G = i) := by omega
  have hGim : ¬ (G = i + 1) := by omega
  have hci : ¬ (c = i) := by omega
  have hw1 : IntKind.i64.wrap ((i : Int) + 1) = (i : Int) + 1 := by rw [IntKind.wrap_i64]; omega
  have hb1 : (0 : Int) ≤ (i : Int) + 1 := by omega
  have hin : i ≤ n := by omega
  have htn : ((i : Int) + 1).toNat = i + 1 := by omega
  have hb3 : (i : Int) ≤ (n : Int) := by omega
  have hE1 : ((w.alloc (.cells ROW 3)).drew).heap = W1.heap := by rw [hW1]; rfl
  have hE2 : (((w.alloc (.cells ROW 3)).drew.setCells w.heap.size i [.int .i64 x]).drew).heap = (W1.setCells w.heap.size i [.int .i64 x]).heap := by rw [hW1]; rfl
  subst hW1
  clear hkk hik hold hROW hG hRs hb hx h1c hcs hN hOx hOb hb2 hs2 hg2 hOb2 hGm hsz hi0 hz0 hzs hzb hdl
  go_enter Try.func50, Try.ntmps50
  go_wp2_with (first
    | (at_builtin; refine Lib.wpList_append_run _ rfl _ _ _ _ rfl _ _ rfl rfl _ _ (hrz _) ?_)
    | (at_builtin; refine walk_copy rfl _ _ 52 52 rfl _ _ rfl rfl (hcpA _ hE1 _ _) ?_))
  go_region_law (refine step_copy rfl _ _ 52 52 rfl (.slice (some ⟨w.heap.size, i + 1, none⟩) (n - i) (G - (i + 1))) (.slice (some ⟨g, off + i, none⟩) (n - i) (c - i)) (by simp [Act.eval, Act.put]) (by simp [Act.eval, Act.put]) (hcpB _ hE2 3 (G - (i + 1)) (c - i)) ?_)
  go_wp2_with fail
  go_ret
  exact ⟨G, ROW, HP, rfl, rfl, HT⟩
end Go.Proofs.Ytokkefokodcphaa.Bay
