/- slices.Insert of one number into a row of one's own: at the end, where there is room, in a new row. -/
import Derived.Test.YtokkefokodcphaaBayImA
import Derived.Lib.Overlaps
import Derived.Lib.AppendZerosOnto
import Derived.Laws.IdiomCopy
import Derived.Laws.Externs
import Derived.Deep.RegionLaw
namespace Go.Proofs.Ytokkefokodcphaa.Bay
open Go.RowKit Go.Lib IRows

section
variable {P : Program} {ops : Array Oper} {rest : List Oper} {o : Oper} {a : Act} {w : World} {Q : Exit → Act → World → Prop}
/-- A copy whose run is known: in a walk, and in a region that draws its order. -/
theorem walk_copy (hgd : o.guard = none) (d s : Operand) (t t' : TypeId)
    (ho : o.op = .call { callee := .builtin .copy, args := #[d, s], argTypes := #[t, t'] }) (v u : Value) (hd : a.eval d = v) (hs : a.eval s = u) {v' : Value} {w' : World}
    (hr : (Builtin.copy_ #[t, t'] o.type #[v, u]).run P w = .ok v' w') (h : wpList P ops Q rest (a.put o.dst v') w') : wpList P ops Q (o :: rest) a w := by
  refine wpList_plain hgd fun K hK => ?_
  unfold Oper.wp execOp
  simp only [ho, resolve, invoke, builtin, Sem.run_bind, Sem.run_pure, Result.andThen_ok, List.map_toArray, List.map_cons, List.map_nil, hd, hs, hr]
  exact hK _ _ h
theorem step_copy {K : Act → World → Prop} {E : Prop} (hg : o.guard = none) (d x : Operand) (dT sT : TypeId) (hop : o.op = Op.call { callee := Callee.builtin Builtin.copy, args := #[d, x], argTypes := #[dT, sT] })
    (v u : Value) (hd : a.eval d = v) (hx : a.eval x = u) {v' : Value} {w' : World} (hr : (Builtin.copy_ #[dT, sT] o.type #[v, u]).run P w = .ok v' w') (hK : K (a.put o.dst v') w') :
    if Region.wanted o (yielded ops a.tmps) = true then Oper.wp P o a w K Q else E := by
  have hw : Region.wanted o (yielded ops a.tmps) = true := by simp [Region.wanted, hg]
  rw [if_pos hw]
  unfold Oper.wp
  simp [execOp, hop, resolve, invoke, builtin, hd, hx, hr, Result.andThen]
  exact hK
end
/-- Cells stored one behind the other into a block that is known. -/
theorem cells_set (g : Nat) (T : TypeId) : ∀ (vs : List Value) (o : Nat) (w : World) (cur : Array Value), w.heap[g]? = some (.cells cur T (0, 0)) → o + vs.length ≤ cur.size →
    (∃ cur', (w.setCells g o vs).heap[g]? = some (.cells cur' T (0, 0)) ∧ cur'.size = cur.size ∧ (∀ (j : Nat) (v : Value), vs[j]? = some v → cur'[o + j]? = some v) ∧ (∀ k, k < o ∨ o + vs.length ≤ k → cur'[k]? = cur[k]?)) ∧ w.grownBy (w.setCells g o vs) (some g)
  | [], o, w, cur, h, _ => ⟨⟨cur, h, rfl, fun j v hj => by simp at hj, fun _ _ => rfl⟩, only_refl _ _⟩
  | v :: r, o, w, cur, h, hl => by
    simp at hl
    have h1 := heap_setCell_same w g o cur T v h
    obtain ⟨⟨cur', h2, h3, h4, h5⟩, h6⟩ := cells_set g T r (o + 1) (w.setCell ⟨g, o, none⟩ v) _ h1 (by simp; omega)
    rw [World.setCells]
    refine ⟨⟨cur', h2, by simpa using h3, fun j u hj => ?_, fun k hk => ?_⟩, only_trans (only_setCell (only_refl _ _) _ _) h6⟩
    · cases j with
      | zero =>
        have : v = u := by simpa using hj
        subst this
        rw [Nat.add_zero, h5 o (by omega), Array.getElem?_setIfInBounds, if_pos rfl, if_pos (by omega)]
      | succ j =>
        have := h4 j u (by simpa using hj)
        rwa [show o + (j + 1) = o + 1 + j by omega]
    · simp at hk
      rw [h5 k (by omega), Array.getElem?_setIfInBounds, if_neg (by omega)]
theorem drew_cells (b : Nat) : ∀ (vs : List Value) (o : Nat) (w : World), (w.setCells b o vs).drew = w.drew.setCells b o vs
  | [], _, _ => rfl
  | v :: r, o, w => by rw [World.setCells, World.setCells, drew_cells b r]; rfl
theorem size1 : (Try.prog.info? 3).map (·.size) = some 1 := by
  obtain ⟨i0, hi0, h0, h1, h2⟩ := info1
  rw [hi0]; simp [h1]
set_option maxHeartbeats 1000000 in
set_option maxRecDepth 100000 in
/-- There is room. -/
theorem insert_shift (g off n c i gx : Nat) (cs : List Value) (x : Int) (w : World) (cur : Array Value) (T : TypeId) (hi : i < n) (hroom : n + 1 ≤ c) (hc63 : c ≤ maxLen) (hcl : cs.length = n)
    (hb : w.heap[g]? = some (.cells cur T (0, 0))) (hsz : off + c ≤ cur.size) (hcs : ∀ j v, cs[j]? = some v → cur[off + j]? = some v) (h1c : ∀ v ∈ cs, v.oneCell' = true)
    (tx : TypeId) (hx : w.heap[gx]? = some (.cells #[.int .i64 x] tx (0, 0))) (hne : gx ≠ g) :
    Calls Try.prog 50 #[.slice (some ⟨g, off, none⟩) n c, .int .i64 i, .slice (some ⟨gx, 0, none⟩) 1 1] w fun e w' =>
      e = .returned (.slice (some ⟨g, off, none⟩) (n + 1) c) ∧ w' = (w.drew.setCells g (off + (i + 1)) (cs.drop i)).setCells g (off + i) [.int .i64 x] := by
  have hsz1 := size1
  have hzT : ∀ w, (Go.sizeOf 3).run Try.prog w = .ok 1 w := fun w => by
    obtain ⟨i0, hi0, h0, h1, h2⟩ := info1
    simp [sizeOf, typeInfo, hi0, h1]
  have hsa : w.shape? gx = some (tx, 1) := by simp [World.shape?, hx]
  have hsb : w.shape? g = some (T, cur.size) := by simp [World.shape?, hb]
  have hov : ∀ lb cb, (callFunc 55 #[.slice (some ⟨gx, 0, none⟩) 1 1, .slice (some ⟨g, off + (i + 1), none⟩) lb cb]).run Try.prog w = .ok (.value (.bool false)) w := fun lb cb => by
    rw [run_callFunc_extern Try.func55 (by kernel_rfl) (by kernel_rfl) (by kernel_rfl) (e := Extern.SlicesOverlaps.overlaps #[52, 52] #[4]) (by kernel_rfl),
      Lib.run_overlaps_apart w 52 4 3 Try.underlying52 1 hzT ⟨gx, 0, none⟩ ⟨g, off + (i + 1), none⟩ 1 1 lb cb hne tx T 1 cur.size hsa hsb (by omega) (free_block 0 hx) (free_block 1 hx)]
    rfl
  have hdl : (cs.drop i).length = n - i := by rw [List.length_drop, hcl]
  have hw1 : IntKind.i64.wrap ((i : Int) + 1) = (i : Int) + 1 := by rw [IntKind.wrap_i64]; unfold maxLen at hc63; omega
  have hb1 : (0 : Int) ≤ (i : Int) + 1 := by omega
  have hin : i ≤ n := by omega
  have htn : ((i : Int) + 1).toNat = i + 1 := by omega
  have hb2 : ¬ (c = i + 1) := by omega
  have hb3 : (i : Int) ≤ (n : Int) + 1 := by omega
  have hb4 : ¬ (c = i) := by omega
  have hn63 : (c : Int) ≤ 9223372036854775807 := by unfold maxLen at hc63; omega
  have hz2 : ¬ ((i : Int) = (n : Int)) := by omega
  have hcp1 : ∀ ty dc sc, (Builtin.copy_ #[52, 52] ty #[.slice (some ⟨g, off + (i + 1), none⟩) (n - i) dc, .slice (some ⟨g, off + i, none⟩) (n + 1 - i) sc]).run Try.prog w.drew = .ok (goInt (cs.drop i).length) (w.drew.setCells g (off + (i + 1)) (cs.drop i)) := fun ty dc sc =>
    run_copy_cells w.drew _ _ ty 3 g (off + (i + 1)) (n - i) dc ⟨g, off + i, none⟩ (n + 1 - i) sc (cs.drop i) Try.underlying52 hsz1 (by rw [hdl]; simp only [Nat.min_def]; split <;> omega)
      (fun j v hj => by
        rw [addr_add, Nat.add_assoc]
        exact cell_block (w := w.drew) hb (hcs (i + j) v (by rwa [List.getElem?_drop] at hj)))
      (fun j hj => by
        rw [cell_of_row w.drew g _ cur T (0, 0) hb]
        simp
        omega) (fun j _ => free_block (w := w.drew) _ hb) (fun v hv => h1c v (List.mem_of_mem_drop hv))
  obtain ⟨⟨cur2, hb2', hz2', _, _⟩, hg2⟩ := cells_set g T (cs.drop i) (off + (i + 1)) w.drew cur hb (by rw [hdl]; omega)
  obtain ⟨W1, hW1⟩ : ∃ W1, W1 = w.drew.setCells g (off + (i + 1)) (cs.drop i) := ⟨_, rfl⟩
  rw [← hW1] at hb2' hg2 hcp1
  have hx1 : W1.heap[gx]? = some (.cells #[.int .i64 x] tx (0, 0)) := (hg2.block gx (Array.getElem?_eq_some_iff.1 hx).1 (fun e => hne (Option.some.inj e))).trans hx
  have hcp2 : ∀ ty dc, (Builtin.copy_ #[52, 52] ty #[.slice (some ⟨g, off + i, none⟩) (n + 1 - i) dc, .slice (some ⟨gx, 0, none⟩) 1 1]).run Try.prog W1 = .ok (goInt 1) (W1.setCells g (off + i) [.int .i64 x]) := fun ty dc =>
    run_copy_cells W1 _ _ ty 3 g (off + i) (n + 1 - i) dc ⟨gx, 0, none⟩ 1 1 [.int .i64 x] Try.underlying52 hsz1 (by show 1 = _; simp only [Nat.min_def]; split <;> omega)
      (fun j v hj => by
        match j, hj with
        | 0, hj =>
          have : Value.int .i64 x = v := by simpa using hj
          rw [← this, addr_add]
          exact cell_block hx1 rfl)
      (fun j hj => by
        rw [cell_of_row W1 g _ cur2 T (0, 0) hb2']
        simp at hj ⊢
        omega) (fun j _ => free_block _ hb2') (fun v hv => by simp at hv; subst hv; rfl)
  rw [← hW1]
  clear hsz1 hzT hsa hsb hb hcs h1c hx hx1 hb2' hg2 hW1 hdl hz2' hc63
  go_enter Try.func50, Try.ntmps50
  go_wp2_with (simp only [hov])
  go_region_law (refine step_copy rfl _ _ 52 52 rfl (.slice (some ⟨g, off + (i + 1), none⟩) (n - i) (c - (i + 1))) (.slice (some ⟨g, off + i, none⟩) (n + 1 - i) (c - i)) (by simp [Act.eval, Act.put]) (by simp [Act.eval, Act.put]) (hcp1 3 (c - (i + 1)) (c - i)) ?_)
  go_wp2_with (at_builtin; refine walk_copy rfl _ _ 52 52 rfl _ _ rfl rfl (hcp2 _ _) ?_)
  go_ret
  exact ⟨rfl, rfl⟩
end Go.Proofs.Ytokkefokodcphaa.Bay
