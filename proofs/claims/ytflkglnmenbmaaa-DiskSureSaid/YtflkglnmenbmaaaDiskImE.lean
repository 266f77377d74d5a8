/- The walks over first and crashed: what is left of a file. -/
import Derived.Test.YtflkglnmenbmaaaDiskImB
import Derived.Laws.Append
import Derived.Laws.Rows
import Derived.Deep.AppendSrc
import Derived.Deep.Upon
import Derived.RegionTactic
import Derived.Deep.RegionLaw
namespace Go.Proofs.Ytflkglnmenbmaaa.Disk.Im
open Go.RowKit Go.Lib

/-- An append whose run is known, in a region that draws its order. -/
theorem step_append_run {P : Program} {ops : Array Oper} {o : Oper} {a : Act} {w : World} {K : Act → World → Prop} {Q : Exit → Act → World → Prop} {E : Prop} (hgd : o.guard = none) (s x : Operand) (t tx : TypeId)
    (ho : o.op = .call { callee := .builtin .append, args := #[s, x], argTypes := #[t, tx] }) (v u : Value) (hs : a.eval s = v) (hx : a.eval x = u) {v' : Value} {w' : World} (hr : (Builtin.append_ #[t, tx] o.type #[v, u]).run P w = .ok v' w')
    (h : K (a.put o.dst v') w') : if Region.wanted o (yielded ops a.tmps) = true then Oper.wp P o a w K Q else E := by
  have hw : Region.wanted o (yielded ops a.tmps) = true := by simp [Region.wanted, hgd]
  rw [if_pos hw]
  unfold Oper.wp execOp
  simp only [ho, resolve, invoke, builtin, Sem.run_bind, Sem.run_pure, Result.andThen_ok, List.map_toArray, List.map_cons, List.map_nil, hs, hx, hr]
  exact h
theorem wpList_append_run {P : Program} {ops : Array Oper} {rest : List Oper} {o : Oper} {a : Act} {w : World} {Q : Exit → Act → World → Prop} (hgd : o.guard = none) (s x : Operand) (t tx : TypeId)
    (ho : o.op = .call { callee := .builtin .append, args := #[s, x], argTypes := #[t, tx] }) (v u : Value) (hs : a.eval s = v) (hx : a.eval x = u) {v' : Value} {w' : World} (hr : (Builtin.append_ #[t, tx] o.type #[v, u]).run P w = .ok v' w')
    (h : wpList P ops Q rest (a.put o.dst v') w') : wpList P ops Q (o :: rest) a w := by
  refine wpList_plain hgd fun K hK => ?_
  unfold Oper.wp execOp
  simp only [ho, resolve, invoke, builtin, Sem.run_bind, Sem.run_pure, Result.andThen_ok, List.map_toArray, List.map_cons, List.map_nil, hs, hx, hr]
  exact hK _ _ h
theorem ret_file {fn : Func} {R : Ending → World → Prop} {a : Act} {w : World} {p : Tmp} {g : Nat} {x y : Value} {T : TypeId} (h : fn.results = #[.cell p 63]) (hd : a.defers = [])
    (ht : a.tmps.getD p undef = .pointer (some ⟨g, 0, none⟩)) (hb : w.heap[g]? = some (.cells #[x, y] T (0, 0))) (hR : R (.returned (.agg #[x, y])) w) : bodyPost Try.prog fn R .ret a w := by
  refine bodyPost_ret (v := .agg #[x, y]) ?_ hd hR
  exact results_cell_row h _ w g T #[x, y] (0, 0) _ ht hb Try.underlying63 rfl (by kernel_rfl)
theorem strCells_take (b : ByteArray) (k : Nat) : (strCells b).take k = strCells (b.extract 0 k) := by
  unfold strCells
  rw [← List.map_take]
  congr 1
  rw [ByteArray.data_extract, Array.toList_extract]
  simp [List.extract]
theorem extract_size (b : ByteArray) (k : Nat) (h : k ≤ b.size) : (b.extract 0 k).size = k := by
  rw [ByteArray.size_extract]
  omega
set_option maxRecDepth 100000 in
/-- append([]byte(nil), b[:k]...): a row of its own, or nil. -/
theorem run_copy (w : World) (a : Option Addr) (c : Nat) (b : ByteArray) (k : Nat) (hk : 0 < k) (hkb : k ≤ b.size) (hb : b.size ≤ 1099511627776) (base : Nat) (h : w.ownsRow base 5 1 (.slice a b.size c) b.size (strCells b)) :
    (Builtin.append_ #[61, 61] 61 #[.slice none 0 0, .slice a k c]).run Try.prog w =
      .ok (.slice (some ⟨w.heap.size, 0, none⟩) k (grownCap w k 0 5)) (w.drew.alloc (.cells ((strCells (b.extract 0 k)).toArray ++ Builtin.zeroCells (Value.int .u8 0).cells (grownCap w k 0 5 - k)) 5)) := by
  obtain ⟨i0, hi, hz0, hz1, hz2⟩ := info_parts info_u8
  have hl : (strCells (b.extract 0 k)).length = k := by rw [strCells_length, extract_size b k hkb]
  rcases h.2 with ⟨hv, h0⟩ | ⟨g, cap, cur, hv, _⟩
  · omega
  · injection hv with e1 e2 e3
    subst e1
    have hc := h.cells (g := g) rfl
    refine run_append_nil w 61 61 5 i0 (.int .u8 0) Try.underlying61 hi hz0 ⟨g, 0, none⟩ k c (strCells (b.extract 0 k)) (by rw [hl, hz1, Nat.mul_one]) (fun j v hj => ?_) hk (by omega) (by rw [hz2]; omega)
    rw [← strCells_take] at hj
    rw [List.getElem?_take] at hj
    split at hj
    · exact hc j v hj
    · cases hj
theorem copied_row (w : World) (b : ByteArray) (k : Nat) (hkb : k ≤ b.size) (hb : b.size ≤ 1099511627776) :
    (w.drew.alloc (.cells ((strCells (b.extract 0 k)).toArray ++ Builtin.zeroCells (Value.int .u8 0).cells (grownCap w k 0 5 - k)) 5)).ownsRow w.heap.size 5 1 (.slice (some ⟨w.heap.size, 0, none⟩) k (grownCap w k 0 5)) k (strCells (b.extract 0 k)) := by
  have hl : (strCells (b.extract 0 k)).length = k := by rw [strCells_length, extract_size b k hkb]
  have hge := grownCap_ge w k 0 5
  have hcm := grownCap_le_maxLen w k 0 5 (by unfold maxLen; omega)
  refine ⟨by rw [hl, Nat.mul_one], .inr ⟨w.heap.size, _, _, rfl, Nat.le_refl _, heap_alloc_new w.drew _, hge, hcm, ?_, ?_⟩⟩
  · have hz1 : (Value.int IntKind.u8 0).cells.size = 1 := rfl
    simp only [Array.size_append, List.size_toArray, size_zeroCells, hz1, hl]
    omega
  · rw [Array.toList_append, Nat.mul_one]
    exact List.take_left' hl
theorem run_copy_none (W : World) (a : Option Addr) (c : Nat) : (Builtin.append_ #[61, 61] 61 #[.slice none 0 0, .slice a 0 c]).run Try.prog W = .ok (.slice none 0 0) W := by
  obtain ⟨i0, hi, _, _, _⟩ := info_parts info_u8
  refine run_append_nothing W 61 61 61 5 i0 Try.underlying61 hi none 0 0 (Nat.le_refl _) _ ⟨.inl ⟨_, Try.underlying61⟩, fun w' => by simp [Builtin.lenOf], ?_, ?_, by simp, by simp⟩
  · cases a
    · simp [Builtin.firstCells]
    · exact run_firstCells_some (P := Try.prog) W i0.size 0 _ 0 c [] (by simp) (fun j v hj => by simp at hj)
  · cases a
    · simp [Builtin.firstCells]
    · exact run_firstCells_some (P := Try.prog) W.drew i0.size 0 _ 0 c [] (by simp) (fun j v hj => by simp at hj)
set_option maxRecDepth 100000 in
theorem run_cut (W : World) (a : Option Addr) (n c k : Nat) (ha : (a = none ∧ k = 0 ∧ c = 0) ∨ ∃ g, a = some ⟨g, 0, none⟩) (hk : k ≤ c) :
    (Instr.slice 61 (.slice a n c) none (some (.int .i64 (k : Int))) none).run Try.prog W = .ok (.slice a k c) W := by
  obtain ⟨i0, hi, _, hz1, _⟩ := info_parts info_u8
  have he : Program.elem Try.prog 61 = 5 := by kernel_rfl
  rw [run_slice_h (P := Try.prog) W 61 a n c Try.underlying61 .i64 (k : Int) (by omega) (by omega), he]
  rcases ha with ⟨rfl, rfl, rfl⟩ | ⟨g, rfl⟩
  · simp [sizeOf, typeInfo, hi, sliced, Result.andThen]
  · simp [sizeOf, typeInfo, hi, sliced, Result.andThen, Addr.add]
set_option maxRecDepth 100000 in
set_option maxHeartbeats 2000000 in
theorem first_any (a : Option Addr) (c : Nat) (b : ByteArray) (u k : Nat) (w : World) (base : Nat) (h : w.ownsRow base 5 1 (.slice a b.size c) b.size (strCells b)) (hb : b.size ≤ 1099511627776) (hu : u ≤ b.size) (hk : k ≤ b.size) :
    Calls Try.prog 43 #[.agg #[.slice a b.size c, .int .i64 (u : Int)], .int .i64 (k : Int)] w fun e w' => ∃ v, e = .returned (.agg #[v, .int .i64 ((min u k : Nat) : Int)]) ∧ w'.ownsRow w.heap.size 5 1 v k (strCells (b.extract 0 k)) ∧ Below w.heap.size w w' := by
  have hc : b.size ≤ c ∧ ((a = none ∧ k = 0 ∧ c = 0) ∨ ∃ g, a = some ⟨g, 0, none⟩) := by
    rcases h.2 with ⟨hv, h0⟩ | ⟨g, cap, cur, hv, _, _, h1, _⟩
    · injection hv with e1 e2 e3
      exact ⟨by omega, .inl ⟨e1, by omega, e3⟩⟩
    · injection hv with e1 e2 e3
      exact ⟨by omega, .inr ⟨g, e1⟩⟩
  obtain ⟨hc, ha⟩ := hc
  obtain ⟨m, hmi⟩ : ∃ m, min u k = m := ⟨_, rfl⟩
  rw [hmi]
  have HMI := Lib.hid hmi
  clear hmi
  have HSL := Lib.hid (fun (W : World) => run_cut W a b.size c k ha (by omega))
  obtain ⟨X, hX⟩ : ∃ X, (w.alloc (.cells #[.slice a b.size c, .int .i64 (u : Int)] 63)).alloc (.cells #[.slice none 0 0, .int .i64 0] 63) = X := ⟨_, rfl⟩
  have bX : Below w.heap.size w X := by rw [← hX]; exact ((Below.refl _ w).alloc (Nat.le_refl _) _).alloc (by simp) _
  have b0 : X.heap[w.heap.size]? = some (.cells #[.slice a b.size c, .int .i64 (u : Int)] 63 (0, 0)) := by
    rw [← hX, heap_alloc_old _ _ (by simp)]
    exact heap_alloc_new w _
  have b1 : X.heap[w.heap.size + 1]? = some (.cells #[.slice none 0 0, .int .i64 0] 63 (0, 0)) := by
    rw [← hX]
    have := heap_alloc_new (w.alloc (.cells #[.slice a b.size c, .int .i64 (u : Int)] 63)) (.cells #[.slice none 0 0, .int .i64 0] 63)
    simpa using this
  have hown : X.ownsRow base 5 1 (.slice a b.size c) b.size (strCells b) := own_moved h (fun j hj => bX.block j (h.lt j hj).2)
  have hXs : w.heap.size + 2 = X.heap.size := by rw [← hX]; simp
  -- what the append gives, in the world in which it stands
  have HAP : Hid (∃ v Y, (∃ va vc, v = .slice va k vc) ∧ (Builtin.append_ #[61, 61] 61 #[.slice none 0 0, .slice a k c]).run Try.prog X.drew = .ok v Y ∧
      Y.ownsRow w.heap.size 5 1 v k (strCells (b.extract 0 k)) ∧ Below X.heap.size X Y) := Lib.hid (by
    rcases Nat.eq_zero_or_pos k with rfl | hk0
    · refine ⟨_, X.drew, ⟨none, 0, rfl⟩, run_copy_none _ _ _, ?_, (Below.refl _ X).drew⟩
      have : strCells (b.extract 0 0) = [] := List.eq_nil_of_length_eq_zero (by rw [strCells_length, extract_size b 0 (by omega)])
      rw [this]
      exact World.ownsRow_nil _ _ _ _
    · refine ⟨_, _, ⟨_, _, rfl⟩, run_copy X.drew a c b k hk0 hk hb base (own_moved hown (fun j _ => rfl)), ?_, ((Below.refl _ X).drew.drew).alloc (Nat.le_refl _) _⟩
      have h1 := copied_row X.drew b k hk hb
      have h2 : w.heap.size ≤ X.drew.heap.size := by show w.heap.size ≤ X.heap.size; omega
      exact World.ownsRow.mono h1 h2)
  obtain ⟨v, Y, ⟨va, vc, rfl⟩, hrun, hrow, hXY⟩ := HAP.out
  have d0 := (hXY.block _ (by omega)).trans b0
  have d1 := (hXY.block _ (by omega)).trans b1
  have c0 := cell_block (j := 0) b0 rfl; have c1 := cell_block (j := 1) b0 rfl
  have r0 := cell_block (j := 0) b1 rfl; have r1 := cell_block (j := 1) b1 rfl
  have f0 := free_block 0 b1; have f1 := free_block 1 b1
  have y0 := cell_block (j := 0) d0 rfl; have y1 := cell_block (j := 1) d0 rfl
  have z0 := cell_block (j := 0) d1 rfl; have z1 := cell_block (j := 1) d1 rfl
  have g0 := free_block 0 d1; have g1 := free_block 1 d1
  go_enter Try.func43, Try.ntmps43
  go_wp2_with fail
  clear hX
  have hsl := HSL.out
  have HR := Lib.hid hrun
  -- the struct stored into the result's cell
  have HST : Hid (∀ x : Int, ((Y.setCell ⟨w.heap.size + 1, 0, none⟩ (.slice va k vc)).setCell ⟨w.heap.size + 1, 1, none⟩ (.int .i64 x)).heap[w.heap.size + 1]? = some (.cells #[.slice va k vc, .int .i64 x] 63 (0, 0))) := Lib.hid (fun x => by
    have e1 := heap_setCell_same Y (w.heap.size + 1) 0 _ _ (.slice va k vc) d1
    exact heap_setCell_same _ (w.heap.size + 1) 1 _ _ (.int .i64 x) e1)
  have HEND : Hid (∀ x : Int, ((Y.setCell ⟨w.heap.size + 1, 0, none⟩ (.slice va k vc)).setCell ⟨w.heap.size + 1, 1, none⟩ (.int .i64 x)).ownsRow w.heap.size 5 1 (.slice va k vc) k (strCells (b.extract 0 k)) ∧
      Below w.heap.size w ((Y.setCell ⟨w.heap.size + 1, 0, none⟩ (.slice va k vc)).setCell ⟨w.heap.size + 1, 1, none⟩ (.int .i64 x))) := Lib.hid (fun x => by
    have g2 := only_setCell (only_setCell (only_refl Y (some (w.heap.size + 1))) 0 (.slice va k vc)) 1 (.int .i64 x)
    refine ⟨hrow.kept g2 (.inr (fun e => ?_)), below_of_only (below_then bX ⟨hXY.os, hXY.tape, hXY.output, hXY.size, hXY.block⟩) (by omega) g2⟩
    obtain ⟨cur, hcur⟩ := own_block hrow e
    have := d1.symm.trans hcur
    simp at this)
  clear hrun hrow hXY bX b0 b1 d0 d1 hown HAP HSL
  by_cases hm : u ≤ k
  · have hnl : ¬ k < u := by omega
    obtain rfl : m = u := by have := HMI.out; omega
    clear hm
    go_region_law (refine step_append_run (by rfl) _ _ _ _ (by rfl) _ _ (by rfl) (by rfl) HR.out ?_)
    all_goals go_wp2_with fail
    all_goals exact ret_file rfl rfl rfl (HST.out _) ⟨_, rfl, HEND.out _⟩
  · have hnl : k < u := by omega
    obtain rfl : m = k := by have := HMI.out; omega
    clear hm
    go_region_law (refine step_append_run (by rfl) _ _ _ _ (by rfl) _ _ (by rfl) (by rfl) HR.out ?_)
    all_goals go_wp2_with fail
    all_goals exact ret_file rfl rfl rfl (HST.out _) ⟨_, rfl, HEND.out _⟩
end Go.Proofs.Ytflkglnmenbmaaa.Disk.Im
