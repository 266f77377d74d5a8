/- The walks over file and Read. -/
import Derived.Test.YtflkglnmenbmaaaDiskImE
import Derived.Laws.ResultCell
namespace Go.Proofs.Ytflkglnmenbmaaa.Disk.Im
open Go.RowKit Go.Lib

theorem ret_file2 {fn : Func} {R : Ending → World → Prop} {a : Act} {w : World} {p u : Tmp} {g : Nat} {x y v : Value} {T : TypeId} (h : fn.results = #[.cell p 63, .tmp u]) (hd : a.defers = [])
    (ht : a.tmps.getD p undef = .pointer (some ⟨g, 0, none⟩)) (hu : a.tmps.getD u undef = v) (hb : w.heap[g]? = some (.cells #[x, y] T (0, 0))) (hR : R (.returned (.tuple #[.agg #[x, y], v])) w) : bodyPost Try.prog fn R .ret a w := by
  refine bodyPost_ret (v := .tuple #[.agg #[x, y], v]) ?_ hd hR
  rw [results_cell_tmp h, ht, hu]
  simp [asAddr, run_loadVar_row (P := Try.prog) w g T 63 #[x, y] (0, 0) _ hb Try.underlying63 rfl (by kernel_rfl), Result.andThen]
theorem build_zero (W : World) : (Instr.build 63 #[]).run Try.prog W = .ok zeroFile W := by kernel_rfl
set_option maxRecDepth 100000 in
set_option maxHeartbeats 2000000 in
theorem file_dead (Q Mb : Nat) (fz : Int) (V : ByteArray → Value) (st : DS) (s : ByteArray) (w : World) (h : PDX w Q Mb fz V st) (hd : st.dead = true) :
    Calls Try.prog 40 #[.pointer (some ⟨Q, 0, none⟩), .string s] w fun e w' => e = .returned (.tuple #[zeroFile, .int .i64 14]) ∧ Below w.heap.size w w' := by
  obtain ⟨q0, q1, q2, q3, q4, q5⟩ := h.q
  rw [hd] at q5
  obtain ⟨X, hX⟩ : ∃ X, w.alloc (.cells #[.slice none 0 0, .int .i64 0] 63) = X := ⟨_, rfl⟩
  have hb : Below w.heap.size w X := by rw [← hX]; exact (Below.refl _ w).alloc (Nat.le_refl _) _
  have p0 := (bcell hb).1 Q 0 h.ltQ; have p5 := (bcell hb).1 Q 5 h.ltQ
  have HC := Lib.hid (state_any Q Mb true X (p0.trans q0) (p5.trans q5))
  have b0 : X.heap[w.heap.size]? = some (.cells #[.slice none 0 0, .int .i64 0] 63 (0, 0)) := by rw [← hX]; exact heap_alloc_new w _
  have c0 := cell_block (j := 0) b0 rfl; have c1 := cell_block (j := 1) b0 rfl
  have f0 := free_block 0 b0; have f1 := free_block 1 b0
  have e1 := heap_setCell_same X w.heap.size 0 _ _ (.slice none 0 0) b0
  have HE := Lib.hid (heap_setCell_same _ w.heap.size 1 _ _ (.int .i64 0) e1)
  have g2 := only_setCell (only_setCell (only_refl X (some w.heap.size)) 0 (.slice none 0 0)) 1 (.int .i64 0)
  have HB := Lib.hid (below_of_only hb (Nat.le_refl _) g2)
  have e2 : stE true = 14 := rfl
  rw [e2] at HC
  clear q0 q1 q2 q3 q4 q5 hb p0 p5 b0 e1 g2 h
  go_enter Try.func40, Try.ntmps40
  go_wp2_with fail
  refine HC.out.mono ?_
  rintro e W ⟨rfl, rfl⟩
  clear hX
  go_wp2_with fail
  exact ret_file2 rfl rfl rfl rfl HE.out ⟨rfl, HB.out⟩
set_option maxRecDepth 100000 in
set_option maxHeartbeats 2000000 in
theorem file_none (Q Mb : Nat) (fz : Int) (V : ByteArray → Value) (st : DS) (s : ByteArray) (w : World) (h : PDX w Q Mb fz V st) (hd : st.dead = false) (hs : s.size ≤ 1099511627776) (hl : look st.fs s = none) :
    Calls Try.prog 40 #[.pointer (some ⟨Q, 0, none⟩), .string s] w fun e w' => e = .returned (.tuple #[zeroFile, .int .i64 3]) ∧ Below w.heap.size w w' := by
  obtain ⟨q0, q1, q2, q3, q4, q5⟩ := h.q
  rw [hd] at q5
  obtain ⟨X, hX⟩ : ∃ X, w.alloc (.cells #[.slice none 0 0, .int .i64 0] 63) = X := ⟨_, rfl⟩
  have hb : Below w.heap.size w X := by rw [← hX]; exact (Below.refl _ w).alloc (Nat.le_refl _) _
  have hXs : X.heap.size = w.heap.size + 1 := by rw [← hX]; simp
  have p0 := ((bcell hb).1 Q 0 h.ltQ).trans q0; have p5 := ((bcell hb).1 Q 5 h.ltQ).trans q5
  have HC := Lib.hid (state_any Q Mb false X p0 p5)
  have b0 : X.heap[w.heap.size]? = some (.cells #[.slice none 0 0, .int .i64 0] 63 (0, 0)) := by rw [← hX]; exact heap_alloc_new w _
  have hlook : (Instr.lookup 55 (.map (some Mb)) (.string s) true).run Try.prog X = .ok (.tuple #[.agg #[.slice none 0 0, .int .i64 0], .bool false]) X := by
    have := (h.map.of_block (hb.block Mb h.ltM)).look_ok Try.underlying9 Try.underlying55 (zero_file _) (s := s) (by unfold maxLen; omega)
    unfold mapM at this
    rw [hl] at this
    exact this
  have bZ : (X.alloc (.cells #[.slice none 0 0, .int .i64 0] 63)).heap[w.heap.size]? = some (.cells #[.slice none 0 0, .int .i64 0] 63 (0, 0)) := by rw [heap_alloc_old _ _ (by omega)]; exact b0
  have hbZ : Below w.heap.size w (X.alloc (.cells #[.slice none 0 0, .int .i64 0] 63)) :=  hb.alloc hb.size _
  have c0 := cell_block (j := 0) bZ rfl; have c1 := cell_block (j := 1) bZ rfl
  have f0 := free_block 0 bZ; have f1 := free_block 1 bZ
  have e1 := heap_setCell_same (X.alloc (.cells #[.slice none 0 0, .int .i64 0] 63)) w.heap.size 0 _ _ (.slice none 0 0) bZ
  have HE := Lib.hid (heap_setCell_same _ w.heap.size 1 _ _ (.int .i64 0) e1)
  have g2 := only_setCell (only_setCell (only_refl (X.alloc (.cells #[.slice none 0 0, .int .i64 0] 63)) (some w.heap.size)) 0 (.slice none 0 0)) 1 (.int .i64 0)
  have HB := Lib.hid (below_of_only hbZ (Nat.le_refl _) g2)
  have e2 : stE false = 0 := rfl
  rw [e2] at HC
  clear q0 q1 q2 q3 q4 q5 hb p5 b0 e1 g2 h bZ hbZ hXs
  go_enter Try.func40, Try.ntmps40
  go_wp2_with fail
  refine HC.out.mono ?_
  rintro e W ⟨rfl, rfl⟩
  clear hX
  go_wp2_with fail
  exact ret_file2 rfl rfl rfl rfl HE.out ⟨rfl, HB.out⟩
set_option maxRecDepth 100000 in
set_option maxHeartbeats 2000000 in
theorem file_some (Q Mb : Nat) (fz : Int) (V : ByteArray → Value) (st : DS) (s : ByteArray) (f : DF) (w : World) (h : PDX w Q Mb fz V st) (hd : st.dead = false) (hs : s.size ≤ 1099511627776) (hl : look st.fs s = some f) :
    Calls Try.prog 40 #[.pointer (some ⟨Q, 0, none⟩), .string s] w fun e w' => e = .returned (.tuple #[.agg #[V s, .int .i64 (f.sure : Int)], .int .i64 0]) ∧ Below w.heap.size w w' := by
  obtain ⟨q0, q1, q2, q3, q4, q5⟩ := h.q
  rw [hd] at q5
  obtain ⟨hfm, hfn⟩ := look_mem hl
  obtain ⟨a, c, hv⟩ := own_slice (h.rows f hfm)
  rw [hfn] at hv
  obtain ⟨n, hn⟩ : ∃ n, f.bytes.size = n := ⟨_, rfl⟩
  obtain ⟨u, hu⟩ : ∃ u : Int, (f.sure : Int) = u := ⟨_, rfl⟩
  rw [hn] at hv
  rw [hv, hu]
  obtain ⟨X, hX⟩ : ∃ X, w.alloc (.cells #[.slice none 0 0, .int .i64 0] 63) = X := ⟨_, rfl⟩
  have hb : Below w.heap.size w X := by rw [← hX]; exact (Below.refl _ w).alloc (Nat.le_refl _) _
  have hXs : X.heap.size = w.heap.size + 1 := by rw [← hX]; simp
  have p0 := ((bcell hb).1 Q 0 h.ltQ).trans q0; have p5 := ((bcell hb).1 Q 5 h.ltQ).trans q5
  have HC := Lib.hid (state_any Q Mb false X p0 p5)
  have b0 : X.heap[w.heap.size]? = some (.cells #[.slice none 0 0, .int .i64 0] 63 (0, 0)) := by rw [← hX]; exact heap_alloc_new w _
  have hlook : (Instr.lookup 55 (.map (some Mb)) (.string s) true).run Try.prog X = .ok (.tuple #[.agg #[.slice a n c, .int .i64 u], .bool true]) X := by
    have := (h.map.of_block (hb.block Mb h.ltM)).look_ok Try.underlying9 Try.underlying55 (zero_file _) (s := s) (by unfold maxLen; omega)
    unfold mapM at this
    rw [hl] at this
    simp only [Option.map_some, Option.getD_some, Option.isSome_some, fileV, hfn, hv, hu] at this
    exact this
  obtain ⟨Z, hZ⟩ : ∃ Z, X.alloc (.cells #[.slice a n c, .int .i64 u] 63) = Z := ⟨_, rfl⟩
  have bZ : Z.heap[w.heap.size]? = some (.cells #[.slice none 0 0, .int .i64 0] 63 (0, 0)) := by rw [← hZ, heap_alloc_old _ _ (by omega)]; exact b0
  have lZ : Z.heap[X.heap.size]? = some (.cells #[.slice a n c, .int .i64 u] 63 (0, 0)) := by rw [← hZ]; exact heap_alloc_new X _
  have hbZ : Below w.heap.size w Z := by rw [← hZ]; exact hb.alloc hb.size _
  have c0 := cell_block (j := 0) bZ rfl; have c1 := cell_block (j := 1) bZ rfl
  have l0 := cell_block (j := 0) lZ rfl; have l1 := cell_block (j := 1) lZ rfl
  have f0 := free_block 0 bZ; have f1 := free_block 1 bZ
  have e1 := heap_setCell_same Z w.heap.size 0 _ _ (.slice a n c) bZ
  have HE := Lib.hid (heap_setCell_same _ w.heap.size 1 _ _ (.int .i64 u) e1)
  have g2 := only_setCell (only_setCell (only_refl Z (some w.heap.size)) 0 (.slice a n c)) 1 (.int .i64 u)
  have HB := Lib.hid (below_of_only hbZ (Nat.le_refl _) g2)
  have e2 : stE false = 0 := rfl
  rw [e2] at HC
  clear q0 q1 q2 q3 q4 q5 hb p5 b0 e1 g2 h bZ lZ hbZ hXs hv hn hu
  go_enter Try.func40, Try.ntmps40
  go_wp2_with fail
  refine HC.out.mono ?_
  rintro e W ⟨rfl, rfl⟩
  clear hX
  go_wp2_with fail
  exact ret_file2 rfl rfl rfl rfl HE.out ⟨rfl, HB.out⟩
set_option maxRecDepth 100000 in
set_option maxHeartbeats 2000000 in
theorem file_nobody (p : Option Addr) (s : ByteArray) (w : World) (hm : ∀ X, Below w.heap.size w X → Calls Try.prog 34 #[.pointer p] X fun e w' => e = .returned (.bool false) ∧ X = w') :
    Calls Try.prog 40 #[.pointer p, .string s] w fun e w' => e = .returned (.tuple #[zeroFile, .int .i64 1]) ∧ Below w.heap.size w w' := by
  obtain ⟨X, hX⟩ : ∃ X, w.alloc (.cells #[.slice none 0 0, .int .i64 0] 63) = X := ⟨_, rfl⟩
  have hb : Below w.heap.size w X := by rw [← hX]; exact (Below.refl _ w).alloc (Nat.le_refl _) _
  have HC := Lib.hid (state_nobody p X (hm X hb))
  have b0 : X.heap[w.heap.size]? = some (.cells #[.slice none 0 0, .int .i64 0] 63 (0, 0)) := by rw [← hX]; exact heap_alloc_new w _
  have c0 := cell_block (j := 0) b0 rfl; have c1 := cell_block (j := 1) b0 rfl
  have f0 := free_block 0 b0; have f1 := free_block 1 b0
  have e1 := heap_setCell_same X w.heap.size 0 _ _ (.slice none 0 0) b0
  have HE := Lib.hid (heap_setCell_same _ w.heap.size 1 _ _ (.int .i64 0) e1)
  have g2 := only_setCell (only_setCell (only_refl X (some w.heap.size)) 0 (.slice none 0 0)) 1 (.int .i64 0)
  have HB := Lib.hid (below_of_only hb (Nat.le_refl _) g2)
  clear hb b0 e1 g2 hm
  go_enter Try.func40, Try.ntmps40
  go_wp2_with fail
  refine HC.out.mono ?_
  rintro e W ⟨rfl, rfl⟩
  clear hX
  go_wp2_with fail
  exact ret_file2 rfl rfl rfl rfl HE.out ⟨rfl, HB.out⟩
/-! Read -/
theorem conv_nil (W : World) : (convert 61 9 (.slice none 0 0)).run Try.prog W = .ok (.string ⟨#[]⟩) W := by kernel_rfl
theorem conv_row {w : World} {base : Nat} {v : Value} {b : ByteArray} (h : w.ownsRow base 5 1 v b.size (strCells b)) : (convert 61 9 v).run Try.prog w = .ok (.string b) w := by
  rcases h.2 with ⟨rfl, h0⟩ | ⟨g, cap, cur, rfl, _⟩
  · have : b = ⟨#[]⟩ := by
      apply ByteArray.ext
      exact Array.eq_empty_of_size_eq_zero h0
    rw [this]
    exact conv_nil w
  · exact conv_back w g cap b.data.toList base b.size h
set_option maxRecDepth 100000 in
set_option maxHeartbeats 2000000 in
theorem read_some (Q Mb : Nat) (fz : Int) (V : ByteArray → Value) (st : DS) (s : ByteArray) (f : DF) (w : World) (h : PDX w Q Mb fz V st) (hd : st.dead = false) (hs : s.size ≤ 1099511627776) (hl : look st.fs s = some f) :
    Calls Try.prog 23 #[.pointer (some ⟨Q, 0, none⟩), .string s] w fun e w' => e = .returned (.tuple #[.string f.bytes, .int .i64 0]) ∧ Below w.heap.size w w' := by
  obtain ⟨hfm, hfn⟩ := look_mem hl
  have hrow := h.rows f hfm
  rw [hfn] at hrow
  obtain ⟨a, c, hv⟩ := own_slice hrow
  obtain ⟨u, hu⟩ : ∃ u : Int, (f.sure : Int) = u := ⟨_, rfl⟩
  have HC := Lib.hid (file_some Q Mb fz V st s f w h hd hs hl)
  rw [hv, hu] at HC
  rw [hv] at hrow
  have HR := Lib.hid (fun (X : World) (hb : Below w.heap.size w X) => conv_row (own_moved (w' := X) hrow (fun k hk => hb.block k (hrow.lt k hk).2)))
  obtain ⟨n, hn⟩ : ∃ n, f.bytes.size = n := ⟨_, rfl⟩
  rw [hn] at HC HR
  clear hv hu hn hrow h
  go_enter Try.func23, Try.ntmps23
  go_wp2_with fail
  refine HC.out.mono ?_
  rintro e X ⟨rfl, hb⟩
  obtain ⟨Z, hZ⟩ : ∃ Z, X.alloc (.cells #[.slice a n c, .int .i64 u] 63) = Z := ⟨_, rfl⟩
  have hbZ : Below w.heap.size w Z := by rw [← hZ]; exact hb.alloc hb.size _
  have lZ : Z.heap[X.heap.size]? = some (.cells #[.slice a n c, .int .i64 u] 63 (0, 0)) := by rw [← hZ]; exact heap_alloc_new X _
  have l0 := cell_block (j := 0) lZ rfl; have l1 := cell_block (j := 1) lZ rfl
  have hcv := HR.out Z hbZ
  have HB := Lib.hid hbZ
  clear hb hbZ lZ
  go_wp2_with fail
  go_ret2
  exact ⟨rfl, HB.out⟩
set_option maxRecDepth 100000 in
set_option maxHeartbeats 2000000 in
/-- Read, where file answers no file. -/
theorem read_not (p : Option Addr) (s : ByteArray) (er : Int) (w : World) (hc : Calls Try.prog 40 #[.pointer p, .string s] w fun e w' => e = .returned (.tuple #[zeroFile, .int .i64 er]) ∧ Below w.heap.size w w') :
    Calls Try.prog 23 #[.pointer p, .string s] w fun e w' => e = .returned (.tuple #[.string ⟨#[]⟩, .int .i64 er]) ∧ Below w.heap.size w w' := by
  have HC := Lib.hid hc
  have hcv := conv_nil
  clear hc
  go_enter Try.func23, Try.ntmps23
  go_wp2_with fail
  refine HC.out.mono ?_
  rintro e X ⟨rfl, hb⟩
  have HB := Lib.hid (hb.alloc hb.size (.cells #[.slice none 0 0, .int .i64 0] 63))
  clear hb
  go_wp2_with fail
  go_ret2
  exact ⟨rfl, HB.out⟩
end Go.Proofs.Ytflkglnmenbmaaa.Disk.Im
