/- The walk over crashed: what a crash leaves of a file. -/
import Derived.Test.YtflkglnmenbmaaaDiskImE
namespace Go.Proofs.Ytflkglnmenbmaaa.Disk.Im
open Go.RowKit Go.Lib

set_option maxRecDepth 100000 in
set_option maxHeartbeats 2000000 in
theorem crashed_any (a : Option Addr) (c : Nat) (b : ByteArray) (u m : Nat) (x : Int) (w : World) (base : Nat) (h : w.ownsRow base 5 1 (.slice a b.size c) b.size (strCells b)) (hb : b.size ≤ 1099511627776) (hu : u ≤ b.size)
    (hx : u + (x % 4611686018427387904).toNat % (b.size - u + 1) = m) :
    Calls Try.prog 41 #[.agg #[.slice a b.size c, .int .i64 (u : Int)], .int .i64 x] w fun e w' => ∃ va vc, e = .returned (.agg #[.slice va m vc, .int .i64 (m : Int)]) ∧ w'.ownsRow w.heap.size 5 1 (.slice va m vc) m (strCells (b.extract 0 m)) ∧ Below w.heap.size w w' := by
  obtain ⟨X, hX⟩ : ∃ X, (w.alloc (.cells #[.slice a b.size c, .int .i64 (u : Int)] 63)).alloc (.cells #[.slice none 0 0, .int .i64 0] 63) = X := ⟨_, rfl⟩
  have bX : Below w.heap.size w X := by rw [← hX]; exact ((Below.refl _ w).alloc (Nat.le_refl _) _).alloc (by simp) _
  have b0 : X.heap[w.heap.size]? = some (.cells #[.slice a b.size c, .int .i64 (u : Int)] 63 (0, 0)) := by
    rw [← hX, heap_alloc_old _ _ (by simp)]
    exact heap_alloc_new w _
  have b1 : X.heap[w.heap.size + 1]? = some (.cells #[.slice none 0 0, .int .i64 0] 63 (0, 0)) := by
    rw [← hX]
    have := heap_alloc_new (w.alloc (.cells #[.slice a b.size c, .int .i64 (u : Int)] 63)) (.cells #[.slice none 0 0, .int .i64 0] 63)
    simpa using this
  have hXs : w.heap.size + 2 = X.heap.size := by rw [← hX]; simp
  have hown : X.drew.ownsRow base 5 1 (.slice a b.size c) b.size (strCells b) := own_moved h (fun j hj => bX.block j (h.lt j hj).2)
  have hmb : m ≤ b.size := by
    have := Nat.mod_lt (x % 4611686018427387904).toNat (show 0 < b.size - u + 1 by omega)
    omega
  have HF := Lib.hid (first_any a c b u m X.drew base hown hb hu hmb)
  have c0 := cell_block (j := 0) b0 rfl; have c1 := cell_block (j := 1) b0 rfl
  have r0 := cell_block (j := 0) b1 rfl; have r1 := cell_block (j := 1) b1 rfl
  have hb62 := and_62 x
  obtain ⟨q, hq⟩ : ∃ q, (x % 4611686018427387904).toNat = q := ⟨_, rfl⟩
  obtain ⟨n, hn⟩ : ∃ n, b.size = n := ⟨_, rfl⟩
  obtain ⟨d, hd⟩ : ∃ d, n - u = d := ⟨_, rfl⟩
  rw [hq] at hb62 hx
  rw [hn] at hx HF c0 hmb hu b0 hX hb hown ⊢
  rw [hd] at hx
  have hdd : (n : Int) - (u : Int) = (d : Int) := by omega
  have hd1 : (d : Int) + 1 = ((d + 1 : Nat) : Int) := by omega
  have hrem : ((q : Int)).tmod ((d + 1 : Nat) : Int) = ((q % (d + 1) : Nat) : Int) := rfl
  obtain ⟨e, he⟩ : ∃ e, d + 1 = e := ⟨_, rfl⟩
  rw [he] at hx hd1 hrem
  have hqd : q % e < e := Nat.mod_lt _ (by omega)
  obtain ⟨r, hr⟩ : ∃ r, q % e = r := ⟨_, rfl⟩
  rw [hr] at hx hrem hqd
  have hsum : (u : Int) + (r : Int) = (m : Int) := by omega
  have hep : 0 < e := by omega
  have HBX := Lib.hid bX; have HB0 := Lib.hid b0; have HB1 := Lib.hid b1
  clear hq hr hn hd bX b0 b1 hown h
  go_enter Try.func41, Try.ntmps41
  go_wp2_with fail
  clear hX
  go_region
  go_wp2_with fail
  refine HF.out.mono ?_
  rintro e1 W ⟨v, rfl, hrow, hXW⟩
  obtain ⟨va, vc, rfl⟩ := own_slice hrow
  have hsz : w.heap.size + 2 ≤ W.heap.size := by have := hXW.size; show _ ≤ _; rw [hXs]; exact this
  have d1 : W.heap[w.heap.size + 1]? = some (.cells #[.slice none 0 0, .int .i64 0] 63 (0, 0)) := (hXW.block _ (by show w.heap.size + 1 < X.heap.size; omega)).trans HB1.out
  have hbW : Below w.heap.size w W := below_then HBX.out ⟨hXW.os, hXW.tape, hXW.output, hXW.size, hXW.block⟩
  obtain ⟨y, hy⟩ : ∃ y : Int, ((min u m : Nat) : Int) = y := ⟨_, rfl⟩
  rw [hy]
  clear hy
  obtain ⟨Z, hZ⟩ : ∃ Z, W.alloc (.cells #[.slice va m vc, .int .i64 (m : Int)] 63) = Z := ⟨_, rfl⟩
  have dZ : Z.heap[w.heap.size + 1]? = some (.cells #[.slice none 0 0, .int .i64 0] 63 (0, 0)) := by rw [← hZ, heap_alloc_old _ _ (by omega)]; exact d1
  have hbZ : Below w.heap.size w Z := by rw [← hZ]; exact hbW.alloc hbW.size _
  have hrZ : Z.ownsRow w.heap.size 5 1 (.slice va m vc) m (strCells (b.extract 0 m)) := by rw [← hZ]; exact World.ownsRow.mono (hrow.alloc _) HBX.out.size
  have lZ : Z.heap[W.heap.size]? = some (.cells #[.slice va m vc, .int .i64 (m : Int)] 63 (0, 0)) := by rw [← hZ]; exact heap_alloc_new W _
  have l0 := cell_block (j := 0) lZ rfl; have l1 := cell_block (j := 1) lZ rfl
  have z0 := cell_block (j := 0) dZ rfl; have z1 := cell_block (j := 1) dZ rfl
  have f0 := free_block 0 dZ; have f1 := free_block 1 dZ
  have e1 := heap_setCell_same Z (w.heap.size + 1) 0 _ _ (.slice va m vc) dZ
  have HE := Lib.hid (heap_setCell_same _ (w.heap.size + 1) 1 _ _ (.int .i64 (m : Int)) e1)
  have g2 := only_setCell (only_setCell (only_refl Z (some (w.heap.size + 1))) 0 (.slice va m vc)) 1 (.int .i64 (m : Int))
  have HR2 := Lib.hid (hrZ.kept g2 (.inr (fun e => by
    obtain ⟨cur, hcur⟩ := own_block hrZ e
    have := dZ.symm.trans hcur
    simp at this)))
  have HB2 := Lib.hid (below_of_only hbZ (by omega) g2)
  clear hrow hXW d1 hbW c0 c1 r0 r1 dZ lZ hbZ hrZ e1 g2
  go_wp2_with fail
  exact ret_file rfl rfl rfl HE.out ⟨va, vc, rfl, HR2.out, HB2.out⟩
end Go.Proofs.Ytflkglnmenbmaaa.Disk.Im
