/- The walks over what only reads the disk's own block, or turns it alone: made, state, begin, Ops, Dead, Fuse, New. -/
import Derived.Test.YtflkglnmenbmaaaDiskImA
namespace Go.Proofs.Ytflkglnmenbmaaa.Disk.Im
open Go.RowKit Go.Lib

set_option maxRecDepth 100000 in
set_option maxHeartbeats 1000000 in
theorem made_any (Q Mb : Nat) (w : World) (q0 : w.cell? ⟨Q, 0, none⟩ = some (.map (some Mb))) :
    Calls Try.prog 34 #[.pointer (some ⟨Q, 0, none⟩)] w fun e w' => e = .returned (.bool true) ∧ w = w' := by
  have hm := fun W : World => run_neq_map_nil (P := Try.prog) W 55 _ _ (some Mb) Try.underlying55
  go_enter Try.func34, Try.ntmps34
  go_wp2_with fail
  go_ret
  exact ⟨rfl, rfl⟩
set_option maxRecDepth 100000 in
set_option maxHeartbeats 1000000 in
theorem made_zero (Q : Nat) (w : World) (q0 : w.cell? ⟨Q, 0, none⟩ = some (.map none)) :
    Calls Try.prog 34 #[.pointer (some ⟨Q, 0, none⟩)] w fun e w' => e = .returned (.bool false) ∧ w = w' := by
  have hm := fun W : World => run_neq_map_nil (P := Try.prog) W 55 _ _ none Try.underlying55
  go_enter Try.func34, Try.ntmps34
  go_wp2_with fail
  go_ret
  exact ⟨rfl, rfl⟩
set_option maxRecDepth 100000 in
set_option maxHeartbeats 1000000 in
theorem made_nil (w : World) :
    Calls Try.prog 34 #[.pointer none] w fun e w' => e = .returned (.bool false) ∧ w = w' := by
  go_enter Try.func34, Try.ntmps34
  go_wp2_with fail
  go_ret
  exact ⟨rfl, rfl⟩
def stE (dead : Bool) : Int := if dead then 14 else 0
set_option maxRecDepth 100000 in
set_option maxHeartbeats 1000000 in
theorem state_any (Q Mb : Nat) (dead : Bool) (w : World) (q0 : w.cell? ⟨Q, 0, none⟩ = some (.map (some Mb))) (q5 : w.cell? ⟨Q, 5, none⟩ = some (.bool dead)) :
    Calls Try.prog 35 #[.pointer (some ⟨Q, 0, none⟩)] w fun e w' => e = .returned (.int .i64 (stE dead)) ∧ w = w' := by
  cases dead
  · go_enter Try.func35, Try.ntmps35
    go_wp2_with fail
    refine (made_any Q Mb _ q0).mono ?_
    rintro e w1 ⟨rfl, rfl⟩
    go_wp2_with fail
    go_ret
    exact ⟨rfl, rfl⟩
  · go_enter Try.func35, Try.ntmps35
    go_wp2_with fail
    refine (made_any Q Mb _ q0).mono ?_
    rintro e w1 ⟨rfl, rfl⟩
    go_wp2_with fail
    go_ret
    exact ⟨rfl, rfl⟩
set_option maxRecDepth 100000 in
set_option maxHeartbeats 1000000 in
theorem state_nobody (p : Option Addr) (w : World) (hm : Calls Try.prog 34 #[.pointer p] w fun e w' => e = .returned (.bool false) ∧ w = w') :
    Calls Try.prog 35 #[.pointer p] w fun e w' => e = .returned (.int .i64 1) ∧ w = w' := by
  have HM := Lib.hid hm
  clear hm
  go_enter Try.func35, Try.ntmps35
  go_wp2_with fail
  refine HM.out.mono ?_
  rintro e w1 ⟨rfl, rfl⟩
  go_wp2_with fail
  go_ret
  exact ⟨rfl, rfl⟩
set_option maxRecDepth 100000 in
set_option maxHeartbeats 1000000 in
theorem dead_any (Q Mb : Nat) (dead : Bool) (w : World) (q0 : w.cell? ⟨Q, 0, none⟩ = some (.map (some Mb))) (q5 : w.cell? ⟨Q, 5, none⟩ = some (.bool dead)) :
    Calls Try.prog 16 #[.pointer (some ⟨Q, 0, none⟩)] w fun e w' => e = .returned (.bool dead) ∧ w = w' := by
  have HC := Lib.hid (state_any Q Mb dead w q0 q5)
  cases dead
  · have e1 : stE false = 0 := rfl
    rw [e1] at HC
    go_enter Try.func16, Try.ntmps16
    go_wp2_with fail
    refine HC.out.mono ?_
    rintro e w1 ⟨rfl, rfl⟩
    go_wp2_with fail
    go_ret
    exact ⟨rfl, rfl⟩
  · have e1 : stE true = 14 := rfl
    rw [e1] at HC
    go_enter Try.func16, Try.ntmps16
    go_wp2_with fail
    refine HC.out.mono ?_
    rintro e w1 ⟨rfl, rfl⟩
    go_wp2_with fail
    go_ret
    exact ⟨rfl, rfl⟩
set_option maxRecDepth 100000 in
set_option maxHeartbeats 1000000 in
theorem dead_nobody (p : Option Addr) (w : World) (hm : Calls Try.prog 34 #[.pointer p] w fun e w' => e = .returned (.bool false) ∧ w = w') :
    Calls Try.prog 16 #[.pointer p] w fun e w' => e = .returned (.bool true) ∧ w = w' := by
  have HC := Lib.hid (state_nobody p w hm)
  clear hm
  go_enter Try.func16, Try.ntmps16
  go_wp2_with fail
  refine HC.out.mono ?_
  rintro e w1 ⟨rfl, rfl⟩
  go_wp2_with fail
  go_ret
  exact ⟨rfl, rfl⟩
set_option maxRecDepth 100000 in
set_option maxHeartbeats 1000000 in
theorem ops_any (Q Mb ops : Nat) (w : World) (q0 : w.cell? ⟨Q, 0, none⟩ = some (.map (some Mb))) (q2 : w.cell? ⟨Q, 2, none⟩ = some (.int .i64 (ops : Int))) :
    Calls Try.prog 15 #[.pointer (some ⟨Q, 0, none⟩)] w fun e w' => e = .returned (.int .i64 (ops : Int)) ∧ w = w' := by
  go_enter Try.func15, Try.ntmps15
  go_wp2_with fail
  refine (made_any Q Mb _ q0).mono ?_
  rintro e w1 ⟨rfl, rfl⟩
  go_wp2_with fail
  go_ret
  exact ⟨rfl, rfl⟩
set_option maxRecDepth 100000 in
set_option maxHeartbeats 1000000 in
theorem ops_nobody (p : Option Addr) (w : World) (hm : Calls Try.prog 34 #[.pointer p] w fun e w' => e = .returned (.bool false) ∧ w = w') :
    Calls Try.prog 15 #[.pointer p] w fun e w' => e = .returned (.int .i64 0) ∧ w = w' := by
  have HC := Lib.hid hm
  clear hm
  go_enter Try.func15, Try.ntmps15
  go_wp2_with fail
  refine HC.out.mono ?_
  rintro e w1 ⟨rfl, rfl⟩
  go_wp2_with fail
  go_ret
  exact ⟨rfl, rfl⟩
set_option maxRecDepth 100000 in
set_option maxHeartbeats 1000000 in
theorem fuse_any (Q Mb : Nat) (fz : Int) (V : ByteArray → Value) (st : DS) (n : Int) (h : Bool) (w : World) (hp : PDX w Q Mb fz V st) (hn : -9223372036854775808 ≤ n ∧ n ≤ 9223372036854775807) :
    Calls Try.prog 24 #[.pointer (some ⟨Q, 0, none⟩), .int .i64 n, .bool h] w fun e w' => e = .returned (.tuple #[]) ∧ PDX w' Q Mb n V (fuseS st n h) ∧ w.grownBy w' (some Q) := by
  obtain ⟨q0, q1, q2, q3, q4, q5⟩ := hp.q
  have f3 := hp.free 3
  have f4 := hp.free 4
  have g0 := only_setCell (only_refl w (some Q)) 3 (.int .i64 n)
  have b0 := heap_setCell_same w Q 3 _ _ (.int .i64 n) hp.block
  have g1 := only_setCell g0 4 (.bool h)
  have b1 := heap_setCell_same _ Q 4 _ _ (.bool h) b0
  have HP := Lib.hid (hp.turned (st' := fuseS st n h) (fz' := n) g1 rfl b1 rfl hn)
  have HG := Lib.hid g1
  clear g0 b0 g1 b1 hp
  go_enter Try.func24, Try.ntmps24
  go_wp2_with fail
  refine (made_any Q Mb _ q0).mono ?_
  rintro e w1 ⟨rfl, rfl⟩
  go_wp2_with fail
  go_end0
  exact ⟨rfl, HP.out, HG.out⟩
set_option maxRecDepth 100000 in
set_option maxHeartbeats 1000000 in
theorem fuse_nobody (p : Option Addr) (n : Int) (h : Bool) (w : World) (hm : Calls Try.prog 34 #[.pointer p] w fun e w' => e = .returned (.bool false) ∧ w = w') :
    Calls Try.prog 24 #[.pointer p, .int .i64 n, .bool h] w fun e w' => e = .returned (.tuple #[]) ∧ w = w' := by
  have HC := Lib.hid hm
  clear hm
  go_enter Try.func24, Try.ntmps24
  go_wp2_with fail
  refine HC.out.mono ?_
  rintro e w1 ⟨rfl, rfl⟩
  go_wp2_with fail
  go_end0
  exact ⟨rfl, rfl⟩
/-- An operation is counted. -/
def fzS (fz : Int) : Int := if 0 < fz then fz - 1 else fz
set_option maxRecDepth 100000 in
set_option maxHeartbeats 2000000 in
theorem begin_any (Q Mb : Nat) (fz : Int) (V : ByteArray → Value) (st : DS) (w : World) (hp : PDX w Q Mb fz V st) (hd : st.dead = false) (ho : st.ops ≤ 1048576) :
    Calls Try.prog 38 #[.pointer (some ⟨Q, 0, none⟩)] w fun e w' => e = .returned (.bool (opD st)) ∧ PDX w' Q Mb (fzS fz) V (opS st) ∧ w.grownBy w' (some Q) := by
  obtain ⟨fs, room, ops, last, half, dead⟩ := st
  dsimp only at hd ho
  subst hd
  obtain ⟨q0, q1, q2, q3, q4, q5⟩ := hp.q
  have f2 := hp.free 2
  have f3 := hp.free 3
  have f5 := hp.free 5
  have hfz := hp.fuse
  have hfi := hp.fuseIn
  dsimp only at q0 q1 q2 q3 q4 q5 hfz
  have g0 := only_setCell (only_refl w (some Q)) 2 (.int .i64 ((ops : Int) + 1))
  have b0 := heap_setCell_same w Q 2 _ _ (.int .i64 ((ops : Int) + 1)) hp.block
  by_cases h0 : 0 < fz
  · by_cases h1 : fz = 1
    · subst h1
      have g1 := only_setCell g0 3 (.int .i64 0)
      have b1 := heap_setCell_same _ Q 3 _ _ (.int .i64 0) b0
      have g2 := only_setCell g1 5 (.bool true)
      have b2 := heap_setCell_same _ Q 5 _ _ (.bool true) b1
      obtain rfl : last = 1 := by omega
      have HP := Lib.hid (hp.turned (st' := ⟨fs, room, ops + 1, 0, half, true⟩) (fz' := 0) g2 rfl b2 rfl (by omega))
      have HG := Lib.hid g2
      clear g0 b0 g1 b1 g2 b2 hp hfz hfi
      cases half
      · go_enter Try.func38, Try.ntmps38
        go_wp2_with fail
        go_ret
        exact ⟨rfl, HP.out, HG.out⟩
      · go_enter Try.func38, Try.ntmps38
        go_wp2_with fail
        go_ret
        exact ⟨rfl, HP.out, HG.out⟩
    · have g1 := only_setCell g0 3 (.int .i64 (fz - 1))
      have b1 := heap_setCell_same _ Q 3 _ _ (.int .i64 (fz - 1)) b0
      have g2 := only_setCell g1 5 (.bool false)
      have b2 := heap_setCell_same _ Q 5 _ _ (.bool false) b1
      obtain ⟨_, eD, eS⟩ := opE_more (st := ⟨fs, room, ops, last, half, false⟩) (by dsimp only; omega) (by dsimp only; omega)
      have hz : fzS fz = fz - 1 := by unfold fzS; rw [if_pos h0]
      rw [eD, eS, hz]
      have HP := Lib.hid (hp.turned (st' := ⟨fs, room, ops + 1, last - 1, half, false⟩) (fz' := fz - 1) g2 rfl b2 (by show (max 0 (fz - 1)).toNat = last - 1; omega) (by omega))
      have HG := Lib.hid g2
      have hne : ¬ fz - 1 = 0 := by omega
      have hne2 : (fz - 1 == 0) = false := by simpa using hne
      clear g0 b0 g1 b1 g2 b2 hp hfz eD eS hz
      go_enter Try.func38, Try.ntmps38
      go_wp2_with fail
      go_ret
      exact ⟨rfl, HP.out, HG.out⟩
  · obtain ⟨_, eD, eS⟩ := opE_ok (st := ⟨fs, room, ops, last, half, false⟩) (by dsimp only; omega)
    have hz : fzS fz = fz := by unfold fzS; rw [if_neg h0]
    rw [eD, eS, hz]
    have HP := Lib.hid (hp.turned (st' := ⟨fs, room, ops + 1, last, half, false⟩) (fz' := fz) g0 rfl b0 hfz hfi)
    have HG := Lib.hid g0
    clear g0 b0 hp hfz eD eS hz
    go_enter Try.func38, Try.ntmps38
    go_wp2_with fail
    go_ret
    exact ⟨rfl, HP.out, HG.out⟩
set_option maxRecDepth 100000 in
set_option maxHeartbeats 1000000 in
theorem new_bad (n : Int) (w : World) (hn : n < 0 ∨ 16777216 < n) :
    Calls Try.prog 9 #[.int .i64 n] w fun e w' => e = .returned (.tuple #[.pointer none, .int .i64 1]) ∧ w = w' := by
  rcases hn with hn | hn
  · go_enter Try.func9, Try.ntmps9
    go_wp2_with fail
    go_ret2
    exact ⟨rfl, rfl⟩
  · have h0 : ¬ n < 0 := by omega
    go_enter Try.func9, Try.ntmps9
    go_wp2_with fail
    go_ret2
    exact ⟨rfl, rfl⟩
theorem new_start (w : World) (n : Nat) : PDX ((w.alloc (.map #[] 0)).alloc (.cells (diskCells w.heap.size (n : Int) 0 0 false false) 57)) (w.heap.size + 1) w.heap.size 0 (fun _ => undef) (newS n) := by
  have h1 := heap_alloc_new (w.alloc (.map #[] 0)) (.cells (diskCells w.heap.size (n : Int) 0 0 false false) 57)
  have h2 := mapIs_made Try.prog 9 w
  refine ⟨?_, ?_, (by intro f hf; cases hf), (by intro f hf; cases hf), List.Pairwise.nil, rfl, (by omega), (by intro f hf; cases hf)⟩
  · have e : (w.alloc (.map #[] 0)).heap.size = w.heap.size + 1 := by simp
    rw [e] at h1
    rw [h1]
    show some (Obj.cells (diskCells w.heap.size (n : Int) 0 0 false false) _ (0, 0)) = some (.cells (diskCells w.heap.size ((n : Int) - 0) 0 0 false false) _ (0, 0))
    rw [Int.sub_zero]
  · exact (h2.of_block (heap_alloc_old _ _ h2.lt)).congr rfl (fun s => rfl)
set_option maxRecDepth 100000 in
set_option maxHeartbeats 1000000 in
theorem new_any (n : Nat) (w : World) (hn : n ≤ 16777216) :
    Calls Try.prog 9 #[.int .i64 (n : Int)] w fun e w' => ∃ Q F, e = .returned (.tuple #[.pointer (some ⟨Q, 0, none⟩), .int .i64 0]) ∧ PD w' Q F (newS n) ∧ Below w.heap.size w w' ∧ ∀ k, F k → w.heap.size ≤ k := by
  have h0 : ¬ (n : Int) < 0 := by omega
  have h1 : ¬ 16777216 < (n : Int) := by omega
  have hmk := fun W : World => run_makeMap (P := Try.prog) 55 W
  have HS := Lib.hid (new_start w n)
  have HB := Lib.hid (((Below.refl _ w).alloc (Nat.le_refl _) (.map #[] 0)).alloc (by simp) (.cells (diskCells w.heap.size (n : Int) 0 0 false false) 57))
  go_enter Try.func9, Try.ntmps9
  go_wp2_with fail
  go_ret2
  refine ⟨w.heap.size + 1, rfl, FS (w.heap.size + 1) w.heap.size (fun _ => undef) (newS n).fs, ⟨_, _, _, HS.out, rfl⟩, HB.out, ?_⟩
  rintro k (rfl | rfl | ⟨f, hf, _⟩)
  · omega
  · omega
  · cases hf
end Go.Proofs.Ytflkglnmenbmaaa.Disk.Im
