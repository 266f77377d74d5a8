/- The walk over the laws' awake, for any implementation. -/
import Derived.Test.YtflkglnmenbmaaaDiskN
namespace Go.Proofs.Ytflkglnmenbmaaa.Disk
open Go.RowKit Go.Lib

def bXY : ByteArray := ⟨#[120, 121]⟩
def bZ : ByteArray := ⟨#[122]⟩
def b8 : ByteArray := ⟨#[49, 50, 51, 52, 53, 54, 55, 56]⟩
def k1 : DS := appS (newS 10) nA bXY
def k2 : DS := syncS k1 nA
def k3 : DS := appS k2 nA bZ
def k4 : DS := appS k3 nB b8
def k5 : DS := crashS k4 (keepOf 0 fun _ => 0)
theorem w1 : appE (newS 10) nA bXY = 0 := by decide +kernel
theorem w2 : syncE k1 nA = 0 := by decide +kernel
theorem w3 : appE k2 nA bZ = 0 := by decide +kernel
theorem w4 : appE k3 nB b8 = 4 := by decide +kernel
theorem w5 : k4.ops = 3 := by decide +kernel
theorem w6 : readE k4 nA = 0 ∧ readS k4 nA = ⟨#[120, 121, 122]⟩ := by decide +kernel
theorem w7 : readE k5 nA = 0 ∧ readS k5 nA = ⟨#[120, 121]⟩ := by decide +kernel
theorem w8 : used k5 = 2 := by decide +kernel
theorem w9 : names k5 = [⟨#[97]⟩] := by decide +kernel
theorem v1 : Inv k1 1000 := (inv_app (inv_new (room := 10) (by omega)) nA bXY).mono (by omega)
theorem v1' : Inv k1 1 := inv_app (inv_new (room := 10) (by omega)) nA bXY
theorem v2' : Inv k2 2 := inv_sync v1' nA
theorem v3' : Inv k3 3 := inv_app v2' nA bZ
theorem v4' : Inv k4 4 := inv_app v3' nB b8
theorem v5' : Inv k5 4 := inv_crash v4' _

set_option maxRecDepth 100000 in
set_option maxHeartbeats 2000000 in
theorem awake_any (I : Impl) (w : World) :
    Calls Try.prog 8 #[] w fun e w' => e = .returned (.bool true) ∧ Below w.heap.size w w' := by
  go_enter Try.func8, Try.ntmps8
  go_wp2_with fail
  refine (I.new 10 _ (by omega)).mono ?_
  rintro e x0 ⟨Q, F, rfl, hp, hb, hF⟩
  have hp0 := Lib.hid hp; have hb0 := Lib.hid hb; have hF0 := Lib.hid hF
  clear hp hb hF
  go_wp2_with fail
  refine (I.append Q F (newS 10) nA bXY _ hp0.out ((inv_new (by omega)).mono (by omega)) (by decide) (by decide)).mono ?_
  rintro e x1 ⟨rfl, F1, hp, hs⟩
  obtain ⟨hb, hF⟩ := hs.fresh hb0.out hF0.out
  have hp1 := Lib.hid hp; have hb1 := Lib.hid hb; have hF1 := Lib.hid hF
  clear hp hb hF hs hp0 hb0 hF0
  rw [w1]
  go_wp2_with fail
  refine (I.sync Q F1 k1 nA _ hp1.out (v1'.mono (by omega)) (by decide)).mono ?_
  rintro e x2 ⟨rfl, F2, hp, hs⟩
  obtain ⟨hb, hF⟩ := hs.fresh hb1.out hF1.out
  have hp2 := Lib.hid hp; have hb2 := Lib.hid hb; have hF2 := Lib.hid hF
  clear hp hb hF hs hp1 hb1 hF1
  rw [w2]
  go_wp2_with fail
  refine (I.append Q F2 k2 nA bZ _ hp2.out (v2'.mono (by omega)) (by decide) (by decide)).mono ?_
  rintro e x3 ⟨rfl, F3, hp, hs⟩
  obtain ⟨hb, hF⟩ := hs.fresh hb2.out hF2.out
  have hp3 := Lib.hid hp; have hb3 := Lib.hid hb; have hF3 := Lib.hid hF
  clear hp hb hF hs hp2 hb2 hF2
  rw [w3]
  go_wp2_with fail
  refine (I.append Q F3 k3 nB b8 _ hp3.out (v3'.mono (by omega)) (by decide) (by decide)).mono ?_
  rintro e x4 ⟨rfl, F4, hp, hs⟩
  obtain ⟨hb, hF⟩ := hs.fresh hb3.out hF3.out
  have hp4 := Lib.hid hp; have hb4 := Lib.hid hb; have hF4 := Lib.hid hF
  clear hp hb hF hs hp3 hb3 hF3
  rw [w4]
  go_wp2_with fail
  refine (I.ops Q F4 k4 _ hp4.out (v4'.mono (by omega))).mono ?_
  rintro e x5 ⟨rfl, F5, hp, hs⟩
  obtain ⟨hb, hF⟩ := hs.fresh hb4.out hF4.out
  have hp5 := Lib.hid hp; have hb5 := Lib.hid hb; have hF5 := Lib.hid hF
  clear hp hb hF hs hp4 hb4 hF4
  rw [w5]
  go_wp2_with fail
  refine (I.read Q F5 k4 nA _ hp5.out (v4'.mono (by omega)) (by decide)).mono ?_
  rintro e x6 ⟨rfl, F6, hp, hs⟩
  obtain ⟨hb, hF⟩ := hs.fresh hb5.out hF5.out
  have hp6 := Lib.hid hp; have hb6 := Lib.hid hb; have hF6 := Lib.hid hF
  clear hp hb hF hs hp5 hb5 hF5
  rw [show readV k4 nA = .tuple #[.string ⟨#[120, 121, 122]⟩, .int .i64 0] by unfold readV; rw [w6.1, w6.2]]
  go_wp2_with fail
  refine (I.crash Q F6 k4 none 0 0 (fun _ => 0) _ hp6.out (v4'.mono (by omega)) (fun j hj => by omega) (by omega)).mono ?_
  rintro e x7 ⟨rfl, F7, hp, hs⟩
  obtain ⟨hb, hF⟩ := hs.fresh hb6.out hF6.out
  have hp7 := Lib.hid hp; have hb7 := Lib.hid hb; have hF7 := Lib.hid hF
  clear hp hb hF hs hp6 hb6 hF6
  go_wp2_with fail
  refine (I.read Q F7 k5 nA _ hp7.out (v5'.mono (by omega)) (by decide)).mono ?_
  rintro e x8 ⟨rfl, F8, hp, hs⟩
  obtain ⟨hb, hF⟩ := hs.fresh hb7.out hF7.out
  have hp8 := Lib.hid hp; have hb8 := Lib.hid hb; have hF8 := Lib.hid hF
  clear hp hb hF hs hp7 hb7 hF7
  rw [show readV k5 nA = .tuple #[.string ⟨#[120, 121]⟩, .int .i64 0] by unfold readV; rw [w7.1, w7.2]]
  go_wp2_with fail
  refine (I.used Q F8 k5 _ hp8.out (v5'.mono (by omega))).mono ?_
  rintro e x9 ⟨rfl, F9, hp, hs⟩
  obtain ⟨hb, hF⟩ := hs.fresh hb8.out hF8.out
  have hp9 := Lib.hid hp; have hb9 := Lib.hid hb; have hF9 := Lib.hid hF
  clear hp hb hF hs hp8 hb8 hF8
  rw [w8]
  go_wp2_with fail
  refine (I.names Q F9 k5 _ hp9.out (v5'.mono (by omega))).mono ?_
  rintro e xa ⟨o, Fa, rfl, ht, hp, hs⟩
  obtain ⟨hb, hF⟩ := hs.fresh hb9.out hF9.out
  rw [w9] at ht
  obtain ⟨ao, cap, rfl, hst⟩ := texts_strs ht
  have hal : Below xa.heap.size xa (xa.alloc (.cells #[.string ⟨#[97]⟩] 9)) := (Below.refl _ xa).alloc (Nat.le_refl _) _
  have hst2 : Strs (xa.alloc (.cells #[.string ⟨#[97]⟩] 9)) (some ⟨xa.heap.size, 0, none⟩) 1 (nth [⟨#[97]⟩]) := fun j hj => by
    refine ⟨xa.heap.size, 0, rfl, by simp, ?_⟩
    refine cell_block (heap_alloc_new xa _) ?_
    match j, hj with
    | 0, _ => rfl
  have HSame := Lib.hid (same_yes ao 1 cap (nth [⟨#[97]⟩]) (some ⟨xa.heap.size, 0, none⟩) 1 (nth [⟨#[97]⟩]) _ (strs_below hst hal) hst2 (by omega) (fun _ _ => rfl))
  have HB := Lib.hid (below_then hb hal)
  clear ht hst hal hst2 hb hF hp hs
  go_wp2_with fail
  refine HSame.out.mono ?_
  rintro e xb ⟨rfl, hb6⟩
  have hb7 := below_then HB.out hb6
  go_wp2_with fail
  go_ret
  exact ⟨rfl, hb7⟩
end Go.Proofs.Ytflkglnmenbmaaa.Disk
