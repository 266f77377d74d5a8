/- What must come, whatever the arguments are. -/
import Derived.Test.YtajmdcbnejkfgaaFrameK
namespace Go.Proofs.Ytajmdcbnejkfgaa.Frame
open Go.RowKit Go.Lib

def aB : ByteArray := ⟨#[97]⟩
def xB : ByteArray := ⟨#[120]⟩
def raB : ByteArray := ⟨#[0, 0, 0, 1, 232, 183, 190, 67, 97]⟩
theorem rec_a : recB aB = raB := by decide +kernel
theorem fits_a : fits aB.size := by decide
theorem scan_a : ScanIs (raB ++ raB ++ xB) [aB, aB] 18 := by
  have h := reads_all 2 [aB, aB] xB rfl (by intro r hr; simp at hr; subst hr; exact fits_a)
  have hs : allB [aB, aB] = raB ++ raB := by
    show recB aB ++ (recB aB ++ ⟨#[]⟩) = _
    rw [append_nil, rec_a]
  rw [hs] at h
  have hz : (raB ++ raB).size = 18 := by rw [ByteArray.size_append]; rfl
  refine ⟨by rw [← hz]; exact h, ?_⟩
  rw [← hz, cut_front]
  exact first_small _ (by decide)
theorem scan_one {s : ByteArray} {l l' : List ByteArray} {a a' : Nat} (h : ScanIs s l a) (h' : ScanIs s l' a') : l = l' ∧ a = a' := reads_same s l l' 0 a a' h.1 h.2 h'.1 h'.2
set_option maxRecDepth 100000 in
set_option maxHeartbeats 1000000 in
theorem awake_any (w : World) :
    Calls Try.prog 8 #[] w fun e w' => e = .returned (.bool true) ∧ Below w.heap.size w w' := by
  have hp : Hid (∀ W, Calls Try.prog 9 #[.string ⟨#[97]⟩] W fun e w' => e = .returned (.tuple #[.string raB, .int .i64 0]) ∧ Below W.heap.size W w') := Lib.hid (fun W => by
    have h := put_any aB W (by decide)
    rw [show putV aB = .tuple #[.string (recB aB), .int .i64 0] from putV_yes fits_a, rec_a] at h
    exact h)
  have hq : Hid (∀ W, Calls Try.prog 9 #[.string ⟨#[]⟩] W fun e w' => e = .returned (.tuple #[.string ⟨#[]⟩, .int .i64 1]) ∧ Below W.heap.size W w') := Lib.hid (fun W => by
    have h := put_any ⟨#[]⟩ W (by decide)
    rw [show putV ⟨#[]⟩ = .tuple #[.string ⟨#[]⟩, .int .i64 1] from putV_no (by decide)] at h
    exact h)
  have hz : raB.size = 9 := rfl
  have hlit : raB = ⟨#[0, 0, 0, 1, 232, 183, 190, 67, 97]⟩ := rfl
  obtain ⟨A, hA⟩ : ∃ A, raB = A := ⟨_, rfl⟩
  have hscan := scan_a
  rw [hA] at hz hlit hp hscan
  have n1 : ¬ 9223372036854775807 < A.size + A.size := by omega
  have n2 : ¬ 9223372036854775807 < (A ++ A).size + (⟨#[120]⟩ : ByteArray).size := by
    rw [ByteArray.size_append]
    have : (⟨#[120]⟩ : ByteArray).size = 1 := rfl
    omega
  have hsS : (A ++ A ++ xB).size ≤ 1048576 := by
    rw [ByteArray.size_append, ByteArray.size_append, hz]
    decide
  have HS := Lib.hid hscan; have HL := Lib.hid hlit; have HZ := Lib.hid hsS
  clear hscan hlit hsS hA
  go_enter Try.func8, Try.ntmps8
  go_wp2_with fail
  refine (hp.out _).mono ?_
  rintro e w1 ⟨rfl, hb1⟩
  go_wp2_with fail
  refine (scan_any (A ++ A ++ xB) _ HZ.out).mono ?_
  rintro e w2 ⟨v, l, a, rfl, hsc, _, hown, hb2⟩
  obtain ⟨rfl, rfl⟩ := scan_one hsc HS.out
  obtain ⟨ao, cap, rfl, hst⟩ := own_strs hown
  have hb3 := below_then hb1 hb2
  clear hown hsc hb1 hb2
  go_wp2_with fail
  refine (hq.out _).mono ?_
  rintro e w3 ⟨rfl, hb4⟩
  have hst2 := strs_below hst hb4
  have hb5 := below_then hb3 hb4
  clear hst hb3 hb4
  rw [HL.out]
  have hal : Below w3.heap.size w3 (w3.alloc (.cells #[.string ⟨#[97]⟩, .string ⟨#[97]⟩] 9)) := (Below.refl _ w3).alloc (Nat.le_refl _) _
  have hst3 : Strs (w3.alloc (.cells #[.string ⟨#[97]⟩, .string ⟨#[97]⟩] 9)) ao 2 (nth [aB, aB]) := strs_below hst2 hal
  have hst4 : Strs (w3.alloc (.cells #[.string ⟨#[97]⟩, .string ⟨#[97]⟩] 9)) (some ⟨w3.heap.size, 0, none⟩) 2 (nth [aB, aB]) := fun j hj => by
    refine ⟨w3.heap.size, 0, rfl, by simp, ?_⟩
    refine cell_block (heap_alloc_last w3 _) ?_
    match j, hj with
    | 0, _ => rfl
    | 1, _ => rfl
  have HSame := Lib.hid (same_yes ao 2 cap (nth [aB, aB]) (some ⟨w3.heap.size, 0, none⟩) 2 (nth [aB, aB]) _ hst3 hst4 (by omega) (fun _ _ => rfl))
  have HB := Lib.hid (below_then hb5 hal)
  clear hst2 hst3 hst4 hal hb5
  go_wp2_with fail
  refine HSame.out.mono ?_
  rintro e w4 ⟨rfl, hb6⟩
  have hb7 := below_then HB.out hb6
  go_wp2_with fail
  refine (size_any 1 _ (by omega)).mono ?_
  rintro e w' ⟨rfl, rfl⟩
  rw [show sz 1 = 9 from rfl]
  go_wp2_with fail
  go_ret
  exact ⟨rfl, hb7⟩
end Go.Proofs.Ytajmdcbnejkfgaa.Frame
