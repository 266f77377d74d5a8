/- The walk over the law FrameLong. -/
import Derived.Test.YtajmdcbnejkfgaaFrameM
import Derived.Deep.OwnRows
namespace Go.Proofs.Ytajmdcbnejkfgaa.Frame
open Go.RowKit Go.Lib

theorem and_7 (x : Int) : ∃ m : Nat, m ≤ 7 ∧ bits .and .i64 x 7 = (m : Int) := by
  refine ⟨(BitVec.ofInt 64 x).toNat &&& 7, Nat.and_le_right, ?_⟩
  have h : (BitVec.ofInt 64 x).toNat &&& 7 ≤ 7 := Nat.and_le_right
  show IntKind.i64.wrap ((BitVec.ofInt 64 x &&& BitVec.ofInt 64 7).toNat : Int) = _
  rw [BitVec.toNat_and, show (BitVec.ofInt 64 7).toNat = 7 from rfl]
  generalize (BitVec.ofInt 64 x).toNat &&& 7 = q at h ⊢
  simp [IntKind.wrap, IntKind.bits, IntKind.signed]
  omega
def zB (n : Nat) : ByteArray := ⟨(List.replicate n 0).toArray⟩
theorem zB_size (n : Nat) : (zB n).size = n := by simp [zB, ByteArray.size]
theorem back_zeros (W : World) (B m : Nat) (h : W.heap[B]? = some (.cells (madeCells #[.int .u8 0] m) 5 (0, 0))) :
    (convert 37 9 (.slice (some ⟨B, 0, none⟩) m m)).run Try.prog W = .ok (.string (zB m)) W := by
  have hr := run_convert_bytes_back W 37 9 5 ⟨B, 0, none⟩ m (List.replicate m 0) Try.underlying37 Try.underlying5 Try.underlying9 (fun j hj => by
    have hj' : j < m := by simpa using hj
    have hadd : (⟨B, 0, none⟩ : Addr).add j = ⟨B, j, none⟩ := by unfold Addr.add; split <;> simp_all
    rw [hadd, cell_of_row W B j _ _ (0, 0) h, ← Array.getElem?_toList, toList_madeCells_one, List.getElem?_replicate, if_pos hj']
    simp)
  rw [List.length_replicate] at hr
  exact hr
theorem scan_rec (r : ByteArray) (hf : fits r.size) : ScanIs (recB r) [r] (8 + r.size) := by
  have h := reads_all 1 [r] ⟨#[]⟩ rfl (by intro q hq; simp at hq; subst hq; exact hf)
  have ha : allB [r] = recB r := append_nil _
  rw [ha, append_nil, rec_size] at h
  refine ⟨h, first_small _ ?_⟩
  rw [ByteArray.size_extract, rec_size]
  omega
theorem scan_none : ScanIs ⟨#[]⟩ [] 0 := ⟨rfl, first_small _ (by decide)⟩
set_option maxRecDepth 100000 in
set_option maxHeartbeats 2000000 in
theorem lawLong (x : Int) (w : World) :
    Calls Try.prog 6 #[.int .i64 x] w fun e w' => e = .returned (.bool true) ∧ Below w.heap.size w w' := by
  obtain ⟨m, hm7, hm⟩ := and_7 x
  obtain ⟨n, hn⟩ : ∃ n, 4093 + m = n := ⟨_, rfl⟩
  have hadd : (4093 : Int) + (m : Int) = (n : Int) := by omega
  have hlo : 4093 ≤ n := by omega
  have hhi : n ≤ 4100 := by omega
  clear hn
  have hmk := run_make_row' (P := Try.prog) 37 5 (.int .u8 0) 1 Try.underlying37 info_u8 rfl .i64 .i64 n (by omega) (by omega)
  have hcv := back_zeros (w.alloc (.cells (madeCells #[.int .u8 0] n) 5)) w.heap.size n (heap_alloc_last w _)
  have hzs := zB_size n
  obtain ⟨R, hR⟩ : ∃ R, zB n = R := ⟨_, rfl⟩
  rw [hR] at hcv hzs
  clear hR
  have hb0 : Below w.heap.size w (w.alloc (.cells (madeCells #[.int .u8 0] n) 5)) := (Below.refl _ w).alloc (Nat.le_refl _) _
  have HB0 := Lib.hid hb0
  clear hb0
  by_cases hbig : 4096 < n
  · have hnf : ¬ fits R.size := by unfold fits; omega
    have HP := Lib.hid (fun W => put_any R W (by unfold maxLen; omega))
    rw [show putV R = .tuple #[.string ⟨#[]⟩, .int .i64 1] from putV_no hnf] at HP
    have HZ := Lib.hid (sz_out (n := (n : Int)) (by omega))
    clear hnf hzs
    go_enter Try.func6, Try.ntmps6
    go_wp2_with fail
    refine (HP.out _).mono ?_
    rintro e w1 ⟨rfl, hb1⟩
    have hb2 := below_then HB0.out hb1
    clear hb1 hmk hcv HB0
    go_wp2_with fail
    refine (scan_any ⟨#[]⟩ _ (by decide)).mono ?_
    rintro e w2 ⟨v, l, a, rfl, hsc, _, hown, hb3⟩
    obtain ⟨rfl, rfl⟩ := scan_one hsc scan_none
    obtain ⟨ao, cap, rfl, _⟩ := own_strs hown
    have hb4 := below_then hb2 hb3
    clear hown hsc hb2 hb3
    go_wp2_with fail
    refine (size_any (n : Int) _ (by omega)).mono ?_
    rintro e w' ⟨rfl, rfl⟩
    rw [HZ.out]
    go_wp2_with fail
    refine (awake_any _).mono ?_
    rintro e w3 ⟨rfl, hb5⟩
    have hb6 := below_then hb4 hb5
    go_wp2_with fail
    go_ret
    exact ⟨rfl, hb6⟩
  · have hf : fits R.size := by unfold fits; omega
    have HP := Lib.hid (fun W => put_any R W (by unfold maxLen; omega))
    rw [show putV R = .tuple #[.string (recB R), .int .i64 0] from putV_yes hf] at HP
    have hsc0 := scan_rec R hf
    have hss := rec_size R
    rw [hzs] at hsc0 hss
    obtain ⟨S, hS⟩ : ∃ S, recB R = S := ⟨_, rfl⟩
    rw [hS] at HP hsc0 hss
    have HZ := Lib.hid (sz_in (n := (n : Int)) (by omega) (by omega))
    have HSC := Lib.hid hsc0
    have hsum : (8 : Int) + (n : Int) = ((8 + n : Nat) : Int) := by omega
    clear hf hzs hS hsc0
    obtain ⟨q, hq⟩ : ∃ q, 8 + n = q := ⟨_, rfl⟩
    rw [hq] at HSC hss hsum
    rw [hsum] at HZ
    have hqs : S.size ≤ 1048576 := by omega
    have HQ := Lib.hid hqs
    go_enter Try.func6, Try.ntmps6
    go_wp2_with fail
    refine (HP.out _).mono ?_
    rintro e w1 ⟨rfl, hb1⟩
    have hb2 := below_then HB0.out hb1
    clear hb1 hmk hcv HB0
    go_wp2_with fail
    refine (scan_any S _ HQ.out).mono ?_
    rintro e w2 ⟨v, l, a, rfl, hsc, _, hown, hb3⟩
    obtain ⟨rfl, rfl⟩ := scan_one hsc HSC.out
    obtain ⟨ao, cap, rfl, _⟩ := own_strs hown
    have hb4 := below_then hb2 hb3
    clear hown hsc hb2 hb3
    go_wp2_with fail
    refine (size_any (n : Int) _ (by omega)).mono ?_
    rintro e w' ⟨rfl, rfl⟩
    rw [HZ.out]
    go_wp2_with fail
    refine (awake_any _).mono ?_
    rintro e w3 ⟨rfl, hb5⟩
    have hb6 := below_then hb4 hb5
    go_wp2_with fail
    go_ret
    exact ⟨rfl, hb6⟩
end Go.Proofs.Ytajmdcbnejkfgaa.Frame
