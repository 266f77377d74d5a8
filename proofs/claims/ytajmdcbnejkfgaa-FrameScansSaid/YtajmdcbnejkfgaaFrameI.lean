/- The walks over the document's four, Put, All. -/
import Derived.Test.YtajmdcbnejkfgaaFrameH
namespace Go.Proofs.Ytajmdcbnejkfgaa.Frame
open Go.RowKit Go.Lib

def fourB (n : Nat) : ByteArray := ⟨(four n).toArray⟩
theorem and_255 (n : Nat) (h : n < 4294967296) : bits .and .u32 (n : Int) 255 = ((n % 256 : Nat) : Int) := by
  have e := u32_and_nat n 255 h (by omega)
  rw [show (n &&& 255) = n % 256 from Nat.and_two_pow_sub_one_eq_mod n 8] at e
  exact e
theorem conv_four (W : World) (g : Nat) (l : List UInt8) (n : Nat) (T : TypeId) (hl : l.length = n) (h : W.heap[g]? = some (.cells (cellsOf l) T (0, 0))) :
    (convert 37 9 (.slice (some ⟨g, 0, none⟩) n n)).run Try.prog W = .ok (.string ⟨l.toArray⟩) W := by
  subst hl
  exact run_convert_bytes_back W 37 9 5 ⟨g, 0, none⟩ l.length l Try.underlying37 Try.underlying5 Try.underlying9 (fun j hj => by
    have hadd : (⟨g, 0, none⟩ : Addr).add j = ⟨g, j, none⟩ := by unfold Addr.add; split <;> simp_all
    rw [hadd]
    exact cell_block h (by simp [cellsOf, byteCells, hj]))
set_option maxRecDepth 100000 in
set_option maxHeartbeats 1000000 in
theorem four_any (n : Nat) (w : World) (hn : n < 4294967296) :
    Calls Try.prog 19 #[.int .u32 n] w fun e w' => e = .returned (.string (fourB n)) ∧ Below w.heap.size w w' := by
  have a2 := and_255 (n / 65536) (by omega)
  have a1 := and_255 (n / 256) (by omega)
  have a0 := and_255 n hn
  obtain ⟨b3, h3⟩ : ∃ b : UInt8, byte n 3 = b := ⟨_, rfl⟩
  obtain ⟨b2, h2⟩ : ∃ b : UInt8, byte n 2 = b := ⟨_, rfl⟩
  obtain ⟨b1, h1⟩ : ∃ b : UInt8, byte n 1 = b := ⟨_, rfl⟩
  obtain ⟨b0, h0⟩ : ∃ b : UInt8, byte n 0 = b := ⟨_, rfl⟩
  have e3 : (n : Int) / 16777216 = (b3.toNat : Int) := by rw [← h3, byte_nat]; omega
  have e2 : ((n / 65536 % 256 : Nat) : Int) = (b2.toNat : Int) := by rw [← h2, byte_nat]
  have e1 : ((n / 256 % 256 : Nat) : Int) = (b1.toNat : Int) := by rw [← h1, byte_nat]
  have e0 : ((n % 256 : Nat) : Int) = (b0.toNat : Int) := by rw [← h0, byte_nat, Nat.pow_zero, Nat.div_one]
  have hb3 := b3.toNat_lt; have hb2 := b2.toNat_lt; have hb1 := b1.toNat_lt; have hb0 := b0.toNat_lt
  rw [e2] at a2; rw [e1] at a1; rw [e0] at a0
  replace a2 : bits .and .u32 ((n : Int) / 65536) 255 = (b2.toNat : Int) := a2
  replace a1 : bits .and .u32 ((n : Int) / 256) 255 = (b1.toNat : Int) := a1
  have HF : Hid (fourB n = ⟨[b3, b2, b1, b0].toArray⟩) := Lib.hid (by unfold fourB four; rw [h3, h2, h1, h0])
  clear e0 e1 e2 h0 h1 h2 h3
  have hcv : (convert 37 9 (.slice (some ⟨w.heap.size, 0, none⟩) 4 4)).run Try.prog (w.alloc (.cells #[.int .u8 (b3.toNat : Int), .int .u8 (b2.toNat : Int), .int .u8 (b1.toNat : Int), .int .u8 (b0.toNat : Int)] 5)) = .ok (.string ⟨[b3, b2, b1, b0].toArray⟩) (w.alloc (.cells #[.int .u8 (b3.toNat : Int), .int .u8 (b2.toNat : Int), .int .u8 (b1.toNat : Int), .int .u8 (b0.toNat : Int)] 5)) :=
    conv_four (w.alloc (.cells (cellsOf [b3, b2, b1, b0]) 5)) w.heap.size [b3, b2, b1, b0] 4 5 rfl (heap_alloc_last w _)
  rw [← HF.out] at hcv
  go_enter Try.func19, Try.ntmps19
  go_wp2_with fail
  go_ret
  exact ⟨rfl, (Below.refl _ w).alloc (Nat.le_refl _) _⟩
theorem four_rec (r : ByteArray) : fourB r.size ++ fourB (more 0 r) ++ r = recB r := by
  have h : fourB r.size ++ fourB (more 0 r) = ⟨(headL r).toArray⟩ := by
    apply ext_list
    rw [ByteArray.data_append, Array.toList_append]
    rfl
  rw [h]
  rfl
set_option maxRecDepth 100000 in
set_option maxHeartbeats 1000000 in
theorem rput_any (r : ByteArray) (w : World) (hr : r.size ≤ maxLen) :
    Calls Try.prog 10 #[.string r] w fun e w' => e = .returned (putV r) ∧ Below w.heap.size w w' := by
  unfold maxLen at hr
  by_cases hf : fits r.size
  · have HV := Lib.hid (putV_yes hf)
    obtain ⟨hf1, hf2⟩ := hf
    have h4 : (fourB r.size).size = 4 := rfl
    have h4b : (fourB (more 0 r)).size = 4 := rfl
    have hrec := four_rec r
    have hlt := more_lt r
    obtain ⟨A, hA⟩ : ∃ A, fourB r.size = A := ⟨_, rfl⟩
    obtain ⟨m, hm⟩ : ∃ m, more 0 r = m := ⟨_, rfl⟩
    rw [hm] at h4b hrec hlt
    obtain ⟨B, hB⟩ : ∃ B, fourB m = B := ⟨_, rfl⟩
    rw [hA] at h4 hrec; rw [hB] at h4b hrec
    have n1 : ¬ 9223372036854775807 < A.size + B.size := by omega
    have n2 : ¬ 9223372036854775807 < (A ++ B).size + r.size := by rw [ByteArray.size_append]; omega
    have HA := Lib.hid hA; have HB := Lib.hid hB; have HM := Lib.hid hm; have HR := Lib.hid hrec
    have H4 := Lib.hid h4; have H4b := Lib.hid h4b
    clear hA hB hm hrec h4 h4b
    go_enter Try.func10, Try.ntmps10
    go_wp2_with fail
    refine (four_any r.size _ (by omega)).mono ?_
    rintro e w1 ⟨rfl, hb1⟩
    rw [HA.out]
    go_wp2_with fail
    refine (Crc.rsum_any r _ (by unfold maxLen; omega)).mono ?_
    rintro e w' ⟨rfl, rfl⟩
    rw [show Crc.more 0 r = m from HM.out]
    go_wp2_with fail
    refine (four_any m _ hlt).mono ?_
    rintro e w2 ⟨rfl, hb2⟩
    rw [HB.out]
    have hb3 := below_then hb1 hb2
    go_wp2_with fail
    go_ret2
    exact ⟨ret_val (by rw [HV.out, ← HR.out]; rfl), hb3⟩
  · have HV := Lib.hid (putV_no hf)
    by_cases h1 : r.size < 1
    · go_enter Try.func10, Try.ntmps10
      go_wp2_with fail
      go_ret2
      exact ⟨ret_val HV.out.symm, Below.refl _ _⟩
    · have h2 : 4096 < r.size := by unfold fits at hf; omega
      go_enter Try.func10, Try.ntmps10
      go_wp2_with fail
      go_ret2
      exact ⟨ret_val HV.out.symm, Below.refl _ _⟩
set_option maxRecDepth 100000 in
set_option maxHeartbeats 1000000 in
theorem rall_any (a : Option Addr) (n cap : Nat) (T : Nat → ByteArray) (w : World) (hc : Strs w a n T) (hm : ∀ j, j < n → (T j).size ≤ maxLen) (hn : n ≤ 1048576) :
    Calls Try.prog 12 #[.slice a n cap] w fun e w' => e = .returned (allV T n) ∧ Below w.heap.size w w' := by
  have HC := Lib.hid hc; have HM := Lib.hid hm
  clear hc hm
  go_enter Try.func12, Try.ntmps12
  go_wp2_with fail
  go_loopw [4, 5] (fun o i wr => ∃ k : Nat, k ≤ n ∧ i = .int .i64 k ∧ o = .string (allB (texts T k)) ∧ Hid (Fit T k) ∧ Below w.heap.size w wr) (fun _ i _ => n - (RowKit.intOf i).toNat)
  case atStart => exact ⟨0, by omega, rfl, rfl, Lib.hid (fun j hj => by omega), Below.refl _ w⟩
  case round =>
    obtain ⟨k, hk, rfl, rfl, HF, hbel⟩ := hrel
    have hroom := all_room HF.out
    obtain ⟨S, hS⟩ : ∃ S, allB (texts T k) = S := ⟨_, rfl⟩
    by_cases hlt : k < n
    · obtain ⟨b, off, rfl, hlb, hcl⟩ := HC.out k hlt
      have hc1 : wr.cell? ⟨b, off + k, none⟩ = some (.string (T k)) := ((bcell hbel).1 b _ hlb).trans hcl
      have HBel := Lib.hid hbel
      rw [hS] at hroom ⊢
      have HS := Lib.hid hS
      clear hbel hcl hS
      go_wp2_with fail
      refine (rput_any (T k) _ (HM.out k hlt)).mono ?_
      rintro e w1 ⟨rfl, hb1⟩
      have hbel1 := below_then HBel.out hb1
      clear HBel hb1 hc1
      by_cases hf : fits (T k).size
      · rw [putV_yes hf]
        have hF2 := fit_succ HF.out hf
        have hrz := rec_size (T k)
        have hnext : S ++ recB (T k) = allB (texts T (k + 1)) := by rw [← HS.out, texts_succ, all_snoc]
        obtain ⟨f1, f2⟩ := hf
        obtain ⟨R, hR⟩ : ∃ R, recB (T k) = R := ⟨_, rfl⟩
        rw [hR] at hrz hnext ⊢
        have n1 : ¬ 9223372036854775807 < S.size + R.size := by omega
        have HF2 := Lib.hid hF2; have HBel := Lib.hid hbel1; have HN := Lib.hid hnext
        clear hF2 HF hbel1 hrz hnext hroom hR
        go_wp2_with fail
        go_roundw
        case rel => exact ⟨k + 1, by omega, by go_num, by rw [HN.out], HF2, HBel.out⟩
        case measure => simp [RowKit.intOf]; omega
      · rw [putV_no hf]
        have hno : ¬ Fit T n := fun h => hf (h k hlt)
        have H1 := Lib.hid (allS_no hno); have H2 := Lib.hid (allE_no hno)
        clear hno
        go_wp2_with fail
        go_ret2
        exact ⟨ret_val (by unfold allV; rw [H1.out, H2.out]; rfl), hbel1⟩
    · obtain rfl : k = n := by omega
      have H1 := Lib.hid (allS_yes HF.out); have H2 := Lib.hid (allE_yes HF.out)
      rw [hS] at hroom H1 ⊢
      clear hS
      go_wp2_with fail
      go_ret2
      exact ⟨ret_val (by unfold allV; rw [H1.out, H2.out]; rfl), hbel⟩
end Go.Proofs.Ytajmdcbnejkfgaa.Frame
