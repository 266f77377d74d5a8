/- The walks over a record's bytes. -/
import Derived.Test.YtajmdcbnejkfgaaFrameE
namespace Go.Proofs.Ytajmdcbnejkfgaa.Frame
open Go.RowKit Go.Lib

def putB (r : ByteArray) : ByteArray := if fits r.size then recB r else ⟨#[]⟩
def putE (r : ByteArray) : Int := if fits r.size then 0 else 1
abbrev putV (r : ByteArray) : Value := .tuple #[.string (putB r), .int .i64 (putE r)]
theorem putV_yes {r : ByteArray} (h : fits r.size) : putV r = .tuple #[.string (recB r), .int .i64 0] := by unfold putV putB putE; rw [if_pos h, if_pos h]
theorem putV_no {r : ByteArray} (h : ¬ fits r.size) : putV r = .tuple #[.string ⟨#[]⟩, .int .i64 1] := by unfold putV putB putE; rw [if_neg h, if_neg h]
theorem conv_head (W : World) (g : Nat) (l : List UInt8) (T : TypeId) (hl : l.length = 8) (h : W.heap[g]? = some (.cells (cellsOf l) T (0, 0))) :
    (convert 37 9 (.slice (some ⟨g, 0, none⟩) 8 8)).run Try.prog W = .ok (.string ⟨l.toArray⟩) W := by
  have hr := run_convert_bytes_back W 37 9 5 ⟨g, 0, none⟩ 8 l Try.underlying37 Try.underlying5 Try.underlying9 (fun j hj => by
    have hadd : (⟨g, 0, none⟩ : Addr).add j = ⟨g, j, none⟩ := by unfold Addr.add; split <;> simp_all
    rw [hadd]
    exact cell_block h (by simp [cellsOf, byteCells, hj]))
  rw [hl] at hr
  exact hr
set_option maxRecDepth 100000 in
set_option maxHeartbeats 1000000 in
theorem put_any (r : ByteArray) (w : World) (hr : r.size ≤ maxLen) :
    Calls Try.prog 9 #[.string r] w fun e w' => e = .returned (putV r) ∧ Below w.heap.size w w' := by
  unfold maxLen at hr
  by_cases hf : fits r.size
  · have HV := Lib.hid (putV_yes hf)
    obtain ⟨hf1, hf2⟩ := hf
    have hz : sz (r.size : Int) = 8 + (r.size : Int) := sz_in (by omega) (by omega)
    obtain ⟨y0, y1, y2, y3, y4, y5, y6, y7, hy⟩ := eight (headL r) rfl
    have HO : Hid (∀ W, Calls Try.prog 18 #[.string r] W fun e w' => e = .returned (.agg #[.int .u8 (y0.toNat : Int), .int .u8 (y1.toNat : Int), .int .u8 (y2.toNat : Int), .int .u8 (y3.toNat : Int), .int .u8 (y4.toNat : Int), .int .u8 (y5.toNat : Int), .int .u8 (y6.toNat : Int), .int .u8 (y7.toNat : Int)]) ∧ Below W.heap.size W w') :=
      Lib.hid (fun W => by have h := headOf_any r W (by omega); rw [hy] at h; exact h)
    have HY := Lib.hid hy
    clear hy
    go_enter Try.func9, Try.ntmps9
    go_wp2_with fail
    refine (size_any (r.size : Int) _ (by omega)).mono ?_
    rintro e w' ⟨rfl, rfl⟩
    rw [hz]
    clear hz
    have hz : (8 + (r.size : Int) == 0) = false := by simp; omega
    go_wp2_with fail
    refine (HO.out _).mono ?_
    rintro e w1 ⟨rfl, hb1⟩
    have hcv := conv_head (w1.alloc (.cells (cellsOf [y0, y1, y2, y3, y4, y5, y6, y7]) 40)) w1.heap.size [y0, y1, y2, y3, y4, y5, y6, y7] 40 rfl (heap_alloc_last w1 _)
    obtain ⟨h, hh⟩ : ∃ h, (⟨[y0, y1, y2, y3, y4, y5, y6, y7].toArray⟩ : ByteArray) = h := ⟨_, rfl⟩
    have hsz : h.size = 8 := by rw [← hh]; rfl
    rw [hh] at hcv
    have HC : (convert 37 9 (.slice (some ⟨w1.heap.size, 0, none⟩) 8 8)).run Try.prog (w1.alloc (.cells #[.int .u8 (y0.toNat : Int), .int .u8 (y1.toNat : Int), .int .u8 (y2.toNat : Int), .int .u8 (y3.toNat : Int), .int .u8 (y4.toNat : Int), .int .u8 (y5.toNat : Int), .int .u8 (y6.toNat : Int), .int .u8 (y7.toNat : Int)] 40)) = .ok (.string h) (w1.alloc (.cells #[.int .u8 (y0.toNat : Int), .int .u8 (y1.toNat : Int), .int .u8 (y2.toNat : Int), .int .u8 (y3.toNat : Int), .int .u8 (y4.toNat : Int), .int .u8 (y5.toNat : Int), .int .u8 (y6.toNat : Int), .int .u8 (y7.toNat : Int)] 40)) := hcv
    have hno : ¬ 9223372036854775807 < h.size + r.size := by omega
    have HH := Lib.hid hh
    clear hcv hh
    go_wp2_with fail
    go_ret2
    refine ⟨ret_val ?_, hb1.alloc hb1.size _⟩
    rw [HV.out, ← HH.out, ← HY.out]
    rfl
  · have HV := Lib.hid (putV_no hf)
    have hz : sz (r.size : Int) = 0 := sz_out (by unfold fits at hf; omega)
    go_enter Try.func9, Try.ntmps9
    go_wp2_with fail
    refine (size_any (r.size : Int) _ (by omega)).mono ?_
    rintro e w' ⟨rfl, rfl⟩
    rw [hz]
    go_wp2_with fail
    go_ret2
    exact ⟨ret_val HV.out.symm, Below.refl _ _⟩
end Go.Proofs.Ytajmdcbnejkfgaa.Frame
