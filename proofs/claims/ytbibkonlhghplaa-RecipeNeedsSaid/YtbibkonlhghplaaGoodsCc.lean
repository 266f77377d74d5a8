/- The document's Count. -/
import Derived.Test.YtbibkonlhghplaaGoodsC
namespace Go.Proofs.Ytbibkonlhghplaa.Goods
open Go.RowKit Go.Lib

set_option maxRecDepth 100000 in
set_option maxHeartbeats 2000000 in
theorem dcount (a : Option Addr) (n c : Nat) (l : List St) (k : Int) (w : World) (hl : l.length = n) (hs : Sts w a l) (hn : n ≤ 4096) :
    Calls Try.prog 36 #[.slice a n c, .int .i64 k] w fun e w' => e = .returned (.int .i64 (cnt (valN l) k)) ∧ Below w.heap.size w w' := by
  have HN := Lib.hid (dnorm2 a n c l w hl hs hn)
  have hlen := len_valN l
  have HR := Lib.hid (norm_valN l).rise
  have hl4 : (valN l).length ≤ 4096 := by omega
  clear hl hs hn hlen
  go_enter Try.func36, Try.ntmps36
  go_wp2_with fail
  refine HN.out.mono ?_
  rintro e w1 ⟨a', m, c', rfl, _, HV⟩
  have HT := sts_at HV.out.2.1
  have HM := Lib.hid HV.out.1
  have hm1 : (m : Int) ≤ 1048576 := by have := HM.out; omega
  go_wp2_with fail
  go_loopw [7] (fun t wr => ∃ i : Nat, t = .int .i64 i ∧ i ≤ m ∧ w1 = wr ∧ Hid (∀ s ∈ (valN l).take i, s.kind ≠ k)) (fun t _ => m - (RowKit.intOf t).toNat)
  case atStart => exact ⟨0, rfl, by omega, rfl, Lib.hid (fun s hs => by simp at hs)⟩
  case round =>
    obtain ⟨i, rfl, hi, rfl, HZ⟩ := hrel
    have hi0 : (0 : Int) ≤ (i : Int) := by omega
    by_cases hlt : i < m
    · have hlt2 : (i : Int) < (m : Int) := by omega
      obtain ⟨g, off, t, rfl, ht, k0, k1⟩ := HT.out w1 i (Below.refl _ _) (by rw [HM.out]; exact hlt)
      by_cases hk : t.kind = k
      · have HE : Hid (cnt (valN l) k = t.qty) := Lib.hid (by rw [← hk]; exact cnt_at HR.out (List.mem_of_getElem? ht.out))
        have hk2 : (t.kind == k) = true := by simpa using hk
        clear hk
        go_wp2_with fail
        go_ret
        exact ⟨ret_i64 HE.out.symm, HV.out.2.2.2⟩
      · have HZ2 : Hid (∀ s ∈ (valN l).take (i + 1), s.kind ≠ k) := Lib.hid (fun s hs => by
          rcases (mem_take_succ ht.out).1 hs with hs | rfl
          · exact HZ.out s hs
          · exact hk)
        have hk2 : (t.kind == k) = false := by simpa using hk
        clear hk
        go_wp2_with fail
        go_roundw
        case rel => exact ⟨i + 1, by go_num, by omega, by first | rfl | trivial, HZ2⟩
        case measure => simp [RowKit.intOf]; omega
    · obtain rfl : i = m := by omega
      have HE : Hid (cnt (valN l) k = 0) := Lib.hid (by
        have := HZ.out
        rw [List.take_of_length_le (by rw [HM.out]; exact Nat.le_refl _)] at this
        exact cnt_none this)
      go_wp2_with fail
      go_ret
      exact ⟨ret_i64 HE.out.symm, HV.out.2.2.2⟩
end Go.Proofs.Ytbibkonlhghplaa.Goods
