/- The walks over a head's first number, and over the record that a text begins with. -/
import Derived.Test.YtajmdcbnejkfgaaFrameB
import Derived.Laws.CopyRow
import Derived.Laws.BitsAllLaws
namespace Go.Proofs.Ytajmdcbnejkfgaa.Frame
open Go.RowKit Go.Lib

theorem shift_or (n b : Nat) (hb : b < 256) : n * 256 ||| b = n * 256 + b := by
  have h := Nat.two_pow_add_eq_or_of_lt (i := 8) (b := b) (by omega) n
  rw [Nat.mul_comm (2 ^ 8) n] at h
  exact h.symm
theorem i64_or_nat (a b : Nat) (ha : a < 9223372036854775808) (hb : b < 9223372036854775808) : bits .or .i64 (a : Int) (b : Int) = ((a ||| b : Nat) : Int) := by
  show IntKind.i64.wrap ((BitVec.ofInt 64 (a : Int) ||| BitVec.ofInt 64 (b : Int)).toNat : Int) = _
  have h : a ||| b < 2 ^ 63 := Nat.or_lt_two_pow ha hb
  rw [BitVec.toNat_or, ofInt_u64 a (by omega), ofInt_u64 b (by omega)]
  simp [IntKind.wrap, IntKind.bits, IntKind.signed]
  omega
theorem num_take (l : List UInt8) (k : Nat) (h : k < l.length) : num (l.take (k + 1)) = num (l.take k) * 256 + l[k].toNat := by
  rw [List.take_succ_eq_append_getElem h, num_snoc]
set_option maxRecDepth 100000 in
set_option maxHeartbeats 1000000 in
theorem length_any (l : List UInt8) (w : World) (hl : l.length = 8) :
    Calls Try.prog 29 #[.agg (cellsOf l)] w fun e w' => e = .returned (.int .i64 (num (l.take 4) : Nat)) ∧ Below w.heap.size w w' := by
  go_enter Try.func29, Try.ntmps29
  go_wp2_with fail
  have hb : (w.alloc (.cells (cellsOf l) 40)).heap[w.heap.size]? = some (.cells (cellsOf l) 40 (0, 0)) := heap_alloc_last w _
  have hbel : Below w.heap.size w (w.alloc (.cells (cellsOf l) 40)) := (Below.refl _ w).alloc (Nat.le_refl _) _
  obtain ⟨W, hW⟩ : ∃ W, w.alloc (.cells (cellsOf l) 40) = W := ⟨_, rfl⟩
  rw [hW] at hb hbel ⊢
  have HB := Lib.hid hb; have HBel := Lib.hid hbel; have HL := Lib.hid hl
  clear hW hb hbel hl
  go_loop [3, 8] (fun n i => ∃ k : Nat, k ≤ 4 ∧ n = .int .i64 (num (l.take k) : Nat) ∧ i = .int .i64 k) (fun _ i => 4 - (intOf i).toNat)
  case atStart => exact ⟨0, by omega, rfl, rfl⟩
  case round =>
    obtain ⟨k, hk, rfl, rfl⟩ := hrel
    by_cases hlt : k < 4
    · have hkl : k < l.length := by rw [HL.out]; omega
      have hc : W.cell? ⟨w.heap.size, k, none⟩ = some (.int .u8 (l[k].toNat : Int)) := cell_block HB.out (by simp [cellsOf, byteCells, hkl])
      have hn : num (l.take k) < 16777216 := by
        have h1 := num_lt k (l.take k) (by rw [List.length_take]; omega)
        have h2 : 256 ^ k ≤ 256 ^ 3 := Nat.pow_le_pow_right (by omega) (by omega)
        omega
      have ht := num_take l k hkl
      obtain ⟨n, hnn⟩ : ∃ n, num (l.take k) = n := ⟨_, rfl⟩
      obtain ⟨b, hbb⟩ : ∃ b, l[k].toNat = b := ⟨_, rfl⟩
      have hb := l[k].toNat_lt
      rw [hnn] at hn ht ⊢
      rw [hbb] at hc hb ht
      have ho := i64_or_nat (n * 256) b (by omega) (by omega)
      rw [shift_or n b hb, ← ht] at ho
      have ho2 : bits .or .i64 ((n : Int) * 256) (b : Int) = ((num (l.take (k + 1)) : Nat) : Int) := by
        rw [← ho]
        rfl
      have HT := Lib.hid hnn
      clear ho ht hnn hbb
      go_wp2_with fail
      go_round
      case rel => exact ⟨k + 1, by omega, rfl, by go_num⟩
      case measure => simp [intOf]; omega
    · obtain rfl : k = 4 := by omega
      go_wp2_with fail
      go_ret
      exact ⟨rfl, HBel.out⟩
end Go.Proofs.Ytajmdcbnejkfgaa.Frame
