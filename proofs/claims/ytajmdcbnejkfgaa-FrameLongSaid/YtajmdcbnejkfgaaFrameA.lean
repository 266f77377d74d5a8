/- The walks over sizes and heads of records. -/
import Derived.Test.YtajmdcbnejkfgaaRows
import Derived.Test.YtajmdcbnejkfgaaFrameMath
import Derived.Test.YtajmdcbnejkfgaaBytes
import Derived.Test.YtajmdcbnejkfgaaCrcA
namespace Go.Proofs.Ytajmdcbnejkfgaa.Frame
open Go.RowKit Go.Lib

/-- How many bytes a record of so many bytes takes. -/
def sz (n : Int) : Int := if n < 1 ∨ 4096 < n then 0 else 8 + n
theorem sz_in {n : Int} (h : 1 ≤ n) (k : n ≤ 4096) : sz n = 8 + n := if_neg (by omega)
theorem sz_out {n : Int} (h : n < 1 ∨ 4096 < n) : sz n = 0 := if_pos h
set_option maxHeartbeats 400000 in
theorem size_any (n : Int) (w : World) (h : -9223372036854775808 ≤ n ∧ n ≤ 9223372036854775807) :
    Calls Try.prog 13 #[.int .i64 n] w fun e w' => e = .returned (.int .i64 (sz n)) ∧ w = w' := by
  by_cases h1 : n < 1
  · go_enter Try.func13, Try.ntmps13
    go_wp2_with fail
    go_ret
    exact ⟨ret_i64 (sz_out (.inl h1)).symm, rfl⟩
  · by_cases h2 : 4096 < n
    · go_enter Try.func13, Try.ntmps13
      go_wp2_with fail
      go_ret
      exact ⟨ret_i64 (sz_out (.inr h2)).symm, rfl⟩
    · go_enter Try.func13, Try.ntmps13
      go_wp2_with fail
      go_ret
      exact ⟨ret_i64 (sz_in (by omega) (by omega)).symm, rfl⟩
set_option maxHeartbeats 400000 in
theorem rsize_any (n : Int) (w : World) (h : -9223372036854775808 ≤ n ∧ n ≤ 9223372036854775807) :
    Calls Try.prog 14 #[.int .i64 n] w fun e w' => e = .returned (.int .i64 (sz n)) ∧ w = w' := by
  by_cases h1 : n < 1
  · go_enter Try.func14, Try.ntmps14
    go_wp2_with fail
    go_ret
    exact ⟨ret_i64 (sz_out (.inl h1)).symm, rfl⟩
  · by_cases h2 : 4096 < n
    · go_enter Try.func14, Try.ntmps14
      go_wp2_with fail
      go_ret
      exact ⟨ret_i64 (sz_out (.inr h2)).symm, rfl⟩
    · go_enter Try.func14, Try.ntmps14
      go_wp2_with fail
      go_ret
      exact ⟨ret_i64 (sz_in (by omega) (by omega)).symm, rfl⟩

/-- Four cells of a block, from the place o on, laid from the last one on. -/
def laid (cs : Array Value) (o n : Nat) : Nat → Array Value
  | 0 => cs
  | k + 1 => (laid cs o n k).setIfInBounds (o + (3 - k)) (.int .u8 ((byte n k).toNat : Int))
theorem laid_size (cs : Array Value) (o n : Nat) : ∀ k, (laid cs o n k).size = cs.size
  | 0 => rfl
  | k + 1 => by
    show ((laid cs o n k).setIfInBounds _ _).size = _
    rw [Array.size_setIfInBounds, laid_size cs o n k]
set_option maxRecDepth 100000 in
set_option maxHeartbeats 1000000 in
theorem lay_any (B o cap n : Nat) (cs : Array Value) (T : TypeId) (w : World) (hn : n < 4294967296) (h : w.heap[B]? = some (.cells cs T (0, 0))) (ho : o + 4 ≤ cs.size) :
    Calls Try.prog 25 #[.slice (some ⟨B, o, none⟩) 4 cap, .int .u32 n] w fun e w' => e = .returned (.tuple #[]) ∧ w'.heap[B]? = some (.cells (laid cs o n 4) T (0, 0)) ∧ w.grownBy w' (some B) := by
  go_enter Try.func25, Try.ntmps25
  go_wp2_with fail
  go_loopw [1, 4] (fun t i wr => ∃ j : Nat, j ≤ 4 ∧ i = .int .i64 ((j : Int) - 1) ∧ t = .int .u32 ((n / 256 ^ (4 - j) : Nat) : Int) ∧ wr.heap[B]? = some (.cells (laid cs o n (4 - j)) T (0, 0)) ∧ w.grownBy wr (some B)) (fun _ i _ => (intOf i + 1).toNat)
  case atStart => exact ⟨4, by omega, rfl, by simp, h, only_refl _ _⟩
  case round =>
    obtain ⟨j, hj, rfl, rfl, hb, hg⟩ := hrel
    cases j with
    | zero =>
      go_wp2_with fail
      go_end0
      exact ⟨rfl, hb, hg⟩
    | succ m =>
      have hi : ((m + 1 : Nat) : Int) - 1 = (m : Int) := by omega
      obtain ⟨k, hk⟩ : ∃ k, 4 - (m + 1) = k := ⟨_, rfl⟩
      have hm : m = 3 - k := by omega
      have hk3 : k ≤ 3 := by omega
      rw [hi]
      rw [hk] at hb ⊢
      obtain ⟨q, hq⟩ : ∃ q, n / 256 ^ k = q := ⟨_, rfl⟩
      have hq1 : q < 4294967296 := by rw [← hq]; exact Nat.lt_of_le_of_lt (Nat.div_le_self _ _) hn
      have hq2 : n / 256 ^ (k + 1) = q / 256 := by rw [Nat.pow_succ, ← Nat.div_div_eq_div_mul, hq]
      have hbyte : (((byte n k).toNat : Nat) : Int) = (q : Int) % 256 := by rw [byte_nat, hq]; rfl
      have hlt : o + m < (laid cs o n k).size := by rw [laid_size]; omega
      have hc : wr.cell? ⟨B, o + m, none⟩ = some ((laid cs o n k)[o + m]'hlt) := cell_block hb (Array.getElem?_eq_getElem hlt)
      have hf : wr.frozen? ⟨B, o + m, none⟩ = false := free_block _ hb
      have hb1 := heap_setCell_same wr B (o + m) _ T (.int .u8 ((q : Int) % 256)) hb
      have hl : laid cs o n (k + 1) = (laid cs o n k).setIfInBounds (o + m) (.int .u8 ((q : Int) % 256)) := by
        rw [← hbyte, hm]
        rfl
      rw [hq]
      rw [← hl] at hb1
      have HB := Lib.hid hb1; have HQ := Lib.hid hq2; have HG := Lib.hid hg; have HK := Lib.hid hk; have HM := Lib.hid hm
      clear hb1 hq2 hg hl hbyte hb hq hi hk hm
      generalize (laid cs o n k)[o + m]'hlt = v at hc
      clear hlt
      go_wp2_with fail
      go_roundw
      case rel =>
        have hk := HK.out; have hm := HM.out
        refine ⟨m, by omega, rfl, ?_, ?_, only_setCell HG.out _ _⟩
        · rw [show 4 - m = k + 1 by omega, HQ.out]; rfl
        · rw [show 4 - m = k + 1 by omega]; exact HB.out
      case measure => simp [intOf]
end Go.Proofs.Ytajmdcbnejkfgaa.Frame
