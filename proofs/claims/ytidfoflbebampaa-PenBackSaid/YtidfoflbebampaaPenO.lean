/- The law PenBack walked: arguments that are longer than the law asks of, and all together. -/
import Derived.Test.YtidfoflbebampaaPenN
namespace Go.Proofs.Ytidfoflbebampaa
open Go.RowKit Go.Lib

set_option maxRecDepth 100000 in
set_option maxHeartbeats 2000000 in
theorem lawBack_long (a1 : Option Addr) (n1 c1 : Nat) (a2 : Option Addr) (n2 c2 : Nat) (S : ByteArray) (W : World) (h : 12 < n1 ∨ 12 < n2 ∨ 20 < S.size) :
    Calls Try.prog 5 #[.slice a1 n1 c1, .slice a2 n2 c2, .string S] W fun e w' => e = .returned (.bool true) ∧ Below W.heap.size W w' := by
  by_cases h1 : 12 < n1
  · have h1' : (12 : Int) < (n1 : Int) := by omega
    clear h
    go_enter Try.func5, Try.ntmps5
    go_wp2_with fail
    refine (awake_any _).mono ?_
    rintro e w7 ⟨rfl, hb7⟩
    go_wp2_with fail
    go_ret
    exact ⟨rfl, hb7⟩
  · have d1 : decide ((12 : Int) < (n1 : Int)) = false := by simp; omega
    by_cases h2 : 12 < n2
    · have h2' : (12 : Int) < (n2 : Int) := by omega
      clear h
      go_enter Try.func5, Try.ntmps5
      go_wp2_with fail
      refine (awake_any _).mono ?_
      rintro e w7 ⟨rfl, hb7⟩
      go_wp2_with fail
      go_ret
      exact ⟨rfl, hb7⟩
    · have d2 : decide ((12 : Int) < (n2 : Int)) = false := by simp; omega
      have h3 : (20 : Int) < (S.size : Int) := by omega
      clear h
      go_enter Try.func5, Try.ntmps5
      go_wp2_with fail
      refine (awake_any _).mono ?_
      rintro e w7 ⟨rfl, hb7⟩
      go_wp2_with fail
      go_ret
      exact ⟨rfl, hb7⟩
theorem lawBack_any (a1 : Option Addr) (n1 c1 : Nat) (Z : Nat → Int) (a2 : Option Addr) (n2 c2 : Nat) (T : Nat → ByteArray) (S : ByteArray) (W : World)
    (h1 : ∀ j, j < n1 → ∃ b off, a1 = some ⟨b, off, none⟩ ∧ b < W.heap.size ∧ W.cell? ⟨b, off + j, none⟩ = some (.int .i64 (Z j)))
    (h2 : ∀ j, j < n2 → ∃ b off, a2 = some ⟨b, off, none⟩ ∧ b < W.heap.size ∧ W.cell? ⟨b, off + j, none⟩ = some (.string (T j)))
    (hZ : ∀ j, j < n1 → -9223372036854775808 ≤ Z j ∧ Z j ≤ 9223372036854775807) (hT : ∀ j, j < n2 → (T j).size ≤ 9223372036854775807) :
    Calls Try.prog 5 #[.slice a1 n1 c1, .slice a2 n2 c2, .string S] W fun e w' => e = .returned (.bool true) ∧ Below W.heap.size W w' := by
  by_cases h : 12 < n1 ∨ 12 < n2 ∨ 20 < S.size
  · exact lawBack_long a1 n1 c1 a2 n2 c2 S W h
  · exact lawBack a1 n1 c1 Z a2 n2 c2 T S W h1 h2 hZ hT (by omega) (by omega) (by omega)
end Go.Proofs.Ytidfoflbebampaa
