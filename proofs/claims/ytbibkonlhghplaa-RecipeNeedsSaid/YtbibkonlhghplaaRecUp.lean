/- The document's up. -/
import Derived.Test.YtbibkonlhghplaaRecA
namespace Go.Proofs.Ytbibkonlhghplaa.Recipe
open Go.RowKit Go.Lib

theorem dup (n k : Int) (w : World) (n0 : 0 ≤ n) (n1 : n ≤ 2305843009213693952) (k0 : 1 ≤ k) (k1 : k ≤ 4611686018427387904) : Calls Try.prog 31 #[.int .i64 n, .int .i64 k] w fun e w' => e = .returned (.int .i64 (up n k)) ∧ w = w' := by
  have w1 : IntKind.i64.wrap (n + k) = n + k := IntWalk.i64_in _ (by omega)
  have w2 : IntKind.i64.wrap (n + k - 1) = n + k - 1 := IntWalk.i64_in _ (by omega)
  have c2 : ¬ k = 0 := by omega
  have c3 : (k == 0) = false := by simpa using c2
  obtain ⟨q, hq⟩ : ∃ q, up n k = q := ⟨_, rfl⟩
  have ht : (n + k - 1).tdiv k = q := by rw [← hq]; unfold up; exact Int.tdiv_eq_ediv_of_nonneg (by omega)
  have hq0 : 0 ≤ q := by rw [← hq]; exact up_nonneg n0 (by omega)
  have hq1 : q ≤ n := by rw [← hq]; exact up_le n0 (by omega)
  have w3 : IntKind.i64.wrap q = q := IntWalk.i64_in _ (by omega)
  rw [hq]
  clear hq
  go_enter Try.func31, Try.ntmps31
  go_wp2_with fail
  go_ret
  exact ⟨rfl, rfl⟩
end Go.Proofs.Ytbibkonlhghplaa.Recipe
