/- The law DiskNobody, whole, for any implementation. -/
import Derived.Test.YtflkglnmenbmaaaDiskU
import Derived.Test.YtflkglnmenbmaaaDiskV
namespace Go.Proofs.Ytflkglnmenbmaaa.Disk
open Go.RowKit Go.Lib

theorem lawNobody (I : Impl) (J : Nobody) (hnil : ∀ w : World, J.ND w none (fun _ => False)) (hzero : ∀ w : World, J.ND (w.alloc (.cells zeroDisk 57)) (some ⟨w.heap.size, 0, none⟩) (fun k => k = w.heap.size))
    (x : Int) (a : AC) (ka : Option Addr) (kn kc : Nat) (Z : Nat → Int) (w : World) (hx : -9223372036854775808 ≤ x ∧ x ≤ 9223372036854775807) (hA : ActIs w a ka kn Z) :
    Calls Try.prog 6 #[.int .i64 x, .agg (actCells a ka kn kc)] w fun e w' => e = .returned (.bool true) ∧ Below w.heap.size w w' := by
  by_cases hs : a.name.size ≤ 40 ∧ a.arg.size ≤ 200 ∧ kn ≤ 20
  · by_cases h0 : x < 0
    · exact lawNobody_neg I J hnil hzero x a ka kn kc Z w hx.1 h0 hA hs
    · by_cases h1 : 16777216 < x
      · exact lawNobody_big I J hnil hzero x a ka kn kc Z w h1 hx.2 hA hs
      · obtain ⟨n, rfl⟩ : ∃ n : Nat, x = (n : Int) := ⟨x.toNat, by omega⟩
        exact lawNobody_yes I J hnil hzero n a ka kn kc Z w (by omega) hA hs
  · exact lawNobody_no I x a ka kn kc Z w hA hs
end Go.Proofs.Ytflkglnmenbmaaa.Disk
