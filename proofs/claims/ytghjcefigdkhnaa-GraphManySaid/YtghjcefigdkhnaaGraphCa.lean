/- One more number at a row's end; the document's in of a row of one's own. -/
import Derived.Test.YtghjcefigdkhnaaGraphB
namespace Go.Proofs.Ytghjcefigdkhnaa.Graph
open Go.RowKit Go.Lib IRows

/-- One more number at a row's end, as walks want it. -/
theorem app1 {wr : World} {B : Nat} {a1 : Option Addr} {j c1 : Nat} {out : List Int} (x : Int) (hl : out.length = j) (h : KS wr B (.slice a1 j c1) out) (hj : j ≤ 1099511627776) (hB : B ≤ wr.heap.size) :
    ∃ a3 c3 W3, Hid ((Builtin.append_ #[24, 24] 24 #[.slice a1 j c1, .slice (some ⟨wr.heap.size, 0, none⟩) 1 1]).run Try.prog (wr.alloc (.cells #[.int .i64 x] 3)) = .ok (.slice a3 (j + 1) c3) W3) ∧ (out ++ [x]).length = j + 1 ∧ KS W3 B (.slice a3 (j + 1) c3) (out ++ [x]) ∧ Below B wr W3 := by
  subst hl
  obtain ⟨g, cap, W3, hrun, ho3, hb3, _⟩ := app_int wr B (.slice a1 out.length c1) out x h hj hB
  exact ⟨_, _, W3, Lib.hid hrun, by simp, ho3, hb3⟩
theorem in_own {wr : World} {B : Nat} {a1 : Option Addr} {j c1 : Nat} {out : List Int} (hl : out.length = j) (h : KS wr B (.slice a1 j c1) out) (hj : j ≤ 1048576) (k : Int) :
    ∃ t : Bool, Hid (Calls Try.prog 20 #[.slice a1 j c1, .int .i64 k] wr fun e w' => e = .returned (.bool t) ∧ wr = w') ∧ Hid (t = true ↔ k ∈ out) := by
  obtain ⟨a2, c2, e, hr⟩ := irow_own h
  injection e with e1 e2 e3
  subst e1
  exact in_at k hl hr hj
end Go.Proofs.Ytghjcefigdkhnaa.Graph
