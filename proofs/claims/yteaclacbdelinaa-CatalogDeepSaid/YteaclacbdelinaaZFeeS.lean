/- Fees; the document's Check. -/
import Derived.Test.YteaclacbdelinaaRows
import Derived.Test.YteaclacbdelinaaZCommon
import Derived.IntWalk
import Derived.WalkKit
namespace Go.Proofs.Yteaclacbdelinaa.Fee
open Go.RowKit Go.Lib

/-- Fees. -/
structure FS where
  broker : Int
  least : Int
  sales : Int
abbrev FS.v (f : FS) : Value := .agg #[.int .i64 f.broker, .int .i64 f.least, .int .i64 f.sales]
def FeeOk (f : FS) : Prop := (0 ≤ f.broker ∧ f.broker ≤ 10000) ∧ (0 ≤ f.sales ∧ f.sales ≤ 10000) ∧ 0 ≤ f.least ∧ f.least ≤ 1152921504606846976
instance (f : FS) : Decidable (FeeOk f) := by unfold FeeOk; infer_instance
def chkF (f : FS) : Int := if FeeOk f then 0 else 1
theorem chkF_yes {f : FS} (h : FeeOk f) : chkF f = 0 := by unfold chkF; rw [if_pos h]
theorem chkF_no {f : FS} (h : ¬ FeeOk f) : chkF f = 1 := by unfold chkF; rw [if_neg h]
set_option maxRecDepth 100000 in
theorem dcheck (f : FS) (w : World) :
    Calls Try.prog 33 #[f.v] w fun e w' => e = .returned (.int .i64 (chkF f)) ∧ Below w.heap.size w w' := by
  obtain ⟨b, l, s⟩ := f
  go_enter Try.func33, Try.ntmps33
  go_wp2_with fail
  all_goals
    go_ret
    refine ⟨ret_i64 ?_, (Below.refl _ w).alloc (Nat.le_refl _) _⟩
    first
    | exact (chkF_yes (by unfold FeeOk; dsimp only; omega)).symm
    | exact (chkF_no (by unfold FeeOk; dsimp only; omega)).symm
end Go.Proofs.Yteaclacbdelinaa.Fee
