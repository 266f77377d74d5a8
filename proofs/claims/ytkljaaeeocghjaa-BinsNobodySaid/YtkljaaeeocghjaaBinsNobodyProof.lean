/- BinsNobody: Nil bins have nothing, take nothing, and do not fail.
   Conditions: none; each argument of its type that can be read as data. -/
import Derived.Test.YtkljaaeeocghjaaLaw
import Derived.ChangeMaps5
import Derived.Test.YtkljaaeeocghjaaBinIm
import Derived.Test.YtkljaaeeocghjaaBinP
import Derived.Test.YtkljaaeeocghjaaBinArgs
import Derived.Test.YtkljaaeeocghjaaOpen
namespace Go.Proofs.Ytkljaaeeocghjaa.Bins
open Go.ChangeShapes Go.WideShapes Go.ChangeAt Go.ChangeMaps Go.RowKit

theorem binsNobody_own : ownKnob Try.prog.godebug = none := by kernel_rfl
theorem binsNobody_laid : laidOutB Try.prog = true := by kernel_rfl
theorem binsNobody_types : ∀ t ∈ Try.f6.params.toList, Try.prog.readableRec t = true ∧ t < Try.prog.types.size := by
  rw [Try.params6]
  intro t ht
  simp at ht
  subst ht
  exact ⟨by kernel_rfl, of_decide_eq_true (by kernel_rfl)⟩

set_option maxRecDepth 100000 in
theorem binsNobody_lifted (os : Os) (started : os.Started) (H : Type) (enc : TypeId × Value → H) :
    ReturnsInHanded {} Try.checked os 6 .any (Rows.binsNobodySpec.pre6 enc Try.prog Try.f6 Rows.binsNobodyRow.domain false) (Rows.binsNobodySpec.post enc Try.prog Try.f6 false true false false) := by
  refine returnsInHanded_of_change (C := Try.checked) binsNobody_own started (by kernel_rfl) Try.func6
    (ChangeSpec.witness6 (enc := enc) (C := Try.checked) false ⟨#[], #[.agg #[.int .i64 0, .int .i64 0, .int .i64 0, .int .i64 0, .int .i64 0, .int .i64 0, .int .i64 0, .int .i64 0, .int .i64 0, .int .i64 0, .slice none 0 0]], []⟩ 8 (by kernel_rfl) (by kernel_rfl) (by kernel_rfl) (by kernel_rfl)) ?_
  intro W base args ds gs before hval0 hW hcnd _
  have hval : ∀ (j : Nat) t v, Try.f6.params[j]? = some t → args[j]? = some v → Value.okWide Try.prog W .any base t v := hval0
  have hW' := hW
  obtain ⟨p, q, hA0, hV, rfl, hfz, hnd⟩ := hW
  have hA : DataW.TrodAll enc Try.prog W 0 (fun _ => true) true Try.f6.params.toList args.toList ds p := hA0
  rw [Try.params6] at hA hval
  obtain ⟨v0, d0, rfl, rfl, h0⟩ := trodAll_one hA
  obtain ⟨rfl, rfl⟩ := trodVars_none hV
  obtain ⟨acs, rfl, haz⟩ := okWide_struct Try.underlying37 (hval 0 37 v0 rfl rfl)
  clear hA0 hval0
  obtain ⟨a, rfl, ha0, ha1⟩ := act_of h0
  refine (binsNobody_in impl a W ha0 ha1).mono fun e W' ⟨he, hb⟩ => ?_
  subst he
  exact ⟨_, rfl, law_done (tb := 4) binsNobody_laid binsNobody_types Try.underlying4 (by kernel_rfl) rfl hW' rfl hb⟩
theorem binsNobody_holds : Rows.BinsNobodySaid :=
  OpenClaim.holds_of_wide 6 Try.f6 rfl rfl rfl rfl rfl rfl rfl ⟨rfl, rfl, rfl, rfl, rfl⟩ rfl rfl rfl rfl rfl (by kernel_rfl) Try.func6 (by kernel_rfl)
    (of_decide_eq_true (by kernel_rfl)) (by unfold Func.isWrapper; first | (rw [if_pos (by decide +kernel)]; kernel_rfl) | (rw [if_neg (by decide +kernel)]; exact ⟨rfl, rfl⟩))
    (fun os started H enc _ => binsNobody_lifted os started H enc)
#print axioms binsNobody_holds
end Go.Proofs.Ytkljaaeeocghjaa.Bins
