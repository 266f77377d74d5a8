/- BayNobody: Bays that nobody made take no jobs, and do not fail; which bays there may be.
   Conditions: none; each argument of its type that can be read as data. -/
import Derived.Test.YtokkefokodcphaaLaw
import Derived.ChangeMaps5
import Derived.Test.YtokkefokodcphaaBayNobody
import Derived.Test.YtokkefokodcphaaBayArgs
import Derived.Test.YtokkefokodcphaaOpen
namespace Go.Proofs.Ytokkefokodcphaa.Bay
open Go.ChangeShapes Go.WideShapes Go.ChangeAt Go.ChangeMaps Go.RowKit

theorem bayNobody_own : ownKnob Try.prog.godebug = none := by kernel_rfl
theorem bayNobody_laid : laidOutB Try.prog = true := by kernel_rfl
theorem bayNobody_types : ∀ t ∈ Try.f5.params.toList, Try.prog.readableRec t = true ∧ t < Try.prog.types.size := by
  rw [Try.params5]
  intro t ht
  simp at ht
  rcases ht with rfl | rfl <;> exact ⟨by kernel_rfl, of_decide_eq_true (by kernel_rfl)⟩

set_option maxRecDepth 100000 in
theorem bayNobody_lifted (os : Os) (started : os.Started) (H : Type) (enc : TypeId × Value → H) :
    ReturnsInHanded {} Try.checked os 5 .any (Rows.bayNobodySpec.pre6 enc Try.prog Try.f5 Rows.bayNobodyRow.domain false) (Rows.bayNobodySpec.post enc Try.prog Try.f5 false true false false) := by
  refine returnsInHanded_of_change (C := Try.checked) bayNobody_own started (by kernel_rfl) Try.func5
    (ChangeSpec.witness6 (enc := enc) (C := Try.checked) false ⟨#[], #[.slice none 0 0, .agg #[.int .i64 0, .int .i64 0, .int .i64 0, .int .i64 0]], []⟩ 8 (by kernel_rfl) (by kernel_rfl) (by kernel_rfl) (by kernel_rfl)) ?_
  intro W base args ds gs before hval0 hW hcnd _
  have hval : ∀ (j : Nat) t v, Try.f5.params[j]? = some t → args[j]? = some v → Value.okWide Try.prog W .any base t v := hval0
  have hW' := hW
  obtain ⟨p, q, hA0, hV, rfl, hfz, hnd⟩ := hW
  have hA : DataW.TrodAll enc Try.prog W 0 (fun _ => true) true Try.f5.params.toList args.toList ds p := hA0
  rw [Try.params5] at hA hval
  obtain ⟨v0, v1, d0, d1, p0, p1, rfl, rfl, rfl, h0, h1⟩ := trodAll_two hA
  obtain ⟨rfl, rfl⟩ := trodVars_none hV
  obtain ⟨la, ln, lc, rfl⟩ := okWide_slice Try.underlying22 (hval 0 22 v0 rfl rfl)
  obtain ⟨acs, rfl, haz⟩ := okWide_struct Try.underlying40 (hval 1 40 v1 rfl rfl)
  clear hA0 hval0
  obtain ⟨l, hl0, hl1⟩ := bays_of h0
  obtain ⟨a, rfl, ha0⟩ := ac_of h1
  refine (bayNobody_in la ln lc l a W hl0 hl1).mono fun e W' ⟨he, hb⟩ => ?_
  subst he
  exact ⟨_, rfl, law_done (tb := 4) bayNobody_laid bayNobody_types Try.underlying4 (by kernel_rfl) rfl hW' rfl hb⟩
theorem bayNobody_holds : Rows.BayNobodySaid :=
  OpenClaim.holds_of_wide 5 Try.f5 rfl rfl rfl rfl rfl rfl rfl ⟨rfl, rfl, rfl, rfl, rfl⟩ rfl rfl rfl rfl rfl (by kernel_rfl) Try.func5 (by kernel_rfl)
    (of_decide_eq_true (by kernel_rfl)) (by unfold Func.isWrapper; first | (rw [if_pos (by decide +kernel)]; kernel_rfl) | (rw [if_neg (by decide +kernel)]; exact ⟨rfl, rfl⟩))
    (fun os started H enc _ => bayNobody_lifted os started H enc)
#print axioms bayNobody_holds
end Go.Proofs.Ytokkefokodcphaa.Bay
