/- TableClones: A clone has the same pairs and goes its own way; what is gone over is what there was: for every list of acts, and every list of acts of the clone.
   Conditions: none; each argument of its type that can be read as data. -/
import Derived.Test.YtighjiiaplihjaaLaw
import Derived.ChangeMaps5
import Derived.Test.YtighjiiaplihjaaTabImS
import Derived.Test.YtighjiiaplihjaaTabT
namespace Go.Proofs.Ytighjiiaplihjaa.Tab
open Go.ChangeShapes Go.WideShapes Go.ChangeAt Go.ChangeMaps Go.RowKit

theorem tableClones_own : ownKnob Try.prog.godebug = none := by kernel_rfl
theorem tableClones_laid : laidOutB Try.prog = true := by kernel_rfl
theorem tableClones_types : ∀ t ∈ Try.f6.params.toList, Try.prog.readableRec t = true ∧ t < Try.prog.types.size := by
  rw [Try.params6]
  intro t ht
  simp at ht
  subst ht
  exact ⟨by kernel_rfl, of_decide_eq_true (by kernel_rfl)⟩

set_option maxRecDepth 100000 in
theorem tableClones_lifted (os : Os) (started : os.Started) (H : Type) (enc : TypeId × Value → H) :
    ReturnsInHanded {} Try.checked os 6 .any (Rows.tableClonesSpec.pre6 enc Try.prog Try.f6 Rows.tableClonesRow.domain false) (Rows.tableClonesSpec.post enc Try.prog Try.f6 false true false false) := by
  refine returnsInHanded_of_change (C := Try.checked) tableClones_own started (by kernel_rfl) Try.func6
    (ChangeSpec.witness6 (enc := enc) (C := Try.checked) false ⟨#[], #[.slice none 0 0, .slice none 0 0], []⟩ 8 (by kernel_rfl) (by kernel_rfl) (by kernel_rfl) (by kernel_rfl)) ?_
  intro W base args ds gs before hval0 hW hcnd _
  have hval : ∀ (j : Nat) t v, Try.f6.params[j]? = some t → args[j]? = some v → Value.okWide Try.prog W .any base t v := hval0
  have hW' := hW
  obtain ⟨p, q, hA0, hV, rfl, hfz, hnd⟩ := hW
  have hA : DataW.TrodAll enc Try.prog W 0 (fun _ => true) true Try.f6.params.toList args.toList ds p := hA0
  rw [Try.params6] at hA hval
  obtain ⟨v0, v1, d0, d1, p0, p1, rfl, rfl, rfl, h0, h1⟩ := trodAll_two hA
  obtain ⟨rfl, rfl⟩ := trodVars_none hV
  obtain ⟨la, ln, lc, rfl⟩ := okWide_slice Try.underlying22 (hval 0 22 v0 rfl rfl)
  obtain ⟨ma, mn, mc, rfl⟩ := okWide_slice Try.underlying22 (hval 1 22 v1 rfl rfl)
  clear hA0 hval0
  obtain ⟨hln, hlc, lA, hlA⟩ := acts_of h0
  obtain ⟨hmn, hmc, mA, hmA⟩ := acts_of h1
  refine (Im.clones_in la ln lc lA ma mn mc mA W hlA hlc hln hmA hmc hmn).mono fun e W' ⟨he, hb⟩ => ?_
  subst he
  exact ⟨_, rfl, law_done (tb := 4) tableClones_laid tableClones_types Try.underlying4 (by kernel_rfl) rfl hW' rfl hb⟩
theorem tableClones_holds : Rows.TableClonesSaid :=
  OpenClaim.holds_of_wide 6 Try.f6 rfl rfl rfl rfl rfl rfl rfl ⟨rfl, rfl, rfl, rfl, rfl⟩ rfl rfl rfl rfl rfl (by kernel_rfl) Try.func6 (by kernel_rfl)
    (of_decide_eq_true (by kernel_rfl)) (by unfold Func.isWrapper; first | (rw [if_pos (by decide +kernel)]; kernel_rfl) | (rw [if_neg (by decide +kernel)]; exact ⟨rfl, rfl⟩))
    (fun os started H enc _ => tableClones_lifted os started H enc)
#print axioms tableClones_holds
end Go.Proofs.Ytighjiiaplihjaa.Tab
