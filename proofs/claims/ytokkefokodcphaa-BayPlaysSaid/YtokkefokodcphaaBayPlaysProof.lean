/- BayPlays: Whatever jobs come and leave, the lines are the document's, and it is answered as it says.
   Conditions: none; each argument of its type that can be read as data. -/
import Derived.Test.YtokkefokodcphaaLaw
import Derived.ChangeMaps5
import Derived.Test.YtokkefokodcphaaBayPlays
import Derived.Test.YtokkefokodcphaaBayArgs2
import Derived.Test.YtokkefokodcphaaOpen
namespace Go.Proofs.Ytokkefokodcphaa.Bay
open Go.ChangeShapes Go.WideShapes Go.ChangeAt Go.ChangeMaps Go.RowKit

theorem bayPlays_own : ownKnob Try.prog.godebug = none := by kernel_rfl
theorem bayPlays_laid : laidOutB Try.prog = true := by kernel_rfl
theorem bayPlays_types : ∀ t ∈ Try.f3.params.toList, Try.prog.readableRec t = true ∧ t < Try.prog.types.size := by
  rw [Try.params3]
  intro t ht
  simp at ht
  rcases ht with rfl | rfl | rfl <;> exact ⟨by kernel_rfl, of_decide_eq_true (by kernel_rfl)⟩

set_option maxRecDepth 100000 in
theorem bayPlays_lifted (os : Os) (started : os.Started) (H : Type) (enc : TypeId × Value → H) :
    ReturnsInHanded {} Try.checked os 3 .any (Rows.bayPlaysSpec.pre6 enc Try.prog Try.f3 Rows.bayPlaysRow.domain false) (Rows.bayPlaysSpec.post enc Try.prog Try.f3 false true false false) := by
  refine returnsInHanded_of_change (C := Try.checked) bayPlays_own started (by kernel_rfl) Try.func3
    (ChangeSpec.witness6 (enc := enc) (C := Try.checked) false ⟨#[], #[.slice none 0 0, .slice none 0 0, .slice none 0 0], []⟩ 8 (by kernel_rfl) (by kernel_rfl) (by kernel_rfl) (by kernel_rfl)) ?_
  intro W base args ds gs before hval0 hW hcnd _
  have hval : ∀ (j : Nat) t v, Try.f3.params[j]? = some t → args[j]? = some v → Value.okWide Try.prog W .any base t v := hval0
  have hW' := hW
  obtain ⟨p, q, hA0, hV, rfl, hfz, hnd⟩ := hW
  have hA : DataW.TrodAll enc Try.prog W 0 (fun _ => true) true Try.f3.params.toList args.toList ds p := hA0
  rw [Try.params3] at hA hval
  obtain ⟨v0, v1, v2, d0, d1, d2, p0, p1, p2, rfl, rfl, rfl, h0, h1, h2⟩ := trodAll_three hA
  obtain ⟨rfl, rfl⟩ := trodVars_none hV
  obtain ⟨la, ln, lc, rfl⟩ := okWide_slice Try.underlying22 (hval 0 22 v0 rfl rfl)
  obtain ⟨linesa, linesn, linesc, rfl⟩ := okWide_slice Try.underlying23 (hval 1 23 v1 rfl rfl)
  obtain ⟨actsa, actsn, actsc, rfl⟩ := okWide_slice Try.underlying24 (hval 2 24 v2 rfl rfl)
  clear hA0 hval0
  obtain ⟨l, hl0, hl1, hl2⟩ := bays_of2 h0
  obtain ⟨lines, hlines0, hlines1, hlines2⟩ := lines_of h1
  obtain ⟨acts, hacts0, hacts1⟩ := acts_of h2
  refine (bayPlays_in la ln lc l linesa linesn linesc lines actsa actsn actsc acts W hl0 hl1 hl2 hlines0 hlines1 hlines2 hacts0 hacts1).mono fun e W' ⟨he, hb⟩ => ?_
  subst he
  exact ⟨_, rfl, law_done (tb := 4) bayPlays_laid bayPlays_types Try.underlying4 (by kernel_rfl) rfl hW' rfl hb⟩
theorem bayPlays_holds : Rows.BayPlaysSaid :=
  OpenClaim.holds_of_wide 3 Try.f3 rfl rfl rfl rfl rfl rfl rfl ⟨rfl, rfl, rfl, rfl, rfl⟩ rfl rfl rfl rfl rfl (by kernel_rfl) Try.func3 (by kernel_rfl)
    (of_decide_eq_true (by kernel_rfl)) (by unfold Func.isWrapper; first | (rw [if_pos (by decide +kernel)]; kernel_rfl) | (rw [if_neg (by decide +kernel)]; exact ⟨rfl, rfl⟩))
    (fun os started H enc _ => bayPlays_lifted os started H enc)
#print axioms bayPlays_holds
end Go.Proofs.Ytokkefokodcphaa.Bay
