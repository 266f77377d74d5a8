/- PurseStays: What is moved changes no total; what is refused changes nothing; a clone goes its own way.
   Conditions: none; each argument of its type that can be read as data. -/
import Derived.Test.YteglahogimdnfaaLaw
import Derived.ChangeMaps5
import Derived.Test.YteglahogimdnfaaPurIm
import Derived.Test.YteglahogimdnfaaPurArgs
import Derived.Test.YteglahogimdnfaaOpen
namespace Go.Proofs.Yteglahogimdnfaa.Purse
open Go.ChangeShapes Go.WideShapes Go.ChangeAt Go.ChangeMaps Go.RowKit

theorem purseStays_own : ownKnob Try.prog.godebug = none := by kernel_rfl
theorem purseStays_laid : laidOutB Try.prog = true := by kernel_rfl
theorem purseStays_types : ∀ t ∈ Try.f5.params.toList, Try.prog.readableRec t = true ∧ t < Try.prog.types.size := by
  rw [Try.params5]
  intro t ht
  simp at ht
  rcases ht with rfl | rfl <;> exact ⟨by kernel_rfl, of_decide_eq_true (by kernel_rfl)⟩

set_option maxRecDepth 100000 in
theorem purseStays_lifted (os : Os) (started : os.Started) (H : Type) (enc : TypeId × Value → H) :
    ReturnsInHanded {} Try.checked os 5 .any (Rows.purseStaysSpec.pre6 enc Try.prog Try.f5 Rows.purseStaysRow.domain false) (Rows.purseStaysSpec.post enc Try.prog Try.f5 false true false false) := by
  refine returnsInHanded_of_change (C := Try.checked) purseStays_own started (by kernel_rfl) Try.func5
    (ChangeSpec.witness6 (enc := enc) (C := Try.checked) false ⟨#[], #[.slice none 0 0, .slice none 0 0], []⟩ 8 (by kernel_rfl) (by kernel_rfl) (by kernel_rfl) (by kernel_rfl)) ?_
  intro W base args ds gs before hval0 hW hcnd _
  have hval : ∀ (j : Nat) t v, Try.f5.params[j]? = some t → args[j]? = some v → Value.okWide Try.prog W .any base t v := hval0
  have hW' := hW
  obtain ⟨p, q, hA0, hV, rfl, hfz, hnd⟩ := hW
  have hA : DataW.TrodAll enc Try.prog W 0 (fun _ => true) true Try.f5.params.toList args.toList ds p := hA0
  rw [Try.params5] at hA hval
  obtain ⟨v0, v1, d0, d1, p0, p1, rfl, rfl, rfl, h0, h1⟩ := trodAll_two hA
  obtain ⟨rfl, rfl⟩ := trodVars_none hV
  obtain ⟨la, ln, lc, rfl⟩ := okWide_slice Try.underlying22 (hval 0 22 v0 rfl rfl)
  obtain ⟨sa, sn, sc, rfl⟩ := okWide_slice Try.underlying42 (hval 1 42 v1 rfl rfl)
  clear hA0 hval0
  obtain ⟨l, hl0, hl1, hl2⟩ := acs_of h0
  obtain ⟨s, hs0, hs1, hs2⟩ := pays_of h1
  refine (purseStays_in impl la ln lc l sa sn sc s W hl0 hl1 hl2 hs0 hs1 hs2).mono fun e W' ⟨he, hb⟩ => ?_
  subst he
  exact ⟨_, rfl, law_done (tb := 4) purseStays_laid purseStays_types Try.underlying4 (by kernel_rfl) rfl hW' rfl hb⟩
theorem purseStays_holds : Rows.PurseStaysSaid :=
  OpenClaim.holds_of_wide 5 Try.f5 rfl rfl rfl rfl rfl rfl rfl ⟨rfl, rfl, rfl, rfl, rfl⟩ rfl rfl rfl rfl rfl (by kernel_rfl) Try.func5 (by kernel_rfl)
    (of_decide_eq_true (by kernel_rfl)) (by unfold Func.isWrapper; first | (rw [if_pos (by decide +kernel)]; kernel_rfl) | (rw [if_neg (by decide +kernel)]; exact ⟨rfl, rfl⟩))
    (fun os started H enc _ => purseStays_lifted os started H enc)
#print axioms purseStays_holds
end Go.Proofs.Yteglahogimdnfaa.Purse
