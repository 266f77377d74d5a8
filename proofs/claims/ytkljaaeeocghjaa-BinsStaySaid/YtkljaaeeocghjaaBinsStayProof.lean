/- BinsStay: What is refused changes nothing; what is moved changes no total; a clone goes its own way.
   Conditions: none; each argument of its type that can be read as data. -/
import Derived.Test.YtkljaaeeocghjaaLaw
import Derived.ChangeMaps5
import Derived.Test.YtkljaaeeocghjaaBinIm
import Derived.Test.YtkljaaeeocghjaaBinN
import Derived.Test.YtkljaaeeocghjaaBinArgs
import Derived.Test.YtkljaaeeocghjaaOpen
namespace Go.Proofs.Ytkljaaeeocghjaa.Bins
open Go.ChangeShapes Go.WideShapes Go.ChangeAt Go.ChangeMaps Go.RowKit

theorem binsStay_own : ownKnob Try.prog.godebug = none := by kernel_rfl
theorem binsStay_laid : laidOutB Try.prog = true := by kernel_rfl
theorem binsStay_types : ∀ t ∈ Try.f4.params.toList, Try.prog.readableRec t = true ∧ t < Try.prog.types.size := by
  rw [Try.params4]
  intro t ht
  simp at ht
  rcases ht with rfl | rfl <;> exact ⟨by kernel_rfl, of_decide_eq_true (by kernel_rfl)⟩

set_option maxRecDepth 100000 in
theorem binsStay_lifted (os : Os) (started : os.Started) (H : Type) (enc : TypeId × Value → H) :
    ReturnsInHanded {} Try.checked os 4 .any (Rows.binsStaySpec.pre6 enc Try.prog Try.f4 Rows.binsStayRow.domain false) (Rows.binsStaySpec.post enc Try.prog Try.f4 false true false false) := by
  refine returnsInHanded_of_change (C := Try.checked) binsStay_own started (by kernel_rfl) Try.func4
    (ChangeSpec.witness6 (enc := enc) (C := Try.checked) false ⟨#[], #[.slice none 0 0, .slice none 0 0], []⟩ 8 (by kernel_rfl) (by kernel_rfl) (by kernel_rfl) (by kernel_rfl)) ?_
  intro W base args ds gs before hval0 hW hcnd _
  have hval : ∀ (j : Nat) t v, Try.f4.params[j]? = some t → args[j]? = some v → Value.okWide Try.prog W .any base t v := hval0
  have hW' := hW
  obtain ⟨p, q, hA0, hV, rfl, hfz, hnd⟩ := hW
  have hA : DataW.TrodAll enc Try.prog W 0 (fun _ => true) true Try.f4.params.toList args.toList ds p := hA0
  rw [Try.params4] at hA hval
  obtain ⟨v0, v1, d0, d1, p0, p1, rfl, rfl, rfl, h0, h1⟩ := trodAll_two hA
  obtain ⟨rfl, rfl⟩ := trodVars_none hV
  obtain ⟨la, ln, lc, rfl⟩ := okWide_slice Try.underlying22 (hval 0 22 v0 rfl rfl)
  obtain ⟨sa, sn, sc, rfl⟩ := okWide_slice Try.underlying23 (hval 1 23 v1 rfl rfl)
  clear hA0 hval0
  obtain ⟨l, hl0, hl1, hl2⟩ := lots_of h0
  obtain ⟨s, hs0, hs1, hs2⟩ := acts_of h1
  refine (binsStay_in impl la ln lc l sa sn sc s W hl0 hl1 hl2 hs0 hs1 hs2).mono fun e W' ⟨he, hb⟩ => ?_
  subst he
  exact ⟨_, rfl, law_done (tb := 4) binsStay_laid binsStay_types Try.underlying4 (by kernel_rfl) rfl hW' rfl hb⟩
theorem binsStay_holds : Rows.BinsStaySaid :=
  OpenClaim.holds_of_wide 4 Try.f4 rfl rfl rfl rfl rfl rfl rfl ⟨rfl, rfl, rfl, rfl, rfl⟩ rfl rfl rfl rfl rfl (by kernel_rfl) Try.func4 (by kernel_rfl)
    (of_decide_eq_true (by kernel_rfl)) (by unfold Func.isWrapper; first | (rw [if_pos (by decide +kernel)]; kernel_rfl) | (rw [if_neg (by decide +kernel)]; exact ⟨rfl, rfl⟩))
    (fun os started H enc _ => binsStay_lifted os started H enc)
#print axioms binsStay_holds
end Go.Proofs.Ytkljaaeeocghjaa.Bins
