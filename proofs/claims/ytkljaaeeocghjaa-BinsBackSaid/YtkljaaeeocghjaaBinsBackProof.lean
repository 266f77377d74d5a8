/- BinsBack: What is put in together is taken out again, one by one; none is left that was not there.
   Conditions: none; each argument of its type that can be read as data. -/
import Derived.Test.YtkljaaeeocghjaaLaw
import Derived.ChangeMaps5
import Derived.Test.YtkljaaeeocghjaaBinIm
import Derived.Test.YtkljaaeeocghjaaBinO
import Derived.Test.YtkljaaeeocghjaaBinArgs
import Derived.Test.YtkljaaeeocghjaaOpen
namespace Go.Proofs.Ytkljaaeeocghjaa.Bins
open Go.ChangeShapes Go.WideShapes Go.ChangeAt Go.ChangeMaps Go.RowKit

theorem binsBack_own : ownKnob Try.prog.godebug = none := by kernel_rfl
theorem binsBack_laid : laidOutB Try.prog = true := by kernel_rfl
theorem binsBack_types : ∀ t ∈ Try.f5.params.toList, Try.prog.readableRec t = true ∧ t < Try.prog.types.size := by
  rw [Try.params5]
  intro t ht
  simp at ht
  rcases ht with rfl | rfl | rfl <;> exact ⟨by kernel_rfl, of_decide_eq_true (by kernel_rfl)⟩

set_option maxRecDepth 100000 in
theorem binsBack_lifted (os : Os) (started : os.Started) (H : Type) (enc : TypeId × Value → H) :
    ReturnsInHanded {} Try.checked os 5 .any (Rows.binsBackSpec.pre6 enc Try.prog Try.f5 Rows.binsBackRow.domain false) (Rows.binsBackSpec.post enc Try.prog Try.f5 false true false false) := by
  refine returnsInHanded_of_change (C := Try.checked) binsBack_own started (by kernel_rfl) Try.func5
    (ChangeSpec.witness6 (enc := enc) (C := Try.checked) false ⟨#[], #[.slice none 0 0, .agg #[.int .i64 0, .int .i64 0, .int .i64 0, .int .i64 0], .slice none 0 0], []⟩ 8 (by kernel_rfl) (by kernel_rfl) (by kernel_rfl) (by kernel_rfl)) ?_
  intro W base args ds gs before hval0 hW hcnd _
  have hval : ∀ (j : Nat) t v, Try.f5.params[j]? = some t → args[j]? = some v → Value.okWide Try.prog W .any base t v := hval0
  have hW' := hW
  obtain ⟨p, q, hA0, hV, rfl, hfz, hnd⟩ := hW
  have hA : DataW.TrodAll enc Try.prog W 0 (fun _ => true) true Try.f5.params.toList args.toList ds p := hA0
  rw [Try.params5] at hA hval
  obtain ⟨v0, v1, v2, d0, d1, d2, p0, p1, p2, rfl, rfl, rfl, h0, h1, h2⟩ := trodAll_three hA
  obtain ⟨rfl, rfl⟩ := trodVars_none hV
  obtain ⟨la, ln, lc, rfl⟩ := okWide_slice Try.underlying22 (hval 0 22 v0 rfl rfl)
  obtain ⟨xcs, rfl, hxz⟩ := okWide_struct Try.underlying25 (hval 1 25 v1 rfl rfl)
  obtain ⟨sa, sn, sc, rfl⟩ := okWide_slice Try.underlying35 (hval 2 35 v2 rfl rfl)
  clear hA0 hval0
  obtain ⟨l, hl0, hl1, hl2⟩ := lots_of h0
  obtain ⟨x, rfl, hx0⟩ := bn_of h1
  obtain ⟨s, hs0, hs1, hs2⟩ := stks_of h2
  refine (binsBack_in impl la ln lc l x sa sn sc s W hl0 hl1 hl2 hx0 hs0 hs1 hs2).mono fun e W' ⟨he, hb⟩ => ?_
  subst he
  exact ⟨_, rfl, law_done (tb := 4) binsBack_laid binsBack_types Try.underlying4 (by kernel_rfl) rfl hW' rfl hb⟩
theorem binsBack_holds : Rows.BinsBackSaid :=
  OpenClaim.holds_of_wide 5 Try.f5 rfl rfl rfl rfl rfl rfl rfl ⟨rfl, rfl, rfl, rfl, rfl⟩ rfl rfl rfl rfl rfl (by kernel_rfl) Try.func5 (by kernel_rfl)
    (of_decide_eq_true (by kernel_rfl)) (by unfold Func.isWrapper; first | (rw [if_pos (by decide +kernel)]; kernel_rfl) | (rw [if_neg (by decide +kernel)]; exact ⟨rfl, rfl⟩))
    (fun os started H enc _ => binsBack_lifted os started H enc)
#print axioms binsBack_holds
end Go.Proofs.Ytkljaaeeocghjaa.Bins
