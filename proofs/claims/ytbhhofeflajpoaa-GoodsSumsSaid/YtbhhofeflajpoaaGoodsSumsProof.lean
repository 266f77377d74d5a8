/- GoodsSums: Any stacks together, the ones without the others, and so often; or why there are none.
   Conditions: none; each argument of its type that can be read as data. -/
import Derived.Test.YtbhhofeflajpoaaLaw
import Derived.ChangeMaps5
import Derived.Test.YtbhhofeflajpoaaGoodsIm
import Derived.Test.YtbhhofeflajpoaaGoodsArgs
import Derived.Test.YtbhhofeflajpoaaGoodsK
namespace Go.Proofs.Ytbhhofeflajpoaa.Goods
open Go.ChangeShapes Go.WideShapes Go.ChangeAt Go.ChangeMaps Go.RowKit

theorem goodsSums_own : ownKnob Try.prog.godebug = none := by kernel_rfl
theorem goodsSums_int {x : Int} (h : (Lit.int .i64 x).wf = true) : -9223372036854775808 ≤ x ∧ x ≤ 9223372036854775807 := by
  simp [Lit.wf, IntKind.min, IntKind.max, IntKind.signed, IntKind.bits] at h
  exact ⟨by omega, by omega⟩
theorem goodsSums_laid : laidOutB Try.prog = true := by kernel_rfl
theorem goodsSums_types : ∀ t ∈ Try.f4.params.toList, Try.prog.readableRec t = true ∧ t < Try.prog.types.size := by
  rw [Try.params4]
  intro t ht
  simp at ht
  rcases ht with rfl | rfl <;> exact ⟨by kernel_rfl, of_decide_eq_true (by kernel_rfl)⟩

set_option maxRecDepth 100000 in
theorem goodsSums_lifted (os : Os) (started : os.Started) (H : Type) (enc : TypeId × Value → H) :
    ReturnsInHanded {} Try.checked os 4 .any (Rows.goodsSumsSpec.pre6 enc Try.prog Try.f4 Rows.goodsSumsRow.domain false) (Rows.goodsSumsSpec.post enc Try.prog Try.f4 false true false false) := by
  refine returnsInHanded_of_change (C := Try.checked) goodsSums_own started (by kernel_rfl) Try.func4
    (ChangeSpec.witness6 (enc := enc) (C := Try.checked) false ⟨#[], #[.slice none 0 0, .slice none 0 0, .int .i64 0], []⟩ 8 (by kernel_rfl) (by kernel_rfl) (by kernel_rfl) (by kernel_rfl)) ?_
  intro W base args ds gs before hval0 hW hcnd _
  have hval : ∀ (j : Nat) t v, Try.f4.params[j]? = some t → args[j]? = some v → Value.okWide Try.prog W .any base t v := hval0
  have hW' := hW
  obtain ⟨p, q, hA0, hV, rfl, hfz, hnd⟩ := hW
  have hA : DataW.TrodAll enc Try.prog W 0 (fun _ => true) true Try.f4.params.toList args.toList ds p := hA0
  rw [Try.params4] at hA hval
  obtain ⟨v0, v1, v2, d0, d1, d2, p0, p1, p2, rfl, rfl, rfl, h0, h1, h2⟩ := trodAll_three hA
  obtain ⟨rfl, rfl⟩ := trodVars_none hV
  obtain ⟨aa, an, ac, rfl⟩ := okWide_slice Try.underlying22 (hval 0 22 v0 rfl rfl)
  obtain ⟨ba, bn, bc, rfl⟩ := okWide_slice Try.underlying22 (hval 1 22 v1 rfl rfl)
  obtain ⟨t, rfl, rfl, rfl, wf2⟩ := open_int Try.underlying3 (hval 2 3 v2 rfl rfl) h2
  clear hA0 hval0
  obtain ⟨a, ha0, ha1, ha2⟩ := sts_of h0
  obtain ⟨b, hb0, hb1, hb2⟩ := sts_of h1
  have ht := goodsSums_int wf2
  refine (goodsSums_in impl aa an ac a ba bn bc b t W ha0 ha1 ha2 hb0 hb1 hb2 ht).mono fun e W' ⟨he, hb⟩ => ?_
  subst he
  exact ⟨_, rfl, law_done (tb := 4) goodsSums_laid goodsSums_types Try.underlying4 (by kernel_rfl) rfl hW' rfl hb⟩
theorem goodsSums_holds : Rows.GoodsSumsSaid :=
  OpenClaim.holds_of_wide 4 Try.f4 rfl rfl rfl rfl rfl rfl rfl ⟨rfl, rfl, rfl, rfl, rfl⟩ rfl rfl rfl rfl rfl (by kernel_rfl) Try.func4 (by kernel_rfl)
    (of_decide_eq_true (by kernel_rfl)) (by unfold Func.isWrapper; first | (rw [if_pos (by decide +kernel)]; kernel_rfl) | (rw [if_neg (by decide +kernel)]; exact ⟨rfl, rfl⟩))
    (fun os started H enc _ => goodsSums_lifted os started H enc)
#print axioms goodsSums_holds
end Go.Proofs.Ytbhhofeflajpoaa.Goods
