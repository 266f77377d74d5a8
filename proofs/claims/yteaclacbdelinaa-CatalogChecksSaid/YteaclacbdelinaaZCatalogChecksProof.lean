/- CatalogChecks: Whether any catalogue may be, what needs what, and what is made by what
   Conditions: none; each argument of its type that can be read as data. -/
import Derived.Test.YteaclacbdelinaaZLaw
import Derived.ChangeMaps5
import Derived.Test.YteaclacbdelinaaZCatIm
import Derived.Test.YteaclacbdelinaaZCatArgs
import Derived.Test.YteaclacbdelinaaZOpen
import Derived.Test.YteaclacbdelinaaZCatO
namespace Go.Proofs.Yteaclacbdelinaa.Cat
open Go.ChangeShapes Go.WideShapes Go.ChangeAt Go.ChangeMaps Go.RowKit

theorem catalogChecks_own : ownKnob Try.prog.godebug = none := by kernel_rfl
theorem catalogChecks_int {x : Int} (h : (Lit.int .i64 x).wf = true) : -9223372036854775808 ≤ x ∧ x ≤ 9223372036854775807 := by
  simp [Lit.wf, IntKind.min, IntKind.max, IntKind.signed, IntKind.bits] at h
  exact ⟨by omega, by omega⟩
theorem catalogChecks_laid : laidOutB Try.prog = true := by kernel_rfl
theorem catalogChecks_types : ∀ t ∈ Try.f3.params.toList, Try.prog.readableRec t = true ∧ t < Try.prog.types.size := by
  rw [Try.params3]
  intro t ht
  simp at ht
  rcases ht with rfl | rfl <;> exact ⟨by kernel_rfl, of_decide_eq_true (by kernel_rfl)⟩

set_option maxRecDepth 100000 in
theorem catalogChecks_lifted (os : Os) (started : os.Started) (H : Type) (enc : TypeId × Value → H) :
    ReturnsInHanded {} Try.checked os 3 .any (Rows.catalogChecksSpec.pre6 enc Try.prog Try.f3 Rows.catalogChecksRow.domain false) (Rows.catalogChecksSpec.post enc Try.prog Try.f3 false true false false) := by
  refine returnsInHanded_of_change (C := Try.checked) catalogChecks_own started (by kernel_rfl) Try.func3
    (ChangeSpec.witness6 (enc := enc) (C := Try.checked) false ⟨#[], #[.agg #[.int .i64 0, .slice none 0 0, .int .i64 0, .slice none 0 0, .int .i64 0, .int .i64 0, .int .i64 0, .int .i64 0], .int .i64 0], []⟩ 8 (by kernel_rfl) (by kernel_rfl) (by kernel_rfl) (by kernel_rfl)) ?_
  intro W base args ds gs before hval0 hW hcnd _
  have hval : ∀ (j : Nat) t v, Try.f3.params[j]? = some t → args[j]? = some v → Value.okWide Try.prog W .any base t v := hval0
  have hW' := hW
  obtain ⟨p, q, hA0, hV, rfl, hfz, hnd⟩ := hW
  have hA : DataW.TrodAll enc Try.prog W 0 (fun _ => true) true Try.f3.params.toList args.toList ds p := hA0
  rw [Try.params3] at hA hval
  obtain ⟨v0, v1, d0, d1, p0, p1, rfl, rfl, rfl, h0, h1⟩ := trodAll_two hA
  obtain ⟨rfl, rfl⟩ := trodVars_none hV
  obtain ⟨ccs, rfl, hcz⟩ := okWide_struct Try.underlying27 (hval 0 27 v0 rfl rfl)
  obtain ⟨n, rfl, rfl, rfl, wf1⟩ := open_int Try.underlying3 (hval 1 3 v1 rfl rfl) h1
  clear hA0 hval0
  obtain ⟨c, rfl, hc0, hc1, hc2, hc3, hc4⟩ := cat_of h0
  have hn := catalogChecks_int wf1
  refine (catalogChecks_in impl c n W hc0 hc1 (by unfold maxLen at hc2; omega) (by unfold maxLen at hc3; omega) (fun b hb => by have := hc4 b hb; unfold maxLen at this; omega) hn).mono fun e W' ⟨he, hb⟩ => ?_
  subst he
  exact ⟨_, rfl, law_done (tb := 4) catalogChecks_laid catalogChecks_types Try.underlying4 (by kernel_rfl) rfl hW' rfl hb⟩
theorem catalogChecks_holds : Rows.CatalogChecksSaid :=
  OpenClaim.holds_of_wide 3 Try.f3 rfl rfl rfl rfl rfl rfl rfl ⟨rfl, rfl, rfl, rfl, rfl⟩ rfl rfl rfl rfl rfl (by kernel_rfl) Try.func3 (by kernel_rfl)
    (of_decide_eq_true (by kernel_rfl)) (by unfold Func.isWrapper; first | (rw [if_pos (by decide +kernel)]; kernel_rfl) | (rw [if_neg (by decide +kernel)]; exact ⟨rfl, rfl⟩))
    (fun os started H enc _ => catalogChecks_lifted os started H enc)
#print axioms catalogChecks_holds
end Go.Proofs.Yteaclacbdelinaa.Cat
