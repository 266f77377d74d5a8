/- QuotePlans: When the runs of each blueprint are done, in any bay, what they cost, and which bay is the cheapest
   Conditions: none; each argument of its type that can be read as data. -/
import Derived.Test.YtdbhdlgoecpeaaaZLaw
import Derived.ChangeMaps5
import Derived.Test.YtdbhdlgoecpeaaaZQuoIm
import Derived.Test.YtdbhdlgoecpeaaaZQuoArgs
import Derived.Test.YtdbhdlgoecpeaaaZQuoQ
namespace Go.Proofs.Ytdbhdlgoecpeaaa.Quo
open Go.ChangeShapes Go.WideShapes Go.ChangeAt Go.ChangeMaps Go.RowKit

theorem quotePlans_own : ownKnob Try.prog.godebug = none := by kernel_rfl
theorem quotePlans_int {x : Int} (h : (Lit.int .i64 x).wf = true) : -9223372036854775808 ≤ x ∧ x ≤ 9223372036854775807 := by
  simp [Lit.wf, IntKind.min, IntKind.max, IntKind.signed, IntKind.bits] at h
  exact ⟨by omega, by omega⟩
theorem quotePlans_laid : laidOutB Try.prog = true := by kernel_rfl
theorem quotePlans_types : ∀ t ∈ Try.f3.params.toList, Try.prog.readableRec t = true ∧ t < Try.prog.types.size := by
  rw [Try.params3]
  intro t ht
  simp at ht
  rcases ht with rfl | rfl | rfl <;> exact ⟨by kernel_rfl, of_decide_eq_true (by kernel_rfl)⟩

set_option maxRecDepth 100000 in
theorem quotePlans_lifted (os : Os) (started : os.Started) (H : Type) (enc : TypeId × Value → H) :
    ReturnsInHanded {} Try.checked os 3 .any (Rows.quotePlansSpec.pre6 enc Try.prog Try.f3 Rows.quotePlansRow.domain false) (Rows.quotePlansSpec.post enc Try.prog Try.f3 false true false false) := by
  refine returnsInHanded_of_change (C := Try.checked) quotePlans_own started (by kernel_rfl) Try.func3
    (ChangeSpec.witness6 (enc := enc) (C := Try.checked) false ⟨#[], #[.agg #[.int .i64 0, .slice none 0 0, .int .i64 0, .slice none 0 0, .int .i64 0, .int .i64 0, .int .i64 0, .int .i64 0], .agg #[.int .i64 0, .int .i64 0], .slice none 0 0], []⟩ 8 (by kernel_rfl) (by kernel_rfl) (by kernel_rfl) (by kernel_rfl)) ?_
  intro W base args ds gs before hval0 hW hcnd _
  have hval : ∀ (j : Nat) t v, Try.f3.params[j]? = some t → args[j]? = some v → Value.okWide Try.prog W .any base t v := hval0
  have hW' := hW
  obtain ⟨p, q, hA0, hV, rfl, hfz, hnd⟩ := hW
  have hA : DataW.TrodAll enc Try.prog W 0 (fun _ => true) true Try.f3.params.toList args.toList ds p := hA0
  rw [Try.params3] at hA hval
  obtain ⟨v0, v1, v2, d0, d1, d2, p0, p1, p2, rfl, rfl, rfl, h0, h1, h2⟩ := trodAll_three hA
  obtain ⟨rfl, rfl⟩ := trodVars_none hV
  obtain ⟨ccs, rfl, hcz⟩ := okWide_struct Try.underlying27 (hval 0 27 v0 rfl rfl)
  obtain ⟨ucs, rfl, huz⟩ := okWide_array Try.underlying28 (hval 1 28 v1 rfl rfl)
  obtain ⟨ra, rn, rc, rfl⟩ := okWide_slice Try.underlying29 (hval 2 29 v2 rfl rfl)
  clear hA0 hval0
  obtain ⟨c, rfl, hc0, hc1, hc2, hc3, hc4⟩ := Cat.cat_of h0
  obtain ⟨u, rfl, hu0, hu1⟩ := e2_of h1
  have hrn := law_ilen Try.underlying29 Try.underlying3 (by kernel_rfl) h2
  obtain ⟨rZ, hq2⟩ := law_ints Try.underlying29 Try.underlying3 (by kernel_rfl) h2
  have hrc := fun j (hj : j < rn) => (hq2 j hj).1
  have hrz := fun j (hj : j < rn) => quotePlans_int (hq2 j hj).2
  refine (quotePlans_in impl c u.1 u.2 ra rn rc ((List.range rn).map rZ) W hc0 (by unfold maxLen at hc2; omega) (by unfold maxLen at hc3; omega) (fun b hb => by have := hc4 b hb; unfold maxLen at this; omega) (irow_of hrc).1 (irow_of hrc).2).mono fun e W' ⟨he, hb⟩ => ?_
  subst he
  exact ⟨_, rfl, law_done (tb := 4) quotePlans_laid quotePlans_types Try.underlying4 (by kernel_rfl) rfl hW' rfl hb⟩
theorem quotePlans_holds : Rows.QuotePlansSaid :=
  OpenClaim.holds_of_wide 3 Try.f3 rfl rfl rfl rfl rfl rfl rfl ⟨rfl, rfl, rfl, rfl, rfl⟩ rfl rfl rfl rfl rfl (by kernel_rfl) Try.func3 (by kernel_rfl)
    (of_decide_eq_true (by kernel_rfl)) (by unfold Func.isWrapper; first | (rw [if_pos (by decide +kernel)]; kernel_rfl) | (rw [if_neg (by decide +kernel)]; exact ⟨rfl, rfl⟩))
    (fun os started H enc _ => quotePlans_lifted os started H enc)
#print axioms quotePlans_holds
end Go.Proofs.Ytdbhdlgoecpeaaa.Quo
