/- QuoteFits: Whether runs can be done at any times, in any bay
   Conditions: none; each argument of its type that can be read as data. -/
import Derived.Test.YtdbhdlgoecpeaaaZLaw
import Derived.ChangeMaps5
import Derived.Test.YtdbhdlgoecpeaaaZQuoIm
import Derived.Test.YtdbhdlgoecpeaaaZQuoArgs
import Derived.Test.YtdbhdlgoecpeaaaZQuoQ
namespace Go.Proofs.Ytdbhdlgoecpeaaa.Quo
open Go.ChangeShapes Go.WideShapes Go.ChangeAt Go.ChangeMaps Go.RowKit

theorem quoteFits_own : ownKnob Try.prog.godebug = none := by kernel_rfl
theorem quoteFits_laid : laidOutB Try.prog = true := by kernel_rfl
theorem quoteFits_types : ∀ t ∈ Try.f4.params.toList, Try.prog.readableRec t = true ∧ t < Try.prog.types.size := by
  rw [Try.params4]
  intro t ht
  simp at ht
  rcases ht with rfl | rfl | rfl <;> exact ⟨by kernel_rfl, of_decide_eq_true (by kernel_rfl)⟩

set_option maxRecDepth 100000 in
theorem quoteFits_lifted (os : Os) (started : os.Started) (H : Type) (enc : TypeId × Value → H) :
    ReturnsInHanded {} Try.checked os 4 .any (Rows.quoteFitsSpec.pre6 enc Try.prog Try.f4 Rows.quoteFitsRow.domain false) (Rows.quoteFitsSpec.post enc Try.prog Try.f4 false true false false) := by
  refine returnsInHanded_of_change (C := Try.checked) quoteFits_own started (by kernel_rfl) Try.func4
    (ChangeSpec.witness6 (enc := enc) (C := Try.checked) false ⟨#[], #[.agg #[.int .i64 0, .slice none 0 0, .int .i64 0, .slice none 0 0, .int .i64 0, .int .i64 0, .int .i64 0, .int .i64 0], .agg #[.int .i64 0, .int .i64 0], .agg #[.slice none 0 0, .slice none 0 0]], []⟩ 8 (by kernel_rfl) (by kernel_rfl) (by kernel_rfl) (by kernel_rfl)) ?_
  intro W base args ds gs before hval0 hW hcnd _
  have hval : ∀ (j : Nat) t v, Try.f4.params[j]? = some t → args[j]? = some v → Value.okWide Try.prog W .any base t v := hval0
  have hW' := hW
  obtain ⟨p, q, hA0, hV, rfl, hfz, hnd⟩ := hW
  have hA : DataW.TrodAll enc Try.prog W 0 (fun _ => true) true Try.f4.params.toList args.toList ds p := hA0
  rw [Try.params4] at hA hval
  obtain ⟨v0, v1, v2, d0, d1, d2, p0, p1, p2, rfl, rfl, rfl, h0, h1, h2⟩ := trodAll_three hA
  obtain ⟨rfl, rfl⟩ := trodVars_none hV
  obtain ⟨ccs, rfl, hcz⟩ := okWide_struct Try.underlying27 (hval 0 27 v0 rfl rfl)
  obtain ⟨ucs, rfl, huz⟩ := okWide_array Try.underlying28 (hval 1 28 v1 rfl rfl)
  obtain ⟨rcs, rfl, hrz⟩ := okWide_struct Try.underlying42 (hval 2 42 v2 rfl rfl)
  clear hA0 hval0
  obtain ⟨c, rfl, hc0, hc1, hc2, hc3, hc4⟩ := Cat.cat_of h0
  obtain ⟨u, rfl, hu0, hu1⟩ := e2_of h1
  obtain ⟨r, rfl, hr0, hr1, hr2, hr3, hr4⟩ := rest_of h2
  refine (quoteFits_in impl c u.1 u.2 r.ra r.rn r.rc r.rs r.sa r.sn r.sc r.l W hc0 (by unfold maxLen at hc2; omega) (by unfold maxLen at hc3; omega) (fun b hb => by have := hc4 b hb; unfold maxLen at this; omega) hr0 hr1 hr2 hr3 hr4).mono fun e W' ⟨he, hb⟩ => ?_
  subst he
  exact ⟨_, rfl, law_done (tb := 4) quoteFits_laid quoteFits_types Try.underlying4 (by kernel_rfl) rfl hW' rfl hb⟩
theorem quoteFits_holds : Rows.QuoteFitsSaid :=
  OpenClaim.holds_of_wide 4 Try.f4 rfl rfl rfl rfl rfl rfl rfl ⟨rfl, rfl, rfl, rfl, rfl⟩ rfl rfl rfl rfl rfl (by kernel_rfl) Try.func4 (by kernel_rfl)
    (of_decide_eq_true (by kernel_rfl)) (by unfold Func.isWrapper; first | (rw [if_pos (by decide +kernel)]; kernel_rfl) | (rw [if_neg (by decide +kernel)]; exact ⟨rfl, rfl⟩))
    (fun os started H enc _ => quoteFits_lifted os started H enc)
#print axioms quoteFits_holds
end Go.Proofs.Ytdbhdlgoecpeaaa.Quo
