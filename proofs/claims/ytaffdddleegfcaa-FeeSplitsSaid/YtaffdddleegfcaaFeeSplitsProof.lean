/- FeeSplits: The shares of any number, by any weights, are those that the document says, or there are none where it says so; the same error.
   Conditions: none; each argument of its type that can be read as data. -/
import Derived.Test.YtaffdddleegfcaaLaw
import Derived.ChangeMaps5
import Derived.Test.YtaffdddleegfcaaFeeIm
import Derived.Test.YtaffdddleegfcaaFeeArgs
import Derived.Test.YtaffdddleegfcaaOpen
namespace Go.Proofs.Ytaffdddleegfcaa.Fee
open Go.ChangeShapes Go.WideShapes Go.ChangeAt Go.ChangeMaps Go.RowKit

theorem feeSplits_own : ownKnob Try.prog.godebug = none := by kernel_rfl
theorem feeSplits_int {x : Int} (h : (Lit.int .i64 x).wf = true) : -9223372036854775808 ≤ x ∧ x ≤ 9223372036854775807 := by
  simp [Lit.wf, IntKind.min, IntKind.max, IntKind.signed, IntKind.bits] at h
  exact ⟨by omega, by omega⟩
theorem feeSplits_laid : laidOutB Try.prog = true := by kernel_rfl
theorem feeSplits_types : ∀ t ∈ Try.f4.params.toList, Try.prog.readableRec t = true ∧ t < Try.prog.types.size := by
  rw [Try.params4]
  intro t ht
  simp at ht
  rcases ht with rfl | rfl <;> exact ⟨by kernel_rfl, of_decide_eq_true (by kernel_rfl)⟩

set_option maxRecDepth 100000 in
theorem feeSplits_lifted (os : Os) (started : os.Started) (H : Type) (enc : TypeId × Value → H) :
    ReturnsInHanded {} Try.checked os 4 .any (Rows.feeSplitsSpec.pre6 enc Try.prog Try.f4 Rows.feeSplitsRow.domain false) (Rows.feeSplitsSpec.post enc Try.prog Try.f4 false true false false) := by
  refine returnsInHanded_of_change (C := Try.checked) feeSplits_own started (by kernel_rfl) Try.func4
    (ChangeSpec.witness6 (enc := enc) (C := Try.checked) false ⟨#[], #[.int .i64 0, .slice none 0 0], []⟩ 8 (by kernel_rfl) (by kernel_rfl) (by kernel_rfl) (by kernel_rfl)) ?_
  intro W base args ds gs before hval0 hW hcnd _
  have hval : ∀ (j : Nat) t v, Try.f4.params[j]? = some t → args[j]? = some v → Value.okWide Try.prog W .any base t v := hval0
  have hW' := hW
  obtain ⟨p, q, hA0, hV, rfl, hfz, hnd⟩ := hW
  have hA : DataW.TrodAll enc Try.prog W 0 (fun _ => true) true Try.f4.params.toList args.toList ds p := hA0
  rw [Try.params4] at hA hval
  obtain ⟨v0, v1, d0, d1, p0, p1, rfl, rfl, rfl, h0, h1⟩ := trodAll_two hA
  obtain ⟨rfl, rfl⟩ := trodVars_none hV
  obtain ⟨n, rfl, rfl, rfl, wf0⟩ := open_int Try.underlying3 (hval 0 3 v0 rfl rfl) h0
  obtain ⟨la, ln, lc, rfl⟩ := okWide_slice Try.underlying31 (hval 1 31 v1 rfl rfl)
  clear hA0 hval0
  have hn := feeSplits_int wf0
  have hln := law_ilen Try.underlying31 Try.underlying3 (by kernel_rfl) h1
  obtain ⟨lZ, hq1⟩ := law_ints Try.underlying31 Try.underlying3 (by kernel_rfl) h1
  have hlc := fun j (hj : j < ln) => (hq1 j hj).1
  have hlz := fun j (hj : j < ln) => feeSplits_int (hq1 j hj).2
  refine (feeSplits_in impl n la ln lc _ W (irow_of hlc).1 (irow_of hlc).2 hn (in_row hlz)).mono fun e W' ⟨he, hb⟩ => ?_
  subst he
  exact ⟨_, rfl, law_done (tb := 4) feeSplits_laid feeSplits_types Try.underlying4 (by kernel_rfl) rfl hW' rfl hb⟩
theorem feeSplits_holds : Rows.FeeSplitsSaid :=
  OpenClaim.holds_of_wide 4 Try.f4 rfl rfl rfl rfl rfl rfl rfl ⟨rfl, rfl, rfl, rfl, rfl⟩ rfl rfl rfl rfl rfl (by kernel_rfl) Try.func4 (by kernel_rfl)
    (of_decide_eq_true (by kernel_rfl)) (by unfold Func.isWrapper; first | (rw [if_pos (by decide +kernel)]; kernel_rfl) | (rw [if_neg (by decide +kernel)]; exact ⟨rfl, rfl⟩))
    (fun os started H enc _ => feeSplits_lifted os started H enc)
#print axioms feeSplits_holds
end Go.Proofs.Ytaffdddleegfcaa.Fee
