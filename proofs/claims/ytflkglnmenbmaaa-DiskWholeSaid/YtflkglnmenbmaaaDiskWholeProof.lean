/- DiskWhole: A file that was written beside, made sure, and renamed, is the elder or the new one, whole: for every two texts, every fuse, and whatever is kept.
   Conditions: none; each argument of its type that can be read as data. -/
import Derived.Test.YtflkglnmenbmaaaLaw
import Derived.ChangeMaps5
import Derived.Test.YtflkglnmenbmaaaDiskIm
import Derived.Test.YtflkglnmenbmaaaOpen
namespace Go.Proofs.Ytflkglnmenbmaaa.Disk
open Go.ChangeShapes Go.WideShapes Go.ChangeAt Go.ChangeMaps Go.RowKit

theorem diskWhole_own : ownKnob Try.prog.godebug = none := by kernel_rfl
theorem diskWhole_int {x : Int} (h : (Lit.int .i64 x).wf = true) : -9223372036854775808 ≤ x ∧ x ≤ 9223372036854775807 := by
  simp [Lit.wf, IntKind.min, IntKind.max, IntKind.signed, IntKind.bits] at h
  exact ⟨by omega, by omega⟩
theorem diskWhole_laid : laidOutB Try.prog = true := by kernel_rfl
theorem diskWhole_types : ∀ t ∈ Try.f5.params.toList, Try.prog.readableRec t = true ∧ t < Try.prog.types.size := by
  rw [Try.params5]
  intro t ht
  simp at ht
  rcases ht with rfl | rfl | rfl <;> exact ⟨by kernel_rfl, of_decide_eq_true (by kernel_rfl)⟩

set_option maxRecDepth 100000 in
theorem diskWhole_lifted (os : Os) (started : os.Started) (H : Type) (enc : TypeId × Value → H) :
    ReturnsInHanded {} Try.checked os 5 .any (Rows.diskWholeSpec.pre6 enc Try.prog Try.f5 Rows.diskWholeRow.domain false) (Rows.diskWholeSpec.post enc Try.prog Try.f5 false true false false) := by
  refine returnsInHanded_of_change (C := Try.checked) diskWhole_own started (by kernel_rfl) Try.func5
    (ChangeSpec.witness6 (enc := enc) (C := Try.checked) false ⟨#[], #[.agg #[.string ⟨#[]⟩, .string ⟨#[]⟩], .int .i64 0, .slice none 0 0], []⟩ 8 (by kernel_rfl) (by kernel_rfl) (by kernel_rfl) (by kernel_rfl)) ?_
  intro W base args ds gs before hval0 hW hcnd _
  have hval : ∀ (j : Nat) t v, Try.f5.params[j]? = some t → args[j]? = some v → Value.okWide Try.prog W .any base t v := hval0
  have hW' := hW
  obtain ⟨p, q, hA0, hV, rfl, hfz, hnd⟩ := hW
  have hA : DataW.TrodAll enc Try.prog W 0 (fun _ => true) true Try.f5.params.toList args.toList ds p := hA0
  rw [Try.params5] at hA hval
  obtain ⟨v0, v1, v2, d0, d1, d2, p0, p1, p2, rfl, rfl, rfl, h0, h1, h2⟩ := trodAll_three hA
  obtain ⟨rfl, rfl⟩ := trodVars_none hV
  obtain ⟨textscs, rfl, htextsz⟩ := okWide_array Try.underlying46 (hval 0 46 v0 rfl rfl)
  obtain ⟨fuse, rfl, rfl, rfl, wf1⟩ := open_int Try.underlying3 (hval 1 3 v1 rfl rfl) h1
  obtain ⟨keepa, keepn, keepc, rfl⟩ := okWide_slice Try.underlying34 (hval 2 34 v2 rfl rfl)
  clear hA0 hval0
  obtain ⟨textsT, htextss⟩ := law_strarray Try.underlying46 Try.underlying9 (by kernel_rfl) h0
  have hfuse := diskWhole_int wf1
  have hkeepn := law_ilen Try.underlying34 Try.underlying3 (by kernel_rfl) h2
  obtain ⟨keepZ, hq2⟩ := law_ints Try.underlying34 Try.underlying3 (by kernel_rfl) h2
  have hkeepc := fun j (hj : j < keepn) => (hq2 j hj).1
  have hkeepz := fun j (hj : j < keepn) => diskWhole_int (hq2 j hj).2
  refine (lawWhole impl textscs textsT fuse keepa keepn keepc keepZ W htextsz htextss hkeepn hkeepc).mono fun e W' ⟨he, hb⟩ => ?_
  subst he
  exact ⟨_, rfl, law_done (tb := 4) diskWhole_laid diskWhole_types Try.underlying4 (by kernel_rfl) rfl hW' rfl hb⟩
theorem diskWhole_holds : Rows.DiskWholeSaid :=
  OpenClaim.holds_of_wide 5 Try.f5 rfl rfl rfl rfl rfl rfl rfl ⟨rfl, rfl, rfl, rfl, rfl⟩ rfl rfl rfl rfl rfl (by kernel_rfl) Try.func5 (by kernel_rfl)
    (of_decide_eq_true (by kernel_rfl)) (by unfold Func.isWrapper; first | (rw [if_pos (by decide +kernel)]; kernel_rfl) | (rw [if_neg (by decide +kernel)]; exact ⟨rfl, rfl⟩))
    (fun os started H enc _ => diskWhole_lifted os started H enc)
#print axioms diskWhole_holds
end Go.Proofs.Ytflkglnmenbmaaa.Disk
