/- DiskSure: What was sure is there behind any crash, at the beginning of its file, and of what was not the first bytes, some: for every two texts, every list of acts between, and whatever is kept.
   Conditions: none; each argument of its type that can be read as data. -/
import Derived.Test.YtflkglnmenbmaaaLaw
import Derived.ChangeMaps5
import Derived.Test.YtflkglnmenbmaaaDiskIm
import Derived.Test.YtflkglnmenbmaaaOpen
namespace Go.Proofs.Ytflkglnmenbmaaa.Disk
open Go.ChangeShapes Go.WideShapes Go.ChangeAt Go.ChangeMaps Go.RowKit

theorem diskSure_own : ownKnob Try.prog.godebug = none := by kernel_rfl
theorem diskSure_int {x : Int} (h : (Lit.int .i64 x).wf = true) : -9223372036854775808 ≤ x ∧ x ≤ 9223372036854775807 := by
  simp [Lit.wf, IntKind.min, IntKind.max, IntKind.signed, IntKind.bits] at h
  exact ⟨by omega, by omega⟩
theorem diskSure_laid : laidOutB Try.prog = true := by kernel_rfl
theorem diskSure_types : ∀ t ∈ Try.f4.params.toList, Try.prog.readableRec t = true ∧ t < Try.prog.types.size := by
  rw [Try.params4]
  intro t ht
  simp at ht
  rcases ht with rfl | rfl | rfl <;> exact ⟨by kernel_rfl, of_decide_eq_true (by kernel_rfl)⟩

set_option maxRecDepth 100000 in
theorem diskSure_lifted (os : Os) (started : os.Started) (H : Type) (enc : TypeId × Value → H) :
    ReturnsInHanded {} Try.checked os 4 .any (Rows.diskSureSpec.pre6 enc Try.prog Try.f4 Rows.diskSureRow.domain false) (Rows.diskSureSpec.post enc Try.prog Try.f4 false true false false) := by
  refine returnsInHanded_of_change (C := Try.checked) diskSure_own started (by kernel_rfl) Try.func4
    (ChangeSpec.witness6 (enc := enc) (C := Try.checked) false ⟨#[], #[.agg #[.string ⟨#[]⟩, .string ⟨#[]⟩], .slice none 0 0, .slice none 0 0], []⟩ 8 (by kernel_rfl) (by kernel_rfl) (by kernel_rfl) (by kernel_rfl)) ?_
  intro W base args ds gs before hval0 hW hcnd _
  have hval : ∀ (j : Nat) t v, Try.f4.params[j]? = some t → args[j]? = some v → Value.okWide Try.prog W .any base t v := hval0
  have hW' := hW
  obtain ⟨p, q, hA0, hV, rfl, hfz, hnd⟩ := hW
  have hA : DataW.TrodAll enc Try.prog W 0 (fun _ => true) true Try.f4.params.toList args.toList ds p := hA0
  rw [Try.params4] at hA hval
  obtain ⟨v0, v1, v2, d0, d1, d2, p0, p1, p2, rfl, rfl, rfl, h0, h1, h2⟩ := trodAll_three hA
  obtain ⟨rfl, rfl⟩ := trodVars_none hV
  obtain ⟨textscs, rfl, htextsz⟩ := okWide_array Try.underlying46 (hval 0 46 v0 rfl rfl)
  obtain ⟨la, ln, lc, rfl⟩ := okWide_slice Try.underlying22 (hval 1 22 v1 rfl rfl)
  obtain ⟨keepa, keepn, keepc, rfl⟩ := okWide_slice Try.underlying34 (hval 2 34 v2 rfl rfl)
  clear hA0 hval0
  obtain ⟨textsT, htextss⟩ := law_strarray Try.underlying46 Try.underlying9 (by kernel_rfl) h0
  obtain ⟨hln, hll, hlo, lV, hlq⟩ := law_structs Try.underlying22 Try.underlying36 (oneCells_is (by kernel_rfl)) (by kernel_rfl) (by decide) h1
  have hlk := And.intro hll hlo
  have hkeepn := law_ilen Try.underlying34 Try.underlying3 (by kernel_rfl) h2
  obtain ⟨keepZ, hq2⟩ := law_ints Try.underlying34 Try.underlying3 (by kernel_rfl) h2
  have hkeepc := fun j (hj : j < keepn) => (hq2 j hj).1
  have hkeepz := fun j (hj : j < keepn) => diskSure_int (hq2 j hj).2
  refine (lawSure_in impl textscs textsT la ln lc keepa keepn keepc keepZ W htextsz htextss hln (acts_of Try.underlying36 hlq) hkeepn hkeepc).mono fun e W' ⟨he, hb⟩ => ?_
  subst he
  exact ⟨_, rfl, law_done (tb := 4) diskSure_laid diskSure_types Try.underlying4 (by kernel_rfl) rfl hW' rfl hb⟩
theorem diskSure_holds : Rows.DiskSureSaid :=
  OpenClaim.holds_of_wide 4 Try.f4 rfl rfl rfl rfl rfl rfl rfl ⟨rfl, rfl, rfl, rfl, rfl⟩ rfl rfl rfl rfl rfl (by kernel_rfl) Try.func4 (by kernel_rfl)
    (of_decide_eq_true (by kernel_rfl)) (by unfold Func.isWrapper; first | (rw [if_pos (by decide +kernel)]; kernel_rfl) | (rw [if_neg (by decide +kernel)]; exact ⟨rfl, rfl⟩))
    (fun os started H enc _ => diskSure_lifted os started H enc)
#print axioms diskSure_holds
end Go.Proofs.Ytflkglnmenbmaaa.Disk
