/- BayFair: Nobody waits while there is room; jobs begin to run in the order in which they came.
   Conditions: none; each argument of its type that can be read as data. -/
import Derived.Test.YtokkefokodcphaaLaw
import Derived.ChangeMaps5
import Derived.Test.YtokkefokodcphaaBayFair
import Derived.Test.YtokkefokodcphaaOpen
namespace Go.Proofs.Ytokkefokodcphaa.Bay
open Go.ChangeShapes Go.WideShapes Go.ChangeAt Go.ChangeMaps Go.RowKit

theorem bayFair_own : ownKnob Try.prog.godebug = none := by kernel_rfl
theorem bayFair_u8 {x : Int} (h : (Lit.int .u8 x).wf = true) : 0 ≤ x ∧ x ≤ 255 := by
  simp [Lit.wf, IntKind.min, IntKind.max, IntKind.signed, IntKind.bits] at h
  exact ⟨by omega, by omega⟩
theorem bayFair_laid : laidOutB Try.prog = true := by kernel_rfl
theorem bayFair_types : ∀ t ∈ Try.f4.params.toList, Try.prog.readableRec t = true ∧ t < Try.prog.types.size := by
  rw [Try.params4]
  intro t ht
  simp at ht
  rcases ht with rfl | rfl <;> exact ⟨by kernel_rfl, of_decide_eq_true (by kernel_rfl)⟩

set_option maxRecDepth 100000 in
theorem bayFair_lifted (os : Os) (started : os.Started) (H : Type) (enc : TypeId × Value → H) :
    ReturnsInHanded {} Try.checked os 4 .any (Rows.bayFairSpec.pre6 enc Try.prog Try.f4 Rows.bayFairRow.domain false) (Rows.bayFairSpec.post enc Try.prog Try.f4 false true false false) := by
  refine returnsInHanded_of_change (C := Try.checked) bayFair_own started (by kernel_rfl) Try.func4
    (ChangeSpec.witness6 (enc := enc) (C := Try.checked) false ⟨#[], #[.int .u8 0, .slice none 0 0], []⟩ 8 (by kernel_rfl) (by kernel_rfl) (by kernel_rfl) (by kernel_rfl)) ?_
  intro W base args ds gs before hval0 hW hcnd _
  have hval : ∀ (j : Nat) t v, Try.f4.params[j]? = some t → args[j]? = some v → Value.okWide Try.prog W .any base t v := hval0
  have hW' := hW
  obtain ⟨p, q, hA0, hV, rfl, hfz, hnd⟩ := hW
  have hA : DataW.TrodAll enc Try.prog W 0 (fun _ => true) true Try.f4.params.toList args.toList ds p := hA0
  rw [Try.params4] at hA hval
  obtain ⟨v0, v1, d0, d1, p0, p1, rfl, rfl, rfl, h0, h1⟩ := trodAll_two hA
  obtain ⟨rfl, rfl⟩ := trodVars_none hV
  obtain ⟨slots, rfl, rfl, rfl, wf0⟩ := open_int Try.underlying5 (hval 0 5 v0 rfl rfl) h0
  obtain ⟨la, ln, lc, rfl⟩ := okWide_slice Try.underlying44 (hval 1 44 v1 rfl rfl)
  clear hA0 hval0
  have hr0 := bayFair_u8 wf0
  obtain ⟨slots, rfl⟩ := Int.eq_ofNat_of_zero_le hr0.1
  have hslots : slots ≤ 255 := by have := hr0.2; omega
  have hln := law_ilen Try.underlying44 Try.underlying5 (by kernel_rfl) h1
  obtain ⟨lZ, hq1⟩ := law_ints Try.underlying44 Try.underlying5 (by kernel_rfl) h1
  have hlc := fun j (hj : j < ln) => (hq1 j hj).1
  have hlz := fun j (hj : j < ln) => bayFair_u8 (hq1 j hj).2
  refine (bayFair_in slots la ln lc lZ W hslots hln hlc hlz).mono fun e W' ⟨he, hb⟩ => ?_
  subst he
  exact ⟨_, rfl, law_done (tb := 4) bayFair_laid bayFair_types Try.underlying4 (by kernel_rfl) rfl hW' rfl hb⟩
theorem bayFair_holds : Rows.BayFairSaid :=
  OpenClaim.holds_of_wide 4 Try.f4 rfl rfl rfl rfl rfl rfl rfl ⟨rfl, rfl, rfl, rfl, rfl⟩ rfl rfl rfl rfl rfl (by kernel_rfl) Try.func4 (by kernel_rfl)
    (of_decide_eq_true (by kernel_rfl)) (by unfold Func.isWrapper; first | (rw [if_pos (by decide +kernel)]; kernel_rfl) | (rw [if_neg (by decide +kernel)]; exact ⟨rfl, rfl⟩))
    (fun os started H enc _ => bayFair_lifted os started H enc)
#print axioms bayFair_holds
end Go.Proofs.Ytokkefokodcphaa.Bay
