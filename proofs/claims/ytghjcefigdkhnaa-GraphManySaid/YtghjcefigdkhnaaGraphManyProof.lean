/- GraphMany: As many ways as a ladder has, two for each step; too many to be told of one that is long enough
   Conditions: none; each argument of its type that can be read as data. -/
import Derived.Test.YtghjcefigdkhnaaLaw
import Derived.ChangeMaps5
import Derived.Test.YtghjcefigdkhnaaGraphIm
import Derived.Test.YtghjcefigdkhnaaOpen
import Derived.Test.YtghjcefigdkhnaaGraphI
namespace Go.Proofs.Ytghjcefigdkhnaa.Graph
open Go.ChangeShapes Go.WideShapes Go.ChangeAt Go.ChangeMaps Go.RowKit

theorem graphMany_own : ownKnob Try.prog.godebug = none := by kernel_rfl
theorem graphMany_u8 {x : Int} (h : (Lit.int .u8 x).wf = true) : 0 ≤ x ∧ x ≤ 255 := by
  simp [Lit.wf, IntKind.min, IntKind.max, IntKind.signed, IntKind.bits] at h
  exact ⟨by omega, by omega⟩
theorem graphMany_laid : laidOutB Try.prog = true := by kernel_rfl
theorem graphMany_types : ∀ t ∈ Try.f6.params.toList, Try.prog.readableRec t = true ∧ t < Try.prog.types.size := by
  rw [Try.params6]
  intro t ht
  simp at ht
  subst ht
  exact ⟨by kernel_rfl, of_decide_eq_true (by kernel_rfl)⟩

set_option maxRecDepth 100000 in
theorem graphMany_lifted (os : Os) (started : os.Started) (H : Type) (enc : TypeId × Value → H) :
    ReturnsInHanded {} Try.checked os 6 .any (Rows.graphManySpec.pre6 enc Try.prog Try.f6 Rows.graphManyRow.domain false) (Rows.graphManySpec.post enc Try.prog Try.f6 false true false false) := by
  refine returnsInHanded_of_change (C := Try.checked) graphMany_own started (by kernel_rfl) Try.func6
    (ChangeSpec.witness6 (enc := enc) (C := Try.checked) false ⟨#[], #[.int .u8 0], []⟩ 8 (by kernel_rfl) (by kernel_rfl) (by kernel_rfl) (by kernel_rfl)) ?_
  intro W base args ds gs before hval0 hW hcnd _
  have hval : ∀ (j : Nat) t v, Try.f6.params[j]? = some t → args[j]? = some v → Value.okWide Try.prog W .any base t v := hval0
  have hW' := hW
  obtain ⟨p, q, hA0, hV, rfl, hfz, hnd⟩ := hW
  have hA : DataW.TrodAll enc Try.prog W 0 (fun _ => true) true Try.f6.params.toList args.toList ds p := hA0
  rw [Try.params6] at hA hval
  obtain ⟨v0, d0, rfl, rfl, h0⟩ := trodAll_one hA
  obtain ⟨rfl, rfl⟩ := trodVars_none hV
  obtain ⟨steps, rfl, rfl, rfl, wf0⟩ := open_int Try.underlying5 (hval 0 5 v0 rfl rfl) h0
  clear hA0 hval0
  have hr0 := graphMany_u8 wf0
  obtain ⟨steps, rfl⟩ := Int.eq_ofNat_of_zero_le hr0.1
  have hsteps : steps ≤ 255 := by have := hr0.2; omega
  refine (graphMany_in impl steps W hsteps).mono fun e W' ⟨he, hb⟩ => ?_
  subst he
  exact ⟨_, rfl, law_done (tb := 4) graphMany_laid graphMany_types Try.underlying4 (by kernel_rfl) rfl hW' rfl hb⟩
theorem graphMany_holds : Rows.GraphManySaid :=
  OpenClaim.holds_of_wide 6 Try.f6 rfl rfl rfl rfl rfl rfl rfl ⟨rfl, rfl, rfl, rfl, rfl⟩ rfl rfl rfl rfl rfl (by kernel_rfl) Try.func6 (by kernel_rfl)
    (of_decide_eq_true (by kernel_rfl)) (by unfold Func.isWrapper; first | (rw [if_pos (by decide +kernel)]; kernel_rfl) | (rw [if_neg (by decide +kernel)]; exact ⟨rfl, rfl⟩))
    (fun os started H enc _ => graphMany_lifted os started H enc)
#print axioms graphMany_holds
end Go.Proofs.Ytghjcefigdkhnaa.Graph
