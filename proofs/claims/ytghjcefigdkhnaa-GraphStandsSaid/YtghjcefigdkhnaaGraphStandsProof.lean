/- GraphStands: In an order each node stands once, behind all that it needs; whoever needs stands deeper
   Conditions: none; each argument of its type that can be read as data. -/
import Derived.Test.YtghjcefigdkhnaaLaw
import Derived.ChangeMaps5
import Derived.Test.YtghjcefigdkhnaaGraphIm
import Derived.Test.YtghjcefigdkhnaaGraphArgs
import Derived.Test.YtghjcefigdkhnaaOpen
import Derived.Test.YtghjcefigdkhnaaGraphK
namespace Go.Proofs.Ytghjcefigdkhnaa.Graph
open Go.ChangeShapes Go.WideShapes Go.ChangeAt Go.ChangeMaps Go.RowKit

theorem graphStands_own : ownKnob Try.prog.godebug = none := by kernel_rfl
theorem graphStands_u8 {x : Int} (h : (Lit.int .u8 x).wf = true) : 0 ≤ x ∧ x ≤ 255 := by
  simp [Lit.wf, IntKind.min, IntKind.max, IntKind.signed, IntKind.bits] at h
  exact ⟨by omega, by omega⟩
theorem graphStands_laid : laidOutB Try.prog = true := by kernel_rfl
theorem graphStands_types : ∀ t ∈ Try.f5.params.toList, Try.prog.readableRec t = true ∧ t < Try.prog.types.size := by
  rw [Try.params5]
  intro t ht
  simp at ht
  rcases ht with rfl | rfl <;> exact ⟨by kernel_rfl, of_decide_eq_true (by kernel_rfl)⟩

set_option maxRecDepth 100000 in
theorem graphStands_lifted (os : Os) (started : os.Started) (H : Type) (enc : TypeId × Value → H) :
    ReturnsInHanded {} Try.checked os 5 .any (Rows.graphStandsSpec.pre6 enc Try.prog Try.f5 Rows.graphStandsRow.domain false) (Rows.graphStandsSpec.post enc Try.prog Try.f5 false true false false) := by
  refine returnsInHanded_of_change (C := Try.checked) graphStands_own started (by kernel_rfl) Try.func5
    (ChangeSpec.witness6 (enc := enc) (C := Try.checked) false ⟨#[], #[.int .u8 0, .slice none 0 0], []⟩ 8 (by kernel_rfl) (by kernel_rfl) (by kernel_rfl) (by kernel_rfl)) ?_
  intro W base args ds gs before hval0 hW hcnd _
  have hval : ∀ (j : Nat) t v, Try.f5.params[j]? = some t → args[j]? = some v → Value.okWide Try.prog W .any base t v := hval0
  have hW' := hW
  obtain ⟨p, q, hA0, hV, rfl, hfz, hnd⟩ := hW
  have hA : DataW.TrodAll enc Try.prog W 0 (fun _ => true) true Try.f5.params.toList args.toList ds p := hA0
  rw [Try.params5] at hA hval
  obtain ⟨v0, v1, d0, d1, p0, p1, rfl, rfl, rfl, h0, h1⟩ := trodAll_two hA
  obtain ⟨rfl, rfl⟩ := trodVars_none hV
  obtain ⟨nodes, rfl, rfl, rfl, wf0⟩ := open_int Try.underlying5 (hval 0 5 v0 rfl rfl) h0
  obtain ⟨needsa, needsn, needsc, rfl⟩ := okWide_slice Try.underlying35 (hval 1 35 v1 rfl rfl)
  clear hA0 hval0
  have hr0 := graphStands_u8 wf0
  obtain ⟨nodes, rfl⟩ := Int.eq_ofNat_of_zero_le hr0.1
  have hnodes : nodes ≤ 255 := by have := hr0.2; omega
  obtain ⟨needs, hneeds0, hneeds1, hneeds2⟩ := us_of h1
  refine (graphStands_in impl nodes needsa needsn needsc needs W hnodes hneeds0 hneeds1 hneeds2).mono fun e W' ⟨he, hb⟩ => ?_
  subst he
  exact ⟨_, rfl, law_done (tb := 4) graphStands_laid graphStands_types Try.underlying4 (by kernel_rfl) rfl hW' rfl hb⟩
theorem graphStands_holds : Rows.GraphStandsSaid :=
  OpenClaim.holds_of_wide 5 Try.f5 rfl rfl rfl rfl rfl rfl rfl ⟨rfl, rfl, rfl, rfl, rfl⟩ rfl rfl rfl rfl rfl (by kernel_rfl) Try.func5 (by kernel_rfl)
    (of_decide_eq_true (by kernel_rfl)) (by unfold Func.isWrapper; first | (rw [if_pos (by decide +kernel)]; kernel_rfl) | (rw [if_neg (by decide +kernel)]; exact ⟨rfl, rfl⟩))
    (fun os started H enc _ => graphStands_lifted os started H enc)
#print axioms graphStands_holds
end Go.Proofs.Ytghjcefigdkhnaa.Graph
