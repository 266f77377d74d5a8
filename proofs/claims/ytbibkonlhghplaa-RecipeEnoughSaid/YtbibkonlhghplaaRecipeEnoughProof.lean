/- RecipeEnough: As many runs as are told make enough, and one less does not
   Conditions: none; each argument of its type that can be read as data. -/
import Derived.Test.YtbibkonlhghplaaLaw
import Derived.ChangeMaps5
import Derived.Test.YtbibkonlhghplaaRecIm
import Derived.Test.YtbibkonlhghplaaRecArgs
import Derived.Test.YtbibkonlhghplaaOpen
import Derived.Test.YtbibkonlhghplaaRecH
namespace Go.Proofs.Ytbibkonlhghplaa.Recipe
open Go.ChangeShapes Go.WideShapes Go.ChangeAt Go.ChangeMaps Go.RowKit

theorem recipeEnough_own : ownKnob Try.prog.godebug = none := by kernel_rfl
theorem recipeEnough_u16 {x : Int} (h : (Lit.int .u16 x).wf = true) : 0 ≤ x ∧ x ≤ 65535 := by
  simp [Lit.wf, IntKind.min, IntKind.max, IntKind.signed, IntKind.bits] at h
  exact ⟨by omega, by omega⟩
theorem recipeEnough_laid : laidOutB Try.prog = true := by kernel_rfl
theorem recipeEnough_types : ∀ t ∈ Try.f6.params.toList, Try.prog.readableRec t = true ∧ t < Try.prog.types.size := by
  rw [Try.params6]
  intro t ht
  simp at ht
  rcases ht with rfl | rfl <;> exact ⟨by kernel_rfl, of_decide_eq_true (by kernel_rfl)⟩

set_option maxRecDepth 100000 in
theorem recipeEnough_lifted (os : Os) (started : os.Started) (H : Type) (enc : TypeId × Value → H) :
    ReturnsInHanded {} Try.checked os 6 .any (Rows.recipeEnoughSpec.pre6 enc Try.prog Try.f6 Rows.recipeEnoughRow.domain false) (Rows.recipeEnoughSpec.post enc Try.prog Try.f6 false true false false) := by
  refine returnsInHanded_of_change (C := Try.checked) recipeEnough_own started (by kernel_rfl) Try.func6
    (ChangeSpec.witness6 (enc := enc) (C := Try.checked) false ⟨#[], #[.agg #[.int .i64 0, .int .i64 0, .int .i64 0, .slice none 0 0, .int .i64 0, .int .i64 0, .int .i64 0], .int .u16 0], []⟩ 8 (by kernel_rfl) (by kernel_rfl) (by kernel_rfl) (by kernel_rfl)) ?_
  intro W base args ds gs before hval0 hW hcnd _
  have hval : ∀ (j : Nat) t v, Try.f6.params[j]? = some t → args[j]? = some v → Value.okWide Try.prog W .any base t v := hval0
  have hW' := hW
  obtain ⟨p, q, hA0, hV, rfl, hfz, hnd⟩ := hW
  have hA : DataW.TrodAll enc Try.prog W 0 (fun _ => true) true Try.f6.params.toList args.toList ds p := hA0
  rw [Try.params6] at hA hval
  obtain ⟨v0, v1, d0, d1, p0, p1, rfl, rfl, rfl, h0, h1⟩ := trodAll_two hA
  obtain ⟨rfl, rfl⟩ := trodVars_none hV
  obtain ⟨bcs, rfl, hbz⟩ := okWide_struct Try.underlying24 (hval 0 24 v0 rfl rfl)
  obtain ⟨n, rfl, rfl, rfl, wf1⟩ := open_int Try.underlying39 (hval 1 39 v1 rfl rfl) h1
  clear hA0 hval0
  obtain ⟨b, rfl, hb0, hb1, hb2⟩ := bl_of h0
  have hr1 := recipeEnough_u16 wf1
  obtain ⟨n, rfl⟩ := Int.eq_ofNat_of_zero_le hr1.1
  have hn : n ≤ 65535 := by have := hr1.2; omega
  refine (recipeEnough_in impl b n W hb0 hb1 hb2 hn).mono fun e W' ⟨he, hb⟩ => ?_
  subst he
  exact ⟨_, rfl, law_done (tb := 4) recipeEnough_laid recipeEnough_types Try.underlying4 (by kernel_rfl) rfl hW' rfl hb⟩
theorem recipeEnough_holds : Rows.RecipeEnoughSaid :=
  OpenClaim.holds_of_wide 6 Try.f6 rfl rfl rfl rfl rfl rfl rfl ⟨rfl, rfl, rfl, rfl, rfl⟩ rfl rfl rfl rfl rfl (by kernel_rfl) Try.func6 (by kernel_rfl)
    (of_decide_eq_true (by kernel_rfl)) (by unfold Func.isWrapper; first | (rw [if_pos (by decide +kernel)]; kernel_rfl) | (rw [if_neg (by decide +kernel)]; exact ⟨rfl, rfl⟩))
    (fun os started H enc _ => recipeEnough_lifted os started H enc)
#print axioms recipeEnough_holds
end Go.Proofs.Ytbibkonlhghplaa.Recipe
