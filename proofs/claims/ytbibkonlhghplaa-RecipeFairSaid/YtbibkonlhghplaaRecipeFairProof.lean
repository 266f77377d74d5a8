/- RecipeFair: More runs need no less, and no more than each alone together
   Conditions: none; each argument of its type that can be read as data. -/
import Derived.Test.YtbibkonlhghplaaLaw
import Derived.ChangeMaps5
import Derived.Test.YtbibkonlhghplaaRecIm
import Derived.Test.YtbibkonlhghplaaRecArgs
import Derived.Test.YtbibkonlhghplaaOpen
import Derived.Test.YtbibkonlhghplaaRecI
namespace Go.Proofs.Ytbibkonlhghplaa.Recipe
open Go.ChangeShapes Go.WideShapes Go.ChangeAt Go.ChangeMaps Go.RowKit

theorem recipeFair_own : ownKnob Try.prog.godebug = none := by kernel_rfl
theorem recipeFair_laid : laidOutB Try.prog = true := by kernel_rfl
theorem recipeFair_types : ∀ t ∈ Try.f5.params.toList, Try.prog.readableRec t = true ∧ t < Try.prog.types.size := by
  rw [Try.params5]
  intro t ht
  simp at ht
  rcases ht with rfl | rfl | rfl <;> exact ⟨by kernel_rfl, of_decide_eq_true (by kernel_rfl)⟩

set_option maxRecDepth 100000 in
theorem recipeFair_lifted (os : Os) (started : os.Started) (H : Type) (enc : TypeId × Value → H) :
    ReturnsInHanded {} Try.checked os 5 .any (Rows.recipeFairSpec.pre6 enc Try.prog Try.f5 Rows.recipeFairRow.domain false) (Rows.recipeFairSpec.post enc Try.prog Try.f5 false true false false) := by
  refine returnsInHanded_of_change (C := Try.checked) recipeFair_own started (by kernel_rfl) Try.func5
    (ChangeSpec.witness6 (enc := enc) (C := Try.checked) false ⟨#[], #[.agg #[.int .i64 0, .int .i64 0, .int .i64 0, .slice none 0 0, .int .i64 0, .int .i64 0, .int .i64 0], .agg #[.int .u16 0, .int .u16 0], .agg #[.int .u8 0, .int .u8 0]], []⟩ 8 (by kernel_rfl) (by kernel_rfl) (by kernel_rfl) (by kernel_rfl)) ?_
  intro W base args ds gs before hval0 hW hcnd _
  have hval : ∀ (j : Nat) t v, Try.f5.params[j]? = some t → args[j]? = some v → Value.okWide Try.prog W .any base t v := hval0
  have hW' := hW
  obtain ⟨p, q, hA0, hV, rfl, hfz, hnd⟩ := hW
  have hA : DataW.TrodAll enc Try.prog W 0 (fun _ => true) true Try.f5.params.toList args.toList ds p := hA0
  rw [Try.params5] at hA hval
  obtain ⟨v0, v1, v2, d0, d1, d2, p0, p1, p2, rfl, rfl, rfl, h0, h1, h2⟩ := trodAll_three hA
  obtain ⟨rfl, rfl⟩ := trodVars_none hV
  obtain ⟨bcs, rfl, hbz⟩ := okWide_struct Try.underlying24 (hval 0 24 v0 rfl rfl)
  obtain ⟨ncs, rfl, hnz⟩ := okWide_array Try.underlying40 (hval 1 40 v1 rfl rfl)
  obtain ⟨levelscs, rfl, hlevelsz⟩ := okWide_array Try.underlying41 (hval 2 41 v2 rfl rfl)
  clear hA0 hval0
  obtain ⟨b, rfl, hb0, hb1, hb2⟩ := bl_of h0
  obtain ⟨n, rfl, hn0, hn1⟩ := u16s_of h1
  obtain ⟨levels, rfl, hlevels0, hlevels1⟩ := u8s_of h2
  refine (recipeFair_in impl b n.1 n.2 levels.1 levels.2 W hb0 hb1 hb2 hn0 hn1 hlevels0 hlevels1).mono fun e W' ⟨he, hb⟩ => ?_
  subst he
  exact ⟨_, rfl, law_done (tb := 4) recipeFair_laid recipeFair_types Try.underlying4 (by kernel_rfl) rfl hW' rfl hb⟩
theorem recipeFair_holds : Rows.RecipeFairSaid :=
  OpenClaim.holds_of_wide 5 Try.f5 rfl rfl rfl rfl rfl rfl rfl ⟨rfl, rfl, rfl, rfl, rfl⟩ rfl rfl rfl rfl rfl (by kernel_rfl) Try.func5 (by kernel_rfl)
    (of_decide_eq_true (by kernel_rfl)) (by unfold Func.isWrapper; first | (rw [if_pos (by decide +kernel)]; kernel_rfl) | (rw [if_neg (by decide +kernel)]; exact ⟨rfl, rfl⟩))
    (fun os started H enc _ => recipeFair_lifted os started H enc)
#print axioms recipeFair_holds
end Go.Proofs.Ytbibkonlhghplaa.Recipe
