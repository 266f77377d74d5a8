/- BomFits: What is told fits, and with one of what must be there less it does not
   Conditions: none; each argument of its type that can be read as data. -/
import Derived.Test.YtohlkaoophbinaaZLaw
import Derived.ChangeMaps5
import Derived.Test.YtohlkaoophbinaaZBomImPa
import Derived.Test.YtohlkaoophbinaaZBomArgs
import Derived.Test.YtohlkaoophbinaaZOpen
import Derived.Test.YtohlkaoophbinaaZBomU
namespace Go.Proofs.Ytohlkaoophbinaa.Bom
open Go.ChangeShapes Go.WideShapes Go.ChangeAt Go.ChangeMaps Go.RowKit

theorem bomFits_own : ownKnob Try.prog.godebug = none := by kernel_rfl
theorem bomFits_laid : laidOutB Try.prog = true := by kernel_rfl
theorem bomFits_types : ∀ t ∈ Try.f5.params.toList, Try.prog.readableRec t = true ∧ t < Try.prog.types.size := by
  rw [Try.params5]
  intro t ht
  simp at ht
  rcases ht with rfl | rfl | rfl <;> exact ⟨by kernel_rfl, of_decide_eq_true (by kernel_rfl)⟩

set_option maxRecDepth 100000 in
theorem bomFits_lifted (os : Os) (started : os.Started) (H : Type) (enc : TypeId × Value → H) :
    ReturnsInHanded {} Try.checked os 5 .any (Rows.bomFitsSpec.pre6 enc Try.prog Try.f5 Rows.bomFitsRow.domain false) (Rows.bomFitsSpec.post enc Try.prog Try.f5 false true false false) := by
  refine returnsInHanded_of_change (C := Try.checked) bomFits_own started (by kernel_rfl) Try.func5
    (ChangeSpec.witness6 (enc := enc) (C := Try.checked) false ⟨#[], #[.agg #[.int .i64 0, .slice none 0 0, .int .i64 0, .slice none 0 0, .int .i64 0, .int .i64 0, .int .i64 0, .int .i64 0], .agg #[.int .i64 0, .int .i64 0, .int .i64 0], .slice none 0 0], []⟩ 8 (by kernel_rfl) (by kernel_rfl) (by kernel_rfl) (by kernel_rfl)) ?_
  intro W base args ds gs before hval0 hW hcnd _
  have hval : ∀ (j : Nat) t v, Try.f5.params[j]? = some t → args[j]? = some v → Value.okWide Try.prog W .any base t v := hval0
  have hW' := hW
  obtain ⟨p, q, hA0, hV, rfl, hfz, hnd⟩ := hW
  have hA : DataW.TrodAll enc Try.prog W 0 (fun _ => true) true Try.f5.params.toList args.toList ds p := hA0
  rw [Try.params5] at hA hval
  obtain ⟨v0, v1, v2, d0, d1, d2, p0, p1, p2, rfl, rfl, rfl, h0, h1, h2⟩ := trodAll_three hA
  obtain ⟨rfl, rfl⟩ := trodVars_none hV
  obtain ⟨ccs, rfl, hcz⟩ := okWide_struct Try.underlying27 (hval 0 27 v0 rfl rfl)
  obtain ⟨ucs, rfl, huz⟩ := okWide_struct Try.underlying29 (hval 1 29 v1 rfl rfl)
  obtain ⟨sa, sn, sc, rfl⟩ := okWide_slice Try.underlying30 (hval 2 30 v2 rfl rfl)
  clear hA0 hval0
  obtain ⟨c, rfl, hc0, hc1, hc2, hc3, hc4⟩ := Cat.cat_of h0
  obtain ⟨u, rfl, hu0, hu1, hu2⟩ := ask_of h1
  obtain ⟨s, hs0, hs1, hs2⟩ := have_of h2
  refine (bomFits_in impl c u.k u.n u.lv sa sn sc s W hc0 hc1 (by unfold maxLen at hc2; omega) (by unfold maxLen at hc3; omega) (fun b hb => by have := hc4 b hb; unfold maxLen at this; omega) hs0 hs1 hs2 hu0 hu1 hu2).mono fun e W' ⟨he, hb⟩ => ?_
  subst he
  exact ⟨_, rfl, law_done (tb := 4) bomFits_laid bomFits_types Try.underlying4 (by kernel_rfl) rfl hW' rfl hb⟩
theorem bomFits_holds : Rows.BomFitsSaid :=
  OpenClaim.holds_of_wide 5 Try.f5 rfl rfl rfl rfl rfl rfl rfl ⟨rfl, rfl, rfl, rfl, rfl⟩ rfl rfl rfl rfl rfl (by kernel_rfl) Try.func5 (by kernel_rfl)
    (of_decide_eq_true (by kernel_rfl)) (by unfold Func.isWrapper; first | (rw [if_pos (by decide +kernel)]; kernel_rfl) | (rw [if_neg (by decide +kernel)]; exact ⟨rfl, rfl⟩))
    (fun os started H enc _ => bomFits_lifted os started H enc)
#print axioms bomFits_holds
end Go.Proofs.Ytohlkaoophbinaa.Bom
