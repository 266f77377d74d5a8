/- BomTakes: How long any runs of any catalogue take, the way to any type, and whether they fit
   Conditions: none; each argument of its type that can be read as data. -/
import Derived.Test.YtohlkaoophbinaaZLaw
import Derived.ChangeMaps5
import Derived.Test.YtohlkaoophbinaaZBomImPa
import Derived.Test.YtohlkaoophbinaaZBomArgs
import Derived.Test.YtohlkaoophbinaaZOpen
import Derived.Test.YtohlkaoophbinaaZBomT
namespace Go.Proofs.Ytohlkaoophbinaa.Bom
open Go.ChangeShapes Go.WideShapes Go.ChangeAt Go.ChangeMaps Go.RowKit

theorem bomTakes_own : ownKnob Try.prog.godebug = none := by kernel_rfl
theorem bomTakes_laid : laidOutB Try.prog = true := by kernel_rfl
theorem bomTakes_types : ∀ t ∈ Try.f4.params.toList, Try.prog.readableRec t = true ∧ t < Try.prog.types.size := by
  rw [Try.params4]
  intro t ht
  simp at ht
  rcases ht with rfl | rfl | rfl <;> exact ⟨by kernel_rfl, of_decide_eq_true (by kernel_rfl)⟩

set_option maxRecDepth 100000 in
theorem bomTakes_lifted (os : Os) (started : os.Started) (H : Type) (enc : TypeId × Value → H) :
    ReturnsInHanded {} Try.checked os 4 .any (Rows.bomTakesSpec.pre6 enc Try.prog Try.f4 Rows.bomTakesRow.domain false) (Rows.bomTakesSpec.post enc Try.prog Try.f4 false true false false) := by
  refine returnsInHanded_of_change (C := Try.checked) bomTakes_own started (by kernel_rfl) Try.func4
    (ChangeSpec.witness6 (enc := enc) (C := Try.checked) false ⟨#[], #[.agg #[.int .i64 0, .slice none 0 0, .int .i64 0, .slice none 0 0, .int .i64 0, .int .i64 0, .int .i64 0, .int .i64 0], .agg #[.int .i64 0, .int .i64 0, .int .i64 0], .agg #[.slice none 0 0, .slice none 0 0]], []⟩ 8 (by kernel_rfl) (by kernel_rfl) (by kernel_rfl) (by kernel_rfl)) ?_
  intro W base args ds gs before hval0 hW hcnd _
  have hval : ∀ (j : Nat) t v, Try.f4.params[j]? = some t → args[j]? = some v → Value.okWide Try.prog W .any base t v := hval0
  have hW' := hW
  obtain ⟨p, q, hA0, hV, rfl, hfz, hnd⟩ := hW
  have hA : DataW.TrodAll enc Try.prog W 0 (fun _ => true) true Try.f4.params.toList args.toList ds p := hA0
  rw [Try.params4] at hA hval
  obtain ⟨v0, v1, v2, d0, d1, d2, p0, p1, p2, rfl, rfl, rfl, h0, h1, h2⟩ := trodAll_three hA
  obtain ⟨rfl, rfl⟩ := trodVars_none hV
  obtain ⟨ccs, rfl, hcz⟩ := okWide_struct Try.underlying27 (hval 0 27 v0 rfl rfl)
  obtain ⟨ucs, rfl, huz⟩ := okWide_struct Try.underlying29 (hval 1 29 v1 rfl rfl)
  obtain ⟨rcs, rfl, hrz⟩ := okWide_struct Try.underlying42 (hval 2 42 v2 rfl rfl)
  clear hA0 hval0
  obtain ⟨c, rfl, hc0, hc1, hc2, hc3, hc4⟩ := Cat.cat_of h0
  obtain ⟨u, rfl, hu0, hu1, hu2⟩ := ask_of h1
  obtain ⟨r, rfl, hr0, hr1, hr2, hr3, hr4, hr5⟩ := rest_of h2
  refine (bomTakes_in impl c u.k u.n u.lv r.ra r.rn r.rc r.rs r.sa r.sn r.sc r.raw W hc0 hc1 (by unfold maxLen at hc2; omega) (by unfold maxLen at hc3; omega) (fun b hb => by have := hc4 b hb; unfold maxLen at this; omega) hr0 hr1 hr2 hr3 hr4 hr5 hu0 hu1 hu2).mono fun e W' ⟨he, hb⟩ => ?_
  subst he
  exact ⟨_, rfl, law_done (tb := 4) bomTakes_laid bomTakes_types Try.underlying4 (by kernel_rfl) rfl hW' rfl hb⟩
theorem bomTakes_holds : Rows.BomTakesSaid :=
  OpenClaim.holds_of_wide 4 Try.f4 rfl rfl rfl rfl rfl rfl rfl ⟨rfl, rfl, rfl, rfl, rfl⟩ rfl rfl rfl rfl rfl (by kernel_rfl) Try.func4 (by kernel_rfl)
    (of_decide_eq_true (by kernel_rfl)) (by unfold Func.isWrapper; first | (rw [if_pos (by decide +kernel)]; kernel_rfl) | (rw [if_neg (by decide +kernel)]; exact ⟨rfl, rfl⟩))
    (fun os started H enc _ => bomTakes_lifted os started H enc)
#print axioms bomTakes_holds
end Go.Proofs.Ytohlkaoophbinaa.Bom
