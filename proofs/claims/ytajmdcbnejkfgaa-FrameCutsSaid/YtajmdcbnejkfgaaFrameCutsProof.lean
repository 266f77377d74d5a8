/- FrameCuts: for every slice of texts and every number FrameCuts answers true: of records' bytes, cut anywhere, just those are told that are there whole.
   Conditions: none; each argument of its type that can be read as data. -/
import Derived.Test.YtajmdcbnejkfgaaLaw
import Derived.ChangeMaps5
import Derived.Test.YtajmdcbnejkfgaaFrameO
namespace Go.Proofs.Ytajmdcbnejkfgaa.Frame
open Go.ChangeShapes Go.WideShapes Go.ChangeAt Go.ChangeMaps Go.RowKit

theorem frameCuts_own : ownKnob Try.prog.godebug = none := by kernel_rfl
theorem frameCuts_u16 {x : Int} (h : (Lit.int .u16 x).wf = true) : 0 ≤ x ∧ x ≤ 65535 := by
  simp [Lit.wf, IntKind.min, IntKind.max, IntKind.signed, IntKind.bits] at h
  exact ⟨by omega, by omega⟩
theorem frameCuts_laid : laidOutB Try.prog = true := by kernel_rfl
theorem frameCuts_types : ∀ t ∈ Try.f5.params.toList, Try.prog.readableRec t = true ∧ t < Try.prog.types.size := by
  rw [Try.params5]
  intro t ht
  simp at ht
  rcases ht with rfl | rfl <;> exact ⟨by kernel_rfl, of_decide_eq_true (by kernel_rfl)⟩

set_option maxRecDepth 100000 in
theorem frameCuts_lifted (os : Os) (started : os.Started) (H : Type) (enc : TypeId × Value → H) :
    ReturnsInHanded {} Try.checked os 5 .any (Rows.frameCutsSpec.pre6 enc Try.prog Try.f5 Rows.frameCutsRow.domain false) (Rows.frameCutsSpec.post enc Try.prog Try.f5 false true false false) := by
  refine returnsInHanded_of_change (C := Try.checked) frameCuts_own started (by kernel_rfl) Try.func5
    (ChangeSpec.witness6 (enc := enc) (C := Try.checked) false ⟨#[], #[.slice none 0 0, .int .u16 0], []⟩ 8 (by kernel_rfl) (by kernel_rfl) (by kernel_rfl) (by kernel_rfl)) ?_
  intro W base args ds gs before hval0 hW hcnd _
  have hval : ∀ (j : Nat) t v, Try.f5.params[j]? = some t → args[j]? = some v → Value.okWide Try.prog W .any base t v := hval0
  have hW' := hW
  obtain ⟨p, q, hA0, hV, rfl, hfz, hnd⟩ := hW
  have hA : DataW.TrodAll enc Try.prog W 0 (fun _ => true) true Try.f5.params.toList args.toList ds p := hA0
  rw [Try.params5] at hA hval
  obtain ⟨v0, v1, d0, d1, p0, p1, rfl, rfl, rfl, h0, h1⟩ := trodAll_two hA
  obtain ⟨rfl, rfl⟩ := trodVars_none hV
  obtain ⟨la, ln, lc, rfl⟩ := okWide_slice Try.underlying22 (hval 0 22 v0 rfl rfl)
  obtain ⟨c, rfl, rfl, rfl, wf1⟩ := open_int Try.underlying35 (hval 1 35 v1 rfl rfl) h1
  clear hA0 hval0
  have hlk := law_sroom Try.underlying22 Try.underlying9 (by kernel_rfl) h0
  have hln := law_slen Try.underlying22 Try.underlying9 (by kernel_rfl) h0
  obtain ⟨lT, hq0⟩ := law_strs Try.underlying22 Try.underlying9 (by kernel_rfl) h0
  have hlc := fun j (hj : j < ln) => (hq0 j hj).1
  have hls := fun j (hj : j < ln) => (hq0 j hj).2
  have hr1 := frameCuts_u16 wf1
  obtain ⟨c, rfl⟩ := Int.eq_ofNat_of_zero_le hr1.1
  have hc : c ≤ 65535 := by have := hr1.2; omega
  refine (lawCuts la ln lc lT c W hlc hln hls hlk (by omega)).mono fun e W' ⟨he, hb⟩ => ?_
  subst he
  exact ⟨_, rfl, law_done (tb := 4) frameCuts_laid frameCuts_types Try.underlying4 (by kernel_rfl) rfl hW' rfl hb⟩
theorem frameCuts_holds : Rows.FrameCutsSaid :=
  OpenClaim.holds_of_wide 5 Try.f5 rfl rfl rfl rfl rfl rfl rfl ⟨rfl, rfl, rfl, rfl, rfl⟩ rfl rfl rfl rfl rfl (by kernel_rfl) Try.func5 (by kernel_rfl)
    (of_decide_eq_true (by kernel_rfl)) (by unfold Func.isWrapper; first | (rw [if_pos (by decide +kernel)]; kernel_rfl) | (rw [if_neg (by decide +kernel)]; exact ⟨rfl, rfl⟩))
    (fun os started H enc _ => frameCuts_lifted os started H enc)
#print axioms frameCuts_holds
end Go.Proofs.Ytajmdcbnejkfgaa.Frame
