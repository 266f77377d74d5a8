/- GoodsTimes: A list n and m times is one as often as both together.
   Conditions: none; each argument of its type that can be read as data. -/
import Derived.Test.YtbhhofeflajpoaaLaw
import Derived.ChangeMaps5
import Derived.Test.YtbhhofeflajpoaaGoodsIm
import Derived.Test.YtbhhofeflajpoaaGoodsArgs
import Derived.Test.YtbhhofeflajpoaaGoodsM
namespace Go.Proofs.Ytbhhofeflajpoaa.Goods
open Go.ChangeShapes Go.WideShapes Go.ChangeAt Go.ChangeMaps Go.RowKit

theorem goodsTimes_own : ownKnob Try.prog.godebug = none := by kernel_rfl
theorem goodsTimes_u16 {x : Int} (h : (Lit.int .u16 x).wf = true) : 0 ≤ x ∧ x ≤ 65535 := by
  simp [Lit.wf, IntKind.min, IntKind.max, IntKind.signed, IntKind.bits] at h
  exact ⟨by omega, by omega⟩
theorem goodsTimes_laid : laidOutB Try.prog = true := by kernel_rfl
theorem goodsTimes_types : ∀ t ∈ Try.f6.params.toList, Try.prog.readableRec t = true ∧ t < Try.prog.types.size := by
  rw [Try.params6]
  intro t ht
  simp at ht
  rcases ht with rfl | rfl <;> exact ⟨by kernel_rfl, of_decide_eq_true (by kernel_rfl)⟩

set_option maxRecDepth 100000 in
theorem goodsTimes_lifted (os : Os) (started : os.Started) (H : Type) (enc : TypeId × Value → H) :
    ReturnsInHanded {} Try.checked os 6 .any (Rows.goodsTimesSpec.pre6 enc Try.prog Try.f6 Rows.goodsTimesRow.domain false) (Rows.goodsTimesSpec.post enc Try.prog Try.f6 false true false false) := by
  refine returnsInHanded_of_change (C := Try.checked) goodsTimes_own started (by kernel_rfl) Try.func6
    (ChangeSpec.witness6 (enc := enc) (C := Try.checked) false ⟨#[], #[.slice none 0 0, .int .u16 0, .int .u16 0], []⟩ 8 (by kernel_rfl) (by kernel_rfl) (by kernel_rfl) (by kernel_rfl)) ?_
  intro W base args ds gs before hval0 hW hcnd _
  have hval : ∀ (j : Nat) t v, Try.f6.params[j]? = some t → args[j]? = some v → Value.okWide Try.prog W .any base t v := hval0
  have hW' := hW
  obtain ⟨p, q, hA0, hV, rfl, hfz, hnd⟩ := hW
  have hA : DataW.TrodAll enc Try.prog W 0 (fun _ => true) true Try.f6.params.toList args.toList ds p := hA0
  rw [Try.params6] at hA hval
  obtain ⟨v0, v1, v2, d0, d1, d2, p0, p1, p2, rfl, rfl, rfl, h0, h1, h2⟩ := trodAll_three hA
  obtain ⟨rfl, rfl⟩ := trodVars_none hV
  obtain ⟨la, ln, lc, rfl⟩ := okWide_slice Try.underlying22 (hval 0 22 v0 rfl rfl)
  obtain ⟨n, rfl, rfl, rfl, wf1⟩ := open_int Try.underlying36 (hval 1 36 v1 rfl rfl) h1
  obtain ⟨m, rfl, rfl, rfl, wf2⟩ := open_int Try.underlying36 (hval 2 36 v2 rfl rfl) h2
  clear hA0 hval0
  obtain ⟨l, hl0, hl1, hl2⟩ := sts_of h0
  have hr1 := goodsTimes_u16 wf1
  obtain ⟨n, rfl⟩ := Int.eq_ofNat_of_zero_le hr1.1
  have hn : n ≤ 65535 := by have := hr1.2; omega
  have hr2 := goodsTimes_u16 wf2
  obtain ⟨m, rfl⟩ := Int.eq_ofNat_of_zero_le hr2.1
  have hm : m ≤ 65535 := by have := hr2.2; omega
  refine (goodsTimes_in impl la ln lc l n m W hl0 hl1 hl2 (by omega) (by omega)).mono fun e W' ⟨he, hb⟩ => ?_
  subst he
  exact ⟨_, rfl, law_done (tb := 4) goodsTimes_laid goodsTimes_types Try.underlying4 (by kernel_rfl) rfl hW' rfl hb⟩
theorem goodsTimes_holds : Rows.GoodsTimesSaid :=
  OpenClaim.holds_of_wide 6 Try.f6 rfl rfl rfl rfl rfl rfl rfl ⟨rfl, rfl, rfl, rfl, rfl⟩ rfl rfl rfl rfl rfl (by kernel_rfl) Try.func6 (by kernel_rfl)
    (of_decide_eq_true (by kernel_rfl)) (by unfold Func.isWrapper; first | (rw [if_pos (by decide +kernel)]; kernel_rfl) | (rw [if_neg (by decide +kernel)]; exact ⟨rfl, rfl⟩))
    (fun os started H enc _ => goodsTimes_lifted os started H enc)
#print axioms goodsTimes_holds
end Go.Proofs.Ytbhhofeflajpoaa.Goods
