/- BomEven: As many as are made in all runs need no rounding
   Conditions: none; each argument of its type that can be read as data. -/
import Derived.Test.YtohlkaoophbinaaZLaw
import Derived.ChangeMaps5
import Derived.Test.YtohlkaoophbinaaZBomImPa
import Derived.Test.YtohlkaoophbinaaZOpen
import Derived.Test.YtohlkaoophbinaaZBomV
namespace Go.Proofs.Ytohlkaoophbinaa.Bom
open Go.ChangeShapes Go.WideShapes Go.ChangeAt Go.ChangeMaps Go.RowKit

theorem bomEven_own : ownKnob Try.prog.godebug = none := by kernel_rfl
theorem bomEven_u8 {x : Int} (h : (Lit.int .u8 x).wf = true) : 0 ≤ x ∧ x ≤ 255 := by
  simp [Lit.wf, IntKind.min, IntKind.max, IntKind.signed, IntKind.bits] at h
  exact ⟨by omega, by omega⟩
theorem bomEven_laid : laidOutB Try.prog = true := by kernel_rfl
theorem bomEven_types : ∀ t ∈ Try.f6.params.toList, Try.prog.readableRec t = true ∧ t < Try.prog.types.size := by
  rw [Try.params6]
  intro t ht
  simp at ht
  rcases ht with rfl | rfl <;> exact ⟨by kernel_rfl, of_decide_eq_true (by kernel_rfl)⟩

set_option maxRecDepth 100000 in
theorem bomEven_lifted (os : Os) (started : os.Started) (H : Type) (enc : TypeId × Value → H) :
    ReturnsInHanded {} Try.checked os 6 .any (Rows.bomEvenSpec.pre6 enc Try.prog Try.f6 Rows.bomEvenRow.domain false) (Rows.bomEvenSpec.post enc Try.prog Try.f6 false true false false) := by
  refine returnsInHanded_of_change (C := Try.checked) bomEven_own started (by kernel_rfl) Try.func6
    (ChangeSpec.witness6 (enc := enc) (C := Try.checked) false ⟨#[], #[.slice none 0 0, .int .u8 0], []⟩ 8 (by kernel_rfl) (by kernel_rfl) (by kernel_rfl) (by kernel_rfl)) ?_
  intro W base args ds gs before hval0 hW hcnd _
  have hval : ∀ (j : Nat) t v, Try.f6.params[j]? = some t → args[j]? = some v → Value.okWide Try.prog W .any base t v := hval0
  have hW' := hW
  obtain ⟨p, q, hA0, hV, rfl, hfz, hnd⟩ := hW
  have hA : DataW.TrodAll enc Try.prog W 0 (fun _ => true) true Try.f6.params.toList args.toList ds p := hA0
  rw [Try.params6] at hA hval
  obtain ⟨v0, v1, d0, d1, p0, p1, rfl, rfl, rfl, h0, h1⟩ := trodAll_two hA
  obtain ⟨rfl, rfl⟩ := trodVars_none hV
  obtain ⟨la, ln, lc, rfl⟩ := okWide_slice Try.underlying52 (hval 0 52 v0 rfl rfl)
  obtain ⟨many, rfl, rfl, rfl, wf1⟩ := open_int Try.underlying5 (hval 1 5 v1 rfl rfl) h1
  clear hA0 hval0
  have hln := law_ilen Try.underlying52 Try.underlying5 (by kernel_rfl) h0
  obtain ⟨lZ, hq0⟩ := law_ints Try.underlying52 Try.underlying5 (by kernel_rfl) h0
  have hlc := fun j (hj : j < ln) => (hq0 j hj).1
  have hlz := fun j (hj : j < ln) => bomEven_u8 (hq0 j hj).2
  have hr1 := bomEven_u8 wf1
  obtain ⟨many, rfl⟩ := Int.eq_ofNat_of_zero_le hr1.1
  have hmany : many ≤ 255 := by have := hr1.2; omega
  refine (bomEven_in impl la ln lc lZ many W hln hlc hlz hmany).mono fun e W' ⟨he, hb⟩ => ?_
  subst he
  exact ⟨_, rfl, law_done (tb := 4) bomEven_laid bomEven_types Try.underlying4 (by kernel_rfl) rfl hW' rfl hb⟩
theorem bomEven_holds : Rows.BomEvenSaid :=
  OpenClaim.holds_of_wide 6 Try.f6 rfl rfl rfl rfl rfl rfl rfl ⟨rfl, rfl, rfl, rfl, rfl⟩ rfl rfl rfl rfl rfl (by kernel_rfl) Try.func6 (by kernel_rfl)
    (of_decide_eq_true (by kernel_rfl)) (by unfold Func.isWrapper; first | (rw [if_pos (by decide +kernel)]; kernel_rfl) | (rw [if_neg (by decide +kernel)]; exact ⟨rfl, rfl⟩))
    (fun os started H enc _ => bomEven_lifted os started H enc)
#print axioms bomEven_holds
end Go.Proofs.Ytohlkaoophbinaa.Bom
