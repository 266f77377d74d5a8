/- TableOrders: Of any two keys just one is below the other, or they are the same, and of three there is no ring: for all keys.
   Conditions: none; each argument of its type that can be read as data. -/
import Derived.Test.YtighjiiaplihjaaLaw
import Derived.ChangeMaps5
import Derived.Test.YtighjiiaplihjaaTabS
import Derived.Test.YtighjiiaplihjaaTabT
import Derived.Test.YtighjiiaplihjaaTabImQ
namespace Go.Proofs.Ytighjiiaplihjaa.Tab
open Go.ChangeShapes Go.WideShapes Go.ChangeAt Go.ChangeMaps Go.RowKit

theorem tableOrders_own : ownKnob Try.prog.godebug = none := by kernel_rfl
theorem tableOrders_laid : laidOutB Try.prog = true := by kernel_rfl
theorem tableOrders_types : ∀ t ∈ Try.f5.params.toList, Try.prog.readableRec t = true ∧ t < Try.prog.types.size := by
  rw [Try.params5]
  intro t ht
  simp at ht
  subst ht
  exact ⟨by kernel_rfl, of_decide_eq_true (by kernel_rfl)⟩

set_option maxRecDepth 100000 in
theorem tableOrders_lifted (os : Os) (started : os.Started) (H : Type) (enc : TypeId × Value → H) :
    ReturnsInHanded {} Try.checked os 5 .any (Rows.tableOrdersSpec.pre6 enc Try.prog Try.f5 Rows.tableOrdersRow.domain false) (Rows.tableOrdersSpec.post enc Try.prog Try.f5 false true false false) := by
  refine returnsInHanded_of_change (C := Try.checked) tableOrders_own started (by kernel_rfl) Try.func5
    (ChangeSpec.witness6 (enc := enc) (C := Try.checked) false ⟨#[], #[.agg #[.int .i64 0, .int .i64 0, .int .i64 0, .int .i64 0, .int .i64 0, .int .i64 0, .int .i64 0, .int .i64 0, .int .i64 0, .int .i64 0, .int .i64 0, .int .i64 0]], []⟩ 8 (by kernel_rfl) (by kernel_rfl) (by kernel_rfl) (by kernel_rfl)) ?_
  intro W base args ds gs before hval0 hW hcnd _
  have hval : ∀ (j : Nat) t v, Try.f5.params[j]? = some t → args[j]? = some v → Value.okWide Try.prog W .any base t v := hval0
  have hW' := hW
  obtain ⟨p, q, hA0, hV, rfl, hfz, hnd⟩ := hW
  have hA : DataW.TrodAll enc Try.prog W 0 (fun _ => true) true Try.f5.params.toList args.toList ds p := hA0
  rw [Try.params5] at hA hval
  obtain ⟨v0, d0, rfl, rfl, h0⟩ := trodAll_one hA
  obtain ⟨rfl, rfl⟩ := trodVars_none hV
  obtain ⟨lcs, rfl, hlz⟩ := okWide_array Try.underlying48 (hval 0 48 v0 rfl rfl)
  clear hA0 hval0
  obtain ⟨l0, l1, l2, rfl⟩ := keys3_of Try.underlying48 h0
  refine (orders_in Im.iters l0 l1 l2 W).mono fun e W' ⟨he, hb⟩ => ?_
  subst he
  exact ⟨_, rfl, law_done (tb := 4) tableOrders_laid tableOrders_types Try.underlying4 (by kernel_rfl) rfl hW' rfl hb⟩
theorem tableOrders_holds : Rows.TableOrdersSaid :=
  OpenClaim.holds_of_wide 5 Try.f5 rfl rfl rfl rfl rfl rfl rfl ⟨rfl, rfl, rfl, rfl, rfl⟩ rfl rfl rfl rfl rfl (by kernel_rfl) Try.func5 (by kernel_rfl)
    (of_decide_eq_true (by kernel_rfl)) (by unfold Func.isWrapper; first | (rw [if_pos (by decide +kernel)]; kernel_rfl) | (rw [if_neg (by decide +kernel)]; exact ⟨rfl, rfl⟩))
    (fun os started H enc _ => tableOrders_lifted os started H enc)
#print axioms tableOrders_holds
end Go.Proofs.Ytighjiiaplihjaa.Tab
