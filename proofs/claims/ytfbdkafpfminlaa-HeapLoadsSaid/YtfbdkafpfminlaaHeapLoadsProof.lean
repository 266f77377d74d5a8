/- HeapLoads: A queue of any timers that there were has the document's timers, or is refused as the document says, and goes on as the document's.
   Conditions: none; each argument of its type that can be read as data. -/
import Derived.Test.YtfbdkafpfminlaaLaw
import Derived.ChangeMaps5
import Derived.Test.YtfbdkafpfminlaaHeapArgs
import Derived.Test.YtfbdkafpfminlaaHeapJ
namespace Go.Proofs.Ytfbdkafpfminlaa.Heap
open Go.ChangeShapes Go.WideShapes Go.ChangeAt Go.ChangeMaps Go.RowKit

theorem heapLoads_own : ownKnob Try.prog.godebug = none := by kernel_rfl
theorem heapLoads_laid : laidOutB Try.prog = true := by kernel_rfl
theorem heapLoads_types : ∀ t ∈ Try.f4.params.toList, Try.prog.readableRec t = true ∧ t < Try.prog.types.size := by
  rw [Try.params4]
  intro t ht
  simp at ht
  rcases ht with rfl | rfl | rfl <;> exact ⟨by kernel_rfl, of_decide_eq_true (by kernel_rfl)⟩

set_option maxRecDepth 100000 in
theorem heapLoads_lifted (os : Os) (started : os.Started) (H : Type) (enc : TypeId × Value → H) :
    ReturnsInHanded {} Try.checked os 4 .any (Rows.heapLoadsSpec.pre6 enc Try.prog Try.f4 Rows.heapLoadsRow.domain false) (Rows.heapLoadsSpec.post enc Try.prog Try.f4 false true false false) := by
  refine returnsInHanded_of_change (C := Try.checked) heapLoads_own started (by kernel_rfl) Try.func4
    (ChangeSpec.witness6 (enc := enc) (C := Try.checked) false ⟨#[], #[.agg #[.int .i64 0, .int .i64 0], .slice none 0 0, .slice none 0 0], []⟩ 8 (by kernel_rfl) (by kernel_rfl) (by kernel_rfl) (by kernel_rfl)) ?_
  intro W base args ds gs before hval0 hW hcnd _
  have hval : ∀ (j : Nat) t v, Try.f4.params[j]? = some t → args[j]? = some v → Value.okWide Try.prog W .any base t v := hval0
  have hW' := hW
  obtain ⟨p, q, hA0, hV, rfl, hfz, hnd⟩ := hW
  have hA : DataW.TrodAll enc Try.prog W 0 (fun _ => true) true Try.f4.params.toList args.toList ds p := hA0
  rw [Try.params4] at hA hval
  obtain ⟨v0, v1, v2, d0, d1, d2, p0, p1, p2, rfl, rfl, rfl, h0, h1, h2⟩ := trodAll_three hA
  obtain ⟨rfl, rfl⟩ := trodVars_none hV
  obtain ⟨ncs, rfl, hnz⟩ := okWide_array Try.underlying36 (hval 0 36 v0 rfl rfl)
  obtain ⟨la, ln, lc, rfl⟩ := okWide_slice Try.underlying37 (hval 1 37 v1 rfl rfl)
  obtain ⟨sa, sn, sc, rfl⟩ := okWide_slice Try.underlying22 (hval 2 22 v2 rfl rfl)
  clear hA0 hval0
  obtain ⟨n0, rfl⟩ := keys1_of h0
  obtain ⟨l, hll, hlt, hlid⟩ := tms_of h1
  obtain ⟨hsn, hsc, sA, hsA⟩ := acts_of h2
  refine (heapLoads_in n0.1 n0.2 la ln lc l sa sn sc sA W hll hlt hlid hsA).mono fun e W' ⟨he, hb⟩ => ?_
  subst he
  exact ⟨_, rfl, law_done (tb := 4) heapLoads_laid heapLoads_types Try.underlying4 (by kernel_rfl) rfl hW' rfl hb⟩
theorem heapLoads_holds : Rows.HeapLoadsSaid :=
  OpenClaim.holds_of_wide 4 Try.f4 rfl rfl rfl rfl rfl rfl rfl ⟨rfl, rfl, rfl, rfl, rfl⟩ rfl rfl rfl rfl rfl (by kernel_rfl) Try.func4 (by kernel_rfl)
    (of_decide_eq_true (by kernel_rfl)) (by unfold Func.isWrapper; first | (rw [if_pos (by decide +kernel)]; kernel_rfl) | (rw [if_neg (by decide +kernel)]; exact ⟨rfl, rfl⟩))
    (fun os started H enc _ => heapLoads_lifted os started H enc)
#print axioms heapLoads_holds
end Go.Proofs.Ytfbdkafpfminlaa.Heap
