/- CalcRounds: for any four numbers of 32 bits the law returns true: rounded up it is what it is rounded down, or one more.
   Conditions: none; each argument of its type that can be read as data. -/
import Derived.Test.YtdeipomdmjifiaaCalcRounds
import Derived.ProofKit
import Derived.Laws.IdiomArrays
namespace Go.Proofs.Ytdeipomdmjifiaa
open Go.ChangeShapes Go.WideShapes Go.ChangeAt Go.RowKit

theorem calcRounds_own : ownKnob Try.prog.godebug = none := by kernel_rfl
theorem calcRounds_word {x : Int} (h : (Lit.int .u32 x).wf = true) : 0 ≤ x ∧ x ≤ 4294967295 := by
  simp [Lit.wf, IntKind.min, IntKind.max, IntKind.signed, IntKind.bits] at h
  exact ⟨by omega, by omega⟩
theorem calcRounds_cellsE : Try.prog.cellsOf 31 = 1 := by kernel_rfl
theorem calcRounds_cellsA : Try.prog.cellsOf 32 = 4 := by kernel_rfl
theorem four_of {α : Type} (l : List α) (h : (⟨l⟩ : Array α).size = 4) : ∃ a b c d, l = [a, b, c, d] := by
  match l, h with
  | [a, b, c, d], _ => exact ⟨a, b, c, d, rfl⟩

set_option maxRecDepth 100000 in
theorem calcRounds_lifted (os : Os) (started : os.Started) (H : Type) (enc : TypeId × Value → H) :
    ReturnsInHanded {} Try.checked os 5 .any (Rows.calcRoundsSpec.pre6 enc Try.prog Try.f5 Rows.calcRoundsRow.domain false) (Rows.calcRoundsSpec.post enc Try.prog Try.f5 false true false false) := by
  refine returnsInHanded_of_change (C := Try.checked) calcRounds_own started (by kernel_rfl) Try.func5
    (ChangeSpec.witness6 (enc := enc) (C := Try.checked) false ⟨#[], #[.agg #[.int .u32 0, .int .u32 0, .int .u32 0, .int .u32 0]], []⟩ 8 (by kernel_rfl) (by kernel_rfl) (by kernel_rfl) (by kernel_rfl)) ?_
  intro W base args ds gs before hval0 hW hcnd _
  have hval : ∀ (j : Nat) t v, Try.f5.params[j]? = some t → args[j]? = some v → Value.okWide Try.prog W .any base t v := hval0
  have hW' := hW
  obtain ⟨p, q, hA0, hV, rfl, hfz, hnd⟩ := hW
  have hA : DataW.TrodAll enc Try.prog W 0 (fun _ => true) true Try.f5.params.toList args.toList ds p := hA0
  rw [Try.params5] at hA hval
  obtain ⟨v0, d0, rfl, rfl, h0⟩ := trodAll_one hA
  obtain ⟨rfl, rfl⟩ := trodVars_none hV
  obtain ⟨cs, rfl, hsz, _⟩ : ∃ cs, v0 = .agg cs ∧ cs.size = Try.prog.cellsOf 32 ∧ Row.okWide Try.prog W .any base 32 cs := by
    have := hval 0 32 v0 rfl rfl
    simpa [Value.okWide, Try.underlying32] using this
  rw [calcRounds_cellsA] at hsz
  obtain ⟨l⟩ := cs
  obtain ⟨c0, c1, c2, c3, rfl⟩ := four_of l hsz
  obtain ⟨fuel, hf⟩ := h0
  obtain ⟨y0, y1, y2, y3, m, hx, hy0, hy1, hy2, hy3⟩ := trod_array4 Try.underlying32 calcRounds_cellsE hf
  obtain ⟨x0, e0, rfl, w0⟩ := DataW.trod_int Try.underlying31 hy0
  obtain ⟨x1, e1, rfl, w1⟩ := DataW.trod_int Try.underlying31 hy1
  obtain ⟨x2, e2, rfl, w2⟩ := DataW.trod_int Try.underlying31 hy2
  obtain ⟨x3, e3, rfl, w3⟩ := DataW.trod_int Try.underlying31 hy3
  simp at e0 e1 e2 e3
  subst e0 e1 e2 e3
  simp only [Prod.mk.injEq] at hx
  obtain ⟨rfl, rfl⟩ := hx
  clear hA0 hval0
  simp only [List.append_nil] at hW'
  have g0 := calcRounds_word w0
  have g1 := calcRounds_word w1
  have g2 := calcRounds_word w2
  have g3 := calcRounds_word w3
  refine (lawRounds x0 x1 x2 x3 W g0.1 g0.2 g1.1 g1.2 g2.1 g2.2 g3.1 g3.2).mono fun e W' ⟨he, hg⟩ => ?_
  subst he
  have rdA : ∀ sp : Nat → Bool, DataW.Trod enc Try.prog W' 0 sp true 32 (.agg #[.int .u32 x0, .int .u32 x1, .int .u32 x2, .int .u32 x3]) (DataW.agg [.lit (.int .u32 x0), .lit (.int .u32 x1), .lit (.int .u32 x2), .lit (.int .u32 x3)]) [] := fun sp => ⟨2, by simp [DataW.trod, Value.cells, Try.underlying32, Try.underlying31, calcRounds_cellsE, calcRounds_cellsA, w0, w1, w2, w3, show List.range 4 = [0, 1, 2, 3] from rfl]⟩
  exact ⟨_, rfl, post_of_same (pa := []) (pv := []) hW' (fun _ _ _ => trodAll_mk1 (shut_bool Try.underlying4 _)) (fun sp _ => trodAll_mk1 (rdA sp)) (fun _ _ => rfl) rfl
    (hg.frame _) hg.2.1 (ok_one (by kernel_rfl) rfl (okWide_bool_mk Try.underlying4 _))⟩
theorem calcRounds_holds : Rows.CalcRoundsSaid :=
  OpenClaim.holds_of_wide 5 Try.f5 rfl rfl rfl rfl rfl rfl rfl ⟨rfl, rfl, rfl, rfl, rfl⟩ rfl rfl rfl rfl rfl (by kernel_rfl) Try.func5 (by kernel_rfl)
    (of_decide_eq_true (by kernel_rfl)) (by unfold Func.isWrapper; first | (rw [if_pos (by decide +kernel)]; kernel_rfl) | (rw [if_neg (by decide +kernel)]; exact ⟨rfl, rfl⟩))
    (fun os started H enc _ => calcRounds_lifted os started H enc)
#print axioms calcRounds_holds
end Go.Proofs.Ytdeipomdmjifiaa
