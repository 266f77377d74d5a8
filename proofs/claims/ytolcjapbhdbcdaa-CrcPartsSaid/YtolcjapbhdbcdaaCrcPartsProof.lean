/- CrcParts: for any texts and any number the law returns true: the sum taken part by part is that of all bytes together, and bytes 0 behind them are as if they were there.
   Conditions: none; each argument of its type that can be read as data. -/
import Derived.Test.YtolcjapbhdbcdaaLaw
import Derived.ChangeMaps5
import Derived.Test.YtolcjapbhdbcdaaCrcG
namespace Go.Proofs.Ytolcjapbhdbcdaa.Crc
open Go.ChangeShapes Go.WideShapes Go.ChangeAt Go.ChangeMaps Go.RowKit

theorem crcParts_own : ownKnob Try.prog.godebug = none := by kernel_rfl
theorem crcParts_u16 {x : Int} (h : (Lit.int .u16 x).wf = true) : 0 ≤ x ∧ x ≤ 65535 := by
  simp [Lit.wf, IntKind.min, IntKind.max, IntKind.signed, IntKind.bits] at h
  exact ⟨by omega, by omega⟩
theorem crcParts_laid : laidOutB Try.prog = true := by kernel_rfl
theorem crcParts_types : ∀ t ∈ Try.f4.params.toList, Try.prog.readableRec t = true ∧ t < Try.prog.types.size := by
  rw [Try.params4]
  intro t ht
  simp at ht
  rcases ht with rfl | rfl <;> exact ⟨by kernel_rfl, of_decide_eq_true (by kernel_rfl)⟩

set_option maxRecDepth 100000 in
theorem crcParts_lifted (os : Os) (started : os.Started) (H : Type) (enc : TypeId × Value → H) :
    ReturnsInHanded {} Try.checked os 4 .any (Rows.crcPartsSpec.pre6 enc Try.prog Try.f4 Rows.crcPartsRow.domain false) (Rows.crcPartsSpec.post enc Try.prog Try.f4 false true false false) := by
  refine returnsInHanded_of_change (C := Try.checked) crcParts_own started (by kernel_rfl) Try.func4
    (ChangeSpec.witness6 (enc := enc) (C := Try.checked) false ⟨#[], #[.slice none 0 0, .int .u16 0], []⟩ 8 (by kernel_rfl) (by kernel_rfl) (by kernel_rfl) (by kernel_rfl)) ?_
  intro W base args ds gs before hval0 hW hcnd _
  have hval : ∀ (j : Nat) t v, Try.f4.params[j]? = some t → args[j]? = some v → Value.okWide Try.prog W .any base t v := hval0
  have hW' := hW
  obtain ⟨p, q, hA0, hV, rfl, hfz, hnd⟩ := hW
  have hA : DataW.TrodAll enc Try.prog W 0 (fun _ => true) true Try.f4.params.toList args.toList ds p := hA0
  rw [Try.params4] at hA hval
  obtain ⟨v0, v1, d0, d1, p0, p1, rfl, rfl, rfl, h0, h1⟩ := trodAll_two hA
  obtain ⟨rfl, rfl⟩ := trodVars_none hV
  obtain ⟨la, ln, lc, rfl⟩ := okWide_slice Try.underlying27 (hval 0 27 v0 rfl rfl)
  obtain ⟨n, rfl, rfl, rfl, wf1⟩ := open_int Try.underlying28 (hval 1 28 v1 rfl rfl) h1
  clear hA0 hval0
  have hln := law_slen Try.underlying27 Try.underlying9 (by kernel_rfl) h0
  obtain ⟨lT, hq0⟩ := law_strs Try.underlying27 Try.underlying9 (by kernel_rfl) h0
  have hlc := fun j (hj : j < ln) => (hq0 j hj).1
  have hls := fun j (hj : j < ln) => (hq0 j hj).2
  have hr1 := crcParts_u16 wf1
  obtain ⟨n, rfl⟩ := Int.eq_ofNat_of_zero_le hr1.1
  have hn : n ≤ 65535 := by have := hr1.2; omega
  refine (lawParts_any la ln lc lT n W hlc hls hln (by omega)).mono fun e W' ⟨he, hb⟩ => ?_
  subst he
  exact ⟨_, rfl, law_done (tb := 4) crcParts_laid crcParts_types Try.underlying4 (by kernel_rfl) rfl hW' rfl hb⟩
theorem crcParts_holds : Rows.CrcPartsSaid :=
  OpenClaim.holds_of_wide 4 Try.f4 rfl rfl rfl rfl rfl rfl rfl ⟨rfl, rfl, rfl, rfl, rfl⟩ rfl rfl rfl rfl rfl (by kernel_rfl) Try.func4 (by kernel_rfl)
    (of_decide_eq_true (by kernel_rfl)) (by unfold Func.isWrapper; first | (rw [if_pos (by decide +kernel)]; kernel_rfl) | (rw [if_neg (by decide +kernel)]; exact ⟨rfl, rfl⟩))
    (fun os started H enc _ => crcParts_lifted os started H enc)
#print axioms crcParts_holds
end Go.Proofs.Ytolcjapbhdbcdaa.Crc
