/- CalcLists: for any slice of numbers of 64 bits the law returns true: the sum is the document's, or ErrOver.
   Conditions: none; each argument of its type that can be read as data. -/
import Derived.Test.YtdeipomdmjifiaaCalcLaws
import Derived.ProofKit
namespace Go.Proofs.Ytdeipomdmjifiaa
open Go.ChangeShapes Go.WideShapes Go.ChangeAt Go.RowKit

theorem calcLists_own : ownKnob Try.prog.godebug = none := by kernel_rfl
theorem calcLists_grown {W w : World} (h : Drew W w) : Grown W w := by
  obtain ⟨n, rfl⟩ := h
  exact Grown.refl W
theorem calcLists_int {x : Int} (h : (Lit.int .i64 x).wf = true) : -9223372036854775808 ≤ x ∧ x ≤ 9223372036854775807 := by
  simp [Lit.wf, IntKind.min, IntKind.max, IntKind.signed, IntKind.bits] at h
  exact ⟨by omega, by omega⟩
theorem calcLists_cells : Try.prog.cellsOf 3 = 1 := by kernel_rfl
theorem calcLists_walk (a : Option Addr) (len cap : Nat) (w : World) (hb : len ≤ 9223372036854775807)
    (h : len = 0 ∨ ∃ (b off : Nat) (Z : Nat → Int), a = some ⟨b, off, none⟩ ∧ (∀ j, j < len → w.cell? ⟨b, off + j, none⟩ = some (.int .i64 (Z j))) ∧ (∀ j, j < len → -9223372036854775808 ≤ Z j ∧ Z j ≤ 9223372036854775807)) :
    Calls Try.prog 4 #[.slice a len cap] w fun e w' => e = .returned (.bool true) ∧ Drew w w' := by
  rcases h with rfl | ⟨b, off, Z, rfl, hc, hz⟩
  · exact lawLists_empty a cap w
  · by_cases h : 20 < len
    · exact lawLists_long _ len cap w h hb
    · exact lawLists_cells b off len cap Z w (by omega) hc hz

set_option maxRecDepth 100000 in
theorem calcLists_lifted (os : Os) (started : os.Started) (H : Type) (enc : TypeId × Value → H) :
    ReturnsInHanded {} Try.checked os 4 .any (Rows.calcListsSpec.pre6 enc Try.prog Try.f4 Rows.calcListsRow.domain false) (Rows.calcListsSpec.post enc Try.prog Try.f4 false true false false) := by
  refine returnsInHanded_of_change (C := Try.checked) calcLists_own started (by kernel_rfl) Try.func4
    (ChangeSpec.witness6 (enc := enc) (C := Try.checked) false ⟨#[], #[.slice none 0 0], []⟩ 8 (by kernel_rfl) (by kernel_rfl) (by kernel_rfl) (by kernel_rfl)) ?_
  intro W base args ds gs before hval0 hW hcnd _
  have hval : ∀ (j : Nat) t v, Try.f4.params[j]? = some t → args[j]? = some v → Value.okWide Try.prog W .any base t v := hval0
  have hW' := hW
  obtain ⟨p, q, hA0, hV, rfl, hfz, hnd⟩ := hW
  have hA : DataW.TrodAll enc Try.prog W 0 (fun _ => true) true Try.f4.params.toList args.toList ds p := hA0
  rw [Try.params4] at hA hval
  obtain ⟨v0, d0, rfl, rfl, h0⟩ := trodAll_one hA
  obtain ⟨rfl, rfl⟩ := trodVars_none hV
  obtain ⟨a0, len, cap, rfl⟩ := okWide_slice Try.underlying27 (hval 0 27 v0 rfl rfl)
  obtain ⟨fuel, hf⟩ := h0
  clear hA0 hval0
  simp only [List.append_nil] at hW'
  rcases open_ints Try.underlying27 Try.underlying3 calcLists_cells hf with ⟨hcs, hx⟩ | ⟨a, len', cap', zs, hcs, _, hl, hm, hz, hx, hcell, hwz⟩
  · simp [Value.cells] at hcs
    obtain ⟨rfl, rfl, rfl⟩ := hcs
    simp only [Prod.mk.injEq] at hx
    obtain ⟨rfl, rfl⟩ := hx
    refine (calcLists_walk none 0 0 W (by omega) (Or.inl rfl)).mono fun e W' ⟨he, hd⟩ => ?_
    have hg := calcLists_grown hd
    subst he
    exact ⟨_, rfl, post_of_same (pa := []) (pv := []) hW' (fun _ _ _ => trodAll_mk1 (shut_bool Try.underlying4 _)) (fun sp _ => trodAll_mk1 (shut_slice_nil Try.underlying27)) (fun _ _ => rfl) rfl
      (hg.frame _) hg.2.1 (ok_one (by kernel_rfl) rfl (okWide_bool_mk Try.underlying4 _))⟩
  · simp [Value.cells] at hcs
    obtain ⟨rfl, rfl, rfl⟩ := hcs
    simp only [Prod.mk.injEq] at hx
    obtain ⟨rfl, rfl⟩ := hx
    simp only [if_true] at hz
    have fin : Calls Try.prog 4 #[.slice (some a) len cap] W fun e w' => e = .returned (.bool true) ∧ Drew W w' := by
      apply calcLists_walk (some a) len cap W (by unfold maxLen at hm; omega)
      by_cases hl0 : len = 0
      · exact Or.inl hl0
      · right
        obtain ⟨b, off, spot⟩ := a
        have hspot : spot = none := by simpa [Addr.add] using World.cell?_spot (hcell 0 (by omega))
        subst hspot
        refine ⟨b, off, fun j => zs.getD j 0, rfl, fun j hj => by rw [← add_plain]; exact hcell j (by omega), fun j hj => ?_⟩
        have hj' : j < zs.length := by omega
        apply calcLists_int
        apply hwz
        have : zs.getD j 0 = zs[j] := by simp [List.getD, hj']
        show zs.getD j 0 ∈ zs
        rw [this]
        exact List.getElem_mem hj'
    refine fin.mono fun e W' ⟨he, hd⟩ => ?_
    have hg := calcLists_grown hd
    obtain ⟨n, rfl⟩ := hd
    subst he
    have again : ∀ sp : Nat → Bool, (∀ p ∈ MemPlace.row a zs.length, sp p.block = true) → DataW.TrodAll enc Try.prog (W.drewN n) 0 sp true [27] [.slice (some a) len cap] [.slice (lits .i64 (zs.take len)) (lits .i64 (zs.drop len))] (MemPlace.row a zs.length) := by
      intro sp hsp
      by_cases hz0 : zs.length = 0
      · have hc0 : cap = 0 := by omega
        have hl0 : len = 0 := by omega
        subst hc0; subst hl0
        have t0 := shut_ints (enc := enc) (w := W.drewN n) (base := 0) (spare := sp) (held := true) (a := a) (len := 0) (cap := 0) (zs := zs) 0 Try.underlying27 Try.underlying3 calcLists_cells (Nat.zero_le _) (Nat.le_refl _) hm (by simp [hz0]) hcell hwz
        exact trodAll_mk1 ⟨2, by simpa [Value.cells] using t0⟩
      · have hspb : sp a.block = true := by
          have := hsp (.cell a.block a.off) (MemPlace.mem_row.2 ⟨0, by omega, by simp⟩)
          exact this
        have t0 := shut_ints (enc := enc) (w := W.drewN n) (base := 0) (spare := sp) (held := true) (a := a) (len := len) (cap := cap) (zs := zs) 0 Try.underlying27 Try.underlying3 calcLists_cells (Nat.zero_le _) hl hm (by simp [hspb, hz]) hcell hwz
        exact trodAll_mk1 ⟨2, by simpa [Value.cells] using t0⟩
    exact ⟨_, rfl, post_of_same (pa := MemPlace.row a zs.length) (pv := []) hW' (fun _ _ _ => trodAll_mk1 (shut_bool Try.underlying4 _)) (fun sp hsp => again sp hsp) (fun _ _ => rfl) (by simp)
      (hg.frame _) hg.2.1 (ok_one (by kernel_rfl) rfl (okWide_bool_mk Try.underlying4 _))⟩
theorem calcLists_holds : Rows.CalcListsSaid :=
  OpenClaim.holds_of_wide 4 Try.f4 rfl rfl rfl rfl rfl rfl rfl ⟨rfl, rfl, rfl, rfl, rfl⟩ rfl rfl rfl rfl rfl (by kernel_rfl) Try.func4 (by kernel_rfl)
    (of_decide_eq_true (by kernel_rfl)) (by unfold Func.isWrapper; first | (rw [if_pos (by decide +kernel)]; kernel_rfl) | (rw [if_neg (by decide +kernel)]; exact ⟨rfl, rfl⟩))
    (fun os started H enc _ => calcLists_lifted os started H enc)
#print axioms calcLists_holds
end Go.Proofs.Ytdeipomdmjifiaa
