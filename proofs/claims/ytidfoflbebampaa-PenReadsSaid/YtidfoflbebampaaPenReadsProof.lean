/- PenReads: for any bytes and any acts the law returns true: the reader answers what the document's does, stands where it does, and is bad when it is.
   Conditions: none; each argument of its type that can be read as data. -/
import Derived.Test.YtidfoflbebampaaLaw
import Derived.ChangeMaps5
import Derived.Test.YtidfoflbebampaaPenL
import Derived.Deep.SlicePairs
namespace Go.Proofs.Ytidfoflbebampaa
open Go.ChangeShapes Go.WideShapes Go.ChangeAt Go.ChangeMaps Go.RowKit Go.Deep

theorem penReads_own : ownKnob Try.prog.godebug = none := by kernel_rfl
theorem penReads_int {x : Int} (h : (Lit.int .i64 x).wf = true) : -9223372036854775808 ≤ x ∧ x ≤ 9223372036854775807 := by
  simp [Lit.wf, IntKind.min, IntKind.max, IntKind.signed, IntKind.bits] at h
  exact ⟨by omega, by omega⟩
theorem penReads_laid : laidOutB Try.prog = true := by kernel_rfl
theorem penReads_types : ∀ t ∈ Try.f4.params.toList, Try.prog.readableRec t = true ∧ t < Try.prog.types.size := by
  rw [Try.params4]
  intro t ht
  simp at ht
  rcases ht with rfl | rfl <;> exact ⟨by kernel_rfl, of_decide_eq_true (by kernel_rfl)⟩

theorem penReads_lt {w : World} {b o : Nat} {v : Value} (h : w.cell? ⟨b, o, none⟩ = some v) : b < w.heap.size := by
  rcases Nat.lt_or_ge b w.heap.size with h' | h'
  · exact h'
  · simp [World.cell?, Array.getElem?_eq_none h'] at h
theorem penReads_walk (S : ByteArray) (a : Option Addr) (len cap : Nat) (W : World)
    (h : len = 0 ∨ ∃ (b off : Nat) (K M : Nat → Int), a = some ⟨b, off, none⟩ ∧ (∀ j, j < len → W.cell? ⟨b, off + j * 2, none⟩ = some (.int .i64 (K j))) ∧ (∀ j, j < len → W.cell? ⟨b, off + j * 2 + 1, none⟩ = some (.int .i64 (M j))) ∧ (∀ j, j < len → M j ≤ 9223372036854775807)) :
    Calls Try.prog 4 #[.string S, .slice a len cap] W fun e w' => e = .returned (.bool true) ∧ Below W.heap.size W w' := by
  by_cases hl : 1024 < S.size ∨ 20 < len
  · exact lawReads_long S a len cap W hl
  · by_cases h0 : len = 0
    · subst h0
      exact lawReads_empty S a cap W (by omega)
    · rcases h with h | ⟨b, off, K, M, rfl, hK, hM, hM2⟩
      · exact absurd h h0
      · exact lawReads_cells S b off len cap K M W (by omega) (by omega) (penReads_lt (hK 0 (by omega))) hK hM hM2

set_option maxRecDepth 100000 in
theorem penReads_lifted (os : Os) (started : os.Started) (H : Type) (enc : TypeId × Value → H) :
    ReturnsInHanded {} Try.checked os 4 .any (Rows.penReadsSpec.pre6 enc Try.prog Try.f4 Rows.penReadsRow.domain false) (Rows.penReadsSpec.post enc Try.prog Try.f4 false true false false) := by
  refine returnsInHanded_of_change (C := Try.checked) penReads_own started (by kernel_rfl) Try.func4
    (ChangeSpec.witness6 (enc := enc) (C := Try.checked) false ⟨#[], #[.string ⟨#[]⟩, .slice none 0 0], []⟩ 8 (by kernel_rfl) (by kernel_rfl) (by kernel_rfl) (by kernel_rfl)) ?_
  intro W base args ds gs before hval0 hW hcnd _
  have hval : ∀ (j : Nat) t v, Try.f4.params[j]? = some t → args[j]? = some v → Value.okWide Try.prog W .any base t v := hval0
  have hW' := hW
  obtain ⟨p, q, hA0, hV, rfl, hfz, hnd⟩ := hW
  have hA : DataW.TrodAll enc Try.prog W 0 (fun _ => true) true Try.f4.params.toList args.toList ds p := hA0
  rw [Try.params4] at hA hval
  obtain ⟨v0, v1, d0, d1, p0, p1, rfl, rfl, rfl, h0, h1⟩ := trodAll_two hA
  obtain ⟨rfl, rfl⟩ := trodVars_none hV
  obtain ⟨s, rfl, rfl, rfl, hs⟩ := open_string Try.underlying9 (hval 0 9 v0 rfl rfl) h0
  obtain ⟨ad, len, cap, rfl⟩ := okWide_slice Try.underlying26 (hval 1 26 v1 rfl rfl)
  obtain ⟨fuel, hf⟩ := h1
  clear hA0 hval0
  have fin : Calls Try.prog 4 #[.string s, .slice ad len cap] W fun e w' => e = .returned (.bool true) ∧ Below W.heap.size W w' := by
    apply penReads_walk
    rcases open_slice_pairs Try.underlying26 Try.underlying33 (by kernel_rfl) (by kernel_rfl) (by kernel_rfl) (by kernel_rfl) (by kernel_rfl) hf with ⟨hcs, _⟩ | ⟨a, len', cap', m, n, V0, V1, D0, D1, P0, P1, hcs, _, hl, hm, hmm, _, hcell⟩
    · simp [Value.cells] at hcs
      exact Or.inl hcs.2.1
    · simp [Value.cells] at hcs
      obtain ⟨rfl, rfl, rfl⟩ := hcs
      by_cases h0 : len = 0
      · exact Or.inl h0
      · right
        have hlm : len ≤ m := by rw [hmm]; split <;> omega
        obtain ⟨b, off, spot⟩ := a
        have hspot : spot = none := by simpa [Addr.add] using World.cell?_spot (hcell 0 (by omega)).1
        subst hspot
        have each : ∀ j, j < len → ∃ q : Int × Int, W.cell? ⟨b, off + j * 2, none⟩ = some (.int .i64 q.1) ∧ W.cell? ⟨b, off + j * 2 + 1, none⟩ = some (.int .i64 q.2) ∧ q.2 ≤ 9223372036854775807 := by
          intro j hj
          obtain ⟨g0, g1, t0, t1⟩ := hcell j (by omega)
          obtain ⟨z0, e0, _, _⟩ := DataW.trod_int Try.underlying3 t0
          obtain ⟨z1, e1, _, w1⟩ := DataW.trod_int Try.underlying3 t1
          simp at e0 e1
          rw [add_plain, e0] at g0
          rw [add_plain, e1] at g1
          exact ⟨(z0, z1), g0, g1, (penReads_int w1).2⟩
        refine ⟨b, off, fun j => if h : j < len then (each j h).choose.1 else 0, fun j => if h : j < len then (each j h).choose.2 else 0, rfl, fun j hj => ?_, fun j hj => ?_, fun j hj => ?_⟩
        · simp only [hj, dite_true]; exact (each j hj).choose_spec.1
        · simp only [hj, dite_true]; exact (each j hj).choose_spec.2.1
        · simp only [hj, dite_true]; exact (each j hj).choose_spec.2.2
  refine fin.mono fun e W' ⟨he, hb⟩ => ?_
  subst he
  exact ⟨_, rfl, law_done (tb := 4) penReads_laid penReads_types Try.underlying4 (by kernel_rfl) rfl hW' rfl hb⟩
theorem penReads_holds : Rows.PenReadsSaid :=
  OpenClaim.holds_of_wide 4 Try.f4 rfl rfl rfl rfl rfl rfl rfl ⟨rfl, rfl, rfl, rfl, rfl⟩ rfl rfl rfl rfl rfl (by kernel_rfl) Try.func4 (by kernel_rfl)
    (of_decide_eq_true (by kernel_rfl)) (by unfold Func.isWrapper; first | (rw [if_pos (by decide +kernel)]; kernel_rfl) | (rw [if_neg (by decide +kernel)]; exact ⟨rfl, rfl⟩))
    (fun os started H enc _ => penReads_lifted os started H enc)
#print axioms penReads_holds
end Go.Proofs.Ytidfoflbebampaa
