/- Slices of texts of a call's own, and the document's Same of two lists (for a seat that has bottomryref04.Same). -/
import Derived.Test.YtflkglnmenbmaaaRows
import Derived.Test.YtflkglnmenbmaaaCommon
import Derived.BigQuiet
import Derived.Deep.QuietTactic
import Derived.RegionTactic
namespace Go.Proofs.Ytflkglnmenbmaaa
open Go.RowKit Go.Lib

theorem info_str : (Try.prog.info? 9).map (fun i => (i.zero, i.size, i.bytes)) = some (some (.string ⟨#[]⟩), 1, 16) := by kernel_rfl
theorem own_below {w w' : World} {base : Nat} {e : TypeId} {size n : Nat} {v : Value} {xs : List Value} (h : w.ownsRow base e size v n xs) (hb : Below w.heap.size w w') : w'.ownsRow base e size v n xs :=
  h.kept (row := none) ⟨hb.os, hb.tape, hb.output, hb.size, fun i hi _ => hb.block i hi⟩ (Classical.em _)
/-- The slice of a call's own that holds these texts. -/
abbrev Texts (w : World) (base : Nat) (v : Value) (l : List ByteArray) : Prop := w.ownsRow base 9 1 v l.length (l.map Value.string)
def nth (l : List ByteArray) (j : Nat) : ByteArray := l.getD j ⟨#[]⟩
theorem texts_strs {w : World} {base : Nat} {v : Value} {l : List ByteArray} (h : Texts w base v l) : ∃ a cap, v = .slice a l.length cap ∧ Strs w a l.length (nth l) := by
  rcases h.2 with ⟨hv, h0⟩ | ⟨g, cap, cur, hv, _, hg, _⟩
  · exact ⟨none, 0, by rw [hv, h0], fun j hj => by omega⟩
  · refine ⟨some ⟨g, 0, none⟩, cap, hv, fun j hj => ⟨g, 0, rfl, (Array.getElem?_eq_some_iff.1 hg).1, ?_⟩⟩
    have hc := h.cells (g := g) (by rw [hv]; rfl) j (.string (nth l j)) (by simp [nth, List.getD, hj])
    rw [Nat.zero_add]
    have hadd : (⟨g, 0, none⟩ : Addr).add j = ⟨g, j, none⟩ := by unfold Addr.add; split <;> simp_all
    rw [hadd] at hc
    exact hc
theorem drewN_below (w : World) (m : Nat) : Below w.heap.size w (w.drewN m) := ⟨rfl, rfl, rfl, Nat.le_refl _, fun _ _ => rfl⟩
set_option maxRecDepth 100000 in
set_option maxHeartbeats 1000000 in
theorem same_yes (a1 : Option Addr) (n c1 : Nat) (T1 : Nat → ByteArray) (a2 : Option Addr) (c2 : Nat) (T2 : Nat → ByteArray) (w : World) (h1 : Strs w a1 n T1) (h2 : Strs w a2 n T2) (hn : n ≤ 1048577) (he : ∀ j, j < n → T1 j = T2 j) :
    Calls Try.prog 17 #[.slice a1 n c1, .slice a2 n c2] w fun e w' => e = .returned (.bool true) ∧ Below w.heap.size w w' := by
  have H1 := Lib.hid h1; have H2 := Lib.hid h2; have HE := Lib.hid he
  clear h1 h2 he
  go_enter Try.func17, Try.ntmps17
  go_wp2_with fail
  go_loopw [5] (fun i wr => ∃ k m : Nat, k ≤ n ∧ i = .int .i64 k ∧ wr = w.drewN m) (fun i _ => n - (RowKit.intOf i).toNat)
  case atStart => exact ⟨0, 0, by omega, rfl, rfl⟩
  case round =>
    obtain ⟨k, m, hk, rfl, rfl⟩ := hrel
    by_cases hlt : k < n
    · obtain ⟨b1, o1, rfl, _, hc1⟩ := H1.out k hlt
      obtain ⟨b2, o2, rfl, _, hc2⟩ := H2.out k hlt
      rw [← HE.out k hlt] at hc2
      obtain ⟨x, hx⟩ : ∃ x, T1 k = x := ⟨_, rfl⟩
      rw [hx] at hc1 hc2
      clear hx
      go_wp2_with fail
      go_quiet (fail)
      go_wp2_with fail
      go_roundw
      case rel => exact ⟨k + 1, _, by omega, by go_num, rfl⟩
      case measure => simp [RowKit.intOf]; omega
    · go_wp2_with fail
      go_ret
      exact ⟨rfl, drewN_below w m⟩
end Go.Proofs.Ytflkglnmenbmaaa
