/- The document's Same of two rows of drafts that are the same. -/
import Derived.Test.YtfebaiefoonncaaDraEls
import Derived.Laws.StructEq
namespace Go.Proofs.Ytfebaiefoonncaa.Draft
open Go.RowKit Go.Lib

set_option maxRecDepth 100000 in
set_option maxHeartbeats 2000000 in
theorem same_yes (a : Option Addr) (n c : Nat) (b : Option Addr) (d : Nat) (l : List Dr) (w : World) (hl : l.length = n) (hs : Els w a l) (hn : n ≤ 1048576) (ht : Els w b l) :
    Calls Try.prog 12 #[.slice a n c, .slice b n d] w fun e w' => e = .returned (.bool true) ∧ Below w.heap.size w w' := by
  have HL := Lib.hid hl
  have H1 := Lib.hid hs; have H2 := Lib.hid ht
  have hn1 : (n : Int) ≤ 1048576 := by omega
  have hee : ((n : Int) == (n : Int)) = true := by simp
  clear hl hs hn ht
  go_enter Try.func12, Try.ntmps12
  go_wp2_with fail
  go_loopw [5] (fun s wr => ∃ i : Nat, s = .int .i64 i ∧ i ≤ n ∧ Hid (Below w.heap.size w wr)) (fun s _ => n - (RowKit.intOf s).toNat)
  case atStart => exact ⟨0, rfl, by omega, Lib.hid (Below.refl _ _)⟩
  case round =>
    obtain ⟨i, rfl, hi, HB⟩ := hrel
    have hi0 : (0 : Int) ≤ (i : Int) := by omega
    by_cases hlt : i < n
    · have hlt2 : (i : Int) < (n : Int) := by omega
      obtain ⟨t, ht⟩ : ∃ t, l[i]? = some t := ⟨l[i]'(by have := HL.out; omega), List.getElem?_eq_getElem (by have := HL.out; omega)⟩
      obtain ⟨g, off, rfl, q0, q1, q2, q3, q4, q5, q6, q7, q8⟩ := H1.out.at HB.out ht
      obtain ⟨g', off', rfl, r0, r1, r2, r3, r4, r5, r6, r7, r8⟩ := H2.out.at HB.out ht
      clear ht
      go_wp2_with fail
      go_quiet (fail)
      go_wp2_with fail
      go_roundw
      case rel => exact ⟨i + 1, by go_num, by omega, Lib.hid (Tb.below_drewN HB.out _)⟩
      case measure => simp [RowKit.intOf]; omega
    · obtain rfl : i = n := by omega
      go_wp2_with fail
      go_ret
      exact ⟨rfl, HB.out⟩
end Go.Proofs.Ytfebaiefoonncaa.Draft
