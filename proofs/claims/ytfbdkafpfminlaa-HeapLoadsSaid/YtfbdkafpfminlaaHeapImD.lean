/- The program's rise. -/
import Derived.Test.YtfbdkafpfminlaaHeapImC
namespace Go.Proofs.Ytfbdkafpfminlaa.Heap.Im
open Go.RowKit Go.Lib

set_option maxRecDepth 100000 in
set_option maxHeartbeats 4000000 in
theorem rise_im {Q : Nat} {F : Nat → Prop} {l : List Tm} {most next : Int} (k : Nat) (w : World) (h : MQ w Q F l most next) (hk : k < l.length) (hl : l.length ≤ 4096) (hr : RiseInv l k k) :
    Calls Try.prog 39 #[ptr Q, .int .i64 (k : Nat)] w fun e w' => e = .returned (.tuple #[]) ∧ ∃ F' l', MQ w' Q F' l' most next ∧ StepF w w' F F' ∧ l'.Perm l ∧ SinkInv l' k := by
  have HH : Hid (∃ l', l'.length = l.length ∧ l'.Perm l ∧ RiseInv l' k k ∧ ∃ F', MQ w Q F' l' most next ∧ StepF w w F F') := Lib.hid ⟨l, rfl, .refl _, hr, F, h, StepF.refl w F⟩
  have HL := Lib.hid hl; have HK := Lib.hid hk
  have hk1 : (k : Int) ≤ 1048576 := by omega
  clear h hk hl hr
  go_enter Try.func39, Try.ntmps39
  go_wp2_with fail
  go_loopw [1] (fun t wr => ∃ j : Nat, t = .int .i64 j ∧ j ≤ k ∧ Hid (∃ l', l'.length = l.length ∧ l'.Perm l ∧ RiseInv l' k j ∧ ∃ F', MQ wr Q F' l' most next ∧ StepF w wr F F')) (fun t _ => (RowKit.intOf t).toNat)
  case atStart => exact ⟨k, rfl, Nat.le_refl _, HH⟩
  case round =>
    clear HH
    obtain ⟨j, rfl, hj, HJ⟩ := hrel
    have hj1 : (j : Int) ≤ 1048576 := by omega
    by_cases h0 : 0 < j
    · have h0' : (0 : Int) < (j : Int) := by omega
      obtain ⟨m, hm⟩ : ∃ m, par j = m := ⟨_, rfl⟩
      have hmj : m < j := by rw [← hm]; exact par_lt h0
      have hd1 : ((j : Int) - 1).tdiv 2 = (m : Int) := by rw [Int.tdiv_eq_ediv_of_nonneg (by omega), ← hm]; unfold par; omega
      have hd2 : ((j : Int) - 1) / 2 = (m : Int) := by rw [← hm]; unfold par; omega
      obtain ⟨l', hlen, hp, hri, F', hq, hs⟩ := HJ.out
      have hjl : j < l'.length := by have := HK.out; omega
      have hml : m < l'.length := by omega
      have HA := Lib.hid (ahead_im j m wr hq hjl hml)
      by_cases ha : ahead (nthT l' j) (nthT l' m)
      · rw [decide_eq_true ha] at HA
        have HS : Hid (∀ W, Below wr.heap.size wr W → Calls Try.prog 41 #[ptr Q, .int .i64 (j : Nat), .int .i64 (m : Nat)] W fun e w' => e = .returned (.tuple #[]) ∧ Hid (∃ l', l'.length = l.length ∧ l'.Perm l ∧ RiseInv l' k m ∧ ∃ F', MQ w' Q F' l' most next ∧ StepF w w' F F')) := Lib.hid (fun W hW => by
          refine (swap_im j m W (hq.under hW) hjl hml (by have := HL.out; omega)).mono ?_
          rintro e w' ⟨rfl, F2, h1, h2⟩
          have hrs := rise_step hri h0 hjl hj (by rw [hm]; exact ha)
          rw [hm] at hrs
          exact ⟨rfl, Lib.hid ⟨_, by rw [length_sw, hlen], (perm_sw l' j m hjl hml).trans hp, hrs, F2, h1, (hs.trans (StepF.below F' hW)).trans h2⟩⟩)
        clear hm hlen hp hri hq hs hjl hml ha HJ h0
        go_wp2_with (go_at_call 47; refine HA.out.mono ?_; rintro e w2 ⟨rfl, hb2⟩; have HB2 := Lib.hid hb2; clear hb2)
        refine (HS.out _ HB2.out).mono ?_
        rintro e w3 ⟨rfl, H3⟩
        go_wp2_with fail
        go_roundw
        case rel => exact ⟨m, by go_num, by omega, H3⟩
        case measure => simp [RowKit.intOf]; omega
      · rw [decide_eq_false ha] at HA
        have HE : Hid (∀ W, Below wr.heap.size wr W → ∃ F' l', MQ W Q F' l' most next ∧ StepF w W F F' ∧ l'.Perm l ∧ SinkInv l' k) := Lib.hid (fun W hW => ⟨F', l', hq.under hW, hs.trans (StepF.below F' hW), hp, rise_end hri hj (by have := HK.out; omega) (.inr (by rw [hm]; exact ha))⟩)
        clear hm hlen hp hri hq hs hjl hml ha HJ h0
        go_wp2_with (go_at_call 47; refine HA.out.mono ?_; rintro e w2 ⟨rfl, hb2⟩; have HB2 := Lib.hid hb2; clear hb2)
        go_end0
        exact ⟨rfl, HE.out _ HB2.out⟩
    · obtain rfl : j = 0 := by omega
      have HE : Hid (∃ F' l', MQ wr Q F' l' most next ∧ StepF w wr F F' ∧ l'.Perm l ∧ SinkInv l' k) := Lib.hid (by
        obtain ⟨l', hlen, hp, hri, F', hq, hs⟩ := HJ.out
        exact ⟨F', l', hq, hs, hp, rise_end hri hj (by have := HK.out; omega) (.inl rfl)⟩)
      clear HJ
      go_wp2_with fail
      go_end0
      exact ⟨rfl, HE.out⟩
end Go.Proofs.Ytfbdkafpfminlaa.Heap.Im
