/- The program's sink. -/
import Derived.Test.YtfbdkafpfminlaaHeapImC
namespace Go.Proofs.Ytfbdkafpfminlaa.Heap.Im
open Go.RowKit Go.Lib

/-- What has been found of those below j: of the ones below b none comes ahead of the one at f. -/
structure Least (l : List Tm) (j f b : Nat) : Prop where
  lt : f < l.length
  is : f = j ∨ (0 < f ∧ par f = j ∧ ahead (nthT l f) (nthT l j))
  all : ∀ d, 0 < d → d < l.length → par d = j → d < b → ¬ ahead (nthT l d) (nthT l f)
theorem least_start {l : List Tm} {j : Nat} (h : j < l.length) : Least l j j (2 * j + 1) := ⟨h, .inl rfl, fun d d0 _ dp hd => by unfold par at dp; omega⟩
theorem least_yes {l : List Tm} {j f b : Nat} (h : Least l j f b) (hb : b < l.length) (b1 : 2 * j + 1 ≤ b) (b2 : b ≤ 2 * j + 2) (ha : ahead (nthT l b) (nthT l f)) : Least l j b (b + 1) := by
  refine ⟨hb, .inr ⟨by omega, by unfold par; omega, ?_⟩, fun d d0 dl dp hd => ?_⟩
  · rcases h.is with rfl | ⟨_, _, h3⟩
    · exact ha
    · unfold ahead at *; omega
  · by_cases e : d = b
    · subst e; exact ahead_irrefl _
    · exact not_ahead_trans (ahead_asymm ha) (h.all d d0 dl dp (by omega))
theorem least_no {l : List Tm} {j f b : Nat} (h : Least l j f b) (ha : ¬ ahead (nthT l b) (nthT l f)) : Least l j f (b + 1) := by
  refine ⟨h.lt, h.is, fun d d0 dl dp hd => ?_⟩
  by_cases e : d = b
  · subst e; exact ha
  · exact h.all d d0 dl dp (by omega)
theorem least_end {l : List Tm} {j f b : Nat} (h : Least l j f b) (hb : 2 * j + 2 < b ∨ l.length ≤ b) : ∀ d, 0 < d → d < l.length → par d = j → ¬ ahead (nthT l d) (nthT l f) :=
  fun d d0 dl dp => h.all d d0 dl dp (by unfold par at dp; omega)
set_option maxRecDepth 100000 in
set_option maxHeartbeats 8000000 in
theorem sink_im {Q : Nat} {F : Nat → Prop} {l : List Tm} {most next : Int} (k : Nat) (w : World) (h : MQ w Q F l most next) (hk : k < l.length) (hl : l.length ≤ 4096) (hr : SinkInv l k) :
    Calls Try.prog 42 #[ptr Q, .int .i64 (k : Nat)] w fun e w' => e = .returned (.tuple #[]) ∧ ∃ F' l', MQ w' Q F' l' most next ∧ StepF w w' F F' ∧ l'.Perm l ∧ HeapOK l' := by
  obtain ⟨n, hn⟩ : ∃ n, l.length = n := ⟨_, rfl⟩
  have HH : Hid (∃ l', l'.length = n ∧ l'.Perm l ∧ SinkInv l' k ∧ ∃ F', MQ w Q F' l' most next ∧ StepF w w F F') := Lib.hid ⟨l, hn, .refl _, hr, F, h, StepF.refl w F⟩
  rw [hn] at hk hl
  have hn1 : (n : Int) ≤ 1048576 := by omega
  clear h hr hn
  go_enter Try.func42, Try.ntmps42
  go_wp2_with fail
  go_loopw [1] (fun t wr => ∃ j : Nat, t = .int .i64 j ∧ j < n ∧ Hid (∃ l', l'.length = n ∧ l'.Perm l ∧ SinkInv l' j ∧ ∃ F', MQ wr Q F' l' most next ∧ StepF w wr F F')) (fun t _ => n - (RowKit.intOf t).toNat)
  case atStart => exact ⟨k, rfl, hk, HH⟩
  case round =>
    clear HH hk k
    obtain ⟨j, rfl, hj, HJ⟩ := hrel
    obtain ⟨l', hlen, hp, hri, F', hq, hs⟩ := HJ.out
    have hj1 : (j : Int) ≤ 1048576 := by omega
    have hj0 : (0 : Int) ≤ (j : Int) := by omega
    obtain ⟨a, c, hcell⟩ : ∃ a c, ∀ W, Below wr.heap.size wr W → W.cell? ⟨Q, 2, none⟩ = some (.slice a n c) := by
      obtain ⟨lv, ps, b, hv, _⟩ := hq
      obtain ⟨a, c, rfl, _⟩ := hv.slice
      rw [hlen] at hv
      exact ⟨a, c, fun W hW => (hv.under hW).c.2.2.1⟩
    have HC := Lib.hid hcell
    have HA : Hid (∀ W b f, Below wr.heap.size wr W → b < n → f < n → Calls Try.prog 47 #[ptr Q, .int .i64 (b : Nat), .int .i64 (f : Nat)] W fun e w' => e = .returned (.bool (decide (ahead (nthT l' b) (nthT l' f)))) ∧ Hid (Below wr.heap.size wr w')) := Lib.hid (fun W b f hW hb hf => by
      refine (ahead_im b f W (hq.under hW) (by omega) (by omega)).mono ?_
      rintro e w' ⟨rfl, h1⟩
      exact ⟨rfl, Lib.hid (below_then hW h1)⟩)
    have HS : Hid (∀ W f b, Below wr.heap.size wr W → Least l' j f b → (2 * j + 2 < b ∨ n ≤ b) → f ≠ j → j < f ∧ f < n ∧ Calls Try.prog 41 #[ptr Q, .int .i64 (j : Nat), .int .i64 (f : Nat)] W fun e w' => e = .returned (.tuple #[]) ∧ Hid (∃ l', l'.length = n ∧ l'.Perm l ∧ SinkInv l' f ∧ ∃ F', MQ w' Q F' l' most next ∧ StepF w w' F F')) := Lib.hid (fun W f b hW hL hb hne => by
      rcases hL.is with e | ⟨f0, fp, fa⟩
      · exact absurd e hne
      have hlt := hL.lt
      have hjf : j < f := by have := par_lt f0; omega
      refine ⟨hjf, by omega, ?_⟩
      refine (swap_im j f W (hq.under hW) (by omega) hlt (by omega)).mono ?_
      rintro e w' ⟨rfl, F2, h1, h2⟩
      exact ⟨rfl, Lib.hid ⟨_, by rw [length_sw, hlen], (perm_sw l' j f (by omega) hlt).trans hp, sink_step hri f0 hlt fp fa (least_end hL (by omega)), F2, h1, (hs.trans (StepF.below F' hW)).trans h2⟩⟩)
    have HE : Hid (∀ W b, Below wr.heap.size wr W → Least l' j j b → (2 * j + 2 < b ∨ n ≤ b) → ∃ F' l', MQ W Q F' l' most next ∧ StepF w W F F' ∧ l'.Perm l ∧ HeapOK l') := Lib.hid (fun W b hW hL hb => ⟨F', l', hq.under hW, hs.trans (StepF.below F' hW), hp, sink_end hri (least_end hL (by omega))⟩)
    have HN := Lib.hid hlen
    have HL0 : Hid (Least l' j j (2 * j + 1)) := Lib.hid (least_start (by omega))
    clear hcell hlen hp hri hq hs HJ
    go_wp2_with fail
    go_loopw [4, 5] (fun s t W => ∃ f b : Nat, s = .int .i64 f ∧ t = .int .i64 b ∧ 2 * j + 1 ≤ b ∧ b ≤ 2 * j + 3 ∧ f < n ∧ Hid (Below wr.heap.size wr W) ∧ Hid (Least l' j f b)) (fun _ t _ => 2 * j + 4 - (RowKit.intOf t).toNat)
    case atStart => exact ⟨j, 2 * j + 1, rfl, by go_num, by omega, by omega, hj, Lib.hid (Below.refl _ _), HL0⟩
    case round =>
      clear HL0
      obtain ⟨f, b, rfl, rfl, hb1, hb2, hf, HB, HF⟩ := hrel
      have hc0 := HC.out _ HB.out
      have hbi : (b : Int) ≤ 1048576 * 3 := by omega
      by_cases g1 : b ≤ 2 * j + 2
      · have g1' : (b : Int) ≤ 2 * (j : Int) + 2 := by omega
        by_cases g2 : b < n
        · have g2' : (b : Int) < (n : Int) := by omega
          have HA1 := Lib.hid (HA.out _ b f HB.out g2 hf)
          by_cases ha : ahead (nthT l' b) (nthT l' f)
          · rw [decide_eq_true ha] at HA1
            have HF2 : Hid (Least l' j b (b + 1)) := Lib.hid (least_yes HF.out (by have := HN.out; omega) hb1 g1 ha)
            clear ha HF
            go_wp2_with (go_at_call 47; refine HA1.out.mono ?_; rintro e w2 ⟨rfl, HB2⟩)
            go_roundw
            case rel => exact ⟨b, b + 1, rfl, by go_num, by omega, by omega, g2, HB2, HF2⟩
            case measure => simp [RowKit.intOf]; omega
          · rw [decide_eq_false ha] at HA1
            have HF2 : Hid (Least l' j f (b + 1)) := Lib.hid (least_no HF.out ha)
            clear ha HF
            go_wp2_with (go_at_call 47; refine HA1.out.mono ?_; rintro e w2 ⟨rfl, HB2⟩)
            go_roundw
            case rel => exact ⟨f, b + 1, rfl, by go_num, by omega, by omega, hf, HB2, HF2⟩
            case measure => simp [RowKit.intOf]; omega
        · have g2' : ¬ (b : Int) < (n : Int) := by omega
          have hnb : n ≤ b := by omega
          by_cases e : f = j
          · subst e
            have hee : ((f : Int) == (f : Int)) = true := by simp
            go_wp2_with fail
            (try simp only [Exit.inBlock, Exit.then]); refine bodyPost_ret (results_none rfl _ _ _) rfl ?_
            exact ⟨rfl, HE.out _ b HB.out HF.out (.inr hnb)⟩
          · have hee : ((f : Int) == (j : Int)) = false := by simp; omega
            obtain ⟨hjf, hfn, hsw⟩ := HS.out _ f b HB.out HF.out (.inr hnb) e
            have HSW := Lib.hid hsw
            clear hsw
            go_wp2_with fail
            refine HSW.out.mono ?_
            rintro e w3 ⟨rfl, H3⟩
            go_wp2_with fail
            go_roundw
            case rel => exact ⟨f, rfl, hfn, H3⟩
            case measure => simp [RowKit.intOf]; omega
      · have g1' : ¬ (b : Int) ≤ 2 * (j : Int) + 2 := by omega
        have hjb : 2 * j + 2 < b := by omega
        by_cases e : f = j
        · subst e
          have hee : ((f : Int) == (f : Int)) = true := by simp
          go_wp2_with fail
          (try simp only [Exit.inBlock, Exit.then]); refine bodyPost_ret (results_none rfl _ _ _) rfl ?_
          exact ⟨rfl, HE.out _ b HB.out HF.out (.inl hjb)⟩
        · have hee : ((f : Int) == (j : Int)) = false := by simp; omega
          obtain ⟨hjf, hfn, hsw⟩ := HS.out _ f b HB.out HF.out (.inl hjb) e
          have HSW := Lib.hid hsw
          clear hsw
          go_wp2_with fail
          refine HSW.out.mono ?_
          rintro e w3 ⟨rfl, H3⟩
          go_wp2_with fail
          go_roundw
          case rel => exact ⟨f, rfl, hfn, H3⟩
          case measure => simp [RowKit.intOf]; omega
end Go.Proofs.Ytfbdkafpfminlaa.Heap.Im
