/- The program's order of those of which most is left: the closure, the library's insertion sort (slices.SortStableFunc of few), mostFirst. -/
import Derived.Test.YtaffdddleegfcaaFeeSort
import Derived.Test.YtaffdddleegfcaaFeeG
import Derived.BigRegion
import Derived.StillTailTactics
namespace Go.Proofs.Ytaffdddleegfcaa.Fee
open Go.RowKit Go.Lib IRows

def cmpI (a b : Int) : Int := if a < b then -1 else if b < a then 1 else 0
theorem cmpI_lt (a b : Int) : cmpI a b < 0 ↔ a < b := by unfold cmpI; split; · simp; assumption
                                                         · split <;> simp <;> omega
theorem nan_no (a : Int) (w : World) : Calls Try.prog 36 #[.int .i64 a] w fun e w' => e = .returned (.bool false) ∧ w = w' := by
  have h : (a != a) = false := by simp
  go_enter Try.func36, Try.ntmps36
  go_wp2_with fail
  go_ret
  exact ⟨rfl, rfl⟩
theorem cmp_any (a b : Int) (w : World) : Calls Try.prog 33 #[.int .i64 a, .int .i64 b] w fun e w' => e = .returned (.int .i64 (cmpI a b)) ∧ w = w' := by
  have hab : (a < b ∧ cmpI a b = -1) ∨ (b < a ∧ cmpI a b = 1) ∨ (a = b ∧ cmpI a b = 0) := by unfold cmpI; by_cases h : a < b
                                                                                             · simp [h]
                                                                                             · by_cases k : b < a
                                                                                               · simp [h, k]
                                                                                               · right; right; simp [h, k]; omega
  obtain ⟨r, hr⟩ : ∃ r, cmpI a b = r := ⟨_, rfl⟩
  rw [hr] at hab ⊢
  clear hr
  have HA := Lib.hid (nan_no a); have HB := Lib.hid (nan_no b)
  rcases hab with ⟨h, rfl⟩ | ⟨h, rfl⟩ | ⟨rfl, rfl⟩
  · have d1 : decide (a < b) = true := decide_eq_true h
    go_enter Try.func33, Try.ntmps33
    go_wp2_with fail
    refine (HA.out _).mono ?_
    rintro e w' ⟨rfl, rfl⟩
    go_wp2_with fail
    refine (HB.out _).mono ?_
    rintro e w' ⟨rfl, rfl⟩
    go_wp2_with fail
    go_ret
    exact ⟨rfl, rfl⟩
  · have d1 : decide (a < b) = false := decide_eq_false (by omega)
    have d2 : decide (b < a) = true := decide_eq_true h
    go_enter Try.func33, Try.ntmps33
    go_wp2_with fail
    refine (HA.out _).mono ?_
    rintro e w' ⟨rfl, rfl⟩
    go_wp2_with fail
    refine (HB.out _).mono ?_
    rintro e w' ⟨rfl, rfl⟩
    go_wp2_with fail
    go_ret
    exact ⟨rfl, rfl⟩
  · have d1 : decide (a < a) = false := decide_eq_false (by omega)
    go_enter Try.func33, Try.ntmps33
    go_wp2_with fail
    refine (HA.out _).mono ?_
    rintro e w' ⟨rfl, rfl⟩
    go_wp2_with fail
    refine (HB.out _).mono ?_
    rintro e w' ⟨rfl, rfl⟩
    go_wp2_with fail
    go_ret
    exact ⟨rfl, rfl⟩
/-! The closure by which places are sorted -/
set_option maxRecDepth 100000 in
set_option maxHeartbeats 2000000 in
theorem closure_im (r : List Int) (ar : Option Addr) (m cr b x y : Nat) (w : World) (hm : r.length = m) (hb : w.cell? ⟨b, 0, none⟩ = some (.slice ar m cr)) (hr : IRow w ar r) (hx : x < m) (hy : y < m) :
    Calls Try.prog 32 #[.int .i64 (x : Nat), .int .i64 (y : Nat), .pointer (some ⟨b, 0, none⟩)] w fun e w' => e = .returned (.int .i64 (cmpI (nth r y) (nth r x))) ∧ Below w.heap.size w w' := by
  obtain ⟨g, off, rfl, hg, k0⟩ := hr x _ (nth_some (by omega))
  obtain ⟨g', off', e, hg', k1⟩ := hr y _ (nth_some (by omega))
  cases e
  obtain ⟨u, hu⟩ : ∃ u, nth r x = u := ⟨_, rfl⟩
  obtain ⟨v, hv⟩ : ∃ v, nth r y = v := ⟨_, rfl⟩
  rw [hu] at k0
  rw [hv] at k1
  rw [hu, hv]
  have x0 : (0 : Int) ≤ (x : Int) := by omega
  have y0 : (0 : Int) ≤ (y : Int) := by omega
  have x1 : (x : Int) < (m : Int) := by omega
  have y1 : (y : Int) < (m : Int) := by omega
  have HC := Lib.hid (cmp_any v u)
  clear hm hr hg hg' hu hv
  go_enter Try.func32, Try.ntmps32
  go_wp2_with fail
  go_still_tail 8, (by kernel_rfl)
  change wpList _ _ _ _ _ w.drew
  go_wp2_with (go_at_call 33; refine (HC.out _).mono ?_; rintro e w' ⟨rfl, rfl⟩)
  go_ret
  exact ⟨rfl, (Below.refl _ w).drew⟩
/-- Places as ints. -/
abbrev ints (l : List Nat) : List Int := l.map fun k : Nat => (k : Int)
theorem ints_at {l : List Nat} {i k : Nat} (h : l[i]? = some k) : (ints l)[i]? = some (k : Int) := by unfold ints; rw [List.getElem?_map, h]; rfl
set_option maxRecDepth 100000 in
set_option maxHeartbeats 8000000 in
theorem insert_im (r : List Int) (n g c b : Nat) (w : World) (hr : r.length = n) (n0 : 1 ≤ n) (n1 : n ≤ 1048576)
    (h : KS w 0 (.slice (some ⟨g, 0, none⟩) n c) (ints (List.range n)))
    (hf : ∀ (W : World) (x y : Nat), w.grownBy W (some g) → x < n → y < n → Calls Try.prog 32 #[.int .i64 (x : Nat), .int .i64 (y : Nat), .pointer (some ⟨b, 0, none⟩)] W fun e w' => e = .returned (.int .i64 (cmpI (nth r y) (nth r x))) ∧ Below W.heap.size W w') :
    Calls Try.prog 38 #[.slice (some ⟨g, 0, none⟩) n c, .int .i64 0, .int .i64 (n : Nat), .func (.func 32) #[] #[.pointer (some ⟨b, 0, none⟩)]] w fun e w' => e = .returned (.tuple #[]) ∧ KS w' 0 (.slice (some ⟨g, 0, none⟩) n c) (ints (ordF r)) ∧ w.grownBy w' (some g) := by
  have HR := Lib.hid hr
  have hn1 : (n : Int) ≤ 1048576 := by omega
  have HF : Hid (∀ (W : World) (x y : Nat) (z : Int), w.grownBy W (some g) → x < n → y < n → cmpI (nth r y) (nth r x) = z → Calls Try.prog 32 #[.int .i64 (x : Nat), .int .i64 (y : Nat), .pointer (some ⟨b, 0, none⟩)] W fun e w' => e = .returned (.int .i64 z) ∧ Hid (Below W.heap.size W w')) := Lib.hid (fun W x y z hW hx hy hz => by
    subst hz
    exact (hf W x y hW hx hy).mono fun e w' ⟨he, hb⟩ => ⟨he, Lib.hid hb⟩)
  have H0 := Lib.hid h
  have HN := Lib.hid n0
  clear hr n0 n1 h hf
  go_enter Try.func38, Try.ntmps38
  go_wp2_with fail
  go_loopw [8] (fun t wr => ∃ (i : Nat) (l : List Nat), t = .int .i64 i ∧ 1 ≤ i ∧ i ≤ n ∧ Hid (Far r n i l) ∧ Hid (KS wr 0 (.slice (some ⟨g, 0, none⟩) n c) (ints l)) ∧ Hid (w.grownBy wr (some g))) (fun t _ => n - (RowKit.intOf t).toNat)
  case atStart => exact ⟨1, List.range n, rfl, by omega, HN.out, Lib.hid (far_start r n HN.out), H0, Lib.hid (only_refl _ _)⟩
  case round =>
    obtain ⟨i, l, rfl, hi1, hi, HFA, HK, HG⟩ := hrel
    have hi0 : (0 : Int) ≤ (i : Int) := by omega
    by_cases hlt : i < n
    · have hlt2 : (i : Int) < (n : Int) := by omega
      have dlt : decide ((i : Int) < (n : Int)) = true := decide_eq_true hlt2
      have HW := Lib.hid (far_way HFA.out hlt)
      go_wp2_with fail
      go_loopw [9] (fun t wx => ∃ (j : Nat) (l : List Nat), t = .int .i64 j ∧ j ≤ i ∧ Hid (Way r n i j l) ∧ Hid (KS wx 0 (.slice (some ⟨g, 0, none⟩) n c) (ints l)) ∧ Hid (w.grownBy wx (some g))) (fun t _ => (RowKit.intOf t).toNat)
      case atStart => exact ⟨i, l, rfl, Nat.le_refl _, HW, HK, HG⟩
      case round =>
        clear HFA HW HK HG
        obtain ⟨j, l, rfl, hj, HW, HK, HG⟩ := hrel
        rcases j with _ | j
        · have HE := Lib.hid (way_end HW.out)
          go_wp2_with fail
          go_quiet (fail)
          go_wp2_with fail
          go_roundw
          case rel => exact ⟨i + 1, l, by go_num, by omega, by omega, HE, Lib.hid (HK.out.under (below_drewN (Below.refl _ _) _)), Lib.hid (only_drewN HG.out _)⟩
          case measure => simp [RowKit.intOf]; omega
        · have hst := way_step HW.out
          obtain ⟨hln, hjn, hall⟩ := way_lt HW.out hlt
          obtain ⟨k, hk⟩ : ∃ k, j + 1 = k := ⟨_, rfl⟩
          rw [hk] at hst hj hjn ⊢
          obtain ⟨hl1, y, hl0, hyi, hw1, hw2⟩ := hst
          have hkj : IntKind.i64.wrap ((k : Int) - 1) = (j : Int) := by rw [IntWalk.i64_in _ (by omega)]; omega
          have hk0 : (0 : Int) ≤ (k : Int) := by omega
          have hk1 : (k : Int) < (n : Int) := by omega
          have hj0 : (0 : Int) ≤ (j : Int) := by omega
          have hj1 : (j : Int) < (n : Int) := by omega
          have dk : decide ((0 : Int) < (k : Int)) = true := decide_eq_true (by omega)
          have dk2 : decide (0 < k) = true := decide_eq_true (by omega)
          have HX : Hid (∀ W, Below wr.heap.size wr W → KS W 0 (.slice (some ⟨g, 0, none⟩) n c) (ints l) ∧ w.grownBy W (some g)) := Lib.hid (fun W hW => ⟨HK.out.under hW, only_trans HG.out ⟨hW.os, hW.tape, hW.output, hW.size, fun q hq _ => hW.block q hq⟩⟩)
          have HCE : Hid (∀ W, Below wr.heap.size wr W → W.cell? ⟨g, k, none⟩ = some (.int .i64 (i : Nat)) ∧ W.frozen? ⟨g, k, none⟩ = false ∧ W.cell? ⟨g, j, none⟩ = some (.int .i64 (y : Nat)) ∧ W.frozen? ⟨g, j, none⟩ = false) := Lib.hid (fun W hW => by
            obtain ⟨a3, c4, e3, _, h3⟩ := (HX.out W hW).1.at
            injection e3 with e3 _ _
            subst e3
            obtain ⟨q, e, _, h5, h6⟩ := h3 k _ (ints_at hl1)
            cases e
            obtain ⟨q, e, _, h7, h8⟩ := h3 j _ (ints_at hl0)
            cases e
            exact ⟨h5, h6, h7, h8⟩)
          obtain ⟨z, hz⟩ : ∃ z, cmpI (nth r y) (nth r i) = z := ⟨_, rfl⟩
          have HC := Lib.hid (HF.out wr.drew i y z (HX.out _ ((Below.refl _ wr).drew)).2 hlt (by omega) hz)
          have hzl : z < 0 ↔ nth r y < nth r i := by rw [← hz]; exact cmpI_lt _ _
          obtain ⟨a0, f0, a1, f1⟩ := HCE.out wr (Below.refl _ _)
          by_cases c1 : z < 0
          · have HW1 := Lib.hid (hw1 (hzl.1 c1))
            have dz : decide (z < 0) = true := decide_eq_true c1
            have HXX : Hid (∀ W, Below wr.heap.size wr W → KS ((W.setCell ⟨g, k, none⟩ (.int .i64 (y : Nat))).setCell ⟨g, j, none⟩ (.int .i64 (i : Nat))) 0 (.slice (some ⟨g, 0, none⟩) n c) (ints ((l.set k y).set j i)) ∧ w.grownBy ((W.setCell ⟨g, k, none⟩ (.int .i64 (y : Nat))).setCell ⟨g, j, none⟩ (.int .i64 (i : Nat))) (some g) ∧ (W.setCell ⟨g, k, none⟩ (.int .i64 (y : Nat))).cell? ⟨g, j, none⟩ = some (.int .i64 (y : Nat))) := Lib.hid (fun W hW => by
              obtain ⟨h1, h2⟩ := HX.out W hW
              refine ⟨?_, only_setCell (only_setCell h2 _ _) _ _, ?_⟩
              · have h3 := (set_int (set_int h1 k (y : Nat)).1 j (i : Nat)).1
                rw [ints, List.map_set, List.map_set]
                exact h3
              · exact (World.cell?_setCell_other _ ⟨g, k, none⟩ ⟨g, j, none⟩ _ (fun h => by injection h with _ h; omega)).trans (HCE.out W hW).2.2.1)
            clear hw1 hw2 hzl hz hl0 hl1 hall hln HW HK HG
            go_wp2_with fail
            go_still_tail 14, (by kernel_rfl)
            change wpList _ _ _ _ _ wr.drew
            go_wp2_with fail
            refine HC.out.mono ?_
            rintro e w1 ⟨rfl, HB⟩
            have HB1 : Hid (Below wr.heap.size wr w1) := Lib.hid (((Below.refl _ wr).drew).trans HB.out)
            obtain ⟨b0, g0, b1, g1⟩ := HCE.out w1 HB1.out
            obtain ⟨r1, r2, r3⟩ := HXX.out w1 HB1.out
            have HR1 := Lib.hid r1; have HR2 := Lib.hid r2
            clear a0 f0 a1 f1 r1 r2
            go_wp2_with fail
            go_region
            go_wp2_with fail
            go_roundw
            case rel => exact ⟨j, _, by go_num, by omega, HW1, Lib.hid (HR1.out.under (below_drewN (Below.refl _ _) 1)), Lib.hid (only_drewN HR2.out 1)⟩
            case measure => simp [RowKit.intOf]; omega
          · have HW1 := Lib.hid (hw2 (fun h => c1 (hzl.2 h)))
            have dz : decide (z < 0) = false := decide_eq_false c1
            clear hw1 hw2 hzl hz hl0 hl1 hall hln HW HK HG
            go_wp2_with fail
            go_still_tail 14, (by kernel_rfl)
            change wpList _ _ _ _ _ wr.drew
            go_wp2_with fail
            refine HC.out.mono ?_
            rintro e w1 ⟨rfl, HB⟩
            have HB1 : Hid (Below wr.heap.size wr w1) := Lib.hid (((Below.refl _ wr).drew).trans HB.out)
            obtain ⟨r1, r2⟩ := HX.out w1 HB1.out
            have HR1 := Lib.hid r1; have HR2 := Lib.hid r2
            clear a0 f0 a1 f1 r1 r2
            go_wp2_with fail
            go_roundw
            case rel => exact ⟨i + 1, l, by go_num, by omega, by omega, HW1, HR1, HR2⟩
            case measure => simp [RowKit.intOf]; omega
    · obtain rfl : i = n := by omega
      have HE : Hid (KS wr 0 (.slice (some ⟨g, 0, none⟩) i c) (ints (ordF r))) := Lib.hid (by rw [← far_end HR.out HFA.out]; exact HK.out)
      go_wp2_with fail
      go_end0
      exact ⟨rfl, HE.out, HG.out⟩
set_option maxRecDepth 100000 in
set_option maxHeartbeats 4000000 in
theorem stable_im (r : List Int) (n g c b : Nat) (w : World) (hr : r.length = n) (n0 : 1 ≤ n) (n1 : n ≤ 16)
    (h : KS w 0 (.slice (some ⟨g, 0, none⟩) n c) (ints (List.range n)))
    (hf : ∀ (W : World) (x y : Nat), w.grownBy W (some g) → x < n → y < n → Calls Try.prog 32 #[.int .i64 (x : Nat), .int .i64 (y : Nat), .pointer (some ⟨b, 0, none⟩)] W fun e w' => e = .returned (.int .i64 (cmpI (nth r y) (nth r x))) ∧ Below W.heap.size W w') :
    Calls Try.prog 35 #[.slice (some ⟨g, 0, none⟩) n c, .int .i64 (n : Nat), .func (.func 32) #[] #[.pointer (some ⟨b, 0, none⟩)]] w fun e w' => e = .returned (.tuple #[]) ∧ KS w' 0 (.slice (some ⟨g, 0, none⟩) n c) (ints (ordF r)) ∧ w.grownBy w' (some g) := by
  have HI := Lib.hid (insert_im r n g c b w hr n0 (by omega) h hf)
  have d1 : decide ((20 : Int) ≤ (n : Int)) = false := decide_eq_false (by omega)
  have d2 : decide (20 ≤ n) = false := decide_eq_false (by omega)
  have d3 : decide ((20 : Int) < (n : Int)) = false := decide_eq_false (by omega)
  have d4 : decide (20 < n) = false := decide_eq_false (by omega)
  have e1 : ¬ 20 ≤ n := by omega
  have e2 : ¬ 20 < n := by omega
  clear hr n0 n1 h hf
  go_enter Try.func35, Try.ntmps35
  go_wp2_with fail
  refine wp_loop_rounds 1 ?_; rw [rounds_succ]
  go_wp2_with fail
  refine HI.out.mono ?_
  rintro e w' ⟨rfl, h1, h2⟩
  have H1 := Lib.hid h1; have H2 := Lib.hid h2
  clear h1 h2
  go_wp2_with fail
  refine wp_loop_rounds 1 ?_; rw [rounds_succ]
  go_wp2_with fail
  go_end0
  exact ⟨rfl, H1.out, H2.out⟩
set_option maxRecDepth 100000 in
set_option maxHeartbeats 1000000 in
theorem sort_im (r : List Int) (n g c b : Nat) (w : World) (hr : r.length = n) (n0 : 1 ≤ n) (n1 : n ≤ 16)
    (h : KS w 0 (.slice (some ⟨g, 0, none⟩) n c) (ints (List.range n)))
    (hf : ∀ (W : World) (x y : Nat), w.grownBy W (some g) → x < n → y < n → Calls Try.prog 32 #[.int .i64 (x : Nat), .int .i64 (y : Nat), .pointer (some ⟨b, 0, none⟩)] W fun e w' => e = .returned (.int .i64 (cmpI (nth r y) (nth r x))) ∧ Below W.heap.size W w') :
    Calls Try.prog 31 #[.slice (some ⟨g, 0, none⟩) n c, .func (.func 32) #[] #[.pointer (some ⟨b, 0, none⟩)]] w fun e w' => e = .returned (.tuple #[]) ∧ KS w' 0 (.slice (some ⟨g, 0, none⟩) n c) (ints (ordF r)) ∧ w.grownBy w' (some g) := by
  have HI := Lib.hid (stable_im r n g c b w hr n0 n1 h hf)
  clear hr n0 n1 h hf
  go_enter Try.func31, Try.ntmps31
  go_wp2_with fail
  refine HI.out.mono ?_
  rintro e w' ⟨rfl, h1, h2⟩
  go_wp2_with fail
  go_end0
  exact ⟨rfl, h1, h2⟩
end Go.Proofs.Ytaffdddleegfcaa.Fee
