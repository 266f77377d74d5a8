/- The document's in, may, slots, line, find, put, without. -/
import Derived.Test.YtokkefokodcphaaBayDn
import Derived.Test.YtokkefokodcphaaBayImN
namespace Go.Proofs.Ytokkefokodcphaa.Bay
open Go.RowKit Go.Lib IRows

set_option maxRecDepth 100000 in
theorem din_im (a : Option Addr) (n c : Nat) (l : List Int) (x : Int) (w : World) (hl : l.length = n) (hs : IRow w a l) (hn : n ≤ 1000) :
    Calls Try.prog 25 #[.slice a n c, .int .i64 x] w fun e w' => e = .returned (.bool (decide (x ∈ l))) ∧ w = w' := by
  have HC := irow_all hs
  have HL := Lib.hid hl
  have hn1 : (n : Int) ≤ 1000 := by omega
  clear hs hn hl
  go_enter Try.func25, Try.ntmps25
  go_wp2_with fail
  go_loopw [5] (fun s wr => ∃ i : Nat, s = .int .i64 i ∧ i ≤ n ∧ w = wr ∧ Hid (x ∉ l.take i)) (fun s _ => n - (RowKit.intOf s).toNat)
  case atStart => exact ⟨0, rfl, by omega, rfl, Lib.hid (by simp)⟩
  case round =>
    obtain ⟨i, rfl, hi, rfl, HI⟩ := hrel
    have hi0 : (0 : Int) ≤ (i : Int) := by omega
    by_cases hlt : i < n
    · have hlt2 : (i : Int) < (n : Int) := by omega
      obtain ⟨g, off, v, rfl, hv, HQ⟩ := HC.out i (by rw [HL.out]; exact hlt)
      have q0 := HQ.out w (Below.refl _ _)
      by_cases c1 : x = v
      · have HF : Hid (x ∈ l) := Lib.hid (by rw [c1]; exact List.mem_of_getElem? hv.out)
        have c1b : (v == x) = true := by simpa using c1.symm
        clear c1
        go_wp2_with fail
        go_ret
        exact ⟨by rw [decide_eq_true HF.out]; rfl, rfl⟩
      · have HF : Hid (x ∉ l.take (i + 1)) := Lib.hid (not_take hv.out HI.out c1)
        have c1b : (v == x) = false := by simpa using fun e : v = x => c1 e.symm
        clear c1
        go_wp2_with fail
        go_roundw
        case rel => exact ⟨i + 1, by go_num, by omega, by first | rfl | trivial, HF⟩
        case measure => simp [RowKit.intOf]; omega
    · obtain rfl : i = n := by omega
      have HF : Hid (x ∉ l) := Lib.hid (by
        have := HI.out
        rwa [List.take_of_length_le (by rw [HL.out]; exact Nat.le_refl _)] at this)
      go_wp2_with fail
      go_ret
      exact ⟨by rw [decide_eq_false HF.out]; rfl, rfl⟩
open Classical in
set_option maxRecDepth 100000 in
set_option maxHeartbeats 1000000 in
theorem dmay_im (a : Option Addr) (n c : Nat) (l : List By) (w : World) (hl : l.length = n) (hs : ByAt w a l) (hn : n ≤ 1000) :
    Calls Try.prog 23 #[.slice a n c] w fun e w' => e = .returned (.bool (decide (MayB l))) ∧ w = w' := by
  have HC : Hid (∀ k, k < n → ∃ g off y, a = some ⟨g, off, none⟩ ∧ Hid (l[k]? = some y) ∧ w.cell? ⟨g, off + k * 4 + 1, none⟩ = some (.int .i64 y.mf) ∧ w.cell? ⟨g, off + k * 4 + 2, none⟩ = some (.int .i64 y.lb)) := Lib.hid (fun k hk => by
    have hy := List.getElem?_eq_getElem (l := l) (i := k) (by omega)
    obtain ⟨g, off, e, _, h0, h1, h2, h3⟩ := hs k _ hy
    exact ⟨g, off, _, e, Lib.hid hy, h1, h2⟩)
  have HM : Hid (∀ y k, l[k]? = some y → ¬ OkBy y → ¬ MayB l) := Lib.hid (fun y k hy hn h => hn (h.2 y (List.mem_of_getElem? hy)))
  have HT : Hid (l.take n = l ∧ l.length = n) := Lib.hid ⟨List.take_of_length_le (by omega), hl⟩
  have hn1 : (n : Int) ≤ 1000 := by omega
  clear hl hs hn
  go_enter Try.func23, Try.ntmps23
  go_wp2_with fail
  go_loopw [3] (fun s wr => ∃ i : Nat, s = .int .i64 i ∧ i ≤ n ∧ w = wr ∧ Hid (∀ y ∈ l.take i, OkBy y)) (fun s _ => n - (RowKit.intOf s).toNat)
  case atStart => exact ⟨0, rfl, by omega, rfl, Lib.hid (fun y hy => by simp at hy)⟩
  case round =>
    obtain ⟨i, rfl, hi, rfl, HO⟩ := hrel
    have hi0 : (0 : Int) ≤ (i : Int) := by omega
    by_cases hlt : i < n
    · have hlt2 : (i : Int) < (n : Int) := by omega
      obtain ⟨g, off, y, rfl, hy, q1, q2⟩ := HC.out i hlt
      by_cases c : OkBy y
      · have HO2 : Hid (∀ y ∈ l.take (i + 1), OkBy y) := Lib.hid (fun z hz => by
          rw [List.take_add_one, hy.out] at hz
          rcases List.mem_append.1 hz with hz | hz
          · exact HO.out z hz
          · have : z = y := by simpa using hz
            subst this
            exact c)
        obtain ⟨⟨c1, c2⟩, c3, c4⟩ := c
        have d1 : decide (y.mf < 0) = false := decide_eq_false (by omega)
        have d2 : decide (8 < y.mf) = false := decide_eq_false (by omega)
        have d3 : decide (y.lb < 0) = false := decide_eq_false (by omega)
        have d4 : decide (8 < y.lb) = false := decide_eq_false (by omega)
        clear c1 c2 c3 c4
        go_wp2_with fail
        go_roundw
        case rel => exact ⟨i + 1, by go_num, by omega, by first | rfl | trivial, HO2⟩
        case measure => simp [RowKit.intOf]; omega
      · have HN := Lib.hid (HM.out y i hy.out c)
        have hcase : (decide (y.mf < 0) = true) ∨ (decide (y.mf < 0) = false ∧ decide (8 < y.mf) = true) ∨ (decide (y.mf < 0) = false ∧ decide (8 < y.mf) = false ∧ decide (y.lb < 0) = true) ∨ (decide (y.mf < 0) = false ∧ decide (8 < y.mf) = false ∧ decide (y.lb < 0) = false ∧ decide (8 < y.lb) = true) := by
          simp only [decide_eq_true_eq, decide_eq_false_iff_not]
          unfold OkBy at c
          omega
        clear c
        rcases hcase with d1 | ⟨d1, d2⟩ | ⟨d1, d2, d3⟩ | ⟨d1, d2, d3, d4⟩
        all_goals
          go_wp2_with fail
          go_ret
          exact ⟨by rw [decide_eq_false HN.out]; rfl, rfl⟩
    · obtain rfl : i = n := by omega
      have HE : Hid (decide ((i : Int) ≤ 8) = decide (MayB l)) := Lib.hid (by
        rw [decide_eq_decide]
        have hO := HO.out
        rw [HT.out.1] at hO
        unfold MayB
        rw [HT.out.2]
        exact ⟨fun h => ⟨by omega, hO⟩, fun h => by have := h.1; omega⟩)
      go_wp2_with fail
      go_ret
      exact ⟨by rw [← HE.out]; rfl, rfl⟩
/-- How many may run at a line. -/
def slotOf (l : List By) (k : Nat) : Int := match l[k / 2]? with
  | none => 0
  | some y => if k % 2 = 0 then y.mf else y.lb
set_option maxRecDepth 100000 in
theorem dslots_im (a : Option Addr) (n c : Nat) (x : Value) (l : List By) (k : Nat) (w : World) (hl : l.length = n) (hs : ByAt w a l) (hk : k < 2 * n) (hn : n ≤ 1000) (da : Option Addr) (dn dc : Nat) (hx : x = .slice da dn dc) :
    Calls Try.prog 24 #[.agg #[.slice a n c, x], .int .i64 k] w fun e w' => e = .returned (.int .i64 (slotOf l k)) ∧ Below w.heap.size w w' := by
  subst hx
  obtain ⟨Y, hY⟩ : ∃ Y, w.alloc (.cells #[.slice a n c, .slice da dn dc] 32) = Y := ⟨_, rfl⟩
  obtain ⟨U, hU⟩ : ∃ U, w.heap.size = U := ⟨_, rfl⟩
  have hB : Below w.heap.size w Y := by rw [← hY]; exact (Below.refl _ _).alloc (Nat.le_refl _) _
  have hb : Y.heap[U]? = some (.cells #[.slice a n c, .slice da dn dc] 32 (0, 0)) := by rw [← hY, ← hU]; exact heap_alloc_new w _
  have u0 := cell_block (j := 0) hb rfl
  have hk2 : k / 2 < n := by omega
  have hy := List.getElem?_eq_getElem (l := l) (i := k / 2) (by omega)
  obtain ⟨g, off, rfl, _, h0, h1, h2, h3⟩ := (hs.under hB) _ _ hy
  obtain ⟨y, hyy⟩ : ∃ y, l[k / 2] = y := ⟨_, rfl⟩
  rw [hyy] at h1 h2 hy
  have HB := Lib.hid hB
  have w1 : (k : Int).tdiv 2 = ((k / 2 : Nat) : Int) := by rw [Int.tdiv_eq_ediv_of_nonneg (by omega)]; omega
  have w2 : (k : Int).tmod 2 = ((k % 2 : Nat) : Int) := by rw [Int.tmod_eq_emod_of_nonneg (by omega)]; omega
  have hn1 : (n : Int) ≤ 1000 := by omega
  obtain ⟨t, ht⟩ : ∃ t, k / 2 = t := ⟨_, rfl⟩
  have HS : Hid (slotOf l k = if k % 2 = 0 then y.mf else y.lb) := Lib.hid (by unfold slotOf; rw [hy])
  rw [ht] at hk2 h1 h2 w1
  have hk3 : (t : Int) < (n : Int) := by omega
  have hk4 : (0 : Int) ≤ (t : Int) := by omega
  by_cases h : k % 2 = 0
  · have HE : Hid (slotOf l k = y.mf) := Lib.hid (by rw [HS.out, if_pos h])
    rw [h] at w2
    clear hb hl hs hk hn hB hy hyy ht h h0 h3
    go_enter Try.func24, Try.ntmps24
    go_wp2_with fail
    clear hY
    go_ret
    exact ⟨by rw [HE.out]; rfl, HB.out⟩
  · have h1' : k % 2 = 1 := by omega
    have HE : Hid (slotOf l k = y.lb) := Lib.hid (by rw [HS.out, if_neg h])
    rw [h1'] at w2
    clear hb hl hs hk hn hB hy hyy ht h h1' h0 h3
    go_enter Try.func24, Try.ntmps24
    go_wp2_with fail
    clear hY
    go_ret
    exact ⟨by rw [HE.out]; rfl, HB.out⟩
end Go.Proofs.Ytokkefokodcphaa.Bay
