/- The laws' guard: some fixed calls. -/
import Derived.Test.YtidfoflbebampaaPenG
import Derived.Test.YtidfoflbebampaaPenI
namespace Go.Proofs.Ytidfoflbebampaa
open Go.RowKit Go.Lib

theorem a_u : uintB 300 = ⟨#[172, 2]⟩ := by decide +kernel
theorem a_i : intB (-1) = ⟨#[1]⟩ := by decide +kernel
theorem a_t : textB ⟨#[97, 98]⟩ = ⟨#[2, 97, 98]⟩ := by decide +kernel
theorem a_1 : uiN (some ⟨#[172, 2, 1, 2, 97, 98]⟩) 300 = 300 ∧ uiS (some ⟨#[172, 2, 1, 2, 97, 98]⟩) 300 = some ⟨#[1, 2, 97, 98]⟩ := by decide +kernel
theorem a_2 : inN (some ⟨#[1, 2, 97, 98]⟩) = -1 ∧ inS (some ⟨#[1, 2, 97, 98]⟩) = some ⟨#[2, 97, 98]⟩ := by decide +kernel
theorem a_3 : txV (some ⟨#[2, 97, 98]⟩) 9 = ⟨#[97, 98]⟩ ∧ txS (some ⟨#[2, 97, 98]⟩) 9 = some ⟨#[]⟩ := by decide +kernel
theorem a_4 : uiN (some ⟨#[]⟩) 1 = 0 ∧ uiS (some ⟨#[]⟩) 1 = none := by decide +kernel
theorem fit_small {s : ByteArray} (h : s.size ≤ 9223372036854775807) : Fit (some s) := fun t ht => by injection ht with ht; rw [← ht]; exact h
theorem rd_new (w : World) (s : ByteArray) : Rd (w.alloc (.cells (rdCells (some s)) 41)) w.heap.size (some s) := heap_alloc_new w _
theorem below_of_only {w w1 w2 : World} {R : Nat} (hb : Below w.heap.size w w1) (hR : w.heap.size ≤ R) (hg : w1.grownBy w2 (some R)) : Below w.heap.size w w2 :=
  ⟨hg.os.trans hb.os, hg.tape.trans hb.tape, hg.output.trans hb.output, Nat.le_trans hb.size hg.size, fun k hk => (hg.block k (Nat.lt_of_lt_of_le hk hb.size) (by rintro h; injection h with h; omega)).trans (hb.block k hk)⟩
theorem below_then {w w1 w2 : World} (hb : Below w.heap.size w w1) (h : Below w1.heap.size w1 w2) : Below w.heap.size w w2 := hb.trans (h.mono hb.size)

set_option maxRecDepth 100000 in
set_option maxHeartbeats 2000000 in
theorem awake_any (w : World) :
    Calls Try.prog 7 #[] w fun e w' => e = .returned (.bool true) ∧ Below w.heap.size w w' := by
  go_enter Try.func7, Try.ntmps7
  go_wp2_with fail
  refine (new_any ⟨#[172, 2, 1, 2, 97, 98]⟩ _).mono ?_
  rintro e w' ⟨rfl, rfl⟩
  have hb1 : Below w.heap.size w (w.alloc (.cells (rdCells (some ⟨#[172, 2, 1, 2, 97, 98]⟩)) 41)) := (Below.refl _ _).alloc (Nat.le_refl _) _
  have H1 := rd_new w ⟨#[172, 2, 1, 2, 97, 98]⟩
  revert hb1 H1
  generalize w.alloc (.cells (rdCells (some ⟨#[172, 2, 1, 2, 97, 98]⟩)) 41) = w1
  obtain ⟨R, hR⟩ : ∃ R, w.heap.size = R := ⟨_, rfl⟩
  rw [hR]
  have HRR := Lib.hid hR; clear hR
  intro hb1 H1
  go_wp2_with fail
  refine (puint_any 300 _ (by omega)).mono ?_
  rintro e w2 ⟨rfl, hb2⟩
  rw [a_u]
  go_wp2_with fail
  refine (pint_any (-1) _ (by omega) (by omega)).mono ?_
  rintro e w3 ⟨rfl, hb3⟩
  rw [a_i]
  go_wp2_with fail
  refine (ptext_any ⟨#[97, 98]⟩ _ (by decide)).mono ?_
  rintro e w4 ⟨rfl, hb4⟩
  rw [a_t]
  have H4 := ((H1.of_below hb2).of_below hb3).of_below hb4
  go_wp2_with fail
  refine (uint_any R _ 300 _ H4 (fit_small (by decide)) (by omega)).mono ?_
  rintro e w5 ⟨rfl, H5, hg5⟩
  rw [a_1.1]; rw [a_1.2] at H5
  go_wp2_with fail
  refine (int_any R _ _ H5 (fit_small (by decide))).mono ?_
  rintro e w6 ⟨rfl, H6, hg6⟩
  rw [a_2.1]; rw [a_2.2] at H6
  go_wp2_with fail
  refine (text_any R _ 9 _ H6 (fit_small (by decide)) (by omega)).mono ?_
  rintro e w7 ⟨rfl, H7, hg7⟩
  rw [a_3.1]; rw [a_3.2] at H7
  go_wp2_with fail
  refine (done_any R _ _ H7).mono ?_
  rintro e w' ⟨rfl, rfl⟩
  rw [show doneOf (some ⟨#[]⟩) = true from by decide +kernel]
  go_wp2_with fail
  refine (bad_any R _ _ H7).mono ?_
  rintro e w' ⟨rfl, rfl⟩
  go_wp2_with fail
  refine (uint_any R _ 1 _ H7 (fit_small (by decide)) (by omega)).mono ?_
  rintro e w8 ⟨rfl, H8, hg8⟩
  rw [a_4.1]; rw [a_4.2] at H8
  go_wp2_with fail
  refine (bad_any R _ _ H8).mono ?_
  rintro e w' ⟨rfl, rfl⟩
  go_wp2_with fail
  refine (done_any R _ _ H8).mono ?_
  rintro e w' ⟨rfl, rfl⟩
  go_wp2_with fail
  go_ret
  have hR := HRR.out
  subst hR
  have e4 := below_then (below_then (below_then hb1 hb2) hb3) hb4
  exact ⟨rfl, below_of_only (below_of_only (below_of_only (below_of_only e4 (Nat.le_refl _) hg5) (Nat.le_refl _) hg6) (Nat.le_refl _) hg7) (Nat.le_refl _) hg8⟩
end Go.Proofs.Ytidfoflbebampaa
