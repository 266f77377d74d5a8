/- Package pen: the small functions walked: places of numbers, which byte may end a number, and the reader's block in memory. -/
import Derived.Test.YtidfoflbebampaaRows
import Derived.Test.YtidfoflbebampaaPenMath
import Derived.WalkKit
import Derived.WalkSpells
import Derived.WalkLawsBesides
import Derived.RegionTactic
import Derived.Deep.QuietTactic
import Derived.BigQuiet
import Derived.Deep.AppendLies
import Derived.Lib.Hide
namespace Go.Proofs.Ytidfoflbebampaa
open Go.RowKit Go.Lib

theorem ret_u64 {a b : Int} (h : a = b) : Ending.returned (.int .u64 a) = .returned (.int .u64 b) := by rw [h]
theorem ret_i64 {a b : Int} (h : a = b) : Ending.returned (.int .i64 a) = .returned (.int .i64 b) := by rw [h]
theorem ret_str {a b : ByteArray} (h : a = b) : Ending.returned (.string a) = .returned (.string b) := by rw [h]
theorem ret_bool {a b : Bool} (h : a = b) : Ending.returned (.bool a) = .returned (.bool b) := by rw [h]

set_option maxHeartbeats 400000 in
theorem mayEnd_yes (b i : Int) (w : World) (h0 : 0 ≤ b) (h1 : b ≤ 127) (h2 : 0 ≤ i) (h3 : i ≤ 9) (h : ¬ ((b = 0 ∧ 0 < i) ∨ (i = 9 ∧ 1 < b))) :
    Calls Try.prog 38 #[.int .u8 b, .int .i64 i] w fun e w' => e = .returned (.bool true) ∧ w = w' := by
  by_cases hb : b = 0
  · have hi : decide (0 < i) = false := by simp; omega
    have h9 : decide (i < 9) = true := by simp; omega
    have hB : (b == 0) = true := by simp [hb]
    clear hb h
    go_enter Try.func38, Try.ntmps38
    go_wp2
    go_ret
    exact ⟨rfl, rfl⟩
  · have hB : (b == 0) = false := by simp [hb]
    by_cases h9 : i < 9
    · have hd : decide (i < 9) = true := by simp [h9]
      clear hb h
      go_enter Try.func38, Try.ntmps38
      go_wp2
      go_ret
      exact ⟨rfl, rfl⟩
    · have hd : decide (i < 9) = false := by simp; omega
      have hB1 : (b == 1) = true := by simp; omega
      clear hb h
      go_enter Try.func38, Try.ntmps38
      go_wp2
      go_ret
      exact ⟨rfl, rfl⟩
set_option maxHeartbeats 400000 in
theorem mayEnd_no (b i : Int) (w : World) (h0 : 0 ≤ b) (h1 : b ≤ 127) (h2 : 0 ≤ i) (h3 : i ≤ 9) (h : (b = 0 ∧ 0 < i) ∨ (i = 9 ∧ 1 < b)) :
    Calls Try.prog 38 #[.int .u8 b, .int .i64 i] w fun e w' => e = .returned (.bool false) ∧ w = w' := by
  by_cases hb : b = 0
  · have hi : decide (0 < i) = true := by simp; omega
    have hB : (b == 0) = true := by simp [hb]
    clear hb h
    go_enter Try.func38, Try.ntmps38
    go_wp2
    go_ret
    exact ⟨rfl, rfl⟩
  · have hB : (b == 0) = false := by simp [hb]
    have hd : decide (i < 9) = false := by simp; omega
    have hB1 : (b == 1) = false := by simp; omega
    clear hb h
    go_enter Try.func38, Try.ntmps38
    go_wp2
    go_ret
    exact ⟨rfl, rfl⟩

theorem wrap_u64_ (n : Int) : IntKind.u64.wrap n = n % 18446744073709551616 := by simp [IntKind.wrap, IntKind.bits, IntKind.signed]
set_option maxHeartbeats 400000 in
theorem place_any (n : Int) (w : World) (a1 : -9223372036854775808 ≤ n) (a2 : n ≤ 9223372036854775807) :
    Calls Try.prog 30 #[.int .i64 n] w fun e w' => e = .returned (.int .u64 (placeOf n)) ∧ w = w' := by
  by_cases hneg : n < 0
  · have hb := i64_not_neg n hneg a1
    have hd : decide (n < 0) = true := by simp [hneg]
    go_enter Try.func30, Try.ntmps30
    go_wp2
    go_ret
    exact ⟨ret_u64 (by unfold placeOf; rw [wrap_u64_, wrap_u64_, wrap_u64_, if_pos (by omega)]; omega), rfl⟩
  · have hd : decide (n < 0) = false := by simp; omega
    go_enter Try.func30, Try.ntmps30
    go_wp2
    go_ret
    exact ⟨ret_u64 (by unfold placeOf; rw [if_neg (by omega)]; omega), rfl⟩
set_option maxHeartbeats 400000 in
theorem rplace_any (n : Int) (w : World) (a1 : -9223372036854775808 ≤ n) (a2 : n ≤ 9223372036854775807) :
    Calls Try.prog 31 #[.int .i64 n] w fun e w' => e = .returned (.int .u64 (placeOf n)) ∧ w = w' := by
  by_cases hneg : n < 0
  · have hd : decide (0 ≤ n) = false := by simp; omega
    go_enter Try.func31, Try.ntmps31
    go_wp2
    go_ret
    exact ⟨ret_u64 (by unfold placeOf; rw [if_pos (by omega)]; omega), rfl⟩
  · have hd : decide (0 ≤ n) = true := by simp; omega
    go_enter Try.func31, Try.ntmps31
    go_wp2
    go_ret
    exact ⟨ret_u64 (by unfold placeOf; rw [if_neg (by omega)]; omega), rfl⟩
theorem placeOf_lt (n : Int) (a1 : -9223372036854775808 ≤ n) (a2 : n ≤ 9223372036854775807) : placeOf n < 18446744073709551616 := by
  unfold placeOf; split <;> omega
theorem not_half (m : Nat) (h : m < 18446744073709551616) : bits .xor .i64 (-1) ((m : Int) / 2) = -1 - (m / 2 : Nat) := by
  have := i64_not (m / 2) (by omega)
  exact_mod_cast this
set_option maxHeartbeats 400000 in
theorem placed_any (m : Nat) (w : World) (h : m < 18446744073709551616) :
    Calls Try.prog 36 #[.int .u64 m] w fun e w' => e = .returned (.int .i64 (placedOf m)) ∧ w = w' := by
  by_cases h1 : m % 2 = 1
  · have hb := not_half m h
    have hd : ((m : Int) % 2 == 1) = true := by simp; omega
    go_enter Try.func36, Try.ntmps36
    go_wp2
    go_ret
    exact ⟨ret_i64 (by unfold placedOf; rw [if_pos h1]; omega), rfl⟩
  · have hd : ((m : Int) % 2 == 1) = false := by simp; omega
    go_enter Try.func36, Try.ntmps36
    go_wp2
    go_ret
    exact ⟨ret_i64 (by unfold placedOf; rw [if_neg h1]; omega), rfl⟩

/-- A reader's block: what is left, or that it is bad. -/
def rdCells : Option ByteArray → Array Value
  | some s => #[.string s, .bool true]
  | none => #[.string ⟨#[]⟩, .bool false]
def Rd (w : World) (R : Nat) (st : Option ByteArray) : Prop := w.heap[R]? = some (.cells (rdCells st) 41 (0, 0))
theorem cell_block {w : World} {R : Nat} {cs : Array Value} {t : TypeId} {j : Nat} {v : Value} (h : w.heap[R]? = some (.cells cs t (0, 0))) (hj : cs[j]? = some v) : w.cell? ⟨R, j, none⟩ = some v := by
  rw [cell_of_row w R j cs t (0, 0) h, hj]
theorem free_block {w : World} {R : Nat} {cs : Array Value} {t : TypeId} (j : Nat) (h : w.heap[R]? = some (.cells cs t (0, 0))) : w.frozen? ⟨R, j, none⟩ = false := by simp [World.frozen?, h]
theorem Rd.good {w : World} {R : Nat} {s : ByteArray} (h : Rd w R (some s)) : w.cell? ⟨R, 0, none⟩ = some (.string s) ∧ w.cell? ⟨R, 1, none⟩ = some (.bool true) ∧ w.frozen? ⟨R, 0, none⟩ = false ∧ w.frozen? ⟨R, 1, none⟩ = false :=
  ⟨cell_block h rfl, cell_block h rfl, free_block 0 h, free_block 1 h⟩
theorem Rd.bad {w : World} {R : Nat} (h : Rd w R none) : w.cell? ⟨R, 0, none⟩ = some (.string ⟨#[]⟩) ∧ w.cell? ⟨R, 1, none⟩ = some (.bool false) ∧ w.frozen? ⟨R, 0, none⟩ = false ∧ w.frozen? ⟨R, 1, none⟩ = false :=
  ⟨cell_block h rfl, cell_block h rfl, free_block 0 h, free_block 1 h⟩
theorem Rd.lt {w : World} {R : Nat} {st : Option ByteArray} (h : Rd w R st) : R < w.heap.size := by
  rcases Nat.lt_or_ge R w.heap.size with h' | h'
  · exact h'
  · unfold Rd at h; simp [Array.getElem?_eq_none h'] at h
theorem Rd.spoilt {w : World} {R : Nat} {st : Option ByteArray} (h : Rd w R st) : Rd ((w.setCell ⟨R, 0, none⟩ (.string ⟨#[]⟩)).setCell ⟨R, 1, none⟩ (.bool false)) R none := by
  have h1 := heap_setCell_same w R 0 _ _ (.string ⟨#[]⟩) h
  have h2 := heap_setCell_same _ R 1 _ _ (.bool false) h1
  unfold Rd
  rw [h2]
  cases st <;> rfl
theorem Rd.rest {w : World} {R : Nat} {s : ByteArray} (h : Rd w R (some s)) (t : ByteArray) : Rd (w.setCell ⟨R, 0, none⟩ (.string t)) R (some t) := by
  have h1 := heap_setCell_same w R 0 _ _ (.string t) h
  unfold Rd
  rw [h1]
  rfl
theorem Rd.of_grown {w w' : World} {R : Nat} {st : Option ByteArray} {row : Option Nat} (h : Rd w R st) (hg : w.grownBy w' row) (hne : some R ≠ row) : Rd w' R st :=
  (hg.block R h.lt hne).trans h
theorem Rd.of_below {w w' : World} {R : Nat} {st : Option ByteArray} (h : Rd w R st) (hg : Below w.heap.size w w') : Rd w' R st :=
  (hg.block R h.lt).trans h
theorem Rd.drewN {w : World} {R : Nat} {st : Option ByteArray} (h : Rd w R st) (n : Nat) : Rd (w.drewN n) R st := h

theorem only_refl (w : World) (row : Option Nat) : w.grownBy w row := ⟨rfl, rfl, rfl, Nat.le_refl _, fun _ _ _ => rfl⟩
theorem only_trans {a b c : World} {row : Option Nat} (h : a.grownBy b row) (k : b.grownBy c row) : a.grownBy c row :=
  ⟨k.os.trans h.os, k.tape.trans h.tape, k.output.trans h.output, Nat.le_trans h.size k.size, fun i hi hne => (k.block i (Nat.lt_of_lt_of_le hi h.size) hne).trans (h.block i hi hne)⟩
theorem only_drewN {a w : World} {row : Option Nat} (h : a.grownBy w row) (n : Nat) : a.grownBy (w.drewN n) row := ⟨h.os, h.tape, h.output, h.size, h.block⟩
theorem only_setCell {a w : World} {g : Nat} (h : a.grownBy w (some g)) (o : Nat) (u : Value) : a.grownBy (w.setCell ⟨g, o, none⟩ u) (some g) :=
  ⟨h.os, h.tape, h.output, by simpa [World.setCell] using h.size, fun i hi hne => (Below.heap_setCell w ⟨g, o, none⟩ u i (by rintro rfl; exact hne rfl)).trans (h.block i hi hne)⟩

theorem new_any (s : ByteArray) (w : World) :
    Calls Try.prog 14 #[.string s] w fun e w' => e = .returned (.pointer (some ⟨w.heap.size, 0, none⟩)) ∧ w.alloc (.cells (rdCells (some s)) 41) = w' := by
  go_enter Try.func14, Try.ntmps14
  go_wp2
  go_ret
  exact ⟨rfl, rfl⟩
def isBad (st : Option ByteArray) : Bool := st.isNone
theorem bad_any (R : Nat) (st : Option ByteArray) (w : World) (h : Rd w R st) :
    Calls Try.prog 25 #[.pointer (some ⟨R, 0, none⟩)] w fun e w' => e = .returned (.bool (isBad st)) ∧ w = w' := by
  cases st with
  | some s =>
    obtain ⟨c0, c1, _, _⟩ := h.good
    clear h
    go_enter Try.func25, Try.ntmps25
    go_wp2
    go_ret
    exact ⟨rfl, rfl⟩
  | none =>
    obtain ⟨c0, c1, _, _⟩ := h.bad
    clear h
    go_enter Try.func25, Try.ntmps25
    go_wp2
    go_ret
    exact ⟨rfl, rfl⟩
theorem bad_nil (w : World) :
    Calls Try.prog 25 #[.pointer none] w fun e w' => e = .returned (.bool true) ∧ w = w' := by
  go_enter Try.func25, Try.ntmps25
  go_wp2
  go_ret
  exact ⟨rfl, rfl⟩
def leftOf (st : Option ByteArray) : Int := match st with | some s => s.size | none => 0
theorem left_any (R : Nat) (st : Option ByteArray) (w : World) (h : Rd w R st) :
    Calls Try.prog 23 #[.pointer (some ⟨R, 0, none⟩)] w fun e w' => e = .returned (.int .i64 (leftOf st)) ∧ w = w' := by
  have H := h
  cases st with
  | some s =>
    obtain ⟨c0, c1, _, _⟩ := h.good
    clear h
    go_enter Try.func23, Try.ntmps23
    go_wp2_with fail
    refine (bad_any R _ _ H).mono ?_
    rintro e w' ⟨rfl, rfl⟩
    go_wp2
    go_ret
    exact ⟨rfl, rfl⟩
  | none =>
    go_enter Try.func23, Try.ntmps23
    go_wp2_with fail
    refine (bad_any R _ _ H).mono ?_
    rintro e w' ⟨rfl, rfl⟩
    go_wp2
    go_ret
    exact ⟨rfl, rfl⟩
def doneOf (st : Option ByteArray) : Bool := match st with | some s => s.toList.isEmpty | none => false
theorem done_any (R : Nat) (st : Option ByteArray) (w : World) (h : Rd w R st) :
    Calls Try.prog 26 #[.pointer (some ⟨R, 0, none⟩)] w fun e w' => e = .returned (.bool (doneOf st)) ∧ w = w' := by
  have H := h
  cases st with
  | some s =>
    obtain ⟨c0, c1, _, _⟩ := h.good
    clear h
    go_enter Try.func26, Try.ntmps26
    go_wp2_with fail
    refine (bad_any R _ _ H).mono ?_
    rintro e w' ⟨rfl, rfl⟩
    go_wp2
    go_ret
    exact ⟨rfl, rfl⟩
  | none =>
    go_enter Try.func26, Try.ntmps26
    go_wp2_with fail
    refine (bad_any R _ _ H).mono ?_
    rintro e w' ⟨rfl, rfl⟩
    go_wp2
    go_ret
    exact ⟨rfl, rfl⟩
theorem spoil_any (R : Nat) (st : Option ByteArray) (w : World) (h : Rd w R st) :
    Calls Try.prog 32 #[.pointer (some ⟨R, 0, none⟩)] w fun e w' => e = .returned (.tuple #[]) ∧ Rd w' R none ∧ w.grownBy w' (some R) := by
  have H := h
  cases st with
  | some s =>
    obtain ⟨c0, c1, f0, f1⟩ := h.good
    clear h
    go_enter Try.func32, Try.ntmps32
    go_wp2
    go_end0
    exact ⟨rfl, H.spoilt, only_setCell (only_setCell (only_refl _ _) _ _) _ _⟩
  | none =>
    obtain ⟨c0, c1, f0, f1⟩ := h.bad
    clear h
    go_enter Try.func32, Try.ntmps32
    go_wp2
    go_end0
    exact ⟨rfl, H.spoilt, only_setCell (only_setCell (only_refl _ _) _ _) _ _⟩
theorem spoil_nil (w : World) :
    Calls Try.prog 32 #[.pointer none] w fun e w' => e = .returned (.tuple #[]) ∧ w = w' := by
  go_enter Try.func32, Try.ntmps32
  go_wp2
  go_end0
  exact ⟨rfl, rfl⟩
end Go.Proofs.Ytidfoflbebampaa
