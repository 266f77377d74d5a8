/- Plain mathematics of layer 2: the bytes of a number, the number that a text begins with, and that the two are each other's reverse. Words of bytes, and what is read of bytes, said without a program. The document's reader in memory; its word. The document's reader, and what is left; its word, whatever stands there. Numbers of what follows, said without a program. Plain mathematics of layer 2: what was written is read again, and what is read was written by just these bytes. The document's reader: Uint. The document's reader: Done. -/
import Derived.Test.YteaclacbdelinaaZCommon
import Derived.Test.YteaclacbdelinaaRows
import Derived.WalkKit
import Derived.WalkSpells
import Derived.WalkLawsBesides
import Derived.RegionTactic
import Derived.Deep.QuietTactic
import Derived.BigQuiet
import Derived.Deep.AppendLies
import Derived.Lib.Hide
namespace Go.Proofs.Yteaclacbdelinaa.Pen

/-- The bytes of a number, at most k + 1 of them. -/
def wb : Nat → Nat → List UInt8
  | 0, n => [UInt8.ofNat n]
  | k + 1, n => if n < 128 then [UInt8.ofNat n] else UInt8.ofNat (128 + n % 128) :: wb k (n / 128)
def wordB (n : Nat) : ByteArray := ⟨(wb 9 n).toArray⟩
def uintB (n : Int) : ByteArray := if n < 0 then ⟨#[]⟩ else wordB n.toNat
def placeOf (n : Int) : Nat := if n < 0 then (2 * (-1 - n) + 1).toNat else (2 * n).toNat
def intB (n : Int) : ByteArray := wordB (placeOf n)
def textB (s : ByteArray) : ByteArray := uintB s.size ++ s
def placedOf (n : Nat) : Int := if n % 2 = 1 then -1 - (n / 2 : Nat) else (n / 2 : Nat)

theorem wb_len : ∀ (k n : Nat), 1 ≤ (wb k n).length ∧ (wb k n).length ≤ k + 1
  | 0, n => by simp [wb]
  | k + 1, n => by
    unfold wb
    split
    · simp
    · have := wb_len k (n / 128); simp; omega
theorem wb_small {k n : Nat} (h : n < 128) : wb k n = [UInt8.ofNat n] := by
  cases k with
  | zero => rfl
  | succ k => simp [wb, h]
theorem wb_big {k n : Nat} (h : ¬ n < 128) : wb (k + 1) n = UInt8.ofNat (128 + n % 128) :: wb k (n / 128) := by simp [wb, h]
theorem wordB_size (n : Nat) : 1 ≤ (wordB n).size ∧ (wordB n).size ≤ 10 := by
  have := wb_len 9 n
  simp only [wordB, ByteArray.size, List.size_toArray]
  omega
theorem or_128 : ∀ x : Nat, x < 256 → x ||| 128 = 128 + x % 128 := by decide +kernel
theorem u8_more (n : Nat) : bits .or .u8 ((n % 256 : Nat) : Int) 128 = ((128 + n % 128 : Nat) : Int) := by
  have h := u8_or_nat (n % 256) 128 (by omega) (by omega)
  rw [or_128 (n % 256) (by omega)] at h
  have e : n % 256 % 128 = n % 128 := by omega
  rw [e] at h
  exact h
/-- The number that a row of bytes begins with, and how many bytes it has. -/
def scan (f : Nat → Nat) (len : Nat) : Nat → Nat → Nat → Option (Nat × Nat)
  | 0, _, _ => none
  | d + 1, k, acc =>
    if k < len then
      if f k < 128 then (if (f k = 0 ∧ 0 < k) ∨ (k = 9 ∧ 1 < f k) then none else some (acc + f k * 2 ^ (7 * k), k + 1))
      else scan f len d (k + 1) (acc + (f k - 128) * 2 ^ (7 * k))
    else none
def gb (s : ByteArray) (k : Nat) : Nat := (s.data.toList.getD k 0).toNat
theorem gb_lt (s : ByteArray) (k : Nat) : gb s k < 256 := by unfold gb; exact UInt8.toNat_lt _
def P (s : ByteArray) : Option (Nat × Nat) := scan (gb s) s.size 10 0 0
def FV (s : ByteArray) : Nat := ((P s).getD (0, 0)).1
def FK (s : ByteArray) : Nat := ((P s).getD (0, 0)).2

theorem scan_facts (f : Nat → Nat) (len : Nat) (hf : ∀ k, f k < 256) : ∀ (d k acc n m : Nat), d + k = 10 → acc < 2 ^ (7 * k) → scan f len d k acc = some (n, m) →
    k + 1 ≤ m ∧ m ≤ len ∧ m ≤ 10 ∧ n < 18446744073709551616 := by
  intro d
  induction d with
  | zero => intro k acc n m _ _ h; simp [scan] at h
  | succ d ih =>
    intro k acc n m hd ha h
    unfold scan at h
    by_cases h1 : k < len
    · rw [if_pos h1] at h
      by_cases h2 : f k < 128
      · rw [if_pos h2] at h
        by_cases h3 : (f k = 0 ∧ 0 < k) ∨ (k = 9 ∧ 1 < f k)
        · rw [if_pos h3] at h; simp at h
        · rw [if_neg h3] at h
          injection h with h
          injection h with hn hm
          refine ⟨by omega, by omega, by omega, ?_⟩
          rw [← hn]
          by_cases h9 : k = 9
          · subst h9
            have : f 9 ≤ 1 := by omega
            have e : (2:Nat) ^ (7 * 9) = 9223372036854775808 := by decide
            rw [e] at ha ⊢
            omega
          · have hk : 7 * k ≤ 56 := by omega
            have e : (2:Nat) ^ (7 * k) ≤ 2 ^ 56 := Nat.pow_le_pow_right (by omega) hk
            have e2 : (2:Nat) ^ 56 = 72057594037927936 := by decide
            have e3 : f k * 2 ^ (7 * k) ≤ 127 * 2 ^ 56 := Nat.mul_le_mul (by omega) e
            omega
      · rw [if_neg h2] at h
        have e : (2:Nat) ^ (7 * (k + 1)) = 128 * 2 ^ (7 * k) := by rw [show 7 * (k + 1) = 7 * k + 7 by omega, Nat.pow_add]; omega
        have e3 : (f k - 128) * 2 ^ (7 * k) ≤ 127 * 2 ^ (7 * k) := Nat.mul_le_mul (by have := hf k; omega) (Nat.le_refl _)
        have := ih (k + 1) _ n m (by omega) (by omega) h
        omega
    · rw [if_neg h1] at h; simp at h
theorem P_facts {s : ByteArray} {n m : Nat} (h : P s = some (n, m)) : 1 ≤ m ∧ m ≤ s.size ∧ m ≤ 10 ∧ n < 18446744073709551616 := by
  have := scan_facts (gb s) s.size (gb_lt s) 10 0 0 n m (by omega) (by simp) h
  omega
theorem FV_lt (s : ByteArray) : FV s < 18446744073709551616 := by
  unfold FV
  cases h : P s with
  | none => simp
  | some x => obtain ⟨n, m⟩ := x; have := P_facts h; simp; omega
theorem FK_le (s : ByteArray) : FK s ≤ s.size ∧ FK s ≤ 10 := by
  unfold FK
  cases h : P s with
  | none => simp
  | some x => obtain ⟨n, m⟩ := x; have := P_facts h; simp; omega

theorem gb_extract (s : ByteArray) (a k : Nat)  : gb (s.extract a s.size) k = gb s (a + k) := by
  have e : (s.extract a s.size).data.toList = s.data.toList.drop a := by
    rw [ByteArray.data_extract, Array.toList_extract]
    exact List.take_of_length_le (by rw [List.length_drop, Array.length_toList]; exact Nat.le_refl _)
  unfold gb
  rw [e, List.getD_eq_getElem?_getD, List.getD_eq_getElem?_getD, List.getElem?_drop]
theorem scan_congr (f g : Nat → Nat) (len : Nat) (h : ∀ k, f k = g k) (d : Nat) : ∀ k acc, scan f len d k acc = scan g len d k acc := by
  have : f = g := funext h
  subst this
  intro _ _; rfl
theorem P_at (s : ByteArray) (a : Nat) : P (s.extract a s.size) = scan (fun k => gb s (a + k)) (s.size - a) 10 0 0 := by
  unfold P
  rw [scan_congr _ _ _ (fun k => gb_extract s a k)]
  simp [ByteArray.size_extract]
end Go.Proofs.Yteaclacbdelinaa.Pen
namespace Go.Proofs.Yteaclacbdelinaa.Pen
open Go.RowKit Go.Lib

theorem placeOf_lt (n : Int) (a1 : -9223372036854775808 ≤ n) (a2 : n ≤ 9223372036854775807) : placeOf n < 18446744073709551616 := by
  unfold placeOf; split <;> omega
theorem not_half (m : Nat) (h : m < 18446744073709551616) : bits .xor .i64 (-1) ((m : Int) / 2) = -1 - (m / 2 : Nat) := by
  have := i64_not (m / 2) (by omega)
  exact_mod_cast this
def isBad (st : Option ByteArray) : Bool := st.isNone
def leftOf (st : Option ByteArray) : Int := match st with | some s => s.size | none => 0
def doneOf (st : Option ByteArray) : Bool := match st with | some s => s.toList.isEmpty | none => false
theorem or_gen (acc d k : Nat) (ha : acc < 2 ^ (7 * k)) (hd : d * 2 ^ (7 * k) + acc < 18446744073709551616) (z : Int) (hz : z = d) :
    bits .or .u64 (acc : Int) (IntKind.u64.wrap (z * 2 ^ (7 * k))) = ((acc + d * 2 ^ (7 * k) : Nat) : Int) := by
  subst hz
  have e : ((d : Int) * 2 ^ (7 * k)) = ((d * 2 ^ (7 * k) : Nat) : Int) := by simp
  rw [wrap_u64_, e, Int.emod_eq_of_lt (by omega) (by omega), u64_or_nat acc (d * 2 ^ (7 * k)) (by omega) (by omega), Nat.or_comm, nat_join (7 * k) (d * 2 ^ (7 * k)) acc (Nat.mul_mod_left _ _) ha, Nat.add_comm]
theorem pow_le (k : Nat) (h : k ≤ 8) : 2 ^ (7 * k) ≤ 72057594037927936 := by
  have e : (2:Nat) ^ (7 * k) ≤ 2 ^ 56 := Nat.pow_le_pow_right (by omega) (by omega)
  have e2 : (2:Nat) ^ 56 = 72057594037927936 := by decide
  omega
theorem or_more (acc c k : Nat) (hk : k ≤ 8) (ha : acc < 2 ^ (7 * k)) (h1 : 128 ≤ c) (h2 : c < 256) :
    bits .or .u64 (acc : Int) (IntKind.u64.wrap (((c : Int) - 128) * 2 ^ (7 * k))) = ((acc + (c - 128) * 2 ^ (7 * k) : Nat) : Int) ∧ acc + (c - 128) * 2 ^ (7 * k) < 2 ^ (7 * (k + 1)) := by
  have e := pow_le k hk
  have e3 : (c - 128) * 2 ^ (7 * k) ≤ 127 * 2 ^ (7 * k) := Nat.mul_le_mul (by omega) (Nat.le_refl _)
  have e4 : (2:Nat) ^ (7 * (k + 1)) = 128 * 2 ^ (7 * k) := by rw [show 7 * (k + 1) = 7 * k + 7 by omega, Nat.pow_add]; omega
  exact ⟨or_gen acc (c - 128) k ha (by omega) _ (by omega), by omega⟩
theorem or_last (acc c k : Nat) (hk : k ≤ 9) (ha : acc < 2 ^ (7 * k)) (h1 : c < 128) (h2 : ¬ (k = 9 ∧ 1 < c)) :
    bits .or .u64 (acc : Int) (IntKind.u64.wrap ((c : Int) * 2 ^ (7 * k))) = ((acc + c * 2 ^ (7 * k) : Nat) : Int) := by
  by_cases h9 : k = 9
  · subst h9
    have e : (2:Nat) ^ (7 * 9) = 9223372036854775808 := by decide
    have e3 : c * 2 ^ (7 * 9) ≤ 1 * 2 ^ (7 * 9) := Nat.mul_le_mul (by omega) (Nat.le_refl _)
    exact or_gen acc c 9 ha (by omega) _ rfl
  · have e := pow_le k (by omega)
    have e3 : c * 2 ^ (7 * k) ≤ 127 * 2 ^ (7 * k) := Nat.mul_le_mul (by omega) (Nat.le_refl _)
    exact or_gen acc c k ha (by omega) _ rfl
theorem gb_at (s : ByteArray) (k : Nat) (h : k < s.size) : gb s k = s[k].toNat := by
  unfold gb
  have h' : k < s.data.toList.length := by rw [Array.length_toList]; exact h
  rw [List.getD_eq_getElem?_getD, List.getElem?_eq_getElem h', Option.getD_some, Array.getElem_toList]
  rfl
/-- What the loop knows behind k bytes. -/
def FirstAt (s : ByteArray) (k acc : Nat) (z : Int) : Prop := (k < 10 → z = acc ∧ acc < 2 ^ (7 * k)) ∧ P s = scan (gb s) s.size (10 - k) k acc
theorem scan_out (f : Nat → Nat) (len k acc : Nat) (h : ¬ (k < len ∧ k < 10)) : scan f len (10 - k) k acc = none := by
  by_cases hk : k < 10
  · obtain ⟨d, hd⟩ : ∃ d, 10 - k = d + 1 := ⟨9 - k, by omega⟩
    rw [hd]; unfold scan; rw [if_neg (by omega)]
  · rw [show 10 - k = 0 by omega]; rfl
theorem scan_more (f : Nat → Nat) (len k acc : Nat) (h1 : k < len) (h2 : k < 10) (h3 : ¬ f k < 128) : scan f len (10 - k) k acc = scan f len (10 - (k + 1)) (k + 1) (acc + (f k - 128) * 2 ^ (7 * k)) := by
  obtain ⟨d, hd⟩ : ∃ d, 10 - k = d + 1 := ⟨9 - k, by omega⟩
  rw [hd, show 10 - (k + 1) = d by omega]
  conv => lhs; unfold scan
  rw [if_pos h1, if_neg h3]
theorem scan_bad (f : Nat → Nat) (len k acc : Nat) (h1 : k < len) (h2 : k < 10) (h3 : f k < 128) (h4 : (f k = 0 ∧ 0 < k) ∨ (k = 9 ∧ 1 < f k)) : scan f len (10 - k) k acc = none := by
  obtain ⟨d, hd⟩ : ∃ d, 10 - k = d + 1 := ⟨9 - k, by omega⟩
  rw [hd]; unfold scan; rw [if_pos h1, if_pos h3, if_pos h4]
theorem scan_end (f : Nat → Nat) (len k acc : Nat) (h1 : k < len) (h2 : k < 10) (h3 : f k < 128) (h4 : ¬ ((f k = 0 ∧ 0 < k) ∨ (k = 9 ∧ 1 < f k))) : scan f len (10 - k) k acc = some (acc + f k * 2 ^ (7 * k), k + 1) := by
  obtain ⟨d, hd⟩ : ∃ d, 10 - k = d + 1 := ⟨9 - k, by omega⟩
  rw [hd]; unfold scan; rw [if_pos h1, if_pos h3, if_neg h4]
theorem first_none {s : ByteArray} (h : P s = none) : Ending.returned (.tuple #[.int .u64 0, .int .i64 0]) = Ending.returned (.tuple #[.int .u64 (FV s), .int .i64 (FK s)]) := by simp [FV, FK, h]
theorem first_some {s : ByteArray} {n k : Nat} {a b : Int} (h : P s = some (n, k)) (ha : a = n) (hb : b = k) : Ending.returned (.tuple #[.int .u64 a, .int .i64 b]) = Ending.returned (.tuple #[.int .u64 (FV s), .int .i64 (FK s)]) := by simp [FV, FK, h, ha, hb]
def Fit (st : Option ByteArray) : Prop := ∀ s, st = some s → s.size ≤ 9223372036854775807
def tkN (st : Option ByteArray) (most : Nat) : Nat := match st with | none => 0 | some s => if FK s = 0 ∨ most < FV s then 0 else FV s
def tkS (st : Option ByteArray) (most : Nat) : Option ByteArray := match st with | none => none | some s => if FK s = 0 ∨ most < FV s then none else some (s.extract (FK s) s.size)
def uiN (st : Option ByteArray) (most : Int) : Nat := if most < 0 then 0 else tkN st most.toNat
def uiS (st : Option ByteArray) (most : Int) : Option ByteArray := if most < 0 then none else tkS st most.toNat
def inN (st : Option ByteArray) : Int := placedOf (tkN st 18446744073709551615)
def inS (st : Option ByteArray) : Option ByteArray := tkS st 18446744073709551615
def tmN (st : Option ByteArray) (most : Int) : Nat := if leftOf (uiS st most) < (uiN st most : Int) then 0 else uiN st most
def tmS (st : Option ByteArray) (most : Int) : Option ByteArray := if leftOf (uiS st most) < (uiN st most : Int) then none else uiS st most
def txV (st : Option ByteArray) (most : Int) : ByteArray := match tmS st most with | none => ⟨#[]⟩ | some s => s.extract 0 (tmN st most)
def txS (st : Option ByteArray) (most : Int) : Option ByteArray := match tmS st most with | none => none | some s => some (s.extract (tmN st most) s.size)
theorem Fit.none : Fit none := fun _ h => by simp at h
theorem Fit.ext {s : ByteArray} (h : Fit (some s)) (a b : Nat) : Fit (some (s.extract a b)) := fun t ht => by
  injection ht with ht
  have := h s rfl
  rw [← ht, ByteArray.size_extract]; omega
theorem Fit.tk {st : Option ByteArray} (h : Fit st) (most : Nat) : Fit (tkS st most) := by
  unfold tkS
  cases st with
  | none => exact Fit.none
  | some s => simp only []; split <;> first | exact Fit.none | exact h.ext _ _
theorem Fit.ui {st : Option ByteArray} (h : Fit st) (most : Int) : Fit (uiS st most) := by
  unfold uiS; split
  · exact Fit.none
  · exact h.tk _
theorem Fit.tm {st : Option ByteArray} (h : Fit st) (most : Int) : Fit (tmS st most) := by
  unfold tmS; split
  · exact Fit.none
  · exact h.ui _
theorem Fit.tx {st : Option ByteArray} (h : Fit st) (most : Int) : Fit (txS st most) := by
  unfold txS
  have := h.tm most
  cases e : tmS st most with
  | none => exact Fit.none
  | some s => rw [e] at this; exact this.ext _ _
theorem tkN_le (st : Option ByteArray) (most : Nat) : tkN st most ≤ most ∧ tkN st most < 18446744073709551616 := by
  unfold tkN
  cases st with
  | none => simp
  | some s => simp only []; have := FV_lt s; split <;> omega
theorem uiN_le (st : Option ByteArray) (most : Int) (h : most ≤ 9223372036854775807) : uiN st most ≤ 9223372036854775807 := by
  unfold uiN; split
  · omega
  · have := (tkN_le st most.toNat).1; omega
theorem leftOf_nonneg (st : Option ByteArray) : 0 ≤ leftOf st := by unfold leftOf; cases st <;> simp
theorem tmN_left {st : Option ByteArray} {most : Int} {s : ByteArray} (h : tmS st most = some s) : tmN st most ≤ s.size := by
  unfold tmS at h; unfold tmN
  by_cases hc : leftOf (uiS st most) < (uiN st most : Int)
  · rw [if_pos hc] at h; simp at h
  · rw [if_neg hc] at h ⊢
    rw [h] at hc
    simp only [leftOf] at hc; omega
theorem uintB_neg {n : Int} (h : n < 0) : uintB n = ⟨#[]⟩ := by unfold uintB; rw [if_pos h]
theorem uintB_nat (n : Nat) : uintB n = wordB n := by unfold uintB; rw [if_neg (by omega)]; rfl
theorem uintB_size (n : Int) : (uintB n).size ≤ 10 := by
  unfold uintB; split
  · exact Nat.zero_le _
  · exact (wordB_size _).2
end Go.Proofs.Yteaclacbdelinaa.Pen
namespace Go.Proofs.Yteaclacbdelinaa.Pen
open Go.RowKit Go.Lib

def Rq (w : World) (Q : Nat) (S : ByteArray) (a : Nat) (bad : Bool) : Prop := w.heap[Q]? = some (.cells #[.string S, .int .i64 a, .bool bad] 85 (0, 0))
theorem Rq.cells {w : World} {Q : Nat} {S : ByteArray} {a : Nat} {bad : Bool} (h : Rq w Q S a bad) :
    w.cell? ⟨Q, 0, none⟩ = some (.string S) ∧ w.cell? ⟨Q, 1, none⟩ = some (.int .i64 a) ∧ w.cell? ⟨Q, 2, none⟩ = some (.bool bad) ∧ w.frozen? ⟨Q, 0, none⟩ = false ∧ w.frozen? ⟨Q, 1, none⟩ = false ∧ w.frozen? ⟨Q, 2, none⟩ = false :=
  ⟨cell_block h rfl, cell_block h rfl, cell_block h rfl, free_block 0 h, free_block 1 h, free_block 2 h⟩
theorem Rq.lt {w : World} {Q : Nat} {S : ByteArray} {a : Nat} {bad : Bool} (h : Rq w Q S a bad) : Q < w.heap.size := by
  rcases Nat.lt_or_ge Q w.heap.size with h' | h'
  · exact h'
  · unfold Rq at h; simp [Array.getElem?_eq_none h'] at h
theorem Rq.failed {w : World} {Q : Nat} {S : ByteArray} {a : Nat} {bad : Bool} (h : Rq w Q S a bad) : Rq (w.setCell ⟨Q, 2, none⟩ (.bool true)) Q S a true := by
  have h1 := heap_setCell_same w Q 2 _ _ (.bool true) h
  unfold Rq
  rw [h1]
  rfl
theorem Rq.moved {w : World} {Q : Nat} {S : ByteArray} {a : Nat} {bad : Bool} (h : Rq w Q S a bad) (c : Nat) : Rq (w.setCell ⟨Q, 1, none⟩ (.int .i64 c)) Q S c bad := by
  have h1 := heap_setCell_same w Q 1 _ _ (.int .i64 c) h
  unfold Rq
  rw [h1]
  rfl
theorem Rq.of_grown {w w' : World} {Q : Nat} {S : ByteArray} {a : Nat} {bad : Bool} {row : Option Nat} (h : Rq w Q S a bad) (hg : w.grownBy w' row) (hne : some Q ≠ row) : Rq w' Q S a bad :=
  (hg.block Q h.lt hne).trans h
theorem Rq.drewN {w : World} {Q : Nat} {S : ByteArray} {a : Nat} {bad : Bool} (h : Rq w Q S a bad) (n : Nat) : Rq (w.drewN n) Q S a bad := h
theorem fails_any (Q : Nat) (S : ByteArray) (a : Nat) (bad : Bool) (w : World) (h : Rq w Q S a bad) :
    Calls Try.prog 67 #[.pointer (some ⟨Q, 0, none⟩)] w fun e w' => e = .returned (.int .u64 0) ∧ Rq w' Q S a true ∧ w.grownBy w' (some Q) := by
  have H := h
  obtain ⟨c0, c1, c2, f0, f1, f2⟩ := h.cells
  clear h
  go_enter Try.func67, Try.ntmps67
  go_wp2
  go_ret
  exact ⟨rfl, H.failed, only_setCell (only_refl _ _) _ _⟩
set_option maxRecDepth 100000 in
set_option maxHeartbeats 1000000 in
theorem rword_bad (Q : Nat) (S : ByteArray) (a : Nat) (w : World) (h : Rq w Q S a true) :
    Calls Try.prog 66 #[.pointer (some ⟨Q, 0, none⟩)] w fun e w' => e = .returned (.int .u64 0) ∧ Rq w' Q S a true ∧ w.grownBy w' (some Q) := by
  have H := h
  obtain ⟨c0, c1, c2, f0, f1, f2⟩ := h.cells
  clear h
  go_enter Try.func66, Try.ntmps66
  go_wp2
  refine wp_loop_rounds 1 ?_
  rw [rounds_succ]
  go_wp2
  go_quiet (fail)
  go_wp2_with fail
  refine (fails_any Q S a true _ (H.drewN _)).mono ?_
  rintro e w1 ⟨rfl, H1, hg1⟩
  go_wp2_with fail
  go_ret
  exact ⟨rfl, H1, only_trans (only_drewN (only_refl _ _) _) hg1⟩
theorem radd_val (acc c k : Nat) (h : acc + c % 128 * 2 ^ (7 * k) < 18446744073709551616) :
    IntKind.u64.wrap ((acc : Int) + IntKind.u64.wrap ((c : Int) % 128 * 2 ^ (7 * k))) = ((acc + c % 128 * 2 ^ (7 * k) : Nat) : Int) := by
  have e : ((c : Int) % 128 * 2 ^ (7 * k)) = ((c % 128 * 2 ^ (7 * k) : Nat) : Int) := by simp
  rw [e, wrap_u64_, wrap_u64_, Int.emod_eq_of_lt (b := 18446744073709551616) (by omega) (by omega), Int.emod_eq_of_lt (by omega) (by omega)]
  simp
theorem radd_more (acc c k : Nat) (hk : k ≤ 8) (ha : acc < 2 ^ (7 * k)) (h1 : 128 ≤ c) (h2 : c < 256) :
    IntKind.u64.wrap ((acc : Int) + IntKind.u64.wrap ((c : Int) % 128 * 2 ^ (7 * k))) = ((acc + (c - 128) * 2 ^ (7 * k) : Nat) : Int) := by
  have e := pow_le k hk
  have e3 : (c - 128) * 2 ^ (7 * k) ≤ 127 * 2 ^ (7 * k) := Nat.mul_le_mul (by omega) (Nat.le_refl _)
  have e5 : c % 128 = c - 128 := by omega
  rw [radd_val acc c k (by rw [e5]; omega), e5]
theorem radd_last (acc c k : Nat) (hk : k ≤ 9) (ha : acc < 2 ^ (7 * k)) (h1 : c < 128) (h2 : ¬ (k = 9 ∧ 1 < c)) :
    IntKind.u64.wrap ((acc : Int) + IntKind.u64.wrap ((c : Int) % 128 * 2 ^ (7 * k))) = ((acc + c * 2 ^ (7 * k) : Nat) : Int) := by
  have e5 : c % 128 = c := by omega
  by_cases h9 : k = 9
  · subst h9
    have e : (2:Nat) ^ (7 * 9) = 9223372036854775808 := by decide
    have e3 : c * 2 ^ (7 * 9) ≤ 1 * 2 ^ (7 * 9) := Nat.mul_le_mul (by omega) (Nat.le_refl _)
    rw [radd_val acc c 9 (by rw [e5]; omega), e5]
  · have e := pow_le k (by omega)
    have e3 : c * 2 ^ (7 * k) ≤ 127 * 2 ^ (7 * k) := Nat.mul_le_mul (by omega) (Nat.le_refl _)
    rw [radd_val acc c k (by rw [e5]; omega), e5]
theorem Rq.moved_as {w : World} {Q : Nat} {S : ByteArray} {a : Nat} {bad : Bool} (h : Rq w Q S a bad) (c : Nat) (z : Int) (hz : z = c) : Rq (w.setCell ⟨Q, 1, none⟩ (.int .i64 z)) Q S c bad := by
  subst hz; exact h.moved c
set_option maxRecDepth 100000 in
set_option maxHeartbeats 4000000 in
theorem rword_good (Q : Nat) (S : ByteArray) (a : Nat) (w : World) (h : Rq w Q S a false) (ha : a ≤ S.size) (hS : S.size ≤ 4611686018427387904) (r : Option (Nat × Nat)) (hr : scan (fun k => gb S (a + k)) (S.size - a) 10 0 0 = r) :
    Calls Try.prog 66 #[.pointer (some ⟨Q, 0, none⟩)] w fun e w' => e = .returned (.int .u64 ((r.getD (0, 0)).1)) ∧ Rq w' Q S (a + (r.getD (0, 0)).2) r.isNone ∧ w.grownBy w' (some Q) := by
  have H := h
  obtain ⟨c0, c1, c2, f0, f1, f2⟩ := h.cells
  clear h
  have HR := Lib.hid hr; clear hr
  go_enter Try.func66, Try.ntmps66
  go_wp2
  go_loopw [3, 4] (fun n i wr => ∃ (k acc m : Nat), k ≤ 10 ∧ k ≤ S.size - a ∧ i = .int .i64 k ∧ n = .int .u64 acc ∧ wr = w.drewN m ∧ acc < 2 ^ (7 * k) ∧ scan (fun k => gb S (a + k)) (S.size - a) (10 - k) k acc = r) (fun _ i _ => 10 - (intOf i).toNat)
  case atStart => exact ⟨0, 0, 0, by omega, by omega, rfl, rfl, rfl, by simp, HR.out⟩
  case round =>
    obtain ⟨k, acc, m, hk, hks, rfl, rfl, rfl, hacc, hP⟩ := hrel
    have HP := Lib.hid hP; clear hP
    by_cases h10 : k < 10
    · by_cases h1 : k < S.size - a
      · have hi1 : (0 : Int) ≤ (a : Int) + (k : Int) := by omega
        have hi2 : (a : Int) + (k : Int) < (S.size : Int) := by omega
        have hd : decide ((S.size : Int) ≤ (a : Int) + (k : Int)) = false := by simp; omega
        obtain ⟨c, hc⟩ : ∃ c, S[a + k].toNat = c := ⟨_, rfl⟩
        have hg : gb S (a + k) = c := by rw [gb_at S (a + k) (by omega), hc]
        have hc256 : c < 256 := by have := gb_lt S (a + k); omega
        have hw2 : IntKind.u64.wrap (c : Int) = c := by rw [wrap_u64_]; omega
        have HG := Lib.hid hg; clear hg
        have HA := Lib.hid hacc; clear hacc
        by_cases hbad : (k = 9 ∧ 1 < c) ∨ (k = 9 ∧ c = 0) ∨ (k ≠ 9 ∧ 0 < k ∧ c = 0)
        · rcases hbad with ⟨h9, hc1⟩ | ⟨h9, hc0⟩ | ⟨h9, hk0, hc0⟩
          · have e9 : ((k : Int) == 9) = true := by simp; omega
            have e1 : decide ((1 : Int) < c) = true := by simp; omega
            have hrn : none = r := by
              rw [← HP.out]
              by_cases hlt : c < 128
              · exact (scan_bad _ _ _ _ h1 h10 (by show gb S (a + k) < 128; rw [HG.out]; omega) (by show (gb S (a + k) = 0 ∧ 0 < k) ∨ (k = 9 ∧ 1 < gb S (a + k)); rw [HG.out]; omega)).symm
              · rw [scan_more _ _ _ _ h1 h10 (by show ¬ gb S (a + k) < 128; rw [HG.out]; omega), scan_out _ _ _ _ (by omega)]
            have HN := Lib.hid hrn; clear hrn
            clear h9 hc1
            have hw1 : IntKind.i64.wrap ((a : Int) + (k : Int)) = (a : Int) + (k : Int) := IntWalk.i64_in _ (by omega)
            go_wp2_with fail
            go_quiet (fail)
            go_wp2_with fail
            go_quiet (fail)
            go_wp2_with fail
            refine (fails_any Q S a false _ (H.drewN _)).mono ?_
            rintro e w1 ⟨rfl, H1, hg1⟩
            go_wp2_with fail
            go_ret
            have hrn := HN.out
            subst hrn
            exact ⟨rfl, H1, only_trans (only_drewN (only_refl _ _) _) hg1⟩
          · have e9 : ((k : Int) == 9) = true := by simp; omega
            have e1 : decide ((1 : Int) < c) = false := by simp; omega
            have e0 : ((c : Int) == 0) = true := by simp; omega
            have ek : 0 < k := by omega
            have hrn : none = r := by rw [← HP.out]; exact (scan_bad _ _ _ _ h1 h10 (by show gb S (a + k) < 128; rw [HG.out]; omega) (by show (gb S (a + k) = 0 ∧ 0 < k) ∨ (k = 9 ∧ 1 < gb S (a + k)); rw [HG.out]; omega)).symm
            have HN := Lib.hid hrn; clear hrn
            clear h9 hc0
            have hw1 : IntKind.i64.wrap ((a : Int) + (k : Int)) = (a : Int) + (k : Int) := IntWalk.i64_in _ (by omega)
            go_wp2_with fail
            go_quiet (fail)
            go_wp2_with fail
            go_quiet (fail)
            go_wp2_with fail
            refine (fails_any Q S a false _ (H.drewN _)).mono ?_
            rintro e w1 ⟨rfl, H1, hg1⟩
            go_wp2_with fail
            go_ret
            have hrn := HN.out
            subst hrn
            exact ⟨rfl, H1, only_trans (only_drewN (only_refl _ _) _) hg1⟩
          · have e9 : ((k : Int) == 9) = false := by simp; omega
            have e0 : ((c : Int) == 0) = true := by simp; omega
            have ek : 0 < k := by omega
            have hrn : none = r := by rw [← HP.out]; exact (scan_bad _ _ _ _ h1 h10 (by show gb S (a + k) < 128; rw [HG.out]; omega) (by show (gb S (a + k) = 0 ∧ 0 < k) ∨ (k = 9 ∧ 1 < gb S (a + k)); rw [HG.out]; omega)).symm
            have HN := Lib.hid hrn; clear hrn
            clear h9 hc0
            have hw1 : IntKind.i64.wrap ((a : Int) + (k : Int)) = (a : Int) + (k : Int) := IntWalk.i64_in _ (by omega)
            go_wp2_with fail
            go_quiet (fail)
            go_wp2_with fail
            go_quiet (fail)
            go_wp2_with fail
            refine (fails_any Q S a false _ (H.drewN _)).mono ?_
            rintro e w1 ⟨rfl, H1, hg1⟩
            go_wp2_with fail
            go_ret
            have hrn := HN.out
            subst hrn
            exact ⟨rfl, H1, only_trans (only_drewN (only_refl _ _) _) hg1⟩
        · by_cases hlt : c < 128
          · rcases (show (k = 9 ∧ c = 1) ∨ (k ≠ 9 ∧ c = 0 ∧ k = 0) ∨ (k ≠ 9 ∧ c ≠ 0) by omega) with ⟨h9, hc1⟩ | ⟨h9, hc0, hk0⟩ | ⟨h9, hc0⟩
            · have e9 : ((k : Int) == 9) = true := by simp; omega
              have e1 : decide ((1 : Int) < c) = false := by simp; omega
              have e0 : ((c : Int) == 0) = false := by simp; omega
              have HL : Hid (¬ (k = 9 ∧ 1 < c)) := Lib.hid (by omega)
              have HM : Hid (¬ ((c = 0 ∧ 0 < k) ∨ (k = 9 ∧ 1 < c))) := Lib.hid (by omega)
              clear h9 hc1 hbad
              have hw1 : IntKind.i64.wrap ((a : Int) + (k : Int)) = (a : Int) + (k : Int) := IntWalk.i64_in _ (by omega)
              go_wp2_with fail
              go_quiet (fail)
              go_wp2_with fail
              go_quiet (fail)
              go_wp2_with fail
              go_ret
              have hrn : some (acc + c * 2 ^ (7 * k), k + 1) = r := by
                rw [← HP.out, scan_end _ _ _ _ h1 h10 (by show gb S (a + k) < 128; rw [HG.out]; exact hlt) (by show ¬ ((gb S (a + k) = 0 ∧ 0 < k) ∨ (k = 9 ∧ 1 < gb S (a + k))); rw [HG.out]; exact HM.out), HG.out]
              subst hrn
              exact ⟨ret_u64 (radd_last acc c k (by omega) HA.out hlt HL.out), Rq.moved_as (H.drewN _) _ _ (by simp; omega), only_setCell (only_drewN (only_refl _ _) _) _ _⟩
            · have e9 : ((k : Int) == 9) = false := by simp; omega
              have e0 : ((c : Int) == 0) = true := by simp; omega
              have ek : decide (0 < k) = false := by simp; omega
              have HL : Hid (¬ (k = 9 ∧ 1 < c)) := Lib.hid (by omega)
              have HM : Hid (¬ ((c = 0 ∧ 0 < k) ∨ (k = 9 ∧ 1 < c))) := Lib.hid (by omega)
              clear h9 hc0 hk0 hbad
              have hw1 : IntKind.i64.wrap ((a : Int) + (k : Int)) = (a : Int) + (k : Int) := IntWalk.i64_in _ (by omega)
              go_wp2_with fail
              go_quiet (fail)
              go_wp2_with fail
              go_quiet (fail)
              go_wp2_with fail
              go_ret
              have hrn : some (acc + c * 2 ^ (7 * k), k + 1) = r := by
                rw [← HP.out, scan_end _ _ _ _ h1 h10 (by show gb S (a + k) < 128; rw [HG.out]; exact hlt) (by show ¬ ((gb S (a + k) = 0 ∧ 0 < k) ∨ (k = 9 ∧ 1 < gb S (a + k))); rw [HG.out]; exact HM.out), HG.out]
              subst hrn
              exact ⟨ret_u64 (radd_last acc c k (by omega) HA.out hlt HL.out), Rq.moved_as (H.drewN _) _ _ (by simp; omega), only_setCell (only_drewN (only_refl _ _) _) _ _⟩
            · have e9 : ((k : Int) == 9) = false := by simp; omega
              have e0 : ((c : Int) == 0) = false := by simp; omega
              have HL : Hid (¬ (k = 9 ∧ 1 < c)) := Lib.hid (by omega)
              have HM : Hid (¬ ((c = 0 ∧ 0 < k) ∨ (k = 9 ∧ 1 < c))) := Lib.hid (by omega)
              clear h9 hc0 hbad
              have hw1 : IntKind.i64.wrap ((a : Int) + (k : Int)) = (a : Int) + (k : Int) := IntWalk.i64_in _ (by omega)
              go_wp2_with fail
              go_quiet (fail)
              go_wp2_with fail
              go_quiet (fail)
              go_wp2_with fail
              go_ret
              have hrn : some (acc + c * 2 ^ (7 * k), k + 1) = r := by
                rw [← HP.out, scan_end _ _ _ _ h1 h10 (by show gb S (a + k) < 128; rw [HG.out]; exact hlt) (by show ¬ ((gb S (a + k) = 0 ∧ 0 < k) ∨ (k = 9 ∧ 1 < gb S (a + k))); rw [HG.out]; exact HM.out), HG.out]
              subst hrn
              exact ⟨ret_u64 (radd_last acc c k (by omega) HA.out hlt HL.out), Rq.moved_as (H.drewN _) _ _ (by simp; omega), only_setCell (only_drewN (only_refl _ _) _) _ _⟩
          · have e9 : ((k : Int) == 9) = false := by simp; omega
            have e0 : ((c : Int) == 0) = false := by simp; omega
            have hk8 : k ≤ 8 := by omega
            have hge : (128 : Int) ≤ (c : Int) := by omega
            clear hbad
            have hw1 : IntKind.i64.wrap ((a : Int) + (k : Int)) = (a : Int) + (k : Int) := IntWalk.i64_in _ (by omega)
            go_wp2_with fail
            go_quiet (fail)
            go_wp2_with fail
            go_quiet (fail)
            go_wp2_with fail
            go_roundw
            case rel =>
              refine ⟨k + 1, acc + (c - 128) * 2 ^ (7 * k), _, by omega, by omega, by go_num, ?_, rfl, ?_, ?_⟩
              · rw [radd_more acc c k hk8 HA.out (by omega) hc256]
              · exact (or_more acc c k hk8 HA.out (by omega) hc256).2
              · rw [← HP.out, scan_more _ _ _ _ h1 h10 (by show ¬ gb S (a + k) < 128; rw [HG.out]; exact hlt), HG.out]
            case measure => simp [intOf]; omega
      · have hd : decide ((S.size : Int) ≤ (a : Int) + (k : Int)) = true := by simp; omega
        have hrn : none = r := by rw [← HP.out]; exact (scan_out _ _ _ _ (by omega)).symm
        have HN := Lib.hid hrn; clear hrn hacc
        have hw1 : IntKind.i64.wrap ((a : Int) + (k : Int)) = (a : Int) + (k : Int) := IntWalk.i64_in _ (by omega)
        go_wp2_with fail
        go_quiet (fail)
        go_wp2_with fail
        refine (fails_any Q S a false _ (H.drewN _)).mono ?_
        rintro e w1 ⟨rfl, H1, hg1⟩
        go_wp2_with fail
        go_ret
        have hrn := HN.out
        subst hrn
        exact ⟨rfl, H1, only_trans (only_drewN (only_refl _ _) _) hg1⟩
    · have hrn : none = r := by rw [← HP.out]; exact (scan_out _ _ _ _ (by omega)).symm
      have HN := Lib.hid hrn; clear hrn hacc
      go_wp2_with fail
      refine (fails_any Q S a false _ (H.drewN _)).mono ?_
      rintro e w1 ⟨rfl, H1, hg1⟩
      go_wp2_with fail
      go_ret
      have hrn := HN.out
      subst hrn
      exact ⟨rfl, H1, only_trans (only_drewN (only_refl _ _) _) hg1⟩
end Go.Proofs.Yteaclacbdelinaa.Pen
namespace Go.Proofs.Yteaclacbdelinaa.Pen
open Go.RowKit Go.Lib

/-- Both readers stand at the same place. -/
def Link (S : ByteArray) (st : Option ByteArray) (a : Nat) : Prop := a ≤ S.size ∧ ∀ s, st = some s → s = S.extract a S.size
theorem Link.none {S : ByteArray} {a : Nat} (h : a ≤ S.size) : Link S none a := ⟨h, fun _ e => by simp at e⟩
theorem Link.cut {S s : ByteArray} {a : Nat} (h : Link S (some s) a) {k : Nat} (hk : k ≤ s.size) : Link S (some (s.extract k s.size)) (a + k) := by
  have e := h.2 s rfl
  have hs : s.size = S.size - a := by rw [e, ByteArray.size_extract]; omega
  have := h.1
  refine ⟨by omega, fun t ht => ?_⟩
  injection ht with ht
  rw [← ht, e, extract_extract]
def wdN (st : Option ByteArray) : Nat := match st with | none => 0 | some s => FV s
def wdS (st : Option ByteArray) : Option ByteArray := match st with | none => none | some s => if FK s = 0 then none else some (s.extract (FK s) s.size)
theorem FV_zero {s : ByteArray} (h : FK s = 0) : FV s = 0 := by
  unfold FK at h; unfold FV
  cases e : P s with
  | none => rfl
  | some x => obtain ⟨n, m⟩ := x; rw [e] at h; have := P_facts e; simp at h; omega
theorem tk_wd (st : Option ByteArray) : tkN st 18446744073709551615 = wdN st ∧ tkS st 18446744073709551615 = wdS st := by
  cases st with
  | none => exact ⟨rfl, rfl⟩
  | some s =>
    have := FV_lt s
    unfold tkN tkS wdN wdS
    simp only []
    by_cases h : FK s = 0
    · rw [if_pos (Or.inl h), if_pos (Or.inl h), if_pos h, FV_zero h]; exact ⟨rfl, rfl⟩
    · rw [if_neg (by omega), if_neg (by omega), if_neg h]; exact ⟨rfl, rfl⟩
theorem wdN_lt (st : Option ByteArray) : wdN st < 18446744073709551616 := by
  cases st with
  | none => simp [wdN]
  | some s => exact FV_lt s
theorem ui_fail (st : Option ByteArray) (most : Int) (h : most < wdN st ∨ wdS st = none) : uiN st most = 0 ∧ uiS st most = none := by
  unfold uiN uiS
  by_cases hneg : most < 0
  · rw [if_pos hneg, if_pos hneg]; exact ⟨rfl, rfl⟩
  · rw [if_neg hneg, if_neg hneg]
    cases st with
    | none => exact ⟨rfl, rfl⟩
    | some s =>
      unfold tkN tkS
      simp only [wdN, wdS] at h ⊢
      have hc : FK s = 0 ∨ most.toNat < FV s := by
        rcases h with h | h
        · right; omega
        · left
          by_cases h0 : FK s = 0
          · exact h0
          · rw [if_neg h0] at h; simp at h
      rw [if_pos hc, if_pos hc]; exact ⟨rfl, rfl⟩
theorem ui_ok (st : Option ByteArray) (most : Int) (h : (wdN st : Int) ≤ most) (t : ByteArray) (ht : wdS st = some t) : uiN st most = wdN st ∧ uiS st most = some t := by
  unfold uiN uiS
  rw [if_neg (by omega), if_neg (by omega)]
  cases st with
  | none => simp [wdS] at ht
  | some s =>
    unfold tkN tkS
    simp only [wdN, wdS] at h ht ⊢
    by_cases h0 : FK s = 0
    · rw [if_pos h0] at ht; simp at ht
    · rw [if_neg h0] at ht
      rw [if_neg (by omega), if_neg (by omega)]; exact ⟨rfl, ht⟩
theorem ui_none {st : Option ByteArray} {most : Int} (h : uiS st most = none) : uiN st most = 0 := by
  by_cases hc : most < wdN st ∨ wdS st = none
  · exact (ui_fail st most hc).1
  · cases e : wdS st with
    | none => exact absurd (Or.inr e) hc
    | some t => rw [(ui_ok st most (by omega) t e).2] at h; simp at h
/-- What the document's reader leaves behind. -/
def RqTo (w w' : World) (Q : Nat) (S : ByteArray) (st : Option ByteArray) : Prop := (∃ a, Rq w' Q S a (isBad st) ∧ Link S st a) ∧ w.grownBy w' (some Q)
theorem rword_any (Q : Nat) (S : ByteArray) (st : Option ByteArray) (a : Nat) (w : World) (h : Rq w Q S a (isBad st)) (hl : Link S st a) (hS : S.size ≤ 4611686018427387904) :
    Calls Try.prog 66 #[.pointer (some ⟨Q, 0, none⟩)] w fun e w' => e = .returned (.int .u64 (wdN st)) ∧ RqTo w w' Q S (wdS st) := by
  cases st with
  | none => exact (rword_bad Q S a w h).mono fun e w' ⟨he, h', hg⟩ => ⟨he, ⟨a, h', Link.none hl.1⟩, hg⟩
  | some s =>
    have e := hl.2 s rfl
    refine (rword_good Q S a w h hl.1 hS (P s) (by rw [e, P_at])).mono fun e w' ⟨he, h', hg⟩ => ⟨he, ?_, hg⟩
    cases hp : P s with
    | none =>
      have hk : FK s = 0 := by simp [FK, hp]
      rw [hp] at h'
      have hS' : wdS (some s) = none := by simp [wdS, hk]
      rw [hS']
      exact ⟨a, h', Link.none hl.1⟩
    | some x =>
      obtain ⟨n, k⟩ := x
      have hk : FK s = k := by simp [FK, hp]
      have := P_facts hp
      rw [hp] at h'
      have hS' : wdS (some s) = some (s.extract k s.size) := by unfold wdS; simp only []; rw [if_neg (by omega), hk]
      rw [hS']
      exact ⟨a + k, h', hl.cut (by omega)⟩
theorem link_size {S s : ByteArray} {a : Nat} (h : Link S (some s) a) : s.size = S.size - a ∧ a ≤ S.size := by
  rw [h.2 s rfl, ByteArray.size_extract]; exact ⟨by omega, h.1⟩
end Go.Proofs.Yteaclacbdelinaa.Pen
namespace Go.Proofs.Yteaclacbdelinaa.Pen
open Go.RowKit Go.Lib

theorem tm_none {st : Option ByteArray} {most : Int} (h : uiS st most = none) : tmN st most = 0 ∧ tmS st most = none := by
  unfold tmN tmS
  rw [ui_none h, h]
  simp [leftOf]
theorem tm_over {st : Option ByteArray} {most : Int} {s : ByteArray} (h : uiS st most = some s) (hn : s.size < uiN st most) : tmN st most = 0 ∧ tmS st most = none := by
  unfold tmN tmS
  rw [h]
  have : leftOf (some s) < (uiN st most : Int) := by simp only [leftOf]; omega
  rw [if_pos this, if_pos this]; exact ⟨rfl, rfl⟩
theorem tm_in {st : Option ByteArray} {most : Int} {s : ByteArray} (h : uiS st most = some s) (hn : ¬ s.size < uiN st most) : tmN st most = uiN st most ∧ tmS st most = some s := by
  unfold tmN tmS
  rw [h]
  have : ¬ leftOf (some s) < (uiN st most : Int) := by simp only [leftOf]; omega
  rw [if_neg this, if_neg this]; exact ⟨rfl, rfl⟩
end Go.Proofs.Yteaclacbdelinaa.Pen
namespace Go.Proofs.Yteaclacbdelinaa.Pen

theorem scan_step (f : Nat → Nat) (len d k acc : Nat) (h1 : k < len) (h2 : ¬ f k < 128) : scan f len (d + 1) k acc = scan f len d (k + 1) (acc + (f k - 128) * 2 ^ (7 * k)) := by
  conv => lhs; unfold scan
  rw [if_pos h1, if_neg h2]
theorem scan_last (f : Nat → Nat) (len d k acc : Nat) (h1 : k < len) (h2 : f k < 128) (h3 : ¬ ((f k = 0 ∧ 0 < k) ∨ (k = 9 ∧ 1 < f k))) : scan f len (d + 1) k acc = some (acc + f k * 2 ^ (7 * k), k + 1) := by
  unfold scan
  rw [if_pos h1, if_pos h2, if_neg h3]
theorem pow_next (k : Nat) : (2:Nat) ^ (7 * (k + 1)) = 128 * 2 ^ (7 * k) := by rw [show 7 * (k + 1) = 7 * k + 7 by omega, Nat.pow_add]; omega
theorem scan_wb (f : Nat → Nat) (len : Nat) : ∀ (d k m acc : Nat), d + k = 9 → m < 2 * 128 ^ d → (0 < k → 0 < m) → (∀ i (h : i < (wb d m).length), f (k + i) = ((wb d m)[i]).toNat) → k + (wb d m).length ≤ len →
    scan f len (d + 1) k acc = some (acc + m * 2 ^ (7 * k), k + (wb d m).length) := by
  intro d
  induction d with
  | zero =>
    intro k m acc hk hm h0 hf hl
    have hm1 : m < 2 := by simpa using hm
    have hfk : f k = m := by have := hf 0 (by simp [wb]); simp [wb] at this; omega
    have hl1 : k < len := by simp [wb] at hl; omega
    rw [scan_last f len 0 k acc hl1 (by omega) (by have := h0 (by omega); omega), hfk]
    simp [wb]
  | succ d ih =>
    intro k m acc hk hm h0 hf hl
    by_cases hlt : m < 128
    · rw [wb_small hlt] at hf hl ⊢
      have hfk : f k = m := by have := hf 0 (by simp); simp at this; omega
      have hl1 : k < len := by simp at hl; omega
      rw [scan_last f len (d + 1) k acc hl1 (by omega) (by intro h; rcases h with ⟨h1, h2⟩ | ⟨h1, h2⟩ <;> have := h0 <;> omega), hfk]
      simp
    · rw [wb_big hlt] at hf hl ⊢
      have hfk : f k = 128 + m % 128 := by have := hf 0 (by simp); simp at this; omega
      simp only [List.length_cons] at hl ⊢
      rw [scan_step f len (d + 1) k acc (by omega) (by omega), hfk]
      have hm1 : m / 128 < 2 * 128 ^ d := by rw [Nat.pow_succ] at hm; exact Nat.div_lt_of_lt_mul (by omega)
      rw [ih (k + 1) (m / 128) _ (by omega) hm1 (by omega) (fun i h => by
        have := hf (i + 1) (by simp; omega)
        rw [show k + 1 + i = k + (i + 1) by omega, this]; rfl) (by omega)]
      have e : 128 + m % 128 - 128 = m % 128 := by omega
      rw [pow_next, e]
      have hv : acc + m % 128 * 2 ^ (7 * k) + m / 128 * (128 * 2 ^ (7 * k)) = acc + m * 2 ^ (7 * k) := by
        have hdm : m = m % 128 + m / 128 * 128 := by omega
        conv => rhs; rw [hdm]
        rw [Nat.add_mul, Nat.mul_assoc, Nat.add_assoc]
      have hj : k + 1 + (wb d (m / 128)).length = k + ((wb d (m / 128)).length + 1) := by omega
      rw [hv, hj]
theorem wb_scan (f : Nat → Nat) (len : Nat) (hf : ∀ k, f k < 256) : ∀ (d k acc n j : Nat), scan f len (d + 1) k acc = some (n, j) →
    ∃ m, n = acc + m * 2 ^ (7 * k) ∧ j = k + (wb d m).length ∧ (∀ i (h : i < (wb d m).length), f (k + i) = ((wb d m)[i]).toNat) ∧ (0 < k → 0 < m) := by
  intro d
  induction d with
  | zero =>
    intro k acc n j h
    unfold scan at h
    split at h
    · split at h
      · split at h
        · simp at h
        · rename_i h1 h2 h3
          injection h with h
          injection h with hn hj
          refine ⟨f k, hn.symm, by simp [wb]; omega, fun i hi => ?_, fun hk => by omega⟩
          obtain rfl : i = 0 := by simp [wb] at hi; omega
          simp [wb]; omega
      · simp [scan] at h
    · simp at h
  | succ d ih =>
    intro k acc n j h
    by_cases h1 : k < len
    · by_cases h2 : f k < 128
      · unfold scan at h
        rw [if_pos h1, if_pos h2] at h
        split at h
        · simp at h
        · rename_i h3
          injection h with h
          injection h with hn hj
          refine ⟨f k, hn.symm, by rw [wb_small h2]; simp; omega, fun i hi => ?_, fun hk => by omega⟩
          rw [wb_small h2] at hi
          obtain rfl : i = 0 := by simp at hi; omega
          simp [wb_small h2]; omega
      · rw [scan_step f len (d + 1) k acc h1 h2] at h
        obtain ⟨m, hn, hj, hb, h0⟩ := ih (k + 1) _ n j h
        have hm := h0 (by omega)
        have h256 := hf k
        have hbig : ¬ (f k - 128 + m * 128) < 128 := by omega
        have e1 : (f k - 128 + m * 128) % 128 = f k - 128 := by omega
        have e2 : (f k - 128 + m * 128) / 128 = m := by omega
        have hw : wb (d + 1) (f k - 128 + m * 128) = UInt8.ofNat (f k) :: wb d m := by rw [wb_big hbig, e1, e2, show 128 + (f k - 128) = f k by omega]
        refine ⟨f k - 128 + m * 128, ?_, ?_, fun i hi => ?_, fun _ => by omega⟩
        · rw [hn, pow_next, Nat.add_mul, Nat.mul_assoc, Nat.add_assoc]
        · rw [hw, List.length_cons, hj]; omega
        · simp only [hw] at hi ⊢
          cases i with
          | zero => simp; omega
          | succ i =>
            have := hb i (by simpa using hi)
            rw [show k + (i + 1) = k + 1 + i by omega, this]; rfl
    · unfold scan at h; rw [if_neg h1] at h; simp at h

theorem gb_front (a b : ByteArray) (i : Nat) (h : i < a.data.toList.length) : gb (a ++ b) i = (a.data.toList[i]).toNat := by
  unfold gb
  rw [ByteArray.data_append, Array.toList_append, List.getD_eq_getElem?_getD, List.getElem?_append_left h, List.getElem?_eq_getElem h]
  rfl
theorem P_word (n : Nat) (rest : ByteArray) (hn : n < 18446744073709551616) : P (wordB n ++ rest) = some (n, (wordB n).size) := by
  have e : (wordB n).data.toList = wb 9 n := by simp [wordB]
  have hs : (wordB n).size = (wb 9 n).length := by rw [← size_list, e]
  unfold P
  rw [scan_wb _ _ 9 0 n 0 rfl (by omega) (by omega) (fun i h => by
      have h' : i < (wordB n).data.toList.length := by rw [e]; exact h
      rw [Nat.zero_add, gb_front _ _ i h']
      simp only [e]) (by rw [ByteArray.size_append, hs]; omega)]
  simp [hs]
theorem P_back {s : ByteArray} {n j : Nat} (h : P s = some (n, j)) : wordB n = s.extract 0 j := by
  have hP := P_facts h
  obtain ⟨m, hn, hj, hb, _⟩ := wb_scan (gb s) s.size (gb_lt s) 9 0 0 n j h
  have hm : n = m := by simpa using hn
  subst hm
  apply ByteArray.ext
  apply Array.toList_inj.1
  have e2 : (s.extract 0 j).data.toList = s.data.toList.take j := by
    rw [ByteArray.data_extract, Array.toList_extract]
    simp
  have e1 : (wordB n).data.toList = wb 9 n := by simp [wordB]
  rw [e1, e2]
  have hl : s.data.toList.length = s.size := size_list s
  apply List.ext_getElem
  · rw [List.length_take, hl]; omega
  · intro i h1 h2
    have := hb i h1
    rw [Nat.zero_add] at this
    unfold gb at this
    have hi : i < s.data.toList.length := by rw [List.length_take] at h2; omega
    rw [List.getD_eq_getElem?_getD, List.getElem?_eq_getElem hi, Option.getD_some] at this
    rw [List.getElem_take]
    exact (UInt8.toNat_inj.1 this).symm
theorem place_placed (n : Nat) : placeOf (placedOf n) = n := by
  unfold placeOf placedOf
  by_cases h : n % 2 = 1
  · rw [if_pos h]; rw [if_pos (by omega)]; omega
  · rw [if_neg h]; rw [if_neg (by omega)]; omega
theorem placed_place (z : Int) : placedOf (placeOf z) = z := by
  unfold placeOf placedOf
  by_cases h : z < 0
  · rw [if_pos h]; rw [if_pos (by omega)]; omega
  · rw [if_neg h]; rw [if_neg (by omega)]; omega
theorem FVK (n : Nat) (rest : ByteArray) (hn : n < 18446744073709551616) : FV (wordB n ++ rest) = n ∧ FK (wordB n ++ rest) = (wordB n).size := by
  unfold FV FK
  rw [P_word n rest hn]
  exact ⟨rfl, rfl⟩
theorem tk_word (n most : Nat) (rest : ByteArray) (hn : n < 18446744073709551616) (hm : n ≤ most) : tkN (some (wordB n ++ rest)) most = n ∧ tkS (some (wordB n ++ rest)) most = some rest := by
  obtain ⟨h1, h2⟩ := FVK n rest hn
  have h3 := (wordB_size n).1
  unfold tkN tkS
  simp only []
  rw [h1, h2, if_neg (by omega), if_neg (by omega), cut_front]
  exact ⟨rfl, rfl⟩
theorem in_back (z : Int) (rest : ByteArray) (a1 : -9223372036854775808 ≤ z) (a2 : z ≤ 9223372036854775807) : inN (some (intB z ++ rest)) = z ∧ inS (some (intB z ++ rest)) = some rest := by
  have h := placeOf_lt z a1 a2
  obtain ⟨h1, h2⟩ := tk_word (placeOf z) 18446744073709551615 rest h (by omega)
  unfold inN inS intB
  rw [h1, h2, placed_place]
  exact ⟨rfl, rfl⟩
theorem ui_back (n : Nat) (most : Int) (rest : ByteArray) (hn : (n : Int) ≤ most) (hm : most ≤ 9223372036854775807) : uiN (some (uintB n ++ rest)) most = n ∧ uiS (some (uintB n ++ rest)) most = some rest := by
  obtain ⟨h1, h2⟩ := tk_word n most.toNat rest (by omega) (by omega)
  have e : uintB (n : Int) = wordB n := by unfold uintB; rw [if_neg (by omega)]; rfl
  unfold uiN uiS
  rw [e, if_neg (by omega), if_neg (by omega)]
  exact ⟨h1, h2⟩
theorem tx_back (t rest : ByteArray) (most : Int) (ht : (t.size : Int) ≤ most) (hm : most ≤ 9223372036854775807) : txV (some (textB t ++ rest)) most = t ∧ txS (some (textB t ++ rest)) most = some rest := by
  obtain ⟨h1, h2⟩ := ui_back t.size most (t ++ rest) ht hm
  have e : textB t ++ rest = uintB (t.size : Int) ++ (t ++ rest) := by unfold textB; exact append_assoc _ _ _
  rw [← e] at h1 h2
  obtain ⟨h3, h4⟩ := tm_in h2 (by rw [h1, ByteArray.size_append]; omega)
  unfold txV txS
  rw [h4, h3, h1]
  simp only []
  rw [take_front, cut_front]
  exact ⟨rfl, rfl⟩
/-- What is read of any bytes was written by just these. -/
theorem ui_wrote {s t : ByteArray} {most : Int} (h : uiS (some s) most = some t) : uintB (uiN (some s) most) = s.extract 0 (s.size - t.size) ∧ t.size ≤ s.size := by
  by_cases hc : most < wdN (some s) ∨ wdS (some s) = none
  · rw [(ui_fail _ most hc).2] at h; simp at h
  · cases e : wdS (some s) with
    | none => exact absurd (Or.inr e) hc
    | some u =>
      obtain ⟨h1, h2⟩ := ui_ok (some s) most (by omega) u e
      rw [h2] at h
      injection h with h
      subst h
      unfold wdS at e
      simp only [] at e
      by_cases hk : FK s = 0
      · rw [if_pos hk] at e; simp at e
      · rw [if_neg hk] at e
        injection e with e
        have hp : P s = some (FV s, FK s) := by
          unfold FK at hk; unfold FV FK
          cases h : P s with
          | none => rw [h] at hk; simp at hk
          | some x => rfl
        have hkl := (FK_le s).1
        have hsz : u.size = s.size - FK s := by rw [← e, ByteArray.size_extract]; omega
        rw [h1, uintB_word, hsz, show s.size - (s.size - FK s) = FK s by omega]
        exact ⟨P_back hp, by omega⟩
  where uintB_word : uintB ((wdN (some s) : Nat) : Int) = wordB (FV s) := by unfold uintB; rw [if_neg (by omega)]; rfl
theorem in_wrote {s t : ByteArray} (h : inS (some s) = some t) : intB (inN (some s)) = s.extract 0 (s.size - t.size) ∧ t.size ≤ s.size := by
  obtain ⟨e1, e2⟩ := tk_wd (some s)
  unfold inS at h
  unfold inN
  rw [e2] at h
  rw [e1]
  unfold wdS at h
  simp only [] at h
  by_cases hk : FK s = 0
  · rw [if_pos hk] at h; simp at h
  · rw [if_neg hk] at h
    injection h with h
    have hp : P s = some (FV s, FK s) := by
      unfold FK at hk; unfold FV FK
      cases h : P s with
      | none => rw [h] at hk; simp at hk
      | some x => rfl
    have hkl := (FK_le s).1
    have hsz : t.size = s.size - FK s := by rw [← h, ByteArray.size_extract]; omega
    unfold intB
    rw [place_placed, hsz, show s.size - (s.size - FK s) = FK s by omega]
    exact ⟨P_back hp, by omega⟩
end Go.Proofs.Yteaclacbdelinaa.Pen
namespace Go.Proofs.Yteaclacbdelinaa.Pen
open Go.RowKit Go.Lib

set_option maxHeartbeats 1000000 in
theorem ruint_any (Q : Nat) (S : ByteArray) (st : Option ByteArray) (a : Nat) (most : Int) (w : World) (h : Rq w Q S a (isBad st)) (hl : Link S st a) (hS : S.size ≤ 4611686018427387904) (hm : most ≤ 9223372036854775807) :
    Calls Try.prog 47 #[.pointer (some ⟨Q, 0, none⟩), .int .i64 most] w fun e w' => e = .returned (.int .i64 (uiN st most)) ∧ RqTo w w' Q S (uiS st most) := by
  obtain ⟨n, hn⟩ : ∃ n, wdN st = n := ⟨_, rfl⟩
  have hlt := wdN_lt st
  rw [hn] at hlt
  have HN := Lib.hid hn
  by_cases h1 : 9223372036854775807 < n
  · obtain ⟨hN, hSt⟩ := ui_fail st most (Or.inl (by omega))
    have HNN := Lib.hid hN; have HSS := Lib.hid hSt
    clear hN hSt hn
    go_enter Try.func47, Try.ntmps47
    go_wp2_with fail
    refine (rword_any Q S st a _ h hl hS).mono ?_
    rintro e w1 ⟨rfl, ⟨a1, H1, hl1⟩, hg1⟩
    rw [HN.out]
    go_wp2_with fail
    refine (fails_any Q S a1 _ _ H1).mono ?_
    rintro e w2 ⟨rfl, H2, hg2⟩
    go_wp2_with fail
    go_ret
    exact ⟨ret_i64 (by rw [HNN.out]; rfl), by rw [HSS.out]; exact ⟨⟨a1, H2, Link.none hl1.1⟩, only_trans hg1 hg2⟩⟩
  · by_cases h2 : most < n
    · obtain ⟨hN, hSt⟩ := ui_fail st most (Or.inl (by omega))
      have HNN := Lib.hid hN; have HSS := Lib.hid hSt
      have hle : n ≤ 9223372036854775807 := by omega
      have hd1 : decide (9223372036854775807 < n) = false := by simp; omega
      have hd2 : decide (most < n) = true := by simp; omega
      clear hN hSt hn h1
      go_enter Try.func47, Try.ntmps47
      go_wp2_with fail
      refine (rword_any Q S st a _ h hl hS).mono ?_
      rintro e w1 ⟨rfl, ⟨a1, H1, hl1⟩, hg1⟩
      rw [HN.out]
      go_wp2_with fail
      refine (fails_any Q S a1 _ _ H1).mono ?_
      rintro e w2 ⟨rfl, H2, hg2⟩
      go_wp2_with fail
      go_ret
      exact ⟨ret_i64 (by rw [HNN.out]; rfl), by rw [HSS.out]; exact ⟨⟨a1, H2, Link.none hl1.1⟩, only_trans hg1 hg2⟩⟩
    · have hle : n ≤ 9223372036854775807 := by omega
      have hle2 : (n : Int) ≤ most := by omega
      have hd1 : decide (9223372036854775807 < n) = false := by simp; omega
      have hd2 : decide (most < n) = false := by simp; omega
      cases hs : wdS st with
      | none =>
        obtain ⟨hN, hSt⟩ := ui_fail st most (Or.inr hs)
        have HNN := Lib.hid hN; have HSS := Lib.hid hSt; have HS := Lib.hid hs
        clear hN hSt hn h1 h2 hs
        go_enter Try.func47, Try.ntmps47
        go_wp2_with fail
        refine (rword_any Q S st a _ h hl hS).mono ?_
        rintro e w1 ⟨rfl, ⟨a1, H1, hl1⟩, hg1⟩
        rw [HN.out]
        rw [HS.out] at H1
        obtain ⟨c0, c1, c2, f0, f1, f2⟩ := H1.cells
        have c2' : w1.cell? ⟨Q, 2, none⟩ = some (.bool true) := c2
        clear c2
        go_wp2_with fail
        refine (fails_any Q S a1 _ _ H1).mono ?_
        rintro e w2 ⟨rfl, H2, hg2⟩
        go_wp2_with fail
        go_ret
        exact ⟨ret_i64 (by rw [HNN.out]; rfl), by rw [HSS.out]; exact ⟨⟨a1, H2, Link.none hl1.1⟩, only_trans hg1 hg2⟩⟩
      | some t =>
        obtain ⟨hN, hSt⟩ := ui_ok st most (by omega) t hs
        rw [hn] at hN
        have HNN := Lib.hid hN; have HSS := Lib.hid hSt; have HS := Lib.hid hs
        clear hN hSt hn h1 h2 hs
        go_enter Try.func47, Try.ntmps47
        go_wp2_with fail
        refine (rword_any Q S st a _ h hl hS).mono ?_
        rintro e w1 ⟨rfl, ⟨a1, H1, hl1⟩, hg1⟩
        rw [HN.out]
        rw [HS.out] at H1 hl1
        obtain ⟨c0, c1, c2, f0, f1, f2⟩ := H1.cells
        have c2' : w1.cell? ⟨Q, 2, none⟩ = some (.bool false) := c2
        clear c2
        go_wp2_with fail
        go_ret
        exact ⟨ret_i64 (by rw [HNN.out]), by rw [HSS.out]; exact ⟨⟨a1, H1, hl1⟩, hg1⟩⟩
end Go.Proofs.Yteaclacbdelinaa.Pen
namespace Go.Proofs.Yteaclacbdelinaa.Pen
open Go.RowKit Go.Lib

theorem done_link {S s : ByteArray} {a : Nat} (h : Link S (some s) a) : doneOf (some s) = ((a : Int) == (S.size : Int)) := by
  obtain ⟨h1, h2⟩ := link_size h
  have e : s.toList.length = s.size := by rw [ByteArray.toList_eq, Array.length_toList]; rfl
  simp only [doneOf]
  rw [Bool.eq_iff_iff, List.isEmpty_iff_length_eq_zero, beq_iff_eq, e]
  omega
theorem rdone_any (Q : Nat) (S : ByteArray) (st : Option ByteArray) (a : Nat) (w : World) (h : Rq w Q S a (isBad st)) (hl : Link S st a) :
    Calls Try.prog 48 #[.pointer (some ⟨Q, 0, none⟩)] w fun e w' => e = .returned (.bool (doneOf st)) ∧ ∃ m, w.drewN m = w' := by
  cases st with
  | none =>
    obtain ⟨c0, c1, c2, f0, f1, f2⟩ := h.cells
    have c2' : w.cell? ⟨Q, 2, none⟩ = some (.bool true) := c2
    clear c2 h
    go_enter Try.func48, Try.ntmps48
    go_wp2
    go_quiet (fail)
    go_wp2
    go_ret
    exact ⟨rfl, _, rfl⟩
  | some s =>
    have HZ := Lib.hid (done_link hl)
    obtain ⟨c0, c1, c2, f0, f1, f2⟩ := h.cells
    have c2' : w.cell? ⟨Q, 2, none⟩ = some (.bool false) := c2
    clear c2 h
    go_enter Try.func48, Try.ntmps48
    go_wp2
    go_quiet (fail)
    go_wp2
    go_ret
    exact ⟨ret_bool (by rw [HZ.out]), _, rfl⟩
end Go.Proofs.Yteaclacbdelinaa.Pen
