/- Plain mathematics of layer 2: the bytes of a number, the number that a text begins with, and that the two are each other's reverse. -/
import Derived.Laws.DeepNot64
namespace Go.Proofs.Ytidfoflbebampaa

/-- The bytes of a number, at most k + 1 of them. -/
def wb : Nat → Nat → List UInt8
  | 0, n => [UInt8.ofNat n]
  | k + 1, n => if n < 128 then [UInt8.ofNat n] else UInt8.ofNat (128 + n % 128) :: wb k (n / 128)
def wordB (n : Nat) : ByteArray := ⟨(wb 9 n).toArray⟩
def uintB (n : Int) : ByteArray := if n < 0 then ⟨#[]⟩ else wordB n.toNat
def placeOf (n : Int) : Nat := if n < 0 then (2 * (-1 - n) + 1).toNat else (2 * n).toNat
def intB (n : Int) : ByteArray := wordB (placeOf n)
def textB (s : ByteArray) : ByteArray := uintB s.size ++ s
def placedOf (n : Nat) : Int := if n % 2 = 1 then -1 - (n / 2 : Nat) else (n / 2 : Nat)

theorem wb_len : ∀ (k n : Nat), 1 ≤ (wb k n).length ∧ (wb k n).length ≤ k + 1
  | 0, n => by simp [wb]
  | k + 1, n => by
    unfold wb
    split
    · simp
    · have := wb_len k (n / 128); simp; omega
theorem wb_small {k n : Nat} (h : n < 128) : wb k n = [UInt8.ofNat n] := by
  cases k with
  | zero => rfl
  | succ k => simp [wb, h]
theorem wb_big {k n : Nat} (h : ¬ n < 128) : wb (k + 1) n = UInt8.ofNat (128 + n % 128) :: wb k (n / 128) := by simp [wb, h]
theorem wordB_size (n : Nat) : 1 ≤ (wordB n).size ∧ (wordB n).size ≤ 10 := by
  have := wb_len 9 n
  simp only [wordB, ByteArray.size, List.size_toArray]
  omega
theorem or_128 : ∀ x : Nat, x < 256 → x ||| 128 = 128 + x % 128 := by decide +kernel
theorem u8_more (n : Nat) : bits .or .u8 ((n % 256 : Nat) : Int) 128 = ((128 + n % 128 : Nat) : Int) := by
  have h := u8_or_nat (n % 256) 128 (by omega) (by omega)
  rw [or_128 (n % 256) (by omega)] at h
  have e : n % 256 % 128 = n % 128 := by omega
  rw [e] at h
  exact h
theorem i64_not_neg (n : Int) (h1 : n < 0) (h2 : -9223372036854775808 ≤ n) : bits .xor .i64 (-1) n = -1 - n := by
  obtain ⟨a, rfl⟩ : ∃ a : Nat, n = -1 - (a : Int) := ⟨(-1 - n).toNat, by omega⟩
  show IntKind.i64.wrap ((BitVec.ofInt 64 (-1) ^^^ BitVec.ofInt 64 (-1 - (a : Int))).toNat : Int) = _
  have h1 : BitVec.ofInt 64 (-1) = BitVec.allOnes 64 := by decide
  have h3 : BitVec.ofInt 64 (-1 - (a : Int)) = ~~~ (BitVec.ofInt 64 (a : Int)) := by
    apply BitVec.eq_of_toNat_eq
    rw [BitVec.toNat_not, ofInt_u64 a (by omega), BitVec.toNat_ofInt]
    omega
  rw [h1, BitVec.allOnes_xor, h3, BitVec.not_not, ofInt_u64 a (by omega)]
  simp [IntKind.wrap, IntKind.bits, IntKind.signed]
  omega

/-- The number that a row of bytes begins with, and how many bytes it has. -/
def scan (f : Nat → Nat) (len : Nat) : Nat → Nat → Nat → Option (Nat × Nat)
  | 0, _, _ => none
  | d + 1, k, acc =>
    if k < len then
      if f k < 128 then (if (f k = 0 ∧ 0 < k) ∨ (k = 9 ∧ 1 < f k) then none else some (acc + f k * 2 ^ (7 * k), k + 1))
      else scan f len d (k + 1) (acc + (f k - 128) * 2 ^ (7 * k))
    else none
def gb (s : ByteArray) (k : Nat) : Nat := (s.data.toList.getD k 0).toNat
theorem gb_lt (s : ByteArray) (k : Nat) : gb s k < 256 := by unfold gb; exact UInt8.toNat_lt _
def P (s : ByteArray) : Option (Nat × Nat) := scan (gb s) s.size 10 0 0
def FV (s : ByteArray) : Nat := ((P s).getD (0, 0)).1
def FK (s : ByteArray) : Nat := ((P s).getD (0, 0)).2

theorem scan_facts (f : Nat → Nat) (len : Nat) (hf : ∀ k, f k < 256) : ∀ (d k acc n m : Nat), d + k = 10 → acc < 2 ^ (7 * k) → scan f len d k acc = some (n, m) →
    k + 1 ≤ m ∧ m ≤ len ∧ m ≤ 10 ∧ n < 18446744073709551616 := by
  intro d
  induction d with
  | zero => intro k acc n m _ _ h; simp [scan] at h
  | succ d ih =>
    intro k acc n m hd ha h
    unfold scan at h
    by_cases h1 : k < len
    · rw [if_pos h1] at h
      by_cases h2 : f k < 128
      · rw [if_pos h2] at h
        by_cases h3 : (f k = 0 ∧ 0 < k) ∨ (k = 9 ∧ 1 < f k)
        · rw [if_pos h3] at h; simp at h
        · rw [if_neg h3] at h
          injection h with h
          injection h with hn hm
          refine ⟨by omega, by omega, by omega, ?_⟩
          rw [← hn]
          by_cases h9 : k = 9
          · subst h9
            have : f 9 ≤ 1 := by omega
            have e : (2:Nat) ^ (7 * 9) = 9223372036854775808 := by decide
            rw [e] at ha ⊢
            omega
          · have hk : 7 * k ≤ 56 := by omega
            have e : (2:Nat) ^ (7 * k) ≤ 2 ^ 56 := Nat.pow_le_pow_right (by omega) hk
            have e2 : (2:Nat) ^ 56 = 72057594037927936 := by decide
            have e3 : f k * 2 ^ (7 * k) ≤ 127 * 2 ^ 56 := Nat.mul_le_mul (by omega) e
            omega
      · rw [if_neg h2] at h
        have e : (2:Nat) ^ (7 * (k + 1)) = 128 * 2 ^ (7 * k) := by rw [show 7 * (k + 1) = 7 * k + 7 by omega, Nat.pow_add]; omega
        have e3 : (f k - 128) * 2 ^ (7 * k) ≤ 127 * 2 ^ (7 * k) := Nat.mul_le_mul (by have := hf k; omega) (Nat.le_refl _)
        have := ih (k + 1) _ n m (by omega) (by omega) h
        omega
    · rw [if_neg h1] at h; simp at h
theorem P_facts {s : ByteArray} {n m : Nat} (h : P s = some (n, m)) : 1 ≤ m ∧ m ≤ s.size ∧ m ≤ 10 ∧ n < 18446744073709551616 := by
  have := scan_facts (gb s) s.size (gb_lt s) 10 0 0 n m (by omega) (by simp) h
  omega
theorem FV_lt (s : ByteArray) : FV s < 18446744073709551616 := by
  unfold FV
  cases h : P s with
  | none => simp
  | some x => obtain ⟨n, m⟩ := x; have := P_facts h; simp; omega
theorem FK_le (s : ByteArray) : FK s ≤ s.size ∧ FK s ≤ 10 := by
  unfold FK
  cases h : P s with
  | none => simp
  | some x => obtain ⟨n, m⟩ := x; have := P_facts h; simp; omega

theorem gb_extract (s : ByteArray) (a k : Nat)  : gb (s.extract a s.size) k = gb s (a + k) := by
  have e : (s.extract a s.size).data.toList = s.data.toList.drop a := by
    rw [ByteArray.data_extract, Array.toList_extract]
    exact List.take_of_length_le (by rw [List.length_drop, Array.length_toList]; exact Nat.le_refl _)
  unfold gb
  rw [e, List.getD_eq_getElem?_getD, List.getD_eq_getElem?_getD, List.getElem?_drop]
theorem scan_congr (f g : Nat → Nat) (len : Nat) (h : ∀ k, f k = g k) (d : Nat) : ∀ k acc, scan f len d k acc = scan g len d k acc := by
  have : f = g := funext h
  subst this
  intro _ _; rfl
theorem P_at (s : ByteArray) (a : Nat) : P (s.extract a s.size) = scan (fun k => gb s (a + k)) (s.size - a) 10 0 0 := by
  unfold P
  rw [scan_congr _ _ _ (fun k => gb_extract s a k)]
  simp [ByteArray.size_extract]
end Go.Proofs.Ytidfoflbebampaa
