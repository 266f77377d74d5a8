/- What the law PenBack writes and reads: the bytes of numbers and texts one behind the other. -/
import Derived.Test.YtidfoflbebampaaPenRev
import Derived.Test.YtidfoflbebampaaPenJ
namespace Go.Proofs.Ytidfoflbebampaa
open Go.RowKit Go.Lib

def up0 (z : Int) : Int := if z < 0 then 0 else z
def encA (Z : Nat → Int) : Nat → ByteArray
  | 0 => ⟨#[]⟩
  | k + 1 => encA Z k ++ intB (Z k) ++ uintB (up0 (Z k))
def encT (B : ByteArray) (T : Nat → ByteArray) : Nat → ByteArray
  | 0 => B
  | k + 1 => encT B T k ++ textB (T k)
def restT (T : Nat → ByteArray) (n : Nat) : Nat → ByteArray
  | 0 => ⟨#[]⟩
  | d + 1 => textB (T (n - (d + 1))) ++ restT T n d
def restA (Z : Nat → Int) (n : Nat) (tail : ByteArray) : Nat → ByteArray
  | 0 => tail
  | d + 1 => intB (Z (n - (d + 1))) ++ (uintB (up0 (Z (n - (d + 1)))) ++ restA Z n tail d)
theorem intB_size (z : Int) : (intB z).size ≤ 10 := (wordB_size _).2
theorem encA_size (Z : Nat → Int) : ∀ k, (encA Z k).size ≤ 20 * k
  | 0 => Nat.le_refl 0
  | k + 1 => by
    have h := encA_size Z k
    have h1 := intB_size (Z k)
    have h2 := uintB_size (up0 (Z k))
    simp only [encA, ByteArray.size_append]
    omega
theorem encT_size (B : ByteArray) (T : Nat → ByteArray) : ∀ k, (∀ j, j < k → (T j).size ≤ 256) → (encT B T k).size ≤ B.size + 266 * k
  | 0, _ => Nat.le_refl _
  | k + 1, ht => by
    have h := encT_size B T k (fun j hj => ht j (by omega))
    have h1 := ht k (by omega)
    have h2 := uintB_size ((T k).size : Int)
    simp only [encT, textB, ByteArray.size_append]
    omega
theorem nil_append (a : ByteArray) : (⟨#[]⟩ : ByteArray) ++ a = a := by
  apply ByteArray.ext
  simp [ByteArray.data_append]
theorem append_nil (a : ByteArray) : a ++ (⟨#[]⟩ : ByteArray) = a := by
  apply ByteArray.ext
  simp [ByteArray.data_append]
theorem encT_rest (B : ByteArray) (T : Nat → ByteArray) (n : Nat) : ∀ k, k ≤ n → encT B T k ++ restT T n (n - k) = B ++ restT T n n
  | 0, _ => rfl
  | k + 1, hk => by
    rw [← encT_rest B T n k (by omega)]
    obtain ⟨d, hd⟩ : ∃ d, n - k = d + 1 := ⟨n - k - 1, by omega⟩
    rw [hd, show n - (k + 1) = d by omega]
    simp only [encT, restT]
    rw [show n - (d + 1) = k by omega, append_assoc]
theorem encA_rest (Z : Nat → Int) (n : Nat) (tail : ByteArray) : ∀ k, k ≤ n → encA Z k ++ restA Z n tail (n - k) = restA Z n tail n
  | 0, _ => nil_append _
  | k + 1, hk => by
    rw [← encA_rest Z n tail k (by omega)]
    obtain ⟨d, hd⟩ : ∃ d, n - k = d + 1 := ⟨n - k - 1, by omega⟩
    rw [hd, show n - (k + 1) = d by omega]
    simp only [encA, restA]
    rw [show n - (d + 1) = k by omega, append_assoc, append_assoc]
theorem enc_all (Z : Nat → Int) (T : Nat → ByteArray) (n m : Nat) : encT (encA Z n) T m = restA Z n (restT T m m) n := by
  have h1 := encT_rest (encA Z n) T m m (Nat.le_refl _)
  have h2 := encA_rest Z n (restT T m m) n (Nat.le_refl _)
  rw [Nat.sub_self] at h1 h2
  simp only [restT, restA] at h1 h2
  rw [append_nil] at h1
  rw [h1, h2]
theorem restA_next (Z : Nat → Int) (n k : Nat) (tail : ByteArray) (hk : k < n) : restA Z n tail (n - k) = intB (Z k) ++ (uintB (up0 (Z k)) ++ restA Z n tail (n - (k + 1))) := by
  obtain ⟨d, hd⟩ : ∃ d, n - k = d + 1 := ⟨n - k - 1, by omega⟩
  rw [hd, show n - (k + 1) = d by omega]
  simp only [restA]
  rw [show n - (d + 1) = k by omega]
theorem restT_next (T : Nat → ByteArray) (n k : Nat) (hk : k < n) : restT T n (n - k) = textB (T k) ++ restT T n (n - (k + 1)) := by
  obtain ⟨d, hd⟩ : ∃ d, n - k = d + 1 := ⟨n - k - 1, by omega⟩
  rw [hd, show n - (k + 1) = d by omega]
  simp only [restT]
  rw [show n - (d + 1) = k by omega]
theorem fit_tail {a b : ByteArray} (h : Fit (some (a ++ b))) : Fit (some b) := fun t ht => by
  injection ht with ht
  have := h _ rfl
  rw [ByteArray.size_append] at this
  rw [← ht]; omega
theorem int_as (R : Nat) (z : Int) (rest : ByteArray) (w : World) (h : Rd w R (some (intB z ++ rest))) (hf : Fit (some (intB z ++ rest))) (a1 : -9223372036854775808 ≤ z) (a2 : z ≤ 9223372036854775807) :
    Calls Try.prog 17 #[.pointer (some ⟨R, 0, none⟩)] w fun e w' => e = .returned (.int .i64 z) ∧ Rd w' R (some rest) ∧ w.grownBy w' (some R) := by
  have hc := int_any R _ w h hf
  obtain ⟨h1, h2⟩ := in_back z rest a1 a2
  rwa [h1, h2] at hc
theorem uint_as (R : Nat) (z : Int) (rest : ByteArray) (w : World) (h : Rd w R (some (uintB z ++ rest))) (hf : Fit (some (uintB z ++ rest))) (a1 : 0 ≤ z) (a2 : z ≤ 9223372036854775807) :
    Calls Try.prog 15 #[.pointer (some ⟨R, 0, none⟩), .int .i64 9223372036854775807] w fun e w' => e = .returned (.int .i64 z) ∧ Rd w' R (some rest) ∧ w.grownBy w' (some R) := by
  obtain ⟨n, rfl⟩ : ∃ n : Nat, z = n := ⟨z.toNat, by omega⟩
  have hc := uint_any R _ 9223372036854775807 w h hf (by omega)
  obtain ⟨h1, h2⟩ := ui_back n 9223372036854775807 rest a2 (by omega)
  rwa [h1, h2] at hc
theorem text_as (R : Nat) (t rest : ByteArray) (w : World) (h : Rd w R (some (textB t ++ rest))) (hf : Fit (some (textB t ++ rest))) (ht : t.size ≤ 256) :
    Calls Try.prog 19 #[.pointer (some ⟨R, 0, none⟩), .int .i64 256] w fun e w' => e = .returned (.string t) ∧ Rd w' R (some rest) ∧ w.grownBy w' (some R) := by
  have hc := text_any R _ 256 w h hf (by omega)
  obtain ⟨h1, h2⟩ := tx_back t rest 256 (by omega) (by omega)
  rwa [h1, h2] at hc
theorem up0_le (z : Int) (h : z ≤ 9223372036854775807) : 0 ≤ up0 z ∧ up0 z ≤ 9223372036854775807 := by unfold up0; split <;> omega
end Go.Proofs.Ytidfoflbebampaa
