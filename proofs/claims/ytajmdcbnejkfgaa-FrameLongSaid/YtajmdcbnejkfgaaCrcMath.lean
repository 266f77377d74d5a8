/- The plain mathematics of sums of bytes: steps are linear and lose nothing; what turned bits within 32 neighbours do to a sum. Nothing here speaks of a program. -/
import Derived.WalkKit
import Derived.Test.YtajmdcbnejkfgaaCommon
namespace Go.Proofs.Ytajmdcbnejkfgaa.Crc

def turns : Nat := 3988292384
def ones : Nat := 4294967295
def step (n : Nat) : Nat := if n % 2 = 1 then (n / 2) ^^^ turns else n / 2
def steps : Nat → Nat → Nat
  | 0, n => n
  | k + 1, n => step (steps k n)
def come (n b : Nat) : Nat := steps 8 (n ^^^ b)
def run (x : Nat) (l : List UInt8) : Nat := l.foldl (fun n b => come n b.toNat) x
def more (sum : Nat) (s : ByteArray) : Nat := ones ^^^ run (ones ^^^ sum) s.data.toList
def zeros (sum k : Nat) : Nat := ones ^^^ steps (8 * k) (ones ^^^ sum)

theorem xor_lt {a b : Nat} (ha : a < 4294967296) (hb : b < 4294967296) : a ^^^ b < 4294967296 := Nat.xor_lt_two_pow (n := 32) ha hb
theorem step_odd {n : Nat} (h : n % 2 = 1) : step n = (n / 2) ^^^ turns := by unfold step; rw [if_pos h]
theorem step_even {n : Nat} (h : n % 2 = 0) : step n = n / 2 := by unfold step; rw [if_neg (by omega)]
theorem step_lt {n : Nat} (h : n < 4294967296) : step n < 4294967296 := by
  unfold step
  split
  · exact xor_lt (by omega) (by unfold turns; omega)
  · omega
theorem steps_lt {n : Nat} (h : n < 4294967296) : ∀ k, steps k n < 4294967296
  | 0 => h
  | k + 1 => step_lt (steps_lt h k)
theorem come_lt {n b : Nat} (h : n < 4294967296) (hb : b < 256) : come n b < 4294967296 := steps_lt (xor_lt h (by omega)) 8
theorem steps_succ (k n : Nat) : steps (k + 1) n = step (steps k n) := rfl
theorem steps_add (a n : Nat) : ∀ b, steps (a + b) n = steps b (steps a n)
  | 0 => rfl
  | b + 1 => by rw [← Nat.add_assoc, steps_succ, steps_add a n b, steps_succ]
theorem steps_first (k n : Nat) : steps (k + 1) n = steps k (step n) := by
  rw [Nat.add_comm, steps_add 1 n k]; rfl
theorem run_nil (x : Nat) : run x [] = x := rfl
theorem run_cons (x : Nat) (b : UInt8) (l : List UInt8) : run x (b :: l) = run (come x b.toNat) l := by unfold run; rw [List.foldl_cons]
theorem run_append (x : Nat) (a b : List UInt8) : run x (a ++ b) = run (run x a) b := List.foldl_append
theorem run_snoc (x : Nat) (a : List UInt8) (b : UInt8) : run x (a ++ [b]) = come (run x a) b.toNat := by rw [run_append]; rfl
theorem run_lt : ∀ (l : List UInt8) {x : Nat}, x < 4294967296 → run x l < 4294967296
  | [], _, h => h
  | b :: l, _, h => run_lt l (come_lt h b.toNat_lt)

theorem step_xor (a b : Nat) : step (a ^^^ b) = step a ^^^ step b := by
  have h2 : (a ^^^ b) / 2 = a / 2 ^^^ b / 2 := Nat.xor_div_two
  have h1 : (a ^^^ b) % 2 = 1 ↔ ¬ (a % 2 = 1 ↔ b % 2 = 1) := by
    have := Nat.xor_mod_two_eq_one (a := a) (b := b)
    rw [this]
  rcases Nat.mod_two_eq_zero_or_one a with ha | ha <;> rcases Nat.mod_two_eq_zero_or_one b with hb | hb
  · rw [step_even ha, step_even hb, step_even (by omega), h2]
  · rw [step_even ha, step_odd hb, step_odd (by omega), h2, Nat.xor_assoc]
  · rw [step_odd ha, step_even hb, step_odd (by omega), h2, Nat.xor_assoc, Nat.xor_assoc, Nat.xor_comm turns]
  · rw [step_odd ha, step_odd hb, step_even (by omega), h2]
    rw [Nat.xor_comm (b / 2), Nat.xor_assoc, ← Nat.xor_assoc turns, Nat.xor_self, Nat.zero_xor]
theorem steps_xor (a b : Nat) : ∀ k, steps k (a ^^^ b) = steps k a ^^^ steps k b
  | 0 => rfl
  | k + 1 => by rw [steps_succ, steps_xor a b k, step_xor]; rfl
theorem come_xor (x y a b : Nat) : come (x ^^^ y) (a ^^^ b) = come x a ^^^ come y b := by
  unfold come
  rw [← steps_xor]
  congr 1
  rw [Nat.xor_assoc, ← Nat.xor_assoc y, Nat.xor_comm y a, Nat.xor_assoc a, ← Nat.xor_assoc]
theorem step_zero {n : Nat} (hn : n < 4294967296) (h : step n = 0) : n = 0 := by
  rcases Nat.mod_two_eq_zero_or_one n with ha | ha
  · rw [step_even ha] at h; omega
  · rw [step_odd ha] at h
    have : n / 2 = turns := by rw [← Nat.xor_zero (n / 2), ← Nat.xor_self turns, ← Nat.xor_assoc, h, Nat.zero_xor]
    unfold turns at this
    omega
theorem steps_zero {n : Nat} (hn : n < 4294967296) : ∀ k, steps k n = 0 → n = 0
  | 0, h => h
  | k + 1, h => steps_zero hn k (step_zero (steps_lt hn k) h)
theorem steps_of_zero : ∀ k, steps k 0 = 0
  | 0 => rfl
  | k + 1 => by rw [steps_succ, steps_of_zero k]; rfl
theorem steps_mul (x : Nat) : ∀ k, steps k (x * 2 ^ k) = x
  | 0 => by simp [steps]
  | k + 1 => by
    have e : x * 2 ^ (k + 1) = 2 * (x * 2 ^ k) := by rw [Nat.pow_succ, ← Nat.mul_assoc, Nat.mul_comm]
    rw [e, steps_first, step_even (by omega), show 2 * (x * 2 ^ k) / 2 = x * 2 ^ k by omega]
    exact steps_mul x k
/-- What is put on a state goes on by itself. -/
theorem run_xor (l : List UInt8) : ∀ x y : Nat, run (x ^^^ y) l = run x l ^^^ steps (8 * l.length) y := by
  induction l with
  | nil => intro x y; rfl
  | cons b l ih =>
    intro x y
    rw [run_cons, run_cons]
    have h := come_xor x y b.toNat 0
    rw [Nat.xor_zero] at h
    rw [h, ih]
    congr 1
    have : come y 0 = steps 8 y := by unfold come; rw [Nat.xor_zero]
    rw [this, ← steps_add]
    congr 1
    simp only [List.length_cons]
    omega
theorem run_zeros (x : Nat) : ∀ k, run x (List.replicate k 0) = steps (8 * k) x
  | 0 => rfl
  | k + 1 => by
    rw [List.replicate_succ', run_snoc, run_zeros x k, show 8 * (k + 1) = 8 * k + 8 by omega, steps_add]
    unfold come
    rw [show (0 : UInt8).toNat = 0 from rfl, Nat.xor_zero]
/-- One bit is turned: place q, counted from the text's first. -/
def flip (l : List UInt8) (q : Nat) : List UInt8 := l.set (q / 8) (l.getD (q / 8) 0 ^^^ UInt8.ofNat (2 ^ (q % 8)))
theorem flip_length (l : List UInt8) (q : Nat) : (flip l q).length = l.length := by unfold flip; simp
theorem run_flip : ∀ (l : List UInt8) (x q : Nat), q < 8 * l.length → run x (flip l q) = run x l ^^^ steps (8 * l.length - q) 1
  | [], _, q, h => by simp at h
  | b :: l, x, q, h => by
    by_cases hq : q < 8
    · have e : flip (b :: l) q = (b ^^^ UInt8.ofNat (2 ^ q)) :: l := by
        unfold flip
        rw [show q / 8 = 0 by omega, Nat.mod_eq_of_lt hq]
        rfl
      rw [e, run_cons, run_cons]
      have hp : 2 ^ q < 256 := by
        have := Nat.pow_lt_pow_right (a := 2) (by omega) hq
        omega
      rw [UInt8.toNat_xor, show (UInt8.ofNat (2 ^ q)).toNat = 2 ^ q by simp; omega]
      have h1 := come_xor x 0 b.toNat (2 ^ q)
      rw [Nat.xor_zero] at h1
      rw [h1, run_xor]
      congr 1
      unfold come
      rw [Nat.zero_xor, ← steps_add]
      have h2 : 8 + 8 * l.length = q + (8 * (b :: l).length - q) := by simp only [List.length_cons] at *; omega
      rw [h2, steps_add]
      have h3 := steps_mul 1 q
      rw [Nat.one_mul] at h3
      rw [h3]
    · have e : flip (b :: l) q = b :: flip l (q - 8) := by
        unfold flip
        rw [show q / 8 = (q - 8) / 8 + 1 by omega, show q % 8 = (q - 8) % 8 by omega]
        rfl
      rw [e, run_cons, run_cons, run_flip l _ (q - 8) (by simp only [List.length_cons] at h; omega)]
      congr 2
      simp only [List.length_cons]
      omega
end Go.Proofs.Ytajmdcbnejkfgaa.Crc
