/- A job, without a program: which may be, and what comes of it. Plain mathematics of layer 2: the bytes of a number, the number that a text begins with, and that the two are each other's reverse. Words of bytes, and what is read of bytes, said without a program. -/
import Derived.Test.YtghlgmlelipjfaaZGoodsB
import Derived.Test.YtghlgmlelipjfaaZLaw
import Derived.Test.YtghlgmlelipjfaaRows
import Derived.WalkKit
import Derived.WalkSpells
import Derived.WalkLawsBesides
import Derived.RegionTactic
import Derived.Deep.QuietTactic
import Derived.BigQuiet
import Derived.Deep.AppendLies
import Derived.Lib.Hide
namespace Go.Proofs.Ytghlgmlelipjfaa.Job
open Goods (St)

structure JS where
  id : Int
  kd : Int
  ow : Int
  dv : Int
  pb : Int
  ba : Int
  dr : Int
  rn : Int
  cp : Int
  tm : Int
  fe : Int
  s : List St
  st : Int
  sr : Int
  en : Int
  lf : Int
def zJ : JS := ⟨0, 0, 0, 0, 0, 0, 0, 0, 0, 0, 0, [], 0, 0, 0, 0⟩
def Copies (j : JS) : Prop := (j.kd = 4 → 1 ≤ j.cp ∧ j.cp ≤ 10) ∧ (j.kd ≠ 4 → j.cp = 0)
structure Asked (j : JS) : Prop where
  id : 1 ≤ j.id ∧ j.id ≤ 1099511627776
  ow : 1 ≤ j.ow ∧ j.ow ≤ 1099511627776
  pb : 1 ≤ j.pb ∧ j.pb ≤ 1099511627776
  ba : 1 ≤ j.ba ∧ j.ba ≤ 1099511627776
  dr : 1 ≤ j.dr ∧ j.dr ≤ 1099511627776
  tm : 1 ≤ j.tm ∧ j.tm ≤ 1099511627776
  kd : 1 ≤ j.kd ∧ j.kd ≤ 4
  dv : 0 ≤ j.dv ∧ j.dv ≤ 4
  rn : 1 ≤ j.rn ∧ j.rn ≤ 1000
  cp : Copies j
  fe : 0 ≤ j.fe ∧ j.fe ≤ 1152921504606846976
def Locks (j : JS) : Prop := (j.kd = 1 ∨ j.s.length = 0) ∧ Goods.Listed j.s 32
def Waits (j : JS) : Prop := j.sr = 0 ∧ j.en = 0 ∧ 1 ≤ j.lf ∧ j.lf ≤ j.tm
def Runs (j : JS) : Prop := (0 ≤ j.sr ∧ j.sr ≤ 1099511627776) ∧ (1 ≤ j.lf ∧ j.lf ≤ j.tm) ∧ j.en = j.sr + j.lf
def Ended (j : JS) : Prop := (0 ≤ j.sr ∧ j.sr ≤ 1099511627776) ∧ j.sr < j.en ∧ j.en ≤ 2199023255552 ∧ j.lf = 0
def Gone (j : JS) : Prop := j.sr = 0 ∧ j.en = 0 ∧ j.lf = 0
def Stands (j : JS) : Prop := ((j.st = 1 ∨ j.st = 3) ∧ Waits j) ∨ (j.st = 2 ∧ Runs j) ∨ ((j.st = 4 ∨ j.st = 5) ∧ Ended j) ∨ (j.st = 6 ∧ Gone j)
structure Ok (j : JS) : Prop where
  asked : Asked j
  locks : Locks j
  stands : Stands j
open Classical in
noncomputable def chk (j : JS) : Int := if Ok j then 0 else 1
theorem chk_yes {j : JS} (h : Ok j) : chk j = 0 := by unfold chk; rw [if_pos h]
theorem chk_no {j : JS} (h : ¬ Ok j) : chk j = 1 := by unfold chk; rw [if_neg h]
theorem chk_zero {j : JS} (h : chk j = 0) : Ok j := by
  by_cases e : Ok j
  · exact e
  · rw [chk_no e] at h
    cases h
/-! What comes of a change that there may be, or not. -/
open Classical in
noncomputable def chE (j : JS) (b : Bool) : Int := if Ok j then (if b then 0 else 9) else 1
open Classical in
noncomputable def chV (j : JS) (b : Bool) (x : JS) : JS := if Ok j then (if b then x else zJ) else zJ
theorem ch_bad {j : JS} (h : ¬ Ok j) (b : Bool) (x : JS) : chE j b = 1 ∧ chV j b x = zJ := by unfold chE chV; rw [if_neg h, if_neg h]; exact ⟨rfl, rfl⟩
theorem ch_not {j : JS} (h : Ok j) (x : JS) : chE j false = 9 ∧ chV j false x = zJ := by unfold chE chV; rw [if_pos h, if_pos h]; exact ⟨rfl, rfl⟩
theorem ch_yes {j : JS} (h : Ok j) (x : JS) : chE j true = 0 ∧ chV j true x = x := by unfold chE chV; rw [if_pos h, if_pos h]; exact ⟨rfl, rfl⟩
/-! .. at a time. -/
open Classical in
noncomputable def caE (now : Int) (j : JS) (b : Bool) : Int := if 0 ≤ now ∧ now ≤ 1099511627776 then chE j b else 1
open Classical in
noncomputable def caV (now : Int) (j : JS) (b : Bool) (x : JS) : JS := if 0 ≤ now ∧ now ≤ 1099511627776 then chV j b x else zJ
theorem ca_no {now : Int} (h : ¬ (0 ≤ now ∧ now ≤ 1099511627776)) (j : JS) (b : Bool) (x : JS) : caE now j b = 1 ∧ caV now j b x = zJ := by unfold caE caV; rw [if_neg h, if_neg h]; exact ⟨rfl, rfl⟩
theorem ca_yes {now : Int} (h : 0 ≤ now ∧ now ≤ 1099511627776) (j : JS) (b : Bool) (x : JS) : caE now j b = chE j b ∧ caV now j b x = chV j b x := by unfold caE caV; rw [if_pos h, if_pos h]; exact ⟨rfl, rfl⟩
/-! the six changes -/
def startJ (now : Int) (j : JS) : JS := { j with st := 2, sr := now, en := now + j.lf }
def pauseJ (now : Int) (j : JS) : JS := { j with st := 3, sr := 0, en := 0, lf := j.en - now }
def resumeJ (j : JS) : JS := { j with st := 1 }
def finishJ (j : JS) : JS := { j with st := 4, lf := 0 }
def deliverJ (j : JS) : JS := { j with st := 5 }
def cancelJ (j : JS) : JS := { j with st := 6, sr := 0, en := 0, lf := 0 }
def mayStart (j : JS) : Bool := decide (j.st = 1)
def mayPause (now : Int) (j : JS) : Bool := decide (j.st = 2 ∧ j.sr ≤ now ∧ now < j.en)
def mayResume (j : JS) : Bool := decide (j.st = 3)
def mayFinish (now : Int) (j : JS) : Bool := decide (j.st = 2 ∧ j.en ≤ now)
def mayDeliver (j : JS) : Bool := decide (j.st = 4)
def mayCancel (j : JS) : Bool := decide (j.st = 1 ∨ j.st = 2 ∨ j.st = 3)
def openJ (j : JS) : Bool := decide (j.st = 1 ∨ j.st = 2 ∨ j.st = 3 ∨ j.st = 4)
noncomputable def doE (what now : Int) (j : JS) : Int :=
  if what = 1 then caE now j (mayStart j) else if what = 2 then caE now j (mayPause now j) else if what = 3 then chE j (mayResume j) else if what = 4 then caE now j (mayFinish now j) else if what = 5 then chE j (mayDeliver j) else chE j (mayCancel j)
noncomputable def doV (what now : Int) (j : JS) : JS :=
  if what = 1 then caV now j (mayStart j) (startJ now j) else if what = 2 then caV now j (mayPause now j) (pauseJ now j) else if what = 3 then chV j (mayResume j) (resumeJ j) else if what = 4 then caV now j (mayFinish now j) (finishJ j) else if what = 5 then chV j (mayDeliver j) (deliverJ j) else chV j (mayCancel j) (cancelJ j)
theorem do_one (now : Int) (j : JS) : doE 1 now j = caE now j (mayStart j) ∧ doV 1 now j = caV now j (mayStart j) (startJ now j) := ⟨rfl, rfl⟩
theorem do_two (now : Int) (j : JS) : doE 2 now j = caE now j (mayPause now j) ∧ doV 2 now j = caV now j (mayPause now j) (pauseJ now j) := ⟨rfl, rfl⟩
theorem do_three (now : Int) (j : JS) : doE 3 now j = chE j (mayResume j) ∧ doV 3 now j = chV j (mayResume j) (resumeJ j) := ⟨rfl, rfl⟩
theorem do_four (now : Int) (j : JS) : doE 4 now j = caE now j (mayFinish now j) ∧ doV 4 now j = caV now j (mayFinish now j) (finishJ j) := ⟨rfl, rfl⟩
theorem do_five (now : Int) (j : JS) : doE 5 now j = chE j (mayDeliver j) ∧ doV 5 now j = chV j (mayDeliver j) (deliverJ j) := ⟨rfl, rfl⟩
theorem do_more {what : Int} (h : ¬ what = 1 ∧ ¬ what = 2 ∧ ¬ what = 3 ∧ ¬ what = 4 ∧ ¬ what = 5) (now : Int) (j : JS) : doE what now j = chE j (mayCancel j) ∧ doV what now j = chV j (mayCancel j) (cancelJ j) := by
  obtain ⟨h1, h2, h3, h4, h5⟩ := h
  unfold doE doV
  rw [if_neg h1, if_neg h2, if_neg h3, if_neg h4, if_neg h5, if_neg h1, if_neg h2, if_neg h3, if_neg h4, if_neg h5]
  exact ⟨rfl, rfl⟩
theorem ch_cases (j : JS) (b : Bool) (x : JS) : (chE j b = 1 ∧ chV j b x = zJ) ∨ (chE j b = 9 ∧ chV j b x = zJ) ∨ (chE j b = 0 ∧ chV j b x = x ∧ Ok j ∧ b = true) := by
  by_cases h : Ok j
  · cases b with
    | false => exact .inr (.inl (ch_not h x))
    | true => exact .inr (.inr ⟨(ch_yes h x).1, (ch_yes h x).2, h, rfl⟩)
  · exact .inl (ch_bad h b x)
theorem ca_cases (now : Int) (j : JS) (b : Bool) (x : JS) : (caE now j b = 1 ∧ caV now j b x = zJ) ∨ (caE now j b = 9 ∧ caV now j b x = zJ) ∨ (caE now j b = 0 ∧ caV now j b x = x ∧ Ok j ∧ b = true ∧ 0 ≤ now ∧ now ≤ 1099511627776) := by
  by_cases h : 0 ≤ now ∧ now ≤ 1099511627776
  · obtain ⟨e1, e2⟩ := ca_yes h j b x
    rw [e1, e2]
    rcases ch_cases j b x with h1 | h1 | h1
    · exact .inl h1
    · exact .inr (.inl h1)
    · exact .inr (.inr ⟨h1.1, h1.2.1, h1.2.2.1, h1.2.2.2, h⟩)
  · exact .inl (ca_no h j b x)
/-- What is done well: one of six changes. -/
theorem do_cases (what now : Int) (j : JS) : (doE what now j = 1 ∧ doV what now j = zJ) ∨ (doE what now j = 9 ∧ doV what now j = zJ) ∨ (doE what now j = 0 ∧ Ok j ∧
    ((doV what now j = startJ now j ∧ j.st = 1 ∧ 0 ≤ now ∧ now ≤ 1099511627776) ∨ (doV what now j = pauseJ now j ∧ j.st = 2 ∧ j.sr ≤ now ∧ now < j.en) ∨ (doV what now j = resumeJ j ∧ j.st = 3) ∨ (doV what now j = finishJ j ∧ j.st = 2 ∧ j.en ≤ now) ∨ (doV what now j = deliverJ j ∧ j.st = 4) ∨ (doV what now j = cancelJ j ∧ (j.st = 1 ∨ j.st = 2 ∨ j.st = 3)))) := by
  by_cases h1 : what = 1
  · subst h1
    obtain ⟨e1, e2⟩ := do_one now j
    rw [e1, e2]
    rcases ca_cases now j (mayStart j) (startJ now j) with h | h | h
    · exact .inl h
    · exact .inr (.inl h)
    · exact .inr (.inr ⟨h.1, h.2.2.1, .inl ⟨h.2.1, of_decide_eq_true h.2.2.2.1, h.2.2.2.2⟩⟩)
  by_cases h2 : what = 2
  · subst h2
    obtain ⟨e1, e2⟩ := do_two now j
    rw [e1, e2]
    rcases ca_cases now j (mayPause now j) (pauseJ now j) with h | h | h
    · exact .inl h
    · exact .inr (.inl h)
    · exact .inr (.inr ⟨h.1, h.2.2.1, .inr (.inl ⟨h.2.1, of_decide_eq_true h.2.2.2.1⟩)⟩)
  by_cases h3 : what = 3
  · subst h3
    obtain ⟨e1, e2⟩ := do_three now j
    rw [e1, e2]
    rcases ch_cases j (mayResume j) (resumeJ j) with h | h | h
    · exact .inl h
    · exact .inr (.inl h)
    · exact .inr (.inr ⟨h.1, h.2.2.1, .inr (.inr (.inl ⟨h.2.1, of_decide_eq_true h.2.2.2⟩))⟩)
  by_cases h4 : what = 4
  · subst h4
    obtain ⟨e1, e2⟩ := do_four now j
    rw [e1, e2]
    rcases ca_cases now j (mayFinish now j) (finishJ j) with h | h | h
    · exact .inl h
    · exact .inr (.inl h)
    · exact .inr (.inr ⟨h.1, h.2.2.1, .inr (.inr (.inr (.inl ⟨h.2.1, of_decide_eq_true h.2.2.2.1⟩)))⟩)
  by_cases h5 : what = 5
  · subst h5
    obtain ⟨e1, e2⟩ := do_five now j
    rw [e1, e2]
    rcases ch_cases j (mayDeliver j) (deliverJ j) with h | h | h
    · exact .inl h
    · exact .inr (.inl h)
    · exact .inr (.inr ⟨h.1, h.2.2.1, .inr (.inr (.inr (.inr (.inl ⟨h.2.1, of_decide_eq_true h.2.2.2⟩))))⟩)
  obtain ⟨e1, e2⟩ := do_more ⟨h1, h2, h3, h4, h5⟩ now j
  rw [e1, e2]
  rcases ch_cases j (mayCancel j) (cancelJ j) with h | h | h
  · exact .inl h
  · exact .inr (.inl h)
  · exact .inr (.inr ⟨h.1, h.2.2.1, .inr (.inr (.inr (.inr (.inr ⟨h.2.1, of_decide_eq_true h.2.2.2⟩))))⟩)
theorem asked_with {j : JS} (h : Asked j) (a b c d : Int) : Asked { j with st := a, sr := b, en := c, lf := d } := ⟨h.id, h.ow, h.pb, h.ba, h.dr, h.tm, h.kd, h.dv, h.rn, h.cp, h.fe⟩
/-- A job to which something was done may be. -/
theorem start_ok {now : Int} {j : JS} (h : Ok j) (hs : j.st = 1) (hn : 0 ≤ now ∧ now ≤ 1099511627776) : Ok (startJ now j) := by
  refine ⟨asked_with h.asked _ _ _ _, h.locks, .inr (.inl ⟨rfl, hn, ?_, rfl⟩)⟩
  rcases h.stands with ⟨_, k⟩ | ⟨k, _⟩ | ⟨k, _⟩ | ⟨k, _⟩
  · exact k.2.2
  all_goals omega
theorem pause_ok {now : Int} {j : JS} (h : Ok j) (hs : j.st = 2) (hn : j.sr ≤ now ∧ now < j.en) : Ok (pauseJ now j) := by
  refine ⟨asked_with h.asked _ _ _ _, h.locks, .inl ⟨.inr rfl, rfl, rfl, ?_⟩⟩
  show 1 ≤ j.en - now ∧ j.en - now ≤ j.tm
  rcases h.stands with ⟨k, _⟩ | ⟨_, k⟩ | ⟨k, _⟩ | ⟨k, _⟩
  · omega
  · obtain ⟨k1, k2, k3⟩ := k
    omega
  all_goals omega
theorem resume_ok {j : JS} (h : Ok j) (hs : j.st = 3) : Ok (resumeJ j) := by
  refine ⟨asked_with h.asked _ _ _ _, h.locks, .inl ⟨.inl rfl, ?_⟩⟩
  rcases h.stands with ⟨_, k⟩ | ⟨k, _⟩ | ⟨k, _⟩ | ⟨k, _⟩
  · exact k
  all_goals omega
theorem finish_ok {now : Int} {j : JS} (h : Ok j) (hs : j.st = 2) (_ : j.en ≤ now) : Ok (finishJ j) := by
  refine ⟨asked_with h.asked _ _ _ _, h.locks, .inr (.inr (.inl ⟨.inl rfl, ?_⟩))⟩
  have ht := h.asked.tm
  rcases h.stands with ⟨k, _⟩ | ⟨_, k⟩ | ⟨k, _⟩ | ⟨k, _⟩
  · omega
  · obtain ⟨k1, k2, k3⟩ := k
    refine ⟨k1, ?_, ?_, rfl⟩
    · show j.sr < j.en
      omega
    · show j.en ≤ 2199023255552
      omega
  all_goals omega
theorem deliver_ok {j : JS} (h : Ok j) (hs : j.st = 4) : Ok (deliverJ j) := by
  refine ⟨asked_with h.asked _ _ _ _, h.locks, .inr (.inr (.inl ⟨.inr rfl, ?_⟩))⟩
  rcases h.stands with ⟨k, _⟩ | ⟨k, _⟩ | ⟨_, k⟩ | ⟨k, _⟩
  · omega
  · omega
  · exact k
  · omega
theorem ok_bounds {j : JS} (h : Ok j) : 0 ≤ j.lf ∧ j.lf ≤ 1099511627776 ∧ 0 ≤ j.en ∧ j.en ≤ 2199023255552 := by
  have ht := h.asked.tm
  rcases h.stands with ⟨_, k⟩ | ⟨_, k⟩ | ⟨_, k⟩ | ⟨_, k⟩
  · obtain ⟨k1, k2, k3⟩ := k
    omega
  · obtain ⟨k1, k2, k3⟩ := k
    omega
  · obtain ⟨k1, k2, k3, k4⟩ := k
    omega
  · obtain ⟨k1, k2, k3⟩ := k
    omega
theorem cancel_ok {j : JS} (h : Ok j) : Ok (cancelJ j) := ⟨asked_with h.asked _ _ _ _, h.locks, .inr (.inr (.inr ⟨rfl, rfl, rfl, rfl⟩))⟩
end Go.Proofs.Ytghlgmlelipjfaa.Job
namespace Go.Proofs.Ytghlgmlelipjfaa.Pen

/-- The bytes of a number, at most k + 1 of them. -/
def wb : Nat → Nat → List UInt8
  | 0, n => [UInt8.ofNat n]
  | k + 1, n => if n < 128 then [UInt8.ofNat n] else UInt8.ofNat (128 + n % 128) :: wb k (n / 128)
def wordB (n : Nat) : ByteArray := ⟨(wb 9 n).toArray⟩
def uintB (n : Int) : ByteArray := if n < 0 then ⟨#[]⟩ else wordB n.toNat
def placeOf (n : Int) : Nat := if n < 0 then (2 * (-1 - n) + 1).toNat else (2 * n).toNat
def intB (n : Int) : ByteArray := wordB (placeOf n)
def textB (s : ByteArray) : ByteArray := uintB s.size ++ s
def placedOf (n : Nat) : Int := if n % 2 = 1 then -1 - (n / 2 : Nat) else (n / 2 : Nat)

theorem wb_len : ∀ (k n : Nat), 1 ≤ (wb k n).length ∧ (wb k n).length ≤ k + 1
  | 0, n => by simp [wb]
  | k + 1, n => by
    unfold wb
    split
    · simp
    · have := wb_len k (n / 128); simp; omega
theorem wb_small {k n : Nat} (h : n < 128) : wb k n = [UInt8.ofNat n] := by
  cases k with
  | zero => rfl
  | succ k => simp [wb, h]
theorem wb_big {k n : Nat} (h : ¬ n < 128) : wb (k + 1) n = UInt8.ofNat (128 + n % 128) :: wb k (n / 128) := by simp [wb, h]
theorem wordB_size (n : Nat) : 1 ≤ (wordB n).size ∧ (wordB n).size ≤ 10 := by
  have := wb_len 9 n
  simp only [wordB, ByteArray.size, List.size_toArray]
  omega
theorem or_128 : ∀ x : Nat, x < 256 → x ||| 128 = 128 + x % 128 := by decide +kernel
theorem u8_more (n : Nat) : bits .or .u8 ((n % 256 : Nat) : Int) 128 = ((128 + n % 128 : Nat) : Int) := by
  have h := u8_or_nat (n % 256) 128 (by omega) (by omega)
  rw [or_128 (n % 256) (by omega)] at h
  have e : n % 256 % 128 = n % 128 := by omega
  rw [e] at h
  exact h
/-- The number that a row of bytes begins with, and how many bytes it has. -/
def scan (f : Nat → Nat) (len : Nat) : Nat → Nat → Nat → Option (Nat × Nat)
  | 0, _, _ => none
  | d + 1, k, acc =>
    if k < len then
      if f k < 128 then (if (f k = 0 ∧ 0 < k) ∨ (k = 9 ∧ 1 < f k) then none else some (acc + f k * 2 ^ (7 * k), k + 1))
      else scan f len d (k + 1) (acc + (f k - 128) * 2 ^ (7 * k))
    else none
def gb (s : ByteArray) (k : Nat) : Nat := (s.data.toList.getD k 0).toNat
theorem gb_lt (s : ByteArray) (k : Nat) : gb s k < 256 := by unfold gb; exact UInt8.toNat_lt _
def P (s : ByteArray) : Option (Nat × Nat) := scan (gb s) s.size 10 0 0
def FV (s : ByteArray) : Nat := ((P s).getD (0, 0)).1
def FK (s : ByteArray) : Nat := ((P s).getD (0, 0)).2

theorem scan_facts (f : Nat → Nat) (len : Nat) (hf : ∀ k, f k < 256) : ∀ (d k acc n m : Nat), d + k = 10 → acc < 2 ^ (7 * k) → scan f len d k acc = some (n, m) →
    k + 1 ≤ m ∧ m ≤ len ∧ m ≤ 10 ∧ n < 18446744073709551616 := by
  intro d
  induction d with
  | zero => intro k acc n m _ _ h; simp [scan] at h
  | succ d ih =>
    intro k acc n m hd ha h
    unfold scan at h
    by_cases h1 : k < len
    · rw [if_pos h1] at h
      by_cases h2 : f k < 128
      · rw [if_pos h2] at h
        by_cases h3 : (f k = 0 ∧ 0 < k) ∨ (k = 9 ∧ 1 < f k)
        · rw [if_pos h3] at h; simp at h
        · rw [if_neg h3] at h
          injection h with h
          injection h with hn hm
          refine ⟨by omega, by omega, by omega, ?_⟩
          rw [← hn]
          by_cases h9 : k = 9
          · subst h9
            have : f 9 ≤ 1 := by omega
            have e : (2:Nat) ^ (7 * 9) = 9223372036854775808 := by decide
            rw [e] at ha ⊢
            omega
          · have hk : 7 * k ≤ 56 := by omega
            have e : (2:Nat) ^ (7 * k) ≤ 2 ^ 56 := Nat.pow_le_pow_right (by omega) hk
            have e2 : (2:Nat) ^ 56 = 72057594037927936 := by decide
            have e3 : f k * 2 ^ (7 * k) ≤ 127 * 2 ^ 56 := Nat.mul_le_mul (by omega) e
            omega
      · rw [if_neg h2] at h
        have e : (2:Nat) ^ (7 * (k + 1)) = 128 * 2 ^ (7 * k) := by rw [show 7 * (k + 1) = 7 * k + 7 by omega, Nat.pow_add]; omega
        have e3 : (f k - 128) * 2 ^ (7 * k) ≤ 127 * 2 ^ (7 * k) := Nat.mul_le_mul (by have := hf k; omega) (Nat.le_refl _)
        have := ih (k + 1) _ n m (by omega) (by omega) h
        omega
    · rw [if_neg h1] at h; simp at h
theorem P_facts {s : ByteArray} {n m : Nat} (h : P s = some (n, m)) : 1 ≤ m ∧ m ≤ s.size ∧ m ≤ 10 ∧ n < 18446744073709551616 := by
  have := scan_facts (gb s) s.size (gb_lt s) 10 0 0 n m (by omega) (by simp) h
  omega
theorem FV_lt (s : ByteArray) : FV s < 18446744073709551616 := by
  unfold FV
  cases h : P s with
  | none => simp
  | some x => obtain ⟨n, m⟩ := x; have := P_facts h; simp; omega
theorem FK_le (s : ByteArray) : FK s ≤ s.size ∧ FK s ≤ 10 := by
  unfold FK
  cases h : P s with
  | none => simp
  | some x => obtain ⟨n, m⟩ := x; have := P_facts h; simp; omega

theorem gb_extract (s : ByteArray) (a k : Nat)  : gb (s.extract a s.size) k = gb s (a + k) := by
  have e : (s.extract a s.size).data.toList = s.data.toList.drop a := by
    rw [ByteArray.data_extract, Array.toList_extract]
    exact List.take_of_length_le (by rw [List.length_drop, Array.length_toList]; exact Nat.le_refl _)
  unfold gb
  rw [e, List.getD_eq_getElem?_getD, List.getD_eq_getElem?_getD, List.getElem?_drop]
theorem scan_congr (f g : Nat → Nat) (len : Nat) (h : ∀ k, f k = g k) (d : Nat) : ∀ k acc, scan f len d k acc = scan g len d k acc := by
  have : f = g := funext h
  subst this
  intro _ _; rfl
theorem P_at (s : ByteArray) (a : Nat) : P (s.extract a s.size) = scan (fun k => gb s (a + k)) (s.size - a) 10 0 0 := by
  unfold P
  rw [scan_congr _ _ _ (fun k => gb_extract s a k)]
  simp [ByteArray.size_extract]
end Go.Proofs.Ytghlgmlelipjfaa.Pen
namespace Go.Proofs.Ytghlgmlelipjfaa.Pen
open Go.RowKit Go.Lib

theorem placeOf_lt (n : Int) (a1 : -9223372036854775808 ≤ n) (a2 : n ≤ 9223372036854775807) : placeOf n < 18446744073709551616 := by
  unfold placeOf; split <;> omega
theorem not_half (m : Nat) (h : m < 18446744073709551616) : bits .xor .i64 (-1) ((m : Int) / 2) = -1 - (m / 2 : Nat) := by
  have := i64_not (m / 2) (by omega)
  exact_mod_cast this
def isBad (st : Option ByteArray) : Bool := st.isNone
def leftOf (st : Option ByteArray) : Int := match st with | some s => s.size | none => 0
def doneOf (st : Option ByteArray) : Bool := match st with | some s => s.toList.isEmpty | none => false
theorem or_gen (acc d k : Nat) (ha : acc < 2 ^ (7 * k)) (hd : d * 2 ^ (7 * k) + acc < 18446744073709551616) (z : Int) (hz : z = d) :
    bits .or .u64 (acc : Int) (IntKind.u64.wrap (z * 2 ^ (7 * k))) = ((acc + d * 2 ^ (7 * k) : Nat) : Int) := by
  subst hz
  have e : ((d : Int) * 2 ^ (7 * k)) = ((d * 2 ^ (7 * k) : Nat) : Int) := by simp
  rw [wrap_u64_, e, Int.emod_eq_of_lt (by omega) (by omega), u64_or_nat acc (d * 2 ^ (7 * k)) (by omega) (by omega), Nat.or_comm, nat_join (7 * k) (d * 2 ^ (7 * k)) acc (Nat.mul_mod_left _ _) ha, Nat.add_comm]
theorem pow_le (k : Nat) (h : k ≤ 8) : 2 ^ (7 * k) ≤ 72057594037927936 := by
  have e : (2:Nat) ^ (7 * k) ≤ 2 ^ 56 := Nat.pow_le_pow_right (by omega) (by omega)
  have e2 : (2:Nat) ^ 56 = 72057594037927936 := by decide
  omega
theorem or_more (acc c k : Nat) (hk : k ≤ 8) (ha : acc < 2 ^ (7 * k)) (h1 : 128 ≤ c) (h2 : c < 256) :
    bits .or .u64 (acc : Int) (IntKind.u64.wrap (((c : Int) - 128) * 2 ^ (7 * k))) = ((acc + (c - 128) * 2 ^ (7 * k) : Nat) : Int) ∧ acc + (c - 128) * 2 ^ (7 * k) < 2 ^ (7 * (k + 1)) := by
  have e := pow_le k hk
  have e3 : (c - 128) * 2 ^ (7 * k) ≤ 127 * 2 ^ (7 * k) := Nat.mul_le_mul (by omega) (Nat.le_refl _)
  have e4 : (2:Nat) ^ (7 * (k + 1)) = 128 * 2 ^ (7 * k) := by rw [show 7 * (k + 1) = 7 * k + 7 by omega, Nat.pow_add]; omega
  exact ⟨or_gen acc (c - 128) k ha (by omega) _ (by omega), by omega⟩
theorem or_last (acc c k : Nat) (hk : k ≤ 9) (ha : acc < 2 ^ (7 * k)) (h1 : c < 128) (h2 : ¬ (k = 9 ∧ 1 < c)) :
    bits .or .u64 (acc : Int) (IntKind.u64.wrap ((c : Int) * 2 ^ (7 * k))) = ((acc + c * 2 ^ (7 * k) : Nat) : Int) := by
  by_cases h9 : k = 9
  · subst h9
    have e : (2:Nat) ^ (7 * 9) = 9223372036854775808 := by decide
    have e3 : c * 2 ^ (7 * 9) ≤ 1 * 2 ^ (7 * 9) := Nat.mul_le_mul (by omega) (Nat.le_refl _)
    exact or_gen acc c 9 ha (by omega) _ rfl
  · have e := pow_le k (by omega)
    have e3 : c * 2 ^ (7 * k) ≤ 127 * 2 ^ (7 * k) := Nat.mul_le_mul (by omega) (Nat.le_refl _)
    exact or_gen acc c k ha (by omega) _ rfl
theorem gb_at (s : ByteArray) (k : Nat) (h : k < s.size) : gb s k = s[k].toNat := by
  unfold gb
  have h' : k < s.data.toList.length := by rw [Array.length_toList]; exact h
  rw [List.getD_eq_getElem?_getD, List.getElem?_eq_getElem h', Option.getD_some, Array.getElem_toList]
  rfl
/-- What the loop knows behind k bytes. -/
def FirstAt (s : ByteArray) (k acc : Nat) (z : Int) : Prop := (k < 10 → z = acc ∧ acc < 2 ^ (7 * k)) ∧ P s = scan (gb s) s.size (10 - k) k acc
theorem scan_out (f : Nat → Nat) (len k acc : Nat) (h : ¬ (k < len ∧ k < 10)) : scan f len (10 - k) k acc = none := by
  by_cases hk : k < 10
  · obtain ⟨d, hd⟩ : ∃ d, 10 - k = d + 1 := ⟨9 - k, by omega⟩
    rw [hd]; unfold scan; rw [if_neg (by omega)]
  · rw [show 10 - k = 0 by omega]; rfl
theorem scan_more (f : Nat → Nat) (len k acc : Nat) (h1 : k < len) (h2 : k < 10) (h3 : ¬ f k < 128) : scan f len (10 - k) k acc = scan f len (10 - (k + 1)) (k + 1) (acc + (f k - 128) * 2 ^ (7 * k)) := by
  obtain ⟨d, hd⟩ : ∃ d, 10 - k = d + 1 := ⟨9 - k, by omega⟩
  rw [hd, show 10 - (k + 1) = d by omega]
  conv => lhs; unfold scan
  rw [if_pos h1, if_neg h3]
theorem scan_bad (f : Nat → Nat) (len k acc : Nat) (h1 : k < len) (h2 : k < 10) (h3 : f k < 128) (h4 : (f k = 0 ∧ 0 < k) ∨ (k = 9 ∧ 1 < f k)) : scan f len (10 - k) k acc = none := by
  obtain ⟨d, hd⟩ : ∃ d, 10 - k = d + 1 := ⟨9 - k, by omega⟩
  rw [hd]; unfold scan; rw [if_pos h1, if_pos h3, if_pos h4]
theorem scan_end (f : Nat → Nat) (len k acc : Nat) (h1 : k < len) (h2 : k < 10) (h3 : f k < 128) (h4 : ¬ ((f k = 0 ∧ 0 < k) ∨ (k = 9 ∧ 1 < f k))) : scan f len (10 - k) k acc = some (acc + f k * 2 ^ (7 * k), k + 1) := by
  obtain ⟨d, hd⟩ : ∃ d, 10 - k = d + 1 := ⟨9 - k, by omega⟩
  rw [hd]; unfold scan; rw [if_pos h1, if_pos h3, if_neg h4]
theorem first_none {s : ByteArray} (h : P s = none) : Ending.returned (.tuple #[.int .u64 0, .int .i64 0]) = Ending.returned (.tuple #[.int .u64 (FV s), .int .i64 (FK s)]) := by simp [FV, FK, h]
theorem first_some {s : ByteArray} {n k : Nat} {a b : Int} (h : P s = some (n, k)) (ha : a = n) (hb : b = k) : Ending.returned (.tuple #[.int .u64 a, .int .i64 b]) = Ending.returned (.tuple #[.int .u64 (FV s), .int .i64 (FK s)]) := by simp [FV, FK, h, ha, hb]
def Fit (st : Option ByteArray) : Prop := ∀ s, st = some s → s.size ≤ 9223372036854775807
def tkN (st : Option ByteArray) (most : Nat) : Nat := match st with | none => 0 | some s => if FK s = 0 ∨ most < FV s then 0 else FV s
def tkS (st : Option ByteArray) (most : Nat) : Option ByteArray := match st with | none => none | some s => if FK s = 0 ∨ most < FV s then none else some (s.extract (FK s) s.size)
def uiN (st : Option ByteArray) (most : Int) : Nat := if most < 0 then 0 else tkN st most.toNat
def uiS (st : Option ByteArray) (most : Int) : Option ByteArray := if most < 0 then none else tkS st most.toNat
def inN (st : Option ByteArray) : Int := placedOf (tkN st 18446744073709551615)
def inS (st : Option ByteArray) : Option ByteArray := tkS st 18446744073709551615
def tmN (st : Option ByteArray) (most : Int) : Nat := if leftOf (uiS st most) < (uiN st most : Int) then 0 else uiN st most
def tmS (st : Option ByteArray) (most : Int) : Option ByteArray := if leftOf (uiS st most) < (uiN st most : Int) then none else uiS st most
def txV (st : Option ByteArray) (most : Int) : ByteArray := match tmS st most with | none => ⟨#[]⟩ | some s => s.extract 0 (tmN st most)
def txS (st : Option ByteArray) (most : Int) : Option ByteArray := match tmS st most with | none => none | some s => some (s.extract (tmN st most) s.size)
theorem Fit.none : Fit none := fun _ h => by simp at h
theorem Fit.ext {s : ByteArray} (h : Fit (some s)) (a b : Nat) : Fit (some (s.extract a b)) := fun t ht => by
  injection ht with ht
  have := h s rfl
  rw [← ht, ByteArray.size_extract]; omega
theorem Fit.tk {st : Option ByteArray} (h : Fit st) (most : Nat) : Fit (tkS st most) := by
  unfold tkS
  cases st with
  | none => exact Fit.none
  | some s => simp only []; split <;> first | exact Fit.none | exact h.ext _ _
theorem Fit.ui {st : Option ByteArray} (h : Fit st) (most : Int) : Fit (uiS st most) := by
  unfold uiS; split
  · exact Fit.none
  · exact h.tk _
theorem Fit.tm {st : Option ByteArray} (h : Fit st) (most : Int) : Fit (tmS st most) := by
  unfold tmS; split
  · exact Fit.none
  · exact h.ui _
theorem Fit.tx {st : Option ByteArray} (h : Fit st) (most : Int) : Fit (txS st most) := by
  unfold txS
  have := h.tm most
  cases e : tmS st most with
  | none => exact Fit.none
  | some s => rw [e] at this; exact this.ext _ _
theorem tkN_le (st : Option ByteArray) (most : Nat) : tkN st most ≤ most ∧ tkN st most < 18446744073709551616 := by
  unfold tkN
  cases st with
  | none => simp
  | some s => simp only []; have := FV_lt s; split <;> omega
theorem uiN_le (st : Option ByteArray) (most : Int) (h : most ≤ 9223372036854775807) : uiN st most ≤ 9223372036854775807 := by
  unfold uiN; split
  · omega
  · have := (tkN_le st most.toNat).1; omega
theorem leftOf_nonneg (st : Option ByteArray) : 0 ≤ leftOf st := by unfold leftOf; cases st <;> simp
theorem tmN_left {st : Option ByteArray} {most : Int} {s : ByteArray} (h : tmS st most = some s) : tmN st most ≤ s.size := by
  unfold tmS at h; unfold tmN
  by_cases hc : leftOf (uiS st most) < (uiN st most : Int)
  · rw [if_pos hc] at h; simp at h
  · rw [if_neg hc] at h ⊢
    rw [h] at hc
    simp only [leftOf] at hc; omega
theorem uintB_neg {n : Int} (h : n < 0) : uintB n = ⟨#[]⟩ := by unfold uintB; rw [if_pos h]
theorem uintB_nat (n : Nat) : uintB n = wordB n := by unfold uintB; rw [if_neg (by omega)]; rfl
theorem uintB_size (n : Int) : (uintB n).size ≤ 10 := by
  unfold uintB; split
  · exact Nat.zero_le _
  · exact (wordB_size _).2
end Go.Proofs.Ytghlgmlelipjfaa.Pen
