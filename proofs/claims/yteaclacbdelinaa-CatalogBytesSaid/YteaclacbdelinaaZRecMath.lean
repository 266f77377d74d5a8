/- Blueprints: what runs need, make, and take; said without a program. -/
import Derived.WalkKit
import Derived.Test.YteaclacbdelinaaZCommon
import Derived.Test.YteaclacbdelinaaZGoodsMath
namespace Go.Proofs.Yteaclacbdelinaa.Recipe
open Goods (St)

/-- A blueprint, and where its needs lie. -/
structure Bl where
  ot : Int
  per : Int
  tm : Int
  sa : Option Addr
  sm : Nat
  sc : Nat
  s : List St
  cp : Int
  st : Int
  mo : Int
def mq : Int := 1125899906842624
def BlOk (b : Bl) (ty : Int) : Prop := (0 ≤ ty ∧ ty ≤ 32) ∧ (1 ≤ b.ot ∧ b.ot ≤ ty) ∧ (1 ≤ b.per ∧ b.per ≤ 1048576) ∧ (1 ≤ b.tm ∧ b.tm ≤ 1048576) ∧ (0 ≤ b.cp ∧ b.cp ≤ 1048576) ∧ (0 ≤ b.st ∧ b.st ≤ 1048576) ∧ (1 ≤ b.mo ∧ b.mo ≤ 1000) ∧ Goods.Listed b.s ty ∧ ¬ 0 < Goods.cnt (Goods.valN b.s) b.ot
open Classical in
noncomputable def chkB (b : Bl) (ty : Int) : Int := if BlOk b ty then 0 else 1
theorem chkB_yes {b : Bl} {ty : Int} (h : BlOk b ty) : chkB b ty = 0 := by unfold chkB; rw [if_pos h]
theorem chkB_no {b : Bl} {ty : Int} (h : ¬ BlOk b ty) : chkB b ty = 1 := by unfold chkB; rw [if_neg h]
/-- A number by another one, rounded up. -/
def up (n k : Int) : Int := (n + k - 1) / k
/-- What so many runs need of a stack. -/
def nd (q lv r : Int) : Int := max r (up (q * r * (100 - lv)) 100)
def tmv (t lv r : Int) : Int := up (t * r * (100 - 2 * lv)) 100
def sdy (st lv : Int) : Nat → Int
  | 0 => 0
  | n + 1 => sdy st lv n + st * (lv + (n + 1 : Nat))
theorem up_parts (n k : Int) : n / 100 * k + up (n % 100 * k) 100 = up (n * k) 100 := by
  have h := Int.mul_ediv_add_emod n 100
  have e : n * k = 100 * (n / 100 * k) + n % 100 * k := by
    rw [← Int.mul_assoc, ← Int.add_mul, h]
  unfold up
  rw [e]
  generalize n / 100 * k = X
  generalize n % 100 * k = Y
  omega
theorem up_mono {a b k : Int} (hk : 0 < k) (h : a ≤ b) : up a k ≤ up b k := Int.ediv_le_ediv hk (by omega)
theorem up_both {a b : Int} : up (a + b) 100 ≤ up a 100 + up b 100 := by unfold up; omega
theorem up_nonneg {a k : Int} (h : 0 ≤ a) (hk : 0 < k) : 0 ≤ up a k := Int.ediv_nonneg (by omega) (by omega)
theorem up_le {a k : Int} (h : 0 ≤ a) (hk : 0 < k) : up a k ≤ a := by
  unfold up
  by_cases h0 : a = 0
  · subst h0
    rw [Int.ediv_eq_zero_of_lt (by omega) (by omega)]
    omega
  · apply Int.ediv_le_of_le_mul hk
    have h1 : (a - 1) * 1 ≤ (a - 1) * k := Int.mul_le_mul_of_nonneg_left (by omega) (by omega)
    have h2 : a * k = (a - 1) * k + k := by rw [Int.sub_mul]; omega
    omega
theorem nd_run (q lv r : Int) : r ≤ nd q lv r := by unfold nd; omega
theorem nd_more {q lv r r' : Int} (hq : 0 ≤ q) (hl : lv ≤ 100) (h : r ≤ r') : nd q lv r ≤ nd q lv r' := by
  have h1 : q * r * (100 - lv) ≤ q * r' * (100 - lv) := Int.mul_le_mul_of_nonneg_right (Int.mul_le_mul_of_nonneg_left h hq) (by omega)
  have := up_mono (k := 100) (by omega) h1
  unfold nd
  omega
theorem nd_both {q lv r r' : Int} : nd q lv (r + r') ≤ nd q lv r + nd q lv r' := by
  have e : q * (r + r') * (100 - lv) = q * r * (100 - lv) + q * r' * (100 - lv) := by rw [Int.mul_add, Int.add_mul]
  have h := up_both (a := q * r * (100 - lv)) (b := q * r' * (100 - lv))
  unfold nd
  rw [e]
  omega
theorem nd_high {q lv lv' r : Int} (hq : 0 ≤ q) (hr : 0 ≤ r) (h : lv ≤ lv') : nd q lv' r ≤ nd q lv r := by
  have h1 : q * r * (100 - lv') ≤ q * r * (100 - lv) := Int.mul_le_mul_of_nonneg_left (by omega) (Int.mul_nonneg hq hr)
  have := up_mono (k := 100) (by omega) h1
  unfold nd
  omega
theorem tm_more {t lv r r' : Int} (ht : 0 ≤ t) (hl : lv ≤ 50) (h : r ≤ r') : tmv t lv r ≤ tmv t lv r' :=
  up_mono (by omega) (Int.mul_le_mul_of_nonneg_right (Int.mul_le_mul_of_nonneg_left h ht) (by omega))
theorem tm_high {t lv lv' r : Int} (ht : 0 ≤ t) (hr : 0 ≤ r) (h : lv ≤ lv') : tmv t lv' r ≤ tmv t lv r :=
  up_mono (by omega) (Int.mul_le_mul_of_nonneg_left (by omega) (Int.mul_nonneg ht hr))
/-- As many runs as are told make enough, and one less does not. -/
theorem up_enough {n k : Int} (hk : 0 < k) : n ≤ k * up n k ∧ k * (up n k - 1) < n := by
  have h := Int.mul_ediv_add_emod (n + k - 1) k
  have h0 := Int.emod_nonneg (n + k - 1) (show k ≠ 0 by omega)
  have h1 := Int.emod_lt_of_pos (n + k - 1) hk
  unfold up
  rw [Int.mul_sub]
  omega
def LvOk (lv r : Int) : Prop := (0 ≤ lv ∧ lv ≤ 10) ∧ (1 ≤ r ∧ r ≤ 1000)
instance (lv r : Int) : Decidable (LvOk lv r) := by unfold LvOk; infer_instance
/-- What all of a product comes to. -/
theorem prod3 {a b c A B C : Int} (a0 : 0 ≤ a) (b0 : 0 ≤ b) (c0 : 0 ≤ c) (hA : a ≤ A) (hB : b ≤ B) (hC : c ≤ C) : 0 ≤ a * b ∧ a * b ≤ A * B ∧ 0 ≤ a * b * c ∧ a * b * c ≤ A * B * C := by
  have h1 : 0 ≤ a * b := Int.mul_nonneg a0 b0
  have h2 : a * b ≤ A * B := Int.mul_le_mul hA hB b0 (by omega)
  exact ⟨h1, h2, Int.mul_nonneg h1 c0, Int.mul_le_mul h2 hC c0 (by omega)⟩
theorem nd_in {q lv r : Int} (q0 : 0 ≤ q) (q1 : q ≤ mq) (h : LvOk lv r) : 1 ≤ nd q lv r ∧ nd q lv r ≤ 1152921504606846976 := by
  obtain ⟨⟨l0, l1⟩, r0, r1⟩ := h
  unfold mq at q1
  obtain ⟨h1, h2, h3, h4⟩ := prod3 (c := 100 - lv) q0 (by omega) (by omega) q1 r1 (show 100 - lv ≤ 100 by omega)
  have h5 := nd_run q lv r
  refine ⟨by omega, ?_⟩
  unfold nd up
  omega
open Classical in
noncomputable def needsE (b : Bl) (lv r : Int) : Int := if BlOk b 32 ∧ LvOk lv r then (if ∀ t ∈ b.s, nd t.qty lv r ≤ mq then 0 else 5) else 1
def needL (s : List St) (lv r : Int) : List St := s.map fun t => ⟨t.kind, nd t.qty lv r⟩
noncomputable def needsL (b : Bl) (lv r : Int) : List St := if needsE b lv r = 0 then needL b.s lv r else []
def RunOk (r : Int) : Prop := 1 ≤ r ∧ r ≤ 1000
open Classical in
noncomputable def makesE (b : Bl) (r : Int) : Int := if BlOk b 32 ∧ RunOk r then 0 else 1
noncomputable def makesV (b : Bl) (r : Int) : St := if makesE b r = 0 then ⟨b.ot, b.per * r⟩ else ⟨0, 0⟩
def QtyOk (n : Int) : Prop := 0 ≤ n ∧ n ≤ mq
open Classical in
noncomputable def runsE (b : Bl) (n : Int) : Int := if BlOk b 32 ∧ QtyOk n then 0 else 1
noncomputable def runsV (b : Bl) (n : Int) : Int := if runsE b n = 0 then up n b.per else 0
open Classical in
noncomputable def timeE (b : Bl) (lv r : Int) : Int := if BlOk b 32 ∧ LvOk lv r then 0 else 1
noncomputable def timeV (b : Bl) (lv r : Int) : Int := if timeE b lv r = 0 then tmv b.tm lv r else 0
def StOk (lv n : Int) : Prop := (0 ≤ lv ∧ lv ≤ 10) ∧ (1 ≤ n ∧ n ≤ 10 - lv)
open Classical in
noncomputable def studyE (b : Bl) (lv n : Int) : Int := if BlOk b 32 ∧ StOk lv n then 0 else 1
noncomputable def studyV (b : Bl) (lv n : Int) : Int := if studyE b lv n = 0 then sdy b.st lv n.toNat else 0
def CpOk (b : Bl) (c r : Int) : Prop := (1 ≤ c ∧ c ≤ 10) ∧ (1 ≤ r ∧ r ≤ b.mo)
open Classical in
noncomputable def copyE (b : Bl) (c r : Int) : Int := if BlOk b 32 ∧ CpOk b c r then 0 else 1
noncomputable def copyV (b : Bl) (c r : Int) : Int := if copyE b c r = 0 then b.cp * c * r else 0
theorem needsE_ok {b : Bl} {lv r : Int} (h : BlOk b 32) (h2 : LvOk lv r) (h3 : ∀ t ∈ b.s, nd t.qty lv r ≤ mq) : needsE b lv r = 0 ∧ needsL b lv r = needL b.s lv r := by
  have e : needsE b lv r = 0 := by unfold needsE; rw [if_pos ⟨h, h2⟩, if_pos h3]
  exact ⟨e, by unfold needsL; rw [if_pos e]⟩
theorem needsE_over {b : Bl} {lv r : Int} (h : BlOk b 32) (h2 : LvOk lv r) (h3 : ¬ ∀ t ∈ b.s, nd t.qty lv r ≤ mq) : needsE b lv r = 5 ∧ needsL b lv r = [] := by
  have e : needsE b lv r = 5 := by unfold needsE; rw [if_pos ⟨h, h2⟩, if_neg h3]
  exact ⟨e, by unfold needsL; rw [if_neg (by omega)]⟩
theorem needsE_arg {b : Bl} {lv r : Int} (h : ¬ (BlOk b 32 ∧ LvOk lv r)) : needsE b lv r = 1 ∧ needsL b lv r = [] := by
  have e : needsE b lv r = 1 := by unfold needsE; rw [if_neg h]
  exact ⟨e, by unfold needsL; rw [if_neg (by omega)]⟩
theorem needsE_zero {b : Bl} {lv r : Int} (h : needsE b lv r = 0) : BlOk b 32 ∧ LvOk lv r ∧ needsL b lv r = needL b.s lv r := by
  have h0 := h
  unfold needsE at h
  split at h
  · rename_i h1
    exact ⟨h1.1, h1.2, by unfold needsL; rw [if_pos h0]⟩
  · omega
theorem makes_ok {b : Bl} {r : Int} (h : BlOk b 32) (h2 : RunOk r) : makesE b r = 0 ∧ makesV b r = ⟨b.ot, b.per * r⟩ := by
  have e : makesE b r = 0 := by unfold makesE; rw [if_pos ⟨h, h2⟩]
  exact ⟨e, by unfold makesV; rw [if_pos e]⟩
theorem makes_arg {b : Bl} {r : Int} (h : ¬ (BlOk b 32 ∧ RunOk r)) : makesE b r = 1 ∧ makesV b r = ⟨0, 0⟩ := by
  have e : makesE b r = 1 := by unfold makesE; rw [if_neg h]
  exact ⟨e, by unfold makesV; rw [if_neg (by omega)]⟩
theorem runs_ok {b : Bl} {n : Int} (h : BlOk b 32) (h2 : QtyOk n) : runsE b n = 0 ∧ runsV b n = up n b.per := by
  have e : runsE b n = 0 := by unfold runsE; rw [if_pos ⟨h, h2⟩]
  exact ⟨e, by unfold runsV; rw [if_pos e]⟩
theorem runs_arg {b : Bl} {n : Int} (h : ¬ (BlOk b 32 ∧ QtyOk n)) : runsE b n = 1 ∧ runsV b n = 0 := by
  have e : runsE b n = 1 := by unfold runsE; rw [if_neg h]
  exact ⟨e, by unfold runsV; rw [if_neg (by omega)]⟩
theorem time_ok {b : Bl} {lv r : Int} (h : BlOk b 32) (h2 : LvOk lv r) : timeE b lv r = 0 ∧ timeV b lv r = tmv b.tm lv r := by
  have e : timeE b lv r = 0 := by unfold timeE; rw [if_pos ⟨h, h2⟩]
  exact ⟨e, by unfold timeV; rw [if_pos e]⟩
theorem time_arg {b : Bl} {lv r : Int} (h : ¬ (BlOk b 32 ∧ LvOk lv r)) : timeE b lv r = 1 ∧ timeV b lv r = 0 := by
  have e : timeE b lv r = 1 := by unfold timeE; rw [if_neg h]
  exact ⟨e, by unfold timeV; rw [if_neg (by omega)]⟩
theorem study_ok {b : Bl} {lv n : Int} (h : BlOk b 32) (h2 : StOk lv n) : studyE b lv n = 0 ∧ studyV b lv n = sdy b.st lv n.toNat := by
  have e : studyE b lv n = 0 := by unfold studyE; rw [if_pos ⟨h, h2⟩]
  exact ⟨e, by unfold studyV; rw [if_pos e]⟩
theorem study_arg {b : Bl} {lv n : Int} (h : ¬ (BlOk b 32 ∧ StOk lv n)) : studyE b lv n = 1 ∧ studyV b lv n = 0 := by
  have e : studyE b lv n = 1 := by unfold studyE; rw [if_neg h]
  exact ⟨e, by unfold studyV; rw [if_neg (by omega)]⟩
theorem copy_ok {b : Bl} {c r : Int} (h : BlOk b 32) (h2 : CpOk b c r) : copyE b c r = 0 ∧ copyV b c r = b.cp * c * r := by
  have e : copyE b c r = 0 := by unfold copyE; rw [if_pos ⟨h, h2⟩]
  exact ⟨e, by unfold copyV; rw [if_pos e]⟩
theorem copy_arg {b : Bl} {c r : Int} (h : ¬ (BlOk b 32 ∧ CpOk b c r)) : copyE b c r = 1 ∧ copyV b c r = 0 := by
  have e : copyE b c r = 1 := by unfold copyE; rw [if_neg h]
  exact ⟨e, by unfold copyV; rw [if_neg (by omega)]⟩
theorem sdy_in {st lv : Int} (s0 : 0 ≤ st) (s1 : st ≤ 1048576) (l0 : 0 ≤ lv) : ∀ n : Nat, lv + n ≤ 10 → 0 ≤ sdy st lv n ∧ sdy st lv n ≤ n * 10485760
  | 0, _ => by simp [sdy]
  | n + 1, h => by
    have ih := sdy_in s0 s1 l0 n (by omega)
    have h1 : 0 ≤ st * (lv + (n + 1 : Nat)) := Int.mul_nonneg s0 (by omega)
    have h2 : st * (lv + (n + 1 : Nat)) ≤ 1048576 * 10 := Int.mul_le_mul s1 (by omega) (by omega) (by omega)
    unfold sdy
    omega
theorem needL_length (s : List St) (lv r : Int) : (needL s lv r).length = s.length := by simp [needL]
theorem needL_at {s : List St} {lv r : Int} {i : Nat} {t : St} (h : s[i]? = some t) : (needL s lv r)[i]? = some ⟨t.kind, nd t.qty lv r⟩ := by unfold needL; rw [List.getElem?_map, h]; rfl
theorem needL_take {s : List St} {lv r : Int} {i : Nat} {t : St} (h : s[i]? = some t) : needL (s.take (i + 1)) lv r = needL (s.take i) lv r ++ [⟨t.kind, nd t.qty lv r⟩] := by
  unfold needL
  rw [List.take_add_one, h, List.map_append]
  rfl
/-- The stacks of a blueprint that may be. -/
theorem ok_qty {b : Bl} {ty : Int} (h : BlOk b ty) : ∀ t ∈ b.s, 0 ≤ t.qty ∧ t.qty ≤ mq := fun t ht => by
  obtain ⟨_, _, _, _, _, _, _, ⟨_, h1, h2, _⟩, _⟩ := h
  obtain ⟨hf, _⟩ := Goods.errN_zero h1
  refine ⟨(hf t ht).2, ?_⟩
  have h3 := Goods.valN_ok h1
  rw [h2] at h3
  have h4 := Goods.valN_le b.s t (by rw [h3]; exact ht)
  exact h4
end Go.Proofs.Yteaclacbdelinaa.Recipe
