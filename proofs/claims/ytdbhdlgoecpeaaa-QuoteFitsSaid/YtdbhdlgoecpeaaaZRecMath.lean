/- Blueprints: what runs need, make, and take; said without a program. Fees; the document's Check. Nodes and their needs: the order, said without a program. Rows of ints: of the call's own, one and two; that lie somewhere. -/
import Derived.WalkKit
import Derived.Test.YtdbhdlgoecpeaaaZLaw
import Derived.Test.YtdbhdlgoecpeaaaZGoodsB
import Derived.Test.YtdbhdlgoecpeaaaRows
import Derived.IntWalk
import Derived.Laws.OwnMore
import Derived.Deep.AppendLies
namespace Go.Proofs.Ytdbhdlgoecpeaaa.Recipe
open Goods (St)

/-- A blueprint, and where its needs lie. -/
structure Bl where
  ot : Int
  per : Int
  tm : Int
  sa : Option Addr
  sm : Nat
  sc : Nat
  s : List St
  cp : Int
  st : Int
  mo : Int
def mq : Int := 1125899906842624
def BlOk (b : Bl) (ty : Int) : Prop := (0 ≤ ty ∧ ty ≤ 32) ∧ (1 ≤ b.ot ∧ b.ot ≤ ty) ∧ (1 ≤ b.per ∧ b.per ≤ 1048576) ∧ (1 ≤ b.tm ∧ b.tm ≤ 1048576) ∧ (0 ≤ b.cp ∧ b.cp ≤ 1048576) ∧ (0 ≤ b.st ∧ b.st ≤ 1048576) ∧ (1 ≤ b.mo ∧ b.mo ≤ 1000) ∧ Goods.Listed b.s ty ∧ ¬ 0 < Goods.cnt (Goods.valN b.s) b.ot
open Classical in
noncomputable def chkB (b : Bl) (ty : Int) : Int := if BlOk b ty then 0 else 1
theorem chkB_yes {b : Bl} {ty : Int} (h : BlOk b ty) : chkB b ty = 0 := by unfold chkB; rw [if_pos h]
theorem chkB_no {b : Bl} {ty : Int} (h : ¬ BlOk b ty) : chkB b ty = 1 := by unfold chkB; rw [if_neg h]
/-- A number by another one, rounded up. -/
def up (n k : Int) : Int := (n + k - 1) / k
/-- What so many runs need of a stack. -/
def nd (q lv r : Int) : Int := max r (up (q * r * (100 - lv)) 100)
def tmv (t lv r : Int) : Int := up (t * r * (100 - 2 * lv)) 100
def sdy (st lv : Int) : Nat → Int
  | 0 => 0
  | n + 1 => sdy st lv n + st * (lv + (n + 1 : Nat))
theorem up_parts (n k : Int) : n / 100 * k + up (n % 100 * k) 100 = up (n * k) 100 := by
  have h := Int.mul_ediv_add_emod n 100
  have e : n * k = 100 * (n / 100 * k) + n % 100 * k := by
    rw [← Int.mul_assoc, ← Int.add_mul, h]
  unfold up
  rw [e]
  generalize n / 100 * k = X
  generalize n % 100 * k = Y
  omega
theorem up_mono {a b k : Int} (hk : 0 < k) (h : a ≤ b) : up a k ≤ up b k := Int.ediv_le_ediv hk (by omega)
theorem up_both {a b : Int} : up (a + b) 100 ≤ up a 100 + up b 100 := by unfold up; omega
theorem up_nonneg {a k : Int} (h : 0 ≤ a) (hk : 0 < k) : 0 ≤ up a k := Int.ediv_nonneg (by omega) (by omega)
theorem up_le {a k : Int} (h : 0 ≤ a) (hk : 0 < k) : up a k ≤ a := by
  unfold up
  by_cases h0 : a = 0
  · subst h0
    rw [Int.ediv_eq_zero_of_lt (by omega) (by omega)]
    omega
  · apply Int.ediv_le_of_le_mul hk
    have h1 : (a - 1) * 1 ≤ (a - 1) * k := Int.mul_le_mul_of_nonneg_left (by omega) (by omega)
    have h2 : a * k = (a - 1) * k + k := by rw [Int.sub_mul]; omega
    omega
theorem nd_run (q lv r : Int) : r ≤ nd q lv r := by unfold nd; omega
theorem nd_more {q lv r r' : Int} (hq : 0 ≤ q) (hl : lv ≤ 100) (h : r ≤ r') : nd q lv r ≤ nd q lv r' := by
  have h1 : q * r * (100 - lv) ≤ q * r' * (100 - lv) := Int.mul_le_mul_of_nonneg_right (Int.mul_le_mul_of_nonneg_left h hq) (by omega)
  have := up_mono (k := 100) (by omega) h1
  unfold nd
  omega
theorem nd_both {q lv r r' : Int} : nd q lv (r + r') ≤ nd q lv r + nd q lv r' := by
  have e : q * (r + r') * (100 - lv) = q * r * (100 - lv) + q * r' * (100 - lv) := by rw [Int.mul_add, Int.add_mul]
  have h := up_both (a := q * r * (100 - lv)) (b := q * r' * (100 - lv))
  unfold nd
  rw [e]
  omega
theorem nd_high {q lv lv' r : Int} (hq : 0 ≤ q) (hr : 0 ≤ r) (h : lv ≤ lv') : nd q lv' r ≤ nd q lv r := by
  have h1 : q * r * (100 - lv') ≤ q * r * (100 - lv) := Int.mul_le_mul_of_nonneg_left (by omega) (Int.mul_nonneg hq hr)
  have := up_mono (k := 100) (by omega) h1
  unfold nd
  omega
theorem tm_more {t lv r r' : Int} (ht : 0 ≤ t) (hl : lv ≤ 50) (h : r ≤ r') : tmv t lv r ≤ tmv t lv r' :=
  up_mono (by omega) (Int.mul_le_mul_of_nonneg_right (Int.mul_le_mul_of_nonneg_left h ht) (by omega))
theorem tm_high {t lv lv' r : Int} (ht : 0 ≤ t) (hr : 0 ≤ r) (h : lv ≤ lv') : tmv t lv' r ≤ tmv t lv r :=
  up_mono (by omega) (Int.mul_le_mul_of_nonneg_left (by omega) (Int.mul_nonneg ht hr))
/-- As many runs as are told make enough, and one less does not. -/
theorem up_enough {n k : Int} (hk : 0 < k) : n ≤ k * up n k ∧ k * (up n k - 1) < n := by
  have h := Int.mul_ediv_add_emod (n + k - 1) k
  have h0 := Int.emod_nonneg (n + k - 1) (show k ≠ 0 by omega)
  have h1 := Int.emod_lt_of_pos (n + k - 1) hk
  unfold up
  rw [Int.mul_sub]
  omega
def LvOk (lv r : Int) : Prop := (0 ≤ lv ∧ lv ≤ 10) ∧ (1 ≤ r ∧ r ≤ 1000)
instance (lv r : Int) : Decidable (LvOk lv r) := by unfold LvOk; infer_instance
/-- What all of a product comes to. -/
theorem prod3 {a b c A B C : Int} (a0 : 0 ≤ a) (b0 : 0 ≤ b) (c0 : 0 ≤ c) (hA : a ≤ A) (hB : b ≤ B) (hC : c ≤ C) : 0 ≤ a * b ∧ a * b ≤ A * B ∧ 0 ≤ a * b * c ∧ a * b * c ≤ A * B * C := by
  have h1 : 0 ≤ a * b := Int.mul_nonneg a0 b0
  have h2 : a * b ≤ A * B := Int.mul_le_mul hA hB b0 (by omega)
  exact ⟨h1, h2, Int.mul_nonneg h1 c0, Int.mul_le_mul h2 hC c0 (by omega)⟩
theorem nd_in {q lv r : Int} (q0 : 0 ≤ q) (q1 : q ≤ mq) (h : LvOk lv r) : 1 ≤ nd q lv r ∧ nd q lv r ≤ 1152921504606846976 := by
  obtain ⟨⟨l0, l1⟩, r0, r1⟩ := h
  unfold mq at q1
  obtain ⟨h1, h2, h3, h4⟩ := prod3 (c := 100 - lv) q0 (by omega) (by omega) q1 r1 (show 100 - lv ≤ 100 by omega)
  have h5 := nd_run q lv r
  refine ⟨by omega, ?_⟩
  unfold nd up
  omega
open Classical in
noncomputable def needsE (b : Bl) (lv r : Int) : Int := if BlOk b 32 ∧ LvOk lv r then (if ∀ t ∈ b.s, nd t.qty lv r ≤ mq then 0 else 5) else 1
def needL (s : List St) (lv r : Int) : List St := s.map fun t => ⟨t.kind, nd t.qty lv r⟩
noncomputable def needsL (b : Bl) (lv r : Int) : List St := if needsE b lv r = 0 then needL b.s lv r else []
def RunOk (r : Int) : Prop := 1 ≤ r ∧ r ≤ 1000
open Classical in
noncomputable def makesE (b : Bl) (r : Int) : Int := if BlOk b 32 ∧ RunOk r then 0 else 1
noncomputable def makesV (b : Bl) (r : Int) : St := if makesE b r = 0 then ⟨b.ot, b.per * r⟩ else ⟨0, 0⟩
def QtyOk (n : Int) : Prop := 0 ≤ n ∧ n ≤ mq
open Classical in
noncomputable def runsE (b : Bl) (n : Int) : Int := if BlOk b 32 ∧ QtyOk n then 0 else 1
noncomputable def runsV (b : Bl) (n : Int) : Int := if runsE b n = 0 then up n b.per else 0
open Classical in
noncomputable def timeE (b : Bl) (lv r : Int) : Int := if BlOk b 32 ∧ LvOk lv r then 0 else 1
noncomputable def timeV (b : Bl) (lv r : Int) : Int := if timeE b lv r = 0 then tmv b.tm lv r else 0
def StOk (lv n : Int) : Prop := (0 ≤ lv ∧ lv ≤ 10) ∧ (1 ≤ n ∧ n ≤ 10 - lv)
open Classical in
noncomputable def studyE (b : Bl) (lv n : Int) : Int := if BlOk b 32 ∧ StOk lv n then 0 else 1
noncomputable def studyV (b : Bl) (lv n : Int) : Int := if studyE b lv n = 0 then sdy b.st lv n.toNat else 0
def CpOk (b : Bl) (c r : Int) : Prop := (1 ≤ c ∧ c ≤ 10) ∧ (1 ≤ r ∧ r ≤ b.mo)
open Classical in
noncomputable def copyE (b : Bl) (c r : Int) : Int := if BlOk b 32 ∧ CpOk b c r then 0 else 1
noncomputable def copyV (b : Bl) (c r : Int) : Int := if copyE b c r = 0 then b.cp * c * r else 0
theorem needsE_ok {b : Bl} {lv r : Int} (h : BlOk b 32) (h2 : LvOk lv r) (h3 : ∀ t ∈ b.s, nd t.qty lv r ≤ mq) : needsE b lv r = 0 ∧ needsL b lv r = needL b.s lv r := by
  have e : needsE b lv r = 0 := by unfold needsE; rw [if_pos ⟨h, h2⟩, if_pos h3]
  exact ⟨e, by unfold needsL; rw [if_pos e]⟩
theorem needsE_over {b : Bl} {lv r : Int} (h : BlOk b 32) (h2 : LvOk lv r) (h3 : ¬ ∀ t ∈ b.s, nd t.qty lv r ≤ mq) : needsE b lv r = 5 ∧ needsL b lv r = [] := by
  have e : needsE b lv r = 5 := by unfold needsE; rw [if_pos ⟨h, h2⟩, if_neg h3]
  exact ⟨e, by unfold needsL; rw [if_neg (by omega)]⟩
theorem needsE_arg {b : Bl} {lv r : Int} (h : ¬ (BlOk b 32 ∧ LvOk lv r)) : needsE b lv r = 1 ∧ needsL b lv r = [] := by
  have e : needsE b lv r = 1 := by unfold needsE; rw [if_neg h]
  exact ⟨e, by unfold needsL; rw [if_neg (by omega)]⟩
theorem needsE_zero {b : Bl} {lv r : Int} (h : needsE b lv r = 0) : BlOk b 32 ∧ LvOk lv r ∧ needsL b lv r = needL b.s lv r := by
  have h0 := h
  unfold needsE at h
  split at h
  · rename_i h1
    exact ⟨h1.1, h1.2, by unfold needsL; rw [if_pos h0]⟩
  · omega
theorem makes_ok {b : Bl} {r : Int} (h : BlOk b 32) (h2 : RunOk r) : makesE b r = 0 ∧ makesV b r = ⟨b.ot, b.per * r⟩ := by
  have e : makesE b r = 0 := by unfold makesE; rw [if_pos ⟨h, h2⟩]
  exact ⟨e, by unfold makesV; rw [if_pos e]⟩
theorem makes_arg {b : Bl} {r : Int} (h : ¬ (BlOk b 32 ∧ RunOk r)) : makesE b r = 1 ∧ makesV b r = ⟨0, 0⟩ := by
  have e : makesE b r = 1 := by unfold makesE; rw [if_neg h]
  exact ⟨e, by unfold makesV; rw [if_neg (by omega)]⟩
theorem runs_ok {b : Bl} {n : Int} (h : BlOk b 32) (h2 : QtyOk n) : runsE b n = 0 ∧ runsV b n = up n b.per := by
  have e : runsE b n = 0 := by unfold runsE; rw [if_pos ⟨h, h2⟩]
  exact ⟨e, by unfold runsV; rw [if_pos e]⟩
theorem runs_arg {b : Bl} {n : Int} (h : ¬ (BlOk b 32 ∧ QtyOk n)) : runsE b n = 1 ∧ runsV b n = 0 := by
  have e : runsE b n = 1 := by unfold runsE; rw [if_neg h]
  exact ⟨e, by unfold runsV; rw [if_neg (by omega)]⟩
theorem time_ok {b : Bl} {lv r : Int} (h : BlOk b 32) (h2 : LvOk lv r) : timeE b lv r = 0 ∧ timeV b lv r = tmv b.tm lv r := by
  have e : timeE b lv r = 0 := by unfold timeE; rw [if_pos ⟨h, h2⟩]
  exact ⟨e, by unfold timeV; rw [if_pos e]⟩
theorem time_arg {b : Bl} {lv r : Int} (h : ¬ (BlOk b 32 ∧ LvOk lv r)) : timeE b lv r = 1 ∧ timeV b lv r = 0 := by
  have e : timeE b lv r = 1 := by unfold timeE; rw [if_neg h]
  exact ⟨e, by unfold timeV; rw [if_neg (by omega)]⟩
theorem study_ok {b : Bl} {lv n : Int} (h : BlOk b 32) (h2 : StOk lv n) : studyE b lv n = 0 ∧ studyV b lv n = sdy b.st lv n.toNat := by
  have e : studyE b lv n = 0 := by unfold studyE; rw [if_pos ⟨h, h2⟩]
  exact ⟨e, by unfold studyV; rw [if_pos e]⟩
theorem study_arg {b : Bl} {lv n : Int} (h : ¬ (BlOk b 32 ∧ StOk lv n)) : studyE b lv n = 1 ∧ studyV b lv n = 0 := by
  have e : studyE b lv n = 1 := by unfold studyE; rw [if_neg h]
  exact ⟨e, by unfold studyV; rw [if_neg (by omega)]⟩
theorem copy_ok {b : Bl} {c r : Int} (h : BlOk b 32) (h2 : CpOk b c r) : copyE b c r = 0 ∧ copyV b c r = b.cp * c * r := by
  have e : copyE b c r = 0 := by unfold copyE; rw [if_pos ⟨h, h2⟩]
  exact ⟨e, by unfold copyV; rw [if_pos e]⟩
theorem copy_arg {b : Bl} {c r : Int} (h : ¬ (BlOk b 32 ∧ CpOk b c r)) : copyE b c r = 1 ∧ copyV b c r = 0 := by
  have e : copyE b c r = 1 := by unfold copyE; rw [if_neg h]
  exact ⟨e, by unfold copyV; rw [if_neg (by omega)]⟩
theorem sdy_in {st lv : Int} (s0 : 0 ≤ st) (s1 : st ≤ 1048576) (l0 : 0 ≤ lv) : ∀ n : Nat, lv + n ≤ 10 → 0 ≤ sdy st lv n ∧ sdy st lv n ≤ n * 10485760
  | 0, _ => by simp [sdy]
  | n + 1, h => by
    have ih := sdy_in s0 s1 l0 n (by omega)
    have h1 : 0 ≤ st * (lv + (n + 1 : Nat)) := Int.mul_nonneg s0 (by omega)
    have h2 : st * (lv + (n + 1 : Nat)) ≤ 1048576 * 10 := Int.mul_le_mul s1 (by omega) (by omega) (by omega)
    unfold sdy
    omega
theorem needL_length (s : List St) (lv r : Int) : (needL s lv r).length = s.length := by simp [needL]
theorem needL_at {s : List St} {lv r : Int} {i : Nat} {t : St} (h : s[i]? = some t) : (needL s lv r)[i]? = some ⟨t.kind, nd t.qty lv r⟩ := by unfold needL; rw [List.getElem?_map, h]; rfl
theorem needL_take {s : List St} {lv r : Int} {i : Nat} {t : St} (h : s[i]? = some t) : needL (s.take (i + 1)) lv r = needL (s.take i) lv r ++ [⟨t.kind, nd t.qty lv r⟩] := by
  unfold needL
  rw [List.take_add_one, h, List.map_append]
  rfl
/-- The stacks of a blueprint that may be. -/
theorem ok_qty {b : Bl} {ty : Int} (h : BlOk b ty) : ∀ t ∈ b.s, 0 ≤ t.qty ∧ t.qty ≤ mq := fun t ht => by
  obtain ⟨_, _, _, _, _, _, _, ⟨_, h1, h2, _⟩, _⟩ := h
  obtain ⟨hf, _⟩ := Goods.errN_zero h1
  refine ⟨(hf t ht).2, ?_⟩
  have h3 := Goods.valN_ok h1
  rw [h2] at h3
  have h4 := Goods.valN_le b.s t (by rw [h3]; exact ht)
  exact h4
end Go.Proofs.Ytdbhdlgoecpeaaa.Recipe
namespace Go.Proofs.Ytdbhdlgoecpeaaa.Fee
open Go.RowKit Go.Lib

/-- Fees. -/
structure FS where
  broker : Int
  least : Int
  sales : Int
abbrev FS.v (f : FS) : Value := .agg #[.int .i64 f.broker, .int .i64 f.least, .int .i64 f.sales]
def FeeOk (f : FS) : Prop := (0 ≤ f.broker ∧ f.broker ≤ 10000) ∧ (0 ≤ f.sales ∧ f.sales ≤ 10000) ∧ 0 ≤ f.least ∧ f.least ≤ 1152921504606846976
instance (f : FS) : Decidable (FeeOk f) := by unfold FeeOk; infer_instance
def chkF (f : FS) : Int := if FeeOk f then 0 else 1
theorem chkF_yes {f : FS} (h : FeeOk f) : chkF f = 0 := by unfold chkF; rw [if_pos h]
theorem chkF_no {f : FS} (h : ¬ FeeOk f) : chkF f = 1 := by unfold chkF; rw [if_neg h]
set_option maxRecDepth 100000 in
theorem dcheck (f : FS) (w : World) :
    Calls Try.prog 62 #[f.v] w fun e w' => e = .returned (.int .i64 (chkF f)) ∧ Below w.heap.size w w' := by
  obtain ⟨b, l, s⟩ := f
  go_enter Try.func62, Try.ntmps62
  go_wp2_with fail
  all_goals
    go_ret
    refine ⟨ret_i64 ?_, (Below.refl _ w).alloc (Nat.le_refl _) _⟩
    first
    | exact (chkF_yes (by unfold FeeOk; dsimp only; omega)).symm
    | exact (chkF_no (by unfold FeeOk; dsimp only; omega)).symm
end Go.Proofs.Ytdbhdlgoecpeaaa.Fee
namespace Go.Proofs.Ytdbhdlgoecpeaaa.Graph

/-- A need: a needs b. -/
structure Nd where
  a : Int
  b : Int
def OkNd (n : Int) (t : Nd) : Prop := (1 ≤ t.a ∧ t.a ≤ n) ∧ (1 ≤ t.b ∧ t.b ≤ n)
def May (n : Int) (l : List Nd) : Prop := (0 ≤ n ∧ n ≤ 64) ∧ l.length ≤ 256 ∧ ∀ t ∈ l, OkNd n t
/-- A node that stands nowhere yet, and all of whose needs do. -/
def Ready (l : List Nd) (out : List Int) (k : Int) : Prop := k ∉ out ∧ ∀ t ∈ l, t.a = k → t.b ∈ out
open Classical in
/-- The least of them that is ready, of the greatest m of n nodes; 0, if none is. -/
noncomputable def nx (n : Int) (l : List Nd) (out : List Int) : Nat → Int
  | 0 => 0
  | m + 1 => if Ready l out (n - m) then n - m else nx n l out m
/-- What follows on what stands there, for so many more nodes. -/
noncomputable def ordF (n : Int) (l : List Nd) : Nat → List Int → Option (List Int)
  | 0, out => some out
  | m + 1, out => if nx n l out n.toNat = 0 then none else ordF n l m (out ++ [nx n l out n.toNat])
open Classical in
noncomputable def ordE (n : Int) (l : List Nd) : Int := if May n l then (if (ordF n l n.toNat []).isSome then 0 else 9) else 1
open Classical in
noncomputable def ordV (n : Int) (l : List Nd) : List Int := if May n l then (ordF n l n.toNat []).getD [] else []
theorem ord_arg {n : Int} {l : List Nd} (h : ¬ May n l) : ordE n l = 1 ∧ ordV n l = [] := by
  unfold ordE ordV
  rw [if_neg h, if_neg h]
  exact ⟨rfl, rfl⟩
theorem ord_none {n : Int} {l : List Nd} (h : May n l) (h2 : ordF n l n.toNat [] = none) : ordE n l = 9 ∧ ordV n l = [] := by
  unfold ordE ordV
  rw [if_pos h, if_pos h, h2]
  exact ⟨rfl, rfl⟩
theorem ord_some {n : Int} {l : List Nd} {k : List Int} (h : May n l) (h2 : ordF n l n.toNat [] = some k) : ordE n l = 0 ∧ ordV n l = k := by
  unfold ordE ordV
  rw [if_pos h, if_pos h, h2]
  exact ⟨rfl, rfl⟩
theorem nx_zero (n : Int) (l : List Nd) (out : List Int) : nx n l out 0 = 0 := rfl
theorem nx_yes {n : Int} {l : List Nd} {out : List Int} {m : Nat} (h : Ready l out (n - m)) : nx n l out (m + 1) = n - m := by unfold nx; rw [if_pos h]
theorem nx_no {n : Int} {l : List Nd} {out : List Int} {m : Nat} (h : ¬ Ready l out (n - m)) : nx n l out (m + 1) = nx n l out m := by
  conv => lhs; unfold nx
  rw [if_neg h]
/-- What is told is ready, and none less is. -/
theorem nx_is {n : Int} {l : List Nd} {out : List Int} : ∀ m : Nat, (m : Int) ≤ n → (nx n l out m = 0 ∧ ∀ k, n - m < k → k ≤ n → ¬ Ready l out k) ∨ (n - m < nx n l out m ∧ nx n l out m ≤ n ∧ Ready l out (nx n l out m) ∧ ∀ k, n - m < k → k < nx n l out m → ¬ Ready l out k)
  | 0, _ => .inl ⟨rfl, fun k h1 h2 => by omega⟩
  | m + 1, hm => by
    by_cases h : Ready l out (n - m)
    · rw [nx_yes h]
      exact .inr ⟨by omega, by omega, h, fun k h1 h2 => by omega⟩
    · rw [nx_no h]
      rcases nx_is (n := n) (l := l) (out := out) m (by omega) with ⟨h1, h2⟩ | ⟨h1, h2, h3, h4⟩
      · refine .inl ⟨h1, fun k k1 k2 => ?_⟩
        by_cases e : k = n - m
        · rw [e]; exact h
        · exact h2 k (by omega) k2
      · refine .inr ⟨by omega, h2, h3, fun k k1 k2 => ?_⟩
        by_cases e : k = n - m
        · rw [e]; exact h
        · exact h4 k (by omega) k2
theorem nx_all {n : Int} {l : List Nd} {out : List Int} (hn : 0 ≤ n) : (nx n l out n.toNat = 0 ∧ ∀ k, 1 ≤ k → k ≤ n → ¬ Ready l out k) ∨ (1 ≤ nx n l out n.toNat ∧ nx n l out n.toNat ≤ n ∧ Ready l out (nx n l out n.toNat)) := by
  have e : ((n.toNat : Nat) : Int) = n := Int.toNat_of_nonneg hn
  rcases nx_is (n := n) (l := l) (out := out) n.toNat (by omega) with ⟨h1, h2⟩ | ⟨h1, h2, h3, _⟩
  · exact .inl ⟨h1, fun k k1 k2 => h2 k (by omega) k2⟩
  · exact .inr ⟨by omega, h2, h3⟩
theorem ordF_zero (n : Int) (l : List Nd) (out : List Int) : ordF n l 0 out = some out := rfl
theorem ordF_none {n : Int} {l : List Nd} {out : List Int} {m : Nat} (h : nx n l out n.toNat = 0) : ordF n l (m + 1) out = none := by
  unfold ordF
  rw [if_pos h]
theorem ordF_more {n : Int} {l : List Nd} {out : List Int} {m : Nat} (h : nx n l out n.toNat ≠ 0) : ordF n l (m + 1) out = ordF n l m (out ++ [nx n l out n.toNat]) := by
  conv => lhs; unfold ordF
  rw [if_neg h]
/-- Each node once, behind all that it needs. -/
structure Stands (n : Int) (l : List Nd) (out : List Int) : Prop where
  nodup : out.Nodup
  node : ∀ k ∈ out, 1 ≤ k ∧ k ≤ n
  behind : ∀ i k, out[i]? = some k → ∀ t ∈ l, t.a = k → t.b ∈ out.take i
theorem stands_nil (n : Int) (l : List Nd) : Stands n l [] := ⟨.nil, fun k h => by simp at h, fun i k h => by simp at h⟩
theorem Stands.more {n : Int} {l : List Nd} {out : List Int} {k : Int} (h : Stands n l out) (hk : Ready l out k) (k0 : 1 ≤ k) (k1 : k ≤ n) : Stands n l (out ++ [k]) := by
  refine ⟨?_, fun x hx => ?_, fun i x hx t ht e => ?_⟩
  · rw [List.nodup_append]
    refine ⟨h.nodup, by simp, fun x hx y hy e => ?_⟩
    simp at hy
    subst hy e
    exact hk.1 hx
  · rcases List.mem_append.1 hx with hx | hx
    · exact h.node x hx
    · simp at hx
      rw [hx]
      exact ⟨k0, k1⟩
  · by_cases hi : i < out.length
    · rw [List.getElem?_append_left hi] at hx
      rw [List.take_append_of_le_length (by omega)]
      exact h.behind i x hx t ht e
    · have hi2 : i = out.length := by
        have := (List.getElem?_eq_some_iff.1 hx).1
        simp at this
        omega
      subst hi2
      simp at hx
      subst hx
      have := hk.2 t ht e
      simpa using this
theorem ordF_stands {n : Int} {l : List Nd} (hn : 0 ≤ n) : ∀ (m : Nat) (out o : List Int), Stands n l out → ordF n l m out = some o → Stands n l o ∧ o.length = out.length + m
  | 0, out, o, h, e => by
    rw [ordF_zero] at e
    injection e with e
    subst e
    exact ⟨h, rfl⟩
  | m + 1, out, o, h, e => by
    by_cases h0 : nx n l out n.toNat = 0
    · rw [ordF_none h0] at e
      cases e
    · rw [ordF_more h0] at e
      rcases nx_all (l := l) (out := out) hn with ⟨h1, _⟩ | ⟨h1, h2, h3⟩
      · exact absurd h1 h0
      · obtain ⟨r1, r2⟩ := ordF_stands hn m _ o (h.more h3 h1 h2) e
        exact ⟨r1, by rw [r2]; simp; omega⟩
/-- Where no order is, none of those that do not stand is ready. -/
theorem ordF_stuck {n : Int} {l : List Nd} (hn : 0 ≤ n) : ∀ (m : Nat) (out : List Int), Stands n l out → out.length + m = n.toNat → ordF n l m out = none → ∃ o, Stands n l o ∧ o.length < n.toNat ∧ ∀ k, 1 ≤ k → k ≤ n → ¬ Ready l o k
  | 0, out, _, _, e => by
    rw [ordF_zero] at e
    cases e
  | m + 1, out, h, hl, e => by
    rcases nx_all (l := l) (out := out) hn with ⟨h1, h2⟩ | ⟨h1, h2, h3⟩
    · exact ⟨out, h, by omega, h2⟩
    · have h0 : nx n l out n.toNat ≠ 0 := by omega
      rw [ordF_more h0] at e
      exact ordF_stuck hn m _ (h.more h3 h1 h2) (by simp; omega) e
end Go.Proofs.Ytdbhdlgoecpeaaa.Graph
namespace Go.Proofs.Ytdbhdlgoecpeaaa.IRows
open Go.RowKit Go.Lib

theorem addr_add (g o j : Nat) : (⟨g, o, none⟩ : Addr).add j = ⟨g, o + j, none⟩ := by
  unfold Addr.add
  split
  · rename_i h
    subst h
    simp
  · rfl
theorem info_int : (Try.prog.info? 3).map (fun i => (i.zero, i.size, i.bytes)) = some (some (.int .i64 0), 1, 8) := by kernel_rfl
/-- Ints in a row of one's own. -/
abbrev KS (w : World) (B : Nat) (v : Value) (l : List Int) : Prop := w.ownsRow B 3 1 v l.length (l.map (Value.int .i64))
theorem ks_nil (w : World) (B : Nat) : KS w B (.slice none 0 0) [] := World.ownsRow_nil _ _ _ _
theorem KS.moved {w w' : World} {B : Nat} {v : Value} {l : List Int} (h : KS w B v l) (hk : ∀ k, v.ownBlock = some k → w'.heap[k]? = w.heap[k]?) : KS w' B v l := by
  refine ⟨h.1, ?_⟩
  rcases h.2 with h1 | ⟨g, cap, cur, hv, h1, h2, h3⟩
  · exact .inl h1
  · exact .inr ⟨g, cap, cur, hv, h1, (hk g (by rw [hv]; rfl)).trans h2, h3⟩
theorem KS.under {w w' : World} {B : Nat} {v : Value} {l : List Int} (h : KS w B v l) (hb : Below w.heap.size w w') : KS w' B v l := h.moved fun k hk => hb.block k (h.lt k hk).2
/-- What a row of one's own is, and its cells. -/
theorem KS.at {w : World} {B : Nat} {v : Value} {l : List Int} (h : KS w B v l) : ∃ a c, v = .slice a l.length c ∧ (0 < l.length → ∃ g, a = some ⟨g, 0, none⟩ ∧ B ≤ g ∧ g < w.heap.size) ∧
    ∀ (i : Nat) (x : Int), l[i]? = some x → ∃ g, a = some ⟨g, 0, none⟩ ∧ g < w.heap.size ∧ w.cell? ⟨g, i, none⟩ = some (.int .i64 x) ∧ w.frozen? ⟨g, i, none⟩ = false := by
  rcases h.2 with ⟨hv, h0⟩ | ⟨g, cap, cur, hv, hb, hg, hn, hm, _⟩
  · refine ⟨none, 0, by rw [hv, h0], fun h1 => by omega, fun i x hx => ?_⟩
    have := (List.getElem?_eq_some_iff.1 hx).1
    omega
  · refine ⟨some ⟨g, 0, none⟩, cap, hv, fun _ => ⟨g, rfl, hb, (Array.getElem?_eq_some_iff.1 hg).1⟩, fun i x hx => ⟨g, rfl, (Array.getElem?_eq_some_iff.1 hg).1, ?_, ?_⟩⟩
    · have := h.cells (g := g) (by rw [hv]; rfl) i (.int .i64 x) (by rw [List.getElem?_map, hx]; rfl)
      rw [addr_add, Nat.zero_add] at this
      exact this
    · subst hv
      exact World.ownsRow.frozenAt h i
/-- One more at its end. -/
theorem app_int (w : World) (B : Nat) (v : Value) (xs : List Int) (x : Int) (h : KS w B v xs) (hl : xs.length ≤ 1099511627776) (hB : B ≤ w.heap.size) :
    ∃ g cap w', (Builtin.append_ #[29, 29] 29 #[v, .slice (some ⟨w.heap.size, 0, none⟩) 1 1]).run Try.prog (w.alloc (.cells #[.int .i64 x] 3)) = .ok (.slice (some ⟨g, 0, none⟩) (xs.length + 1) cap) w' ∧
      KS w' B (.slice (some ⟨g, 0, none⟩) (xs.length + 1) cap) (xs ++ [x]) ∧ Below B w w' ∧ (∀ q, q < w.heap.size → v.ownBlock ≠ some q → w'.heap[q]? = w.heap[q]?) ∧ (v.ownBlock = some g ∨ w.heap.size ≤ g) ∧ g < w'.heap.size := by
  obtain ⟨i0, hi, hz0, hz1, hz2⟩ := info_parts info_int
  have hal : Below B w (w.alloc (.cells #[.int .i64 x] 3)) := (Below.refl B w).alloc hB _
  obtain ⟨g, cap, w', hr, h2, h3, h4, h5⟩ := run_append_lies (P := Try.prog) (w.alloc (.cells #[.int .i64 x] 3)) 29 29 B 3 i0 (.int .i64 0) 1 8 Try.underlying29 hi hz0 hz1 hz2 rfl (by omega) v xs.length (xs.map (Value.int .i64)) (h.alloc _) ⟨w.heap.size, 0, none⟩ 1 1 [.int .i64 x] rfl (fun j u hj => by
    match j, hj with
    | 0, hj => simp at hj; subst hj; simp [Addr.add]) (fun u hu => by simp at hu; subst hu; rfl) (by omega) (by unfold maxLen; omega) (by omega) (Nat.le_trans hB hal.size) _ rfl
  refine ⟨g, cap, w', hr, ?_, hal.grown h3 (Nat.le_trans hB hal.size) (fun q hq => (h.lt q hq).1), fun q hq hne => ?_, ?_, h5⟩
  · show w'.ownsRow B 3 1 _ (xs ++ [x]).length ((xs ++ [x]).map (Value.int .i64))
    rw [List.length_append, List.map_append]
    exact h2
  · exact (h3.block q (by simp; omega) (fun e => hne e.symm)).trans (heap_alloc_old _ _ hq)
  · rcases h4 with h4 | h4
    · exact .inl h4
    · right
      rw [h4]
      simp
/-- One of its own is turned. -/
theorem set_int {w : World} {B g c n : Nat} {l : List Int} (h : KS w B (.slice (some ⟨g, 0, none⟩) n c) l) (k : Nat) (x : Int) :
    KS (w.setCell ⟨g, k, none⟩ (.int .i64 x)) B (.slice (some ⟨g, 0, none⟩) n c) (l.set k x) ∧ Below B w (w.setCell ⟨g, k, none⟩ (.int .i64 x)) ∧ ∀ q, q ≠ g → (w.setCell ⟨g, k, none⟩ (.int .i64 x)).heap[q]? = w.heap[q]? := by
  obtain rfl : n = l.length := by
    rcases h.2 with ⟨hv, h0⟩ | ⟨_, _, _, hv, _⟩
    · cases hv
    · injection hv
  obtain ⟨h1, h2⟩ := World.ownsRow.stored h k (.int .i64 x)
  obtain ⟨hB, hlt⟩ := h.lt g rfl
  refine ⟨?_, (Below.refl B w).grown h2 (by omega) (fun q hq => by rw [← Option.some.inj hq]; exact hB), fun q hq => heap_setCell_other w ⟨g, k, none⟩ q _ (fun e => hq e)⟩
  show World.ownsRow _ B 3 1 _ (l.set k x).length ((l.set k x).map (Value.int .i64))
  rw [List.length_set, List.map_set]
  exact h1
/-- Two rows of one's own that do not touch. -/
structure Two (w : World) (B : Nat) (v1 : Value) (l1 : List Int) (v2 : Value) (l2 : List Int) : Prop where
  one : KS w B v1 l1
  two : KS w B v2 l2
  far : ∀ g, v1.ownBlock = some g → v2.ownBlock ≠ some g
theorem Two.swap {w : World} {B : Nat} {v1 v2 : Value} {l1 l2 : List Int} (h : Two w B v1 l1 v2 l2) : Two w B v2 l2 v1 l1 := ⟨h.two, h.one, fun g h1 h2 => h.far g h2 h1⟩
theorem Two.under {w w' : World} {B : Nat} {v1 v2 : Value} {l1 l2 : List Int} (h : Two w B v1 l1 v2 l2) (hb : Below w.heap.size w w') : Two w' B v1 l1 v2 l2 := ⟨h.one.under hb, h.two.under hb, h.far⟩
theorem Two.app {w : World} {B : Nat} {v1 v2 : Value} {l1 l2 : List Int} (h : Two w B v1 l1 v2 l2) (x : Int) (hl : l1.length ≤ 1099511627776) (hB : B ≤ w.heap.size) :
    ∃ g cap w', (Builtin.append_ #[29, 29] 29 #[v1, .slice (some ⟨w.heap.size, 0, none⟩) 1 1]).run Try.prog (w.alloc (.cells #[.int .i64 x] 3)) = .ok (.slice (some ⟨g, 0, none⟩) (l1.length + 1) cap) w' ∧
      Two w' B (.slice (some ⟨g, 0, none⟩) (l1.length + 1) cap) (l1 ++ [x]) v2 l2 ∧ Below B w w' := by
  obtain ⟨g, cap, w', hr, h1, h2, h3, h4, _⟩ := app_int w B v1 l1 x h.one hl hB
  refine ⟨g, cap, w', hr, ⟨h1, h.two.moved fun k hk => h3 k (h.two.lt k hk).2 (fun e => h.far k e hk), fun q hq hq2 => ?_⟩, h2⟩
  have e : g = q := by simpa [Value.ownBlock] using hq
  subst e
  rcases h4 with h4 | h4
  · exact h.far g h4 hq2
  · have := (h.two.lt g hq2).2
    omega
theorem Two.set {w : World} {B g c n : Nat} {v2 : Value} {l1 l2 : List Int} (h : Two w B (.slice (some ⟨g, 0, none⟩) n c) l1 v2 l2) (k : Nat) (x : Int) :
    Two (w.setCell ⟨g, k, none⟩ (.int .i64 x)) B (.slice (some ⟨g, 0, none⟩) n c) (l1.set k x) v2 l2 ∧ Below B w (w.setCell ⟨g, k, none⟩ (.int .i64 x)) := by
  obtain ⟨h1, h2, h3⟩ := set_int h.one k x
  exact ⟨⟨h1, h.two.moved fun q hq => h3 q (fun e => h.far g rfl (by rw [← e]; exact hq)), h.far⟩, h2⟩
/-- Ints that lie somewhere. -/
def IRow (w : World) (a : Option Addr) (l : List Int) : Prop := ∀ (i : Nat) (x : Int), l[i]? = some x → ∃ g off, a = some ⟨g, off, none⟩ ∧ g < w.heap.size ∧ w.cell? ⟨g, off + i, none⟩ = some (.int .i64 x)
theorem IRow.under {w w' : World} {a : Option Addr} {l : List Int} (h : IRow w a l) (hb : Below w.heap.size w w') : IRow w' a l := fun i x hi => by
  obtain ⟨g, off, e, hg, k0⟩ := h i x hi
  exact ⟨g, off, e, Nat.lt_of_lt_of_le hg hb.size, ((bcell hb).1 g _ hg).trans k0⟩
theorem irow_own {w : World} {B : Nat} {v : Value} {l : List Int} (h : KS w B v l) : ∃ a c, v = .slice a l.length c ∧ IRow w a l := by
  obtain ⟨a, c, hv, _, hat⟩ := h.at
  refine ⟨a, c, hv, fun i x hx => ?_⟩
  obtain ⟨g, e, hg, k0, _⟩ := hat i x hx
  exact ⟨g, 0, e, hg, by simpa using k0⟩
/-- .. as a walk wants them, at any world behind. -/
theorem irow_at {w : World} {a : Option Addr} {l : List Int} (h : IRow w a l) : Hid (∀ W i, Below w.heap.size w W → i < l.length → ∃ g off x, a = some ⟨g, off, none⟩ ∧ Hid (l[i]? = some x) ∧ W.cell? ⟨g, off + i, none⟩ = some (.int .i64 x)) := Lib.hid (fun W i hW hi => by
  obtain ⟨g, off, e, _, k0⟩ := (h.under hW) i l[i] (List.getElem?_eq_getElem hi)
  exact ⟨g, off, _, e, Lib.hid (List.getElem?_eq_getElem hi), k0⟩)
theorem irow_all {w : World} {a : Option Addr} {l : List Int} (h : IRow w a l) : Hid (∀ i, i < l.length → ∃ g off x, a = some ⟨g, off, none⟩ ∧ Hid (l[i]? = some x) ∧ Hid (∀ W, Below w.heap.size w W → W.cell? ⟨g, off + i, none⟩ = some (.int .i64 x))) := Lib.hid (fun i hi => by
  obtain ⟨g, off, e, hg, k0⟩ := h i l[i] (List.getElem?_eq_getElem hi)
  exact ⟨g, off, _, e, Lib.hid (List.getElem?_eq_getElem hi), Lib.hid fun W hW => ((bcell hW).1 g _ hg).trans k0⟩)
end Go.Proofs.Ytdbhdlgoecpeaaa.IRows
