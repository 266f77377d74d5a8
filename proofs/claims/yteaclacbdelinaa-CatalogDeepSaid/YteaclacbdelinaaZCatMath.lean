/- Catalogues: what may be; said without a program. -/
import Derived.Test.YteaclacbdelinaaZRecMath
import Derived.Test.YteaclacbdelinaaZFeeS
import Derived.Test.YteaclacbdelinaaZGraphMath
namespace Go.Proofs.Yteaclacbdelinaa.Cat
open Goods (St)
open Recipe (Bl)
open Graph (Nd)

/-- A blueprint, wherever its needs lie. -/
structure PB where
  ot : Int
  per : Int
  tm : Int
  s : List St
  cp : Int
  st : Int
  mo : Int
structure Ba where
  pl : Int
  mf : Int
  lb : Int
  rt : Int
structure Cat where
  ty : Int
  bs : List PB
  pl : Int
  ys : List Ba
  ch : Int
  f : Fee.FS
def PB.b (b : PB) : Bl := ⟨b.ot, b.per, b.tm, none, 0, 0, b.s, b.cp, b.st, b.mo⟩
def pOf (b : Bl) : PB := ⟨b.ot, b.per, b.tm, b.s, b.cp, b.st, b.mo⟩
theorem ok_pOf (b : Bl) (ty : Int) : Recipe.BlOk (pOf b).b ty ↔ Recipe.BlOk b ty := Iff.rfl
def zPB : PB := ⟨0, 0, 0, [], 0, 0, 0⟩
def zBa : Ba := ⟨0, 0, 0, 0⟩
def zCat : Cat := ⟨0, [], 0, [], 0, ⟨0, 0, 0⟩⟩
def BaOk (pl : Int) (y : Ba) : Prop := (1 ≤ y.pl ∧ y.pl ≤ pl) ∧ (0 ≤ y.mf ∧ y.mf ≤ 8) ∧ (0 ≤ y.lb ∧ y.lb ≤ 8) ∧ (0 ≤ y.rt ∧ y.rt ≤ 10000)
def CatOk (C : Cat) : Prop := ((1 ≤ C.ty ∧ C.ty ≤ 32) ∧ (1 ≤ C.pl ∧ C.pl ≤ 8) ∧ (1 ≤ C.ch ∧ C.ch ≤ 16) ∧ C.bs.length ≤ 16 ∧ C.ys.length ≤ 8 ∧ Fee.FeeOk C.f) ∧ (∀ b ∈ C.bs, Recipe.BlOk b.b C.ty) ∧ ∀ y ∈ C.ys, BaOk C.pl y
/-- What a blueprint's type needs, of the first so many needs. -/
def nd1 (o : Int) (s : List St) : List Nd := s.map fun t => ⟨o, t.kind⟩
def ndL (bs : List PB) : List Nd := bs.flatMap fun b => nd1 b.ot b.s
open Classical in
noncomputable def chkC (C : Cat) : Int := if CatOk C then (if Graph.ordE C.ty (ndL C.bs) = 0 then (if ∀ d ∈ Graph.degV C.ty (ndL C.bs), d ≤ 8 then 0 else 5) else Graph.ordE C.ty (ndL C.bs)) else 1
theorem chk_arg {C : Cat} (h : ¬ CatOk C) : chkC C = 1 := by unfold chkC; rw [if_neg h]
theorem chk_err {C : Cat} (h : CatOk C) (h2 : ¬ Graph.ordE C.ty (ndL C.bs) = 0) : chkC C = Graph.ordE C.ty (ndL C.bs) := by unfold chkC; rw [if_pos h, if_neg h2]
theorem chk_over {C : Cat} (h : CatOk C) (h2 : Graph.ordE C.ty (ndL C.bs) = 0) (h3 : ¬ ∀ d ∈ Graph.degV C.ty (ndL C.bs), d ≤ 8) : chkC C = 5 := by unfold chkC; rw [if_pos h, if_pos h2, if_neg h3]
theorem chk_fine {C : Cat} (h : CatOk C) (h2 : Graph.ordE C.ty (ndL C.bs) = 0) (h3 : ∀ d ∈ Graph.degV C.ty (ndL C.bs), d ≤ 8) : chkC C = 0 := by unfold chkC; rw [if_pos h, if_pos h2, if_pos h3]
theorem chk_zero {C : Cat} (h : chkC C = 0) : CatOk C := by
  by_cases hk : CatOk C
  · exact hk
  · rw [chk_arg hk] at h; omega
/-- The first blueprint that makes a type, told by its number. -/
def mkr (k : Int) : List PB → Int → Int
  | [], _ => 0
  | b :: l, i => if b.ot = k then i + 1 else mkr k l (i + 1)
open Classical in
noncomputable def bluE (C : Cat) (n : Int) : Int := if 1 ≤ n ∧ n ≤ C.bs.length then 0 else 3
open Classical in
noncomputable def bluV (C : Cat) (n : Int) : PB := if 1 ≤ n ∧ n ≤ C.bs.length then C.bs.getD (n - 1).toNat zPB else zPB
open Classical in
noncomputable def bayE (C : Cat) (n : Int) : Int := if 1 ≤ n ∧ n ≤ C.ys.length then 0 else 3
open Classical in
noncomputable def bayV (C : Cat) (n : Int) : Ba := if 1 ≤ n ∧ n ≤ C.ys.length then C.ys.getD (n - 1).toNat zBa else zBa
theorem mkr_drop {k : Int} {l : List PB} {i : Nat} {b : PB} (h : l[i]? = some b) : mkr k (l.drop i) i = if b.ot = k then (i : Int) + 1 else mkr k (l.drop (i + 1)) ((i + 1 : Nat) : Int) := by
  obtain ⟨hi, e⟩ := List.getElem?_eq_some_iff.1 h
  rw [List.drop_eq_getElem_cons hi, e]
  rfl
end Go.Proofs.Yteaclacbdelinaa.Cat
