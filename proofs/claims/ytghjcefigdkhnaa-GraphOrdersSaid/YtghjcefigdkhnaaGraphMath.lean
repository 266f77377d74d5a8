/- Nodes and their needs: the order, said without a program. -/
import Derived.WalkKit
import Derived.Test.YtghjcefigdkhnaaCommon
namespace Go.Proofs.Ytghjcefigdkhnaa.Graph

/-- A need: a needs b. -/
structure Nd where
  a : Int
  b : Int
def OkNd (n : Int) (t : Nd) : Prop := (1 ≤ t.a ∧ t.a ≤ n) ∧ (1 ≤ t.b ∧ t.b ≤ n)
def May (n : Int) (l : List Nd) : Prop := (0 ≤ n ∧ n ≤ 64) ∧ l.length ≤ 256 ∧ ∀ t ∈ l, OkNd n t
/-- A node that stands nowhere yet, and all of whose needs do. -/
def Ready (l : List Nd) (out : List Int) (k : Int) : Prop := k ∉ out ∧ ∀ t ∈ l, t.a = k → t.b ∈ out
open Classical in
/-- The least of them that is ready, of the greatest m of n nodes; 0, if none is. -/
noncomputable def nx (n : Int) (l : List Nd) (out : List Int) : Nat → Int
  | 0 => 0
  | m + 1 => if Ready l out (n - m) then n - m else nx n l out m
/-- What follows on what stands there, for so many more nodes. -/
noncomputable def ordF (n : Int) (l : List Nd) : Nat → List Int → Option (List Int)
  | 0, out => some out
  | m + 1, out => if nx n l out n.toNat = 0 then none else ordF n l m (out ++ [nx n l out n.toNat])
open Classical in
noncomputable def ordE (n : Int) (l : List Nd) : Int := if May n l then (if (ordF n l n.toNat []).isSome then 0 else 9) else 1
open Classical in
noncomputable def ordV (n : Int) (l : List Nd) : List Int := if May n l then (ordF n l n.toNat []).getD [] else []
theorem ord_arg {n : Int} {l : List Nd} (h : ¬ May n l) : ordE n l = 1 ∧ ordV n l = [] := by
  unfold ordE ordV
  rw [if_neg h, if_neg h]
  exact ⟨rfl, rfl⟩
theorem ord_none {n : Int} {l : List Nd} (h : May n l) (h2 : ordF n l n.toNat [] = none) : ordE n l = 9 ∧ ordV n l = [] := by
  unfold ordE ordV
  rw [if_pos h, if_pos h, h2]
  exact ⟨rfl, rfl⟩
theorem ord_some {n : Int} {l : List Nd} {k : List Int} (h : May n l) (h2 : ordF n l n.toNat [] = some k) : ordE n l = 0 ∧ ordV n l = k := by
  unfold ordE ordV
  rw [if_pos h, if_pos h, h2]
  exact ⟨rfl, rfl⟩
theorem nx_zero (n : Int) (l : List Nd) (out : List Int) : nx n l out 0 = 0 := rfl
theorem nx_yes {n : Int} {l : List Nd} {out : List Int} {m : Nat} (h : Ready l out (n - m)) : nx n l out (m + 1) = n - m := by unfold nx; rw [if_pos h]
theorem nx_no {n : Int} {l : List Nd} {out : List Int} {m : Nat} (h : ¬ Ready l out (n - m)) : nx n l out (m + 1) = nx n l out m := by
  conv => lhs; unfold nx
  rw [if_neg h]
/-- What is told is ready, and none less is. -/
theorem nx_is {n : Int} {l : List Nd} {out : List Int} : ∀ m : Nat, (m : Int) ≤ n → (nx n l out m = 0 ∧ ∀ k, n - m < k → k ≤ n → ¬ Ready l out k) ∨ (n - m < nx n l out m ∧ nx n l out m ≤ n ∧ Ready l out (nx n l out m) ∧ ∀ k, n - m < k → k < nx n l out m → ¬ Ready l out k)
  | 0, _ => .inl ⟨rfl, fun k h1 h2 => by omega⟩
  | m + 1, hm => by
    by_cases h : Ready l out (n - m)
    · rw [nx_yes h]
      exact .inr ⟨by omega, by omega, h, fun k h1 h2 => by omega⟩
    · rw [nx_no h]
      rcases nx_is (n := n) (l := l) (out := out) m (by omega) with ⟨h1, h2⟩ | ⟨h1, h2, h3, h4⟩
      · refine .inl ⟨h1, fun k k1 k2 => ?_⟩
        by_cases e : k = n - m
        · rw [e]; exact h
        · exact h2 k (by omega) k2
      · refine .inr ⟨by omega, h2, h3, fun k k1 k2 => ?_⟩
        by_cases e : k = n - m
        · rw [e]; exact h
        · exact h4 k (by omega) k2
theorem nx_all {n : Int} {l : List Nd} {out : List Int} (hn : 0 ≤ n) : (nx n l out n.toNat = 0 ∧ ∀ k, 1 ≤ k → k ≤ n → ¬ Ready l out k) ∨ (1 ≤ nx n l out n.toNat ∧ nx n l out n.toNat ≤ n ∧ Ready l out (nx n l out n.toNat)) := by
  have e : ((n.toNat : Nat) : Int) = n := Int.toNat_of_nonneg hn
  rcases nx_is (n := n) (l := l) (out := out) n.toNat (by omega) with ⟨h1, h2⟩ | ⟨h1, h2, h3, _⟩
  · exact .inl ⟨h1, fun k k1 k2 => h2 k (by omega) k2⟩
  · exact .inr ⟨by omega, h2, h3⟩
theorem ordF_zero (n : Int) (l : List Nd) (out : List Int) : ordF n l 0 out = some out := rfl
theorem ordF_none {n : Int} {l : List Nd} {out : List Int} {m : Nat} (h : nx n l out n.toNat = 0) : ordF n l (m + 1) out = none := by
  unfold ordF
  rw [if_pos h]
theorem ordF_more {n : Int} {l : List Nd} {out : List Int} {m : Nat} (h : nx n l out n.toNat ≠ 0) : ordF n l (m + 1) out = ordF n l m (out ++ [nx n l out n.toNat]) := by
  conv => lhs; unfold ordF
  rw [if_neg h]
/-- Each node once, behind all that it needs. -/
structure Stands (n : Int) (l : List Nd) (out : List Int) : Prop where
  nodup : out.Nodup
  node : ∀ k ∈ out, 1 ≤ k ∧ k ≤ n
  behind : ∀ i k, out[i]? = some k → ∀ t ∈ l, t.a = k → t.b ∈ out.take i
theorem stands_nil (n : Int) (l : List Nd) : Stands n l [] := ⟨.nil, fun k h => by simp at h, fun i k h => by simp at h⟩
theorem Stands.more {n : Int} {l : List Nd} {out : List Int} {k : Int} (h : Stands n l out) (hk : Ready l out k) (k0 : 1 ≤ k) (k1 : k ≤ n) : Stands n l (out ++ [k]) := by
  refine ⟨?_, fun x hx => ?_, fun i x hx t ht e => ?_⟩
  · rw [List.nodup_append]
    refine ⟨h.nodup, by simp, fun x hx y hy e => ?_⟩
    simp at hy
    subst hy e
    exact hk.1 hx
  · rcases List.mem_append.1 hx with hx | hx
    · exact h.node x hx
    · simp at hx
      rw [hx]
      exact ⟨k0, k1⟩
  · by_cases hi : i < out.length
    · rw [List.getElem?_append_left hi] at hx
      rw [List.take_append_of_le_length (by omega)]
      exact h.behind i x hx t ht e
    · have hi2 : i = out.length := by
        have := (List.getElem?_eq_some_iff.1 hx).1
        simp at this
        omega
      subst hi2
      simp at hx
      subst hx
      have := hk.2 t ht e
      simpa using this
theorem ordF_stands {n : Int} {l : List Nd} (hn : 0 ≤ n) : ∀ (m : Nat) (out o : List Int), Stands n l out → ordF n l m out = some o → Stands n l o ∧ o.length = out.length + m
  | 0, out, o, h, e => by
    rw [ordF_zero] at e
    injection e with e
    subst e
    exact ⟨h, rfl⟩
  | m + 1, out, o, h, e => by
    by_cases h0 : nx n l out n.toNat = 0
    · rw [ordF_none h0] at e
      cases e
    · rw [ordF_more h0] at e
      rcases nx_all (l := l) (out := out) hn with ⟨h1, _⟩ | ⟨h1, h2, h3⟩
      · exact absurd h1 h0
      · obtain ⟨r1, r2⟩ := ordF_stands hn m _ o (h.more h3 h1 h2) e
        exact ⟨r1, by rw [r2]; simp; omega⟩
/-- Where no order is, none of those that do not stand is ready. -/
theorem ordF_stuck {n : Int} {l : List Nd} (hn : 0 ≤ n) : ∀ (m : Nat) (out : List Int), Stands n l out → out.length + m = n.toNat → ordF n l m out = none → ∃ o, Stands n l o ∧ o.length < n.toNat ∧ ∀ k, 1 ≤ k → k ≤ n → ¬ Ready l o k
  | 0, out, _, _, e => by
    rw [ordF_zero] at e
    cases e
  | m + 1, out, h, hl, e => by
    rcases nx_all (l := l) (out := out) hn with ⟨h1, h2⟩ | ⟨h1, h2, h3⟩
    · exact ⟨out, h, by omega, h2⟩
    · have h0 : nx n l out n.toNat ≠ 0 := by omega
      rw [ordF_more h0] at e
      exact ordF_stuck hn m _ (h.more h3 h1 h2) (by simp; omega) e
end Go.Proofs.Ytghjcefigdkhnaa.Graph
