/- Orders by reckoning; a list of one stack. -/
import Derived.Test.YteaclacbdelinaaZCatMath
import Derived.Test.YteaclacbdelinaaZGraphMath
import Derived.Test.YteaclacbdelinaaZCatA
namespace Go.Proofs.Yteaclacbdelinaa.Cat
open Go.RowKit Go.Lib
open Goods (St Sts OwnS)
open Graph (Nd)

/-! Orders by reckoning. -/
def readyB (l : List Nd) (out : List Int) (k : Int) : Bool := !out.contains k && l.all fun t => t.a != k || out.contains t.b
theorem ready_iff (l : List Nd) (out : List Int) (k : Int) : Graph.Ready l out k ↔ readyB l out k = true := by
  unfold Graph.Ready readyB
  simp only [Bool.and_eq_true, Bool.not_eq_true', List.all_eq_true, Bool.or_eq_true, bne_iff_ne, ne_eq, List.contains_iff_mem]
  constructor
  · rintro ⟨h1, h2⟩
    refine ⟨by simpa using h1, fun t ht => ?_⟩
    by_cases e : t.a = k
    · exact .inr (by simpa using h2 t ht e)
    · exact .inl e
  · rintro ⟨h1, h2⟩
    refine ⟨by simpa using h1, fun t ht e => ?_⟩
    rcases h2 t ht with h | h
    · exact absurd e h
    · simpa using h
def nxB (n : Int) (l : List Nd) (out : List Int) : Nat → Int
  | 0 => 0
  | m + 1 => if readyB l out (n - m) then n - m else nxB n l out m
theorem nx_eq (n : Int) (l : List Nd) (out : List Int) : ∀ m, Graph.nx n l out m = nxB n l out m
  | 0 => rfl
  | m + 1 => by
    by_cases h : Graph.Ready l out (n - m)
    · rw [Graph.nx_yes h]
      unfold nxB
      rw [if_pos ((ready_iff _ _ _).1 h)]
    · rw [Graph.nx_no h, nx_eq n l out m]
      conv => rhs; unfold nxB
      rw [if_neg fun e => h ((ready_iff _ _ _).2 e)]
def ordB (n : Int) (l : List Nd) : Nat → List Int → Option (List Int)
  | 0, out => some out
  | m + 1, out => if nxB n l out n.toNat = 0 then none else ordB n l m (out ++ [nxB n l out n.toNat])
theorem ord_eq (n : Int) (l : List Nd) : ∀ m out, Graph.ordF n l m out = ordB n l m out
  | 0, _ => rfl
  | m + 1, out => by
    unfold Graph.ordF ordB
    rw [nx_eq, ord_eq n l m]
/-- What a catalogue's check tells of its needs. -/
def gC (n : Int) (l : List Nd) : Int :=
  match ordB n l n.toNat [] with
  | none => 9
  | some k => if (Graph.deepD l k (List.replicate n.toNat 0)).all fun d => decide (d ≤ 8) then 0 else 5
theorem chk_gC {C : Cat} (h : CatOk C) (hm : Graph.May C.ty (ndL C.bs)) : chkC C = gC C.ty (ndL C.bs) := by
  unfold gC
  cases ho : ordB C.ty (ndL C.bs) C.ty.toNat [] with
  | none =>
    obtain ⟨e, _⟩ := Graph.ord_none hm ((ord_eq _ _ _ _).trans ho)
    rw [chk_err h (by omega), e]
  | some k =>
    obtain ⟨e, ek⟩ := Graph.ord_some hm ((ord_eq _ _ _ _).trans ho)
    have ed : Graph.degV C.ty (ndL C.bs) = Graph.deepD (ndL C.bs) k (List.replicate C.ty.toNat 0) := by unfold Graph.degV; rw [if_pos e, ek]
    dsimp only
    by_cases hd : ∀ d ∈ Graph.degV C.ty (ndL C.bs), d ≤ 8
    · rw [chk_fine h e hd, if_pos]
      rw [List.all_eq_true]
      intro d hm
      rw [ed] at hd
      exact decide_eq_true (hd d hm)
    · rw [chk_over h e hd, if_neg]
      intro ha
      rw [List.all_eq_true] at ha
      rw [ed] at hd
      exact hd fun d hm => of_decide_eq_true (ha d hm)
/-- One need of a blueprint. -/
theorem one_listed {k ty o : Int} (h1 : 1 ≤ k) (h2 : k ≤ ty) (h3 : k ≠ o) : Goods.Listed [⟨k, 1⟩] ty ∧ ¬ 0 < Goods.cnt (Goods.valN [⟨k, 1⟩]) o := by
  have hf : Goods.Fine [⟨k, 1⟩] := fun s hs => by simp at hs; subst hs; exact ⟨h1, by show (0 : Int) ≤ 1; omega⟩
  have hov : ¬ Goods.Over [⟨k, 1⟩] := by
    rintro ⟨j, hj⟩
    have h1 : Goods.cnt [⟨k, 1⟩] j ≤ 1 := by
      simp only [Goods.cnt]
      split <;> omega
    unfold Goods.mq at hj
    omega
  have he := Goods.errN_ok hf hov
  have hn : Goods.nl [⟨k, 1⟩] = [⟨k, 1⟩] := Goods.nl_norm ⟨List.pairwise_singleton _ _, fun s hs => by simp at hs; subst hs; exact h1, fun s hs => by simp at hs; subst hs; show (1 : Int) ≤ 1; omega⟩
  refine ⟨⟨by simp, he, hn, fun s hs => by simp at hs; subst hs; exact h2⟩, ?_⟩
  rw [Goods.valN_ok he, hn, Goods.cnt_none fun s hs => by simp at hs; subst hs; exact h3]
  omega
theorem ret_cat {fn : Func} {R : Ending → World → Prop} {a : Act} {w : World} {p : Tmp} {g : Nat} {c0 c1 c2 c3 c4 c5 c6 c7 : Value} {T : TypeId} (h : fn.results = #[.cell p 27]) (hd : a.defers = [])
    (ht : a.tmps.getD p undef = .pointer (some ⟨g, 0, none⟩)) (hb : w.heap[g]? = some (.cells #[c0, c1, c2, c3, c4, c5, c6, c7] T (0, 0))) (hR : R (.returned (.agg #[c0, c1, c2, c3, c4, c5, c6, c7])) w) : bodyPost Try.prog fn R .ret a w :=
  bodyPost_ret (v := .agg #[c0, c1, c2, c3, c4, c5, c6, c7]) (results_cell_row h _ w g T #[c0, c1, c2, c3, c4, c5, c6, c7] (0, 0) _ ht hb Try.underlying27 rfl (by kernel_rfl)) hd hR
end Go.Proofs.Yteaclacbdelinaa.Cat
