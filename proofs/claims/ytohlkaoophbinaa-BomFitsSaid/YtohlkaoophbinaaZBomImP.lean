/- The program's Path: from the bottom, the paths of all that a type needs are known ahead of it. -/
import Derived.Test.YtohlkaoophbinaaZBomImW
import Derived.Test.YtohlkaoophbinaaZBomImA
import Derived.Deep.RegionWith
namespace Go.Proofs.Ytohlkaoophbinaa.Bom.Im
open Go.RowKit Go.Lib IRows
open Goods (St Sts OwnS cnt)
open Cat (Cat PB CM CatAt Lim I64 pOf box_cat)
open Recipe (needsE needsL needL up nd BlIn)

/-- More depth than there stands behind a type makes no difference. -/
theorem pth_fuel {C : Cat} {rs : List Int} {lv : Int} {T : List Int} (hT : Top C.ty (Cat.ndL C.bs) T) : ∀ (k : Nat) (pre post : List Int) (t : Int) (f g : Nat), T = pre ++ t :: post → post.length = k → k < f → k < g → pth C rs lv f t = pth C rs lv g t := fun k => by
  induction k using Nat.strongRecOn with
  | ind k ih =>
    intro pre post t f g e hk hf hg
    obtain ⟨f, rfl⟩ : ∃ f', f = f' + 1 := ⟨f - 1, by omega⟩
    obtain ⟨g, rfl⟩ : ∃ g', g = g' + 1 := ⟨g - 1, by omega⟩
    unfold pth
    cases hm : fm t C.bs with
    | none => rfl
    | some p =>
      obtain ⟨i, b⟩ := p
      obtain ⟨hb, hot⟩ := fm_some hm
      show (if rs.getD i 0 = 0 then 0 else tim lv b (rs.getD i 0) + maxL (b.s.map fun s => pth C rs lv f s.kind)) = (if rs.getD i 0 = 0 then 0 else tim lv b (rs.getD i 0) + maxL (b.s.map fun s => pth C rs lv g s.kind))
      rw [List.map_congr_left fun u hu => ?_]
      have hup := hT.ahead pre t post e _ (nd_mem (List.mem_of_getElem? hb) hu) hot
      obtain ⟨a, c, e2⟩ := List.append_of_mem hup
      have e3 : post = a ++ u.kind :: c := e2
      have hlen : c.length < k := by rw [← hk, e3]; simp; omega
      exact ih c.length hlen (pre ++ t :: a) c u.kind f g (by rw [e, e3]; simp) rfl (by omega) (by omega)
/-- What stands behind a type, as it is gone over from the bottom. -/
theorem rev_split {T : List Int} {i : Nat} {t : Int} (h : T.reverse[i]? = some t) : ∃ pre post, T = pre ++ t :: post ∧ post.length = i ∧ T.reverse.take i = post.reverse := by
  have h1 := take_split h
  refine ⟨(T.reverse.drop (i + 1)).reverse, (T.reverse.take i).reverse, ?_, ?_, by rw [List.reverse_reverse]⟩
  · have h2 := congrArg List.reverse h1
    rw [List.reverse_reverse] at h2
    refine h2.trans ?_
    simp only [List.reverse_append, List.reverse_cons, List.append_assoc, List.cons_append, List.nil_append]
  · have hlt := (List.getElem?_eq_some_iff.1 h).1
    rw [List.length_reverse, List.length_take]
    omega
theorem path_eq {C : Cat} {rs : List Int} {lv : Int} {T : List Int} (hT : Top C.ty (Cat.ndL C.bs) T) (hl : T.length ≤ C.ty.toNat) {pre post : List Int} {t : Int} (e : T = pre ++ t :: post) :
    pathV C rs lv t = match fm t C.bs with
      | none => 0
      | some (i, b) => if rs.getD i 0 = 0 then 0 else tim lv b (rs.getD i 0) + maxL (b.s.map fun s => pathV C rs lv s.kind) := by
  conv => lhs; unfold pathV pth
  cases hm : fm t C.bs with
  | none => rfl
  | some p =>
    obtain ⟨i, b⟩ := p
    obtain ⟨hb, hot⟩ := fm_some hm
    show (if rs.getD i 0 = 0 then 0 else tim lv b (rs.getD i 0) + maxL (b.s.map fun s => pth C rs lv C.ty.toNat s.kind)) = (if rs.getD i 0 = 0 then 0 else tim lv b (rs.getD i 0) + maxL (b.s.map fun s => pathV C rs lv s.kind))
    rw [List.map_congr_left fun u hu => ?_]
    have hup := hT.ahead pre t post e _ (nd_mem (List.mem_of_getElem? hb) hu) hot
    obtain ⟨a, c, e2⟩ := List.append_of_mem hup
    have e3 : post = a ++ u.kind :: c := e2
    have hlen : c.length < C.ty.toNat := by
      have h1 : T.length = pre.length + 1 + post.length := by rw [e]; simp; omega
      have h2 : post.length = a.length + 1 + c.length := by rw [e3]; simp; omega
      omega
    exact pth_fuel hT c.length (pre ++ t :: a) c u.kind _ _ (by rw [e, e3]; simp) rfl hlen (by omega)
theorem path_in {C : Cat} {rs : List Int} {lv : Int} {T : List Int} (hT : Top C.ty (Cat.ndL C.bs) T) (hl : T.length ≤ 32) {t : Int} (ht : t ∈ T) : 0 ≤ pathV C rs lv t ∧ pathV C rs lv t ≤ 3355443200000 := by
  obtain ⟨pre, post, e⟩ := List.append_of_mem ht
  have h1 := pth_le (rs := rs) (lv := lv) hT (C.ty.toNat + 1) pre post t e
  have h2 := sumL_le (own_le C rs lv) (t :: post)
  have h3 : (t :: post).length ≤ 32 := by
    have : T.length = pre.length + (t :: post).length := by rw [e, List.length_append]
    omega
  refine ⟨pth_nonneg C rs lv _ t, ?_⟩
  show pth C rs lv (C.ty.toNat + 1) t ≤ _
  omega
/-- The paths that are known, when so many types were gone over. -/
noncomputable def knF (C : Cat) (rs : List Int) (lv : Int) (l : List Int) (t : Int) : Int := if t ∈ l then pathV C rs lv t else 0
theorem kn_set {C : Cat} {rs : List Int} {lv : Int} {l : List Int} {t v : Int} (h : pathV C rs lv t = v) (x : Int) : knF C rs lv (l ++ [t]) x = upd (knF C rs lv l) t v x := by
  unfold knF
  by_cases e : x = t
  · subst e
    rw [if_pos (List.mem_append.2 (.inr (List.mem_singleton.2 rfl))), upd_same, h]
  · rw [upd_other _ _ e]
    by_cases hx : x ∈ l
    · rw [if_pos (List.mem_append.2 (.inl hx)), if_pos hx]
    · rw [if_neg fun h => (List.mem_append.1 h).elim hx fun h => e (List.mem_singleton.1 h), if_neg hx]
theorem kn_zero {C : Cat} {rs : List Int} {lv : Int} {l : List Int} {t : Int} (ht : t ∉ l) (h : pathV C rs lv t = 0) (x : Int) : knF C rs lv (l ++ [t]) x = knF C rs lv l x := by
  rw [kn_set h x]
  by_cases e : x = t
  · subst e
    rw [upd_same]
    unfold knF
    rw [if_neg ht]
  · rw [upd_other _ _ e]
theorem path_ill {C : Cat} {k lv : Int} {rs : List Int} (hc : Cat.chkC C = 0) (h : ¬ ((1 ≤ k ∧ k ≤ C.ty) ∧ (0 ≤ lv ∧ lv ≤ 10) ∧ RunsOk C rs)) : pathE C k rs lv = 1 ∧ pathA C k rs lv = 0 := by
  unfold pathE pathA
  by_cases hm : (1 ≤ k ∧ k ≤ C.ty) ∧ (0 ≤ lv ∧ lv ≤ 10)
  · have e := mayE_ok hc hm.1 hm.2 (listed_nil C.ty)
    have hr : ¬ RunsOk C rs := fun hr => h ⟨hm.1, hm.2, hr⟩
    rw [if_pos e, if_neg hr, if_neg fun h => hr h.2]
    exact ⟨rfl, rfl⟩
  · have e : mayE C k lv [] = 1 := mayE_bad hc fun h => hm ⟨h.1, h.2.1⟩
    rw [e, if_neg (by omega), if_neg fun h => by have := h.1; omega]
    exact ⟨rfl, rfl⟩
end Go.Proofs.Ytohlkaoophbinaa.Bom.Im
