/- What is told fits: what the law asks of it; said without a program. -/
import Derived.Test.YtohlkaoophbinaaZCatOrd
import Derived.Test.YtohlkaoophbinaaZGoodsF
namespace Go.Proofs.Ytohlkaoophbinaa.Bom
open Go.Lib
open Goods (St cnt)
open Cat (Cat PB)
open Recipe (needsE needsL needL up nd)

/-- What is told, where it is. -/
theorem told {C : Cat} {k n lv : Int} {hv : List St} (h : expE C k n lv hv = 0) : ∃ S, runE C k n lv hv = some S ∧ mayE C k lv hv = 0 ∧ (1 ≤ n ∧ n ≤ Recipe.mq) ∧ bill C k n lv hv = ⟨S.w, S.rs, Goods.valN S.raw, Goods.valN S.left⟩ := by
  have hm : mayE C k lv hv = 0 := Classical.byContradiction fun hm => by
    rw [exp_may hm] at h
    exact hm h
  have hn : 1 ≤ n ∧ n ≤ Recipe.mq := Classical.byContradiction fun hn => by
    rw [exp_num hm hn] at h
    omega
  cases hr : runE C k n lv hv with
  | none =>
    rw [exp_none hm hn hr] at h
    omega
  | some S => exact ⟨S, rfl, hm, hn, bill_some hm hn hr⟩
theorem told_J {C : Cat} {k n lv : Int} {hv : List St} {S : Sx} (hm : mayE C k lv hv = 0) (hn : 1 ≤ n ∧ n ≤ Recipe.mq) (hr : runE C k n lv hv = some S) : J C k n lv hv (topV C) S := by
  obtain ⟨hc, _, _, hli⟩ := mayE_zero hm
  exact J.run (chk_top hc).1 (qty_listed hli) (fun b hb => ((Cat.chk_zero hc).2.1 b hb).2.2.1.1) (topV C) [] _ _ rfl (J.start ⟨by omega, hn.2⟩) hr
/-- What must be there, put together. -/
theorem J.raw_ok {C : Cat} {k n lv : Int} {hv : List St} {T : List Int} {S : Sx} (h : J C k n lv hv T S) (hT : Top C.ty (Cat.ndL C.bs) T) (h0 : ∀ x ∈ hv, 0 ≤ x.qty) : Goods.errN S.raw = 0 := by
  refine Goods.errN_ok (fun t ht => ?_) fun ⟨j, hj⟩ => ?_
  · obtain ⟨q1, q2, _⟩ := h.raw t ht
    exact ⟨((hT.all _).1 q1).1, by omega⟩
  · by_cases he : ∃ t ∈ S.raw, t.kind = j
    · obtain ⟨t, ht, rfl⟩ := he
      rw [cnt_once h.once ht] at hj
      obtain ⟨_, _, _, q4⟩ := h.raw t ht
      have h1 := cnt_hv h0 t.kind
      have h2 := (h.cap t.kind).2
      have e1 : Goods.mq = 1125899906842624 := rfl
      have e2 : Recipe.mq = 1125899906842624 := rfl
      omega
    · rw [Goods.cnt_none fun s hs e => he ⟨s, hs, e⟩] at hj
      have e1 : Goods.mq = 1125899906842624 := rfl
      omega
theorem told_mem {l : List St} {t : St} (hf : Goods.Fine l) (h : t ∈ Goods.nl l) : (∃ u ∈ l, u.kind = t.kind) ∧ cnt l t.kind = t.qty ∧ 1 ≤ t.qty ∧ 1 ≤ t.kind := by
  have hN := Goods.norm_nl hf
  have h1 := Goods.cnt_at hN.rise h
  rw [Goods.cnt_nl] at h1
  have h2 := hN.qty t h
  refine ⟨Classical.byContradiction fun he => ?_, h1, by omega, hN.kind t h⟩
  rw [Goods.cnt_none fun s hs e => he ⟨s, hs, e⟩] at h1
  omega
theorem told_len {C : Cat} {k n lv : Int} {hv : List St} {S : Sx} (hm : mayE C k lv hv = 0) (hn : 1 ≤ n ∧ n ≤ Recipe.mq) (hr : runE C k n lv hv = some S) : (Goods.valN S.raw).length ≤ 32 ∧ S.rs.length ≤ 16 ∧ InL S.rs := by
  have hJ := told_J hm hn hr
  obtain ⟨hc, _, _, _⟩ := mayE_zero hm
  have hT := (chk_top hc).1
  have hco := Cat.chk_zero hc
  have h1 := nodup_le C.ty.toNat (S.raw.map St.kind) hJ.once fun x hx => by
    obtain ⟨t, ht, rfl⟩ := List.mem_map.1 hx
    have h := (hT.all t.kind).1 (hJ.raw t ht).1
    omega
  rw [List.length_map] at h1
  have h2 := Goods.len_valN S.raw
  have h3 := hco.1.1.2
  have h4 := hco.1.2.2.2.1
  have h5 := hJ.len
  exact ⟨by omega, by omega, fun r hr => by have := hJ.rng r hr; unfold Cat.I64; omega⟩
/-- All that there must be, and is: it fits; with one less it does not. -/
theorem all_fits {C : Cat} {k n lv : Int} {hv : List St} {S : Sx} (hm : mayE C k lv hv = 0) (hn : 1 ≤ n ∧ n ≤ Recipe.mq) (hr : runE C k n lv hv = some S) (ha : Goods.errA (Goods.valN S.raw) hv = 0) (hl : (Goods.valA (Goods.valN S.raw) hv).length ≤ 8) :
    (FitsP C k n lv (Goods.valA (Goods.valN S.raw) hv) S.rs ∧ InS (Goods.valA (Goods.valN S.raw) hv)) ∧ ∀ t ∈ Goods.valN S.raw, Goods.errS (Goods.valA (Goods.valN S.raw) hv) [⟨t.kind, 1⟩] = 0 ∧ ¬ FitsP C k n lv (Goods.valS (Goods.valA (Goods.valN S.raw) hv) [⟨t.kind, 1⟩]) S.rs ∧ InS (Goods.valS (Goods.valA (Goods.valN S.raw) hv) [⟨t.kind, 1⟩]) ∧ (Goods.valS (Goods.valA (Goods.valN S.raw) hv) [⟨t.kind, 1⟩]).length ≤ 8 := by
  have hJ := told_J hm hn hr
  obtain ⟨hc, hk, hlv, hli⟩ := mayE_zero hm
  have hT := (chk_top hc).1
  have hq := qty_listed hli
  have hro := hJ.raw_ok hT hq
  have hf := (Goods.errN_zero hro).1
  have hv1 : Goods.valN S.raw = Goods.nl S.raw := Goods.valN_ok hro
  have hNr := Goods.norm_nl hf
  obtain ⟨al, hal⟩ : ∃ al, Goods.valA (Goods.valN S.raw) hv = al := ⟨_, rfl⟩
  have hb : Goods.errB (Goods.valN S.raw) hv = 0 := Classical.byContradiction fun hb => by
    unfold Goods.errA at ha
    rw [if_neg hb] at ha
    exact hb ha
  have hs : Goods.errN (Goods.nl (Goods.valN S.raw) ++ Goods.nl hv) = 0 := by
    unfold Goods.errA at ha
    rw [if_pos hb] at ha
    exact ha
  have e1 : al = Goods.nl (Goods.nl (Goods.valN S.raw) ++ Goods.nl hv) := by
    rw [← hal]
    unfold Goods.valA
    rw [if_pos hb, Goods.valN_ok hs]
  have hsf := Goods.errN_zero hs
  have hNa : Goods.Norm al := by rw [e1]; exact Goods.norm_nl hsf.1
  have hcnt : ∀ x, cnt al x = cnt S.raw x + cnt hv x := fun x => by
    rw [e1, Goods.cnt_nl, Goods.cnt_append, Goods.cnt_nl, Goods.cnt_nl, hv1, Goods.cnt_nl]
  have hea : Goods.errN al = 0 := Goods.errN_ok (Goods.fine_norm hNa) fun ⟨j, hj⟩ => hsf.2 ⟨j, by rw [e1, Goods.cnt_nl] at hj; exact hj⟩
  rw [hal] at hl ⊢
  have hkr := kind_listed hli
  have hLi : Goods.Listed al C.ty := ⟨hl, hea, Goods.nl_norm hNa, fun s hs2 => Classical.byContradiction fun hgt => by
    have h1 := Goods.cnt_at hNa.rise hs2
    have h2 := hNa.qty s hs2
    rw [hcnt, Goods.cnt_none fun u hu e => by have := (hT.all u.kind).1 (hJ.raw u hu).1; omega, Goods.cnt_none fun u hu e => by have := hkr u hu; omega] at h1
    omega⟩
  have hty : C.ty ≤ 32 := (Cat.chk_zero hc).1.1.2
  have hIn : ∀ s ∈ al, (1 ≤ s.kind ∧ s.kind ≤ 32) ∧ 1 ≤ s.qty ∧ s.qty ≤ 1125899906842624 := fun s hs2 => by
    have h1 := hNa.kind s hs2
    have h2 := hLi.2.2.2 s hs2
    have h3 := hNa.qty s hs2
    have h4 := Goods.valN_le (Goods.nl (Goods.valN S.raw) ++ Goods.nl hv) s (by rw [Goods.valN_ok hs, ← e1]; exact hs2)
    have e9 : Goods.mq = 1125899906842624 := rfl
    omega
  refine ⟨⟨hJ.fits hT hcnt (mayE_ok hc hk hlv hLi) hn, fun s hs2 => by have := hIn s hs2; unfold Cat.I64; omega⟩, fun t ht => ?_⟩
  rw [hv1] at ht
  obtain ⟨⟨u, hu, hut⟩, q2, q3, q4⟩ := told_mem hf ht
  have hge : 1 ≤ cnt al t.kind := by
    have := cnt_hv hq t.kind
    rw [hcnt]
    omega
  obtain ⟨hN1, he1, hv2⟩ := norm_one1 (k := t.kind) (q := 1) q4 (by omega)
  have hn1 := Goods.nl_norm hN1
  have heB : Goods.errB al [⟨t.kind, 1⟩] = 0 := by
    unfold Goods.errB
    rw [if_pos hea, he1]
  have heS : Goods.errS al [⟨t.kind, 1⟩] = 0 := by
    unfold Goods.errS
    rw [if_pos heB, if_neg]
    rintro ⟨s, hs1, hs2⟩
    rw [hn1] at hs1
    rw [Goods.nl_norm hNa, List.mem_singleton.1 hs1] at hs2
    have hs2 : cnt al t.kind < 1 := hs2
    omega
  refine ⟨heS, ?_⟩
  have hvS : Goods.valS al [⟨t.kind, 1⟩] = Goods.subL al [⟨t.kind, 1⟩] := by
    unfold Goods.valS
    rw [if_pos heS, Goods.nl_norm hNa, hn1]
  have hc1 : ∀ x, cnt [(⟨t.kind, 1⟩ : St)] x = if t.kind = x then 1 else 0 := fun x => by simp [Goods.cnt]
  have hfa := Goods.fine_norm hNa
  rw [hvS]
  refine ⟨hJ.less hT hcnt hu ?_, fun s hs2 => ?_, Nat.le_trans (Goods.len_subL _ _) hl⟩
  case refine_2 =>
    obtain ⟨h1, h2⟩ := List.mem_filter.1 hs2
    obtain ⟨v, hv3, rfl⟩ := List.mem_map.1 h1
    have h3 := hIn v hv3
    have h4 : 0 < v.qty - cnt [(⟨t.kind, 1⟩ : St)] v.kind := of_decide_eq_true h2
    have h5 : 0 ≤ cnt [(⟨t.kind, 1⟩ : St)] v.kind := by
      rw [hc1]
      split <;> omega
    show Cat.I64 v.kind ∧ Cat.I64 (v.qty - cnt [(⟨t.kind, 1⟩ : St)] v.kind)
    unfold Cat.I64
    omega
  rw [hut, Goods.cnt_sub hNa (fun x => ?_) (fun x => ?_), hc1, if_pos rfl]
  · rw [hc1]
    split
    · rename_i e
      rw [← e]
      exact hge
    · exact Goods.cnt_nonneg (fun s hs => (hfa s hs).2) x
  · rw [hc1]
    split <;> omega
/-! no way takes longer than all runs -/
noncomputable def ownL (lv : Int) (bs : List PB) (rs : List Int) (t : Int) : Int := match fm t bs with
  | none => 0
  | some (i, b) => tim lv b (rs.getD i 0)
theorem ownL_nonneg (lv : Int) (bs : List PB) (rs : List Int) (t : Int) : 0 ≤ ownL lv bs rs t := by
  unfold ownL
  split
  · exact Int.le_refl _
  · exact tim_nonneg _ _ _
theorem ownL_cons (lv : Int) (b : PB) (bs : List PB) (r : Int) (rs : List Int) (t : Int) : ownL lv (b :: bs) (r :: rs) t = if b.ot = t then tim lv b r else ownL lv bs rs t := by
  by_cases e : b.ot = t
  · have h : fm t (b :: bs) = some (0, b) := by unfold fm; rw [if_pos e]
    unfold ownL
    rw [h, if_pos e]
    rfl
  · have h : fm t (b :: bs) = match fm t bs with
      | none => none
      | some (i, c) => some (i + 1, c) := by (conv => lhs; unfold fm; rw [if_neg e]); cases fm t bs <;> rfl
    unfold ownL
    rw [h, if_neg e]
    cases fm t bs with
    | none => rfl
    | some p => rfl
theorem sum_one {g h : Int → Int} {k v : Int} (hv : 0 ≤ v) (hh : ∀ x, 0 ≤ h x) (e : ∀ x, g x = if k = x then v else h x) : ∀ T : List Int, T.Nodup → sumL g T ≤ v + sumL h T ∧ (k ∉ T → sumL g T = sumL h T)
  | [], _ => ⟨by simp only [sumL]; omega, fun _ => rfl⟩
  | x :: T, hn => by
    rw [List.nodup_cons] at hn
    obtain ⟨h1, h2⟩ := sum_one hv hh e T hn.2
    have h3 := hh x
    rw [sumL, sumL, e x]
    by_cases ek : k = x
    · subst ek
      rw [if_pos rfl]
      have := h2 hn.1
      exact ⟨by omega, fun h => absurd (List.mem_cons_self ..) h⟩
    · rw [if_neg ek]
      exact ⟨by omega, fun h => by rw [h2 fun hm => h (List.mem_cons_of_mem _ hm)]⟩
theorem sum_nil {g : Int → Int} (h : ∀ x, g x = 0) : ∀ T : List Int, sumL g T = 0
  | [] => rfl
  | x :: T => by
    rw [sumL, h, sum_nil h T]
    rfl
theorem sum_own (lv : Int) {T : List Int} (hT : T.Nodup) : ∀ (bs : List PB) (rs : List Int), rs.length = bs.length → sumL (ownL lv bs rs) T ≤ whl lv bs rs
  | [], rs, _ => by
    rw [sum_nil (g := ownL lv [] rs) (fun x => rfl)]
    cases rs <;> exact Int.le_refl _
  | b :: bs, [], h => by simp at h
  | b :: bs, r :: rs, h => by
    have h1 := sum_own lv hT bs rs (by simpa using h)
    have h2 := (sum_one (tim_nonneg lv b r) (ownL_nonneg lv bs rs) (ownL_cons lv b bs r rs) T hT).1
    rw [whl]
    omega
/-- The way is no longer than all runs. -/
theorem path_whole {C : Cat} {k n lv : Int} {hv : List St} {S : Sx} (hm : mayE C k lv hv = 0) (hn : 1 ≤ n ∧ n ≤ Recipe.mq) (hr : runE C k n lv hv = some S) : pathE C k S.rs lv = 0 ∧ wholeE C S.rs lv = 0 ∧ pathA C k S.rs lv ≤ wholeV C S.rs lv := by
  have hJ := told_J hm hn hr
  obtain ⟨hc, hk, hlv, _⟩ := mayE_zero hm
  have hT := (chk_top hc).1
  have m1 := mayE_ok hc hk hlv (listed_nil C.ty)
  have m2 := mayE_ok hc (kind := 1) ⟨by omega, by omega⟩ hlv (listed_nil C.ty)
  have hro : RunsOk C S.rs := ⟨hJ.len, hJ.rng⟩
  refine ⟨by unfold pathE; rw [if_pos m1, if_pos hro], by unfold wholeE; rw [if_pos m2, if_pos hro], ?_⟩
  unfold pathA wholeV
  rw [if_pos ⟨m1, hro⟩, if_pos ⟨m2, hro⟩]
  unfold pathV
  obtain ⟨pre, post, e⟩ := List.append_of_mem ((hT.all k).2 hk)
  have h1 := pth_le (rs := S.rs) (lv := lv) hT (C.ty.toNat + 1) pre post k e
  have h2 := sumL_append (own C S.rs lv) pre (k :: post)
  rw [← e] at h2
  have h3 := sumL_nonneg (own_nonneg C S.rs lv) pre
  have h4 : sumL (own C S.rs lv) (topV C) ≤ whl lv C.bs S.rs := sum_own lv hT.nodup C.bs S.rs hJ.len
  omega
/-- What is there already is made no more. -/
theorem had {C : Cat} {k n lv : Int} {hv : List St} (hm : mayE C k lv hv = 0) (hn : 1 ≤ n ∧ n ≤ Recipe.mq) : expE C k n lv [⟨k, n⟩] = 0 ∧ (bill C k n lv [⟨k, n⟩]).raw = [] ∧ (bill C k n lv [⟨k, n⟩]).left = [] := by
  obtain ⟨hc, hk, hlv, _⟩ := mayE_zero hm
  have e2 : Recipe.mq = 1125899906842624 := rfl
  have m1 := mayE_ok hc hk hlv (listed_one (k := k) (q := n) hk.1 hk.2 (by omega))
  have hstp : ∀ t, stp C.bs lv [⟨k, n⟩] t (s0 C k n) = some (s0 C k n) := fun t => by
    unfold stp
    rw [if_pos]
    have e3 : (s0 C k n).w t = if t = k then n else 0 := rfl
    have e4 : cnt [(⟨k, n⟩ : St)] t = if k = t then n else 0 := by simp [Goods.cnt]
    unfold mo
    rw [e3, e4]
    by_cases e : t = k
    · rw [if_pos e, if_pos e.symm]
      omega
    · rw [if_neg e, if_neg fun h => e h.symm]
      omega
  have hrn : ∀ T, rn C.bs lv [⟨k, n⟩] T (s0 C k n) = some (s0 C k n) := fun T => by
    induction T with
    | nil => rfl
    | cons t T ih =>
      unfold rn
      rw [hstp]
      exact ih
  have hr : runE C k n lv [⟨k, n⟩] = some (s0 C k n) := hrn _
  have hv0 : Goods.valN [] = [] := by
    have := Goods.len_valN []
    exact List.eq_nil_of_length_eq_zero (by simpa using this)
  rw [bill_some m1 hn hr]
  exact ⟨exp_some m1 hn hr, hv0, hv0⟩
end Go.Proofs.Ytohlkaoophbinaa.Bom
