/- Bills: what is wanted, type by type, from the top; said without a program. What is told fits, and with one less it does not; the way is no longer than all runs; said without a program. -/
import Derived.Test.YtdbhdlgoecpeaaaZGraphD
namespace Go.Proofs.Ytdbhdlgoecpeaaa.Bom
open Goods (St cnt)
open Cat (Cat PB)
open Recipe (needsE needsL needL up nd)

/-- What is wanted of each type, runs told, what must be there, what is left over. -/
structure Sx where
  w : Int → Int
  rs : List Int
  raw : List St
  left : List St
def upd (w : Int → Int) (x v : Int) : Int → Int := fun k => if k = x then v else w k
theorem upd_same (w : Int → Int) (x v : Int) : upd w x v x = v := by simp [upd]
theorem upd_other (w : Int → Int) {x k : Int} (v : Int) (h : k ≠ x) : upd w x v k = w k := by simp [upd, h]
/-- What runs need is wanted more; none, if that is too much of a type. -/
def addW (w : Int → Int) : List St → Option (Int → Int)
  | [] => some w
  | s :: l => if Recipe.mq - w s.kind < s.qty then none else addW (upd w s.kind (w s.kind + s.qty)) l
theorem addW_some : ∀ (l : List St) (w w' : Int → Int), addW w l = some w' → (∀ x, w' x = w x + cnt l x) ∧ ((∀ x, w x ≤ Recipe.mq) → ∀ x, w' x ≤ Recipe.mq)
  | [], w, w', h => by
    injection h with h
    subst h
    exact ⟨fun x => by rw [Goods.cnt_nil]; omega, fun h => h⟩
  | s :: l, w, w', h => by
    unfold addW at h
    split at h
    · cases h
    · rename_i hq
      obtain ⟨h1, h2⟩ := addW_some l _ w' h
      refine ⟨fun x => ?_, fun hb => h2 fun x => ?_⟩
      · rw [h1 x, Goods.cnt]
        by_cases e : s.kind = x
        · subst e
          rw [upd_same, if_pos rfl]
          omega
        · rw [upd_other _ _ (fun e2 => e e2.symm), if_neg e]
          omega
      · by_cases e : x = s.kind
        · subst e
          rw [upd_same]
          omega
        · rw [upd_other _ _ e]
          exact hb x
/-- The first blueprint that makes a type. -/
def fm (t : Int) : List PB → Option (Nat × PB)
  | [] => none
  | b :: l => if b.ot = t then some (0, b) else match fm t l with
    | none => none
    | some (i, c) => some (i + 1, c)
theorem fm_some {t : Int} : ∀ {l : List PB} {i : Nat} {b : PB}, fm t l = some (i, b) → l[i]? = some b ∧ b.ot = t
  | [], i, b, h => by cases h
  | c :: l, i, b, h => by
    unfold fm at h
    split at h
    · rename_i e
      injection h with h
      injection h with h1 h2
      subst h1 h2
      exact ⟨rfl, e⟩
    · cases hm : fm t l with
      | none => rw [hm] at h; cases h
      | some p =>
        obtain ⟨j, d⟩ := p
        rw [hm] at h
        injection h with h
        injection h with h1 h2
        subst h1 h2
        obtain ⟨q1, q2⟩ := fm_some hm
        exact ⟨by simpa using q1, q2⟩
theorem fm_none {t : Int} : ∀ {l : List PB}, fm t l = none → ∀ b ∈ l, b.ot ≠ t
  | [], _, b, hb => by cases hb
  | c :: l, h, b, hb => by
    unfold fm at h
    split at h
    · cases h
    · rename_i e
      rcases List.mem_cons.1 hb with rfl | hb
      · exact e
      · refine fm_none ?_ b hb
        cases hm : fm t l with
        | none => rfl
        | some p => rw [hm] at h; cases h
theorem mkr_fm (t : Int) : ∀ (l : List PB) (k : Int), Cat.mkr t l k = match fm t l with
    | none => 0
    | some (i, _) => k + i + 1
  | [], k => rfl
  | b :: l, k => by
    unfold Cat.mkr fm
    by_cases e : b.ot = t
    · rw [if_pos e, if_pos e]
      simp
    · rw [if_neg e, if_neg e, mkr_fm t l (k + 1)]
      cases fm t l with
      | none => rfl
      | some p =>
        obtain ⟨i, c⟩ := p
        simp
        omega
/-- How many more of a type are wanted than there are. -/
def mo (hv : List St) (t : Int) (s : Sx) : Int := s.w t - min (s.w t) (cnt hv t)
noncomputable def made (_ : List PB) (lv m : Int) (t : Int) (i : Nat) (b : PB) (s : Sx) : Option Sx :=
  if 1000 < up m b.per then none else
  if needsE b.b lv (up m b.per) = 0 then
    match addW s.w (needL b.s lv (up m b.per)) with
    | none => none
    | some w' => some ⟨w', s.rs.set i (up m b.per), s.raw, if 0 < up m b.per * b.per - m then s.left ++ [⟨t, up m b.per * b.per - m⟩] else s.left⟩
  else none
noncomputable def stp (bs : List PB) (lv : Int) (hv : List St) (t : Int) (s : Sx) : Option Sx :=
  if mo hv t s = 0 then some s else
  match fm t bs with
  | none => some ⟨s.w, s.rs, s.raw ++ [⟨t, mo hv t s⟩], s.left⟩
  | some (i, b) => made bs lv (mo hv t s) t i b s
noncomputable def rn (bs : List PB) (lv : Int) (hv : List St) : List Int → Sx → Option Sx
  | [], s => some s
  | t :: l, s => match stp bs lv hv t s with
    | none => none
    | some s' => rn bs lv hv l s'
/-! what all runs need, and make -/
def nS (lv x : Int) : List PB → List Int → Int
  | b :: bs, r :: rs => (if 0 < r then cnt (needL b.s lv r) x else 0) + nS lv x bs rs
  | _, _ => 0
def mS (x : Int) : List PB → List Int → Int
  | b :: bs, r :: rs => (if b.ot = x then r * b.per else 0) + mS x bs rs
  | _, _ => 0
theorem nS_set {lv x r : Int} (hr : 0 < r) : ∀ {bs : List PB} {rs : List Int} {i : Nat} {b : PB}, bs[i]? = some b → rs[i]? = some 0 → nS lv x bs (rs.set i r) = nS lv x bs rs + cnt (needL b.s lv r) x
  | [], _, i, b, h, _ => by simp at h
  | _ :: _, [], i, b, _, h => by simp at h
  | c :: bs, q :: rs, 0, b, h1, h2 => by
    simp at h1 h2
    subst h1 h2
    simp [nS, hr]
    omega
  | c :: bs, q :: rs, i + 1, b, h1, h2 => by
    simp at h1 h2
    have := nS_set (lv := lv) (x := x) hr h1 h2
    simp only [List.set_cons_succ, nS]
    omega
theorem mS_set {x r : Int} : ∀ {bs : List PB} {rs : List Int} {i : Nat} {b : PB}, bs[i]? = some b → rs[i]? = some 0 → mS x bs (rs.set i r) = mS x bs rs + (if b.ot = x then r * b.per else 0)
  | [], _, i, b, h, _ => by simp at h
  | _ :: _, [], i, b, _, h => by simp at h
  | c :: bs, q :: rs, 0, b, h1, h2 => by
    simp at h1 h2
    subst h1 h2
    simp only [List.set_cons_zero, mS]
    split <;> omega
  | c :: bs, q :: rs, i + 1, b, h1, h2 => by
    simp at h1 h2
    have := mS_set (x := x) (r := r) h1 h2
    simp only [List.set_cons_succ, mS]
    omega
theorem nS_zero (lv x : Int) : ∀ (bs : List PB) (n : Nat), nS lv x bs (List.replicate n 0) = 0
  | [], n => by cases n <;> simp [nS]
  | b :: bs, 0 => by simp [nS]
  | b :: bs, n + 1 => by
    rw [List.replicate_succ, nS, nS_zero lv x bs n]
    simp
theorem mS_none {x : Int} : ∀ {bs : List PB} {rs : List Int}, (∀ b ∈ bs, b.ot ≠ x) → mS x bs rs = 0
  | [], rs, _ => by cases rs <;> simp [mS]
  | b :: bs, [], _ => by simp [mS]
  | b :: bs, r :: rs, h => by
    rw [mS, if_neg (h b (List.mem_cons_self ..)), mS_none fun c hc => h c (List.mem_cons_of_mem _ hc)]
    rfl
theorem mS_nonneg {x : Int} : ∀ {bs : List PB} {rs : List Int}, (∀ b ∈ bs, 1 ≤ b.per) → (∀ r ∈ rs, 0 ≤ r) → 0 ≤ mS x bs rs
  | [], rs, _, _ => by cases rs <;> simp [mS]
  | b :: bs, [], _, _ => by simp [mS]
  | b :: bs, r :: rs, h, hr => by
    have h1 := mS_nonneg (x := x) (bs := bs) (rs := rs) (fun c hc => h c (List.mem_cons_of_mem _ hc)) (fun c hc => hr c (List.mem_cons_of_mem _ hc))
    have h2 : 0 ≤ r * b.per := Int.mul_nonneg (hr r (List.mem_cons_self ..)) (by have := h b (List.mem_cons_self ..); omega)
    rw [mS]
    split <;> omega
/-- A type that runs need stands among the blueprint's needs. -/
theorem cnt_need {s : List St} {lv r x : Int} (h : ∀ t ∈ s, t.kind ≠ x) : cnt (needL s lv r) x = 0 := Goods.cnt_none fun t ht => by
  obtain ⟨u, hu, rfl⟩ := List.mem_map.1 ht
  exact h u hu
theorem need_nonneg {s : List St} {lv r : Int} (hr : 0 ≤ r) (x : Int) : 0 ≤ cnt (needL s lv r) x := Goods.cnt_nonneg (fun t ht => by
  obtain ⟨u, hu, rfl⟩ := List.mem_map.1 ht
  have := Recipe.nd_run u.qty lv r
  show 0 ≤ nd u.qty lv r
  omega) x
/-- Types from the top: each once, ahead of all that it needs. -/
structure Top (ty : Int) (l : List Graph.Nd) (T : List Int) : Prop where
  nodup : T.Nodup
  all : ∀ x, x ∈ T ↔ 1 ≤ x ∧ x ≤ ty
  ahead : ∀ pre t post, T = pre ++ t :: post → ∀ d ∈ l, d.a = t → d.b ∈ post
theorem nd_mem {bs : List PB} {b : PB} {s : St} (hb : b ∈ bs) (hs : s ∈ b.s) : (⟨b.ot, s.kind⟩ : Graph.Nd) ∈ Cat.ndL bs :=
  List.mem_flatMap.2 ⟨b, hb, List.mem_map.2 ⟨s, hs, rfl⟩⟩
/-- Behind the first types. -/
structure J (C : Cat) (kind n lv : Int) (hv : List St) (pre : List Int) (s : Sx) : Prop where
  len : s.rs.length = C.bs.length
  rng : ∀ r ∈ s.rs, 0 ≤ r ∧ r ≤ 1000
  wnt : ∀ x, s.w x = (if x = kind then n else 0) + nS lv x C.bs s.rs
  top : ∀ (i : Nat) (r : Int), s.rs[i]? = some r → 0 < r → ∃ b, C.bs[i]? = some b ∧ b.ot ∈ pre ∧ fm b.ot C.bs = some (i, b) ∧ needsE b.b lv r = 0
  bal : ∀ x ∈ pre, s.w x ≤ cnt s.raw x + cnt hv x + mS x C.bs s.rs
  raw : ∀ t ∈ s.raw, t.kind ∈ pre ∧ 1 ≤ t.qty ∧ fm t.kind C.bs = none ∧ t.qty + cnt hv t.kind = s.w t.kind
  once : (s.raw.map St.kind).Nodup
  cap : ∀ x, 0 ≤ s.w x ∧ s.w x ≤ Recipe.mq
theorem up_pos {n k : Int} (hn : 0 < n) (hk : 0 < k) : 0 < up n k := by
  have h := Recipe.up_enough (n := n) hk
  refine Int.lt_of_not_ge fun h0 => ?_
  have h2 : k * up n k ≤ 0 := Int.mul_nonpos_of_nonneg_of_nonpos (by omega) h0
  omega
theorem cnt_hv {hv : List St} (h : ∀ s ∈ hv, 0 ≤ s.qty) (x : Int) : 0 ≤ cnt hv x := Goods.cnt_nonneg h x
theorem J.step {C : Cat} {kind n lv : Int} {hv : List St} {pre post T : List Int} {t : Int} {s s' : Sx} (h : J C kind n lv hv pre s) (hT : Top C.ty (Cat.ndL C.bs) T) (e : T = pre ++ t :: post) (hv0 : ∀ x ∈ hv, 0 ≤ x.qty) (hper : ∀ b ∈ C.bs, 1 ≤ b.per)
    (hs : stp C.bs lv hv t s = some s') : J C kind n lv hv (pre ++ [t]) s' := by
  have hnd := hT.nodup
  rw [e] at hnd
  have ht : t ∉ pre := fun hm => by
    have := (List.nodup_append.1 hnd).2.2 t hm t (List.mem_cons_self ..)
    exact this rfl
  have hc := cnt_hv hv0 t
  have hcap := h.cap t
  have hmS : ∀ x, 0 ≤ mS x C.bs s.rs := fun x => mS_nonneg hper fun r hr => (h.rng r hr).1
  have hrw : ∀ x, 0 ≤ cnt s.raw x := fun x => Goods.cnt_nonneg (fun u hu => by have := (h.raw u hu).2.1; omega) x
  unfold stp at hs
  by_cases hm : mo hv t s = 0
  · rw [if_pos hm] at hs
    injection hs with hs
    subst hs
    refine ⟨h.len, h.rng, h.wnt, fun i r h1 h2 => ?_, fun x hx => ?_, fun u hu => ?_, h.once, h.cap⟩
    · obtain ⟨b, q1, q2, q3⟩ := h.top i r h1 h2
      exact ⟨b, q1, List.mem_append.2 (.inl q2), q3⟩
    · rcases List.mem_append.1 hx with hx | hx
      · exact h.bal x hx
      · rw [List.mem_singleton.1 hx]
        have h1 := hmS t
        have h2 := hrw t
        unfold mo at hm
        omega
    · obtain ⟨q1, q2⟩ := h.raw u hu
      exact ⟨List.mem_append.2 (.inl q1), q2⟩
  · rw [if_neg hm] at hs
    have hmp : 0 < mo hv t s := by unfold mo at hm ⊢; omega
    have hmw : mo hv t s + cnt hv t = s.w t := by unfold mo at hmp ⊢; omega
    cases hk : fm t C.bs with
    | none =>
      rw [hk] at hs
      injection hs with hs
      subst hs
      have hfar : ∀ u ∈ s.raw, u.kind ≠ t := fun u hu e2 => ht (by rw [← e2]; exact (h.raw u hu).1)
      refine ⟨h.len, h.rng, h.wnt, fun i r h1 h2 => ?_, fun x hx => ?_, fun u hu => ?_, ?_, h.cap⟩
      · obtain ⟨b, q1, q2, q3⟩ := h.top i r h1 h2
        exact ⟨b, q1, List.mem_append.2 (.inl q2), q3⟩
      · show s.w x ≤ cnt (s.raw ++ [⟨t, mo hv t s⟩]) x + cnt hv x + mS x C.bs s.rs
        rw [Goods.cnt_append]
        have h3 : cnt [(⟨t, mo hv t s⟩ : St)] x = if t = x then mo hv t s else 0 := by simp [Goods.cnt]
        rw [h3]
        rcases List.mem_append.1 hx with hx | hx
        · have := h.bal x hx
          split <;> omega
        · rw [List.mem_singleton.1 hx, if_pos rfl]
          have h1 := hmS t
          have h2 := hrw t
          omega
      · rcases List.mem_append.1 hu with hu | hu
        · obtain ⟨q1, q2⟩ := h.raw u hu
          exact ⟨List.mem_append.2 (.inl q1), q2⟩
        · rw [List.mem_singleton.1 hu]
          exact ⟨List.mem_append.2 (.inr (List.mem_singleton.2 rfl)), by show 1 ≤ mo hv t s; omega, hk, hmw⟩
      · show ((s.raw ++ [(⟨t, mo hv t s⟩ : St)]).map St.kind).Nodup
        rw [List.map_append, List.nodup_append]
        refine ⟨h.once, by simp, fun a ha b hb => ?_⟩
        obtain ⟨u, hu, rfl⟩ := List.mem_map.1 ha
        simp at hb
        subst hb
        exact hfar u hu
    | some p =>
      obtain ⟨i, b⟩ := p
      rw [hk] at hs
      obtain ⟨hb, hot⟩ := fm_some hk
      have hbm := List.mem_of_getElem? hb
      have hp := hper b hbm
      have hr0 := up_pos (k := b.per) hmp (by omega)
      have hen := Recipe.up_enough (n := mo hv t s) (k := b.per) (by omega)
      have hs : made C.bs lv (mo hv t s) t i b s = some s' := hs
      unfold made at hs
      obtain ⟨r, hr⟩ : ∃ r, up (mo hv t s) b.per = r := ⟨_, rfl⟩
      rw [hr] at hs hr0 hen
      split at hs
      · cases hs
      rename_i h1000
      split at hs
      case isFalse => cases hs
      rename_i hne
      cases ha : addW s.w (needL b.s lv r) with
      | none => rw [ha] at hs; cases hs
      | some w' =>
        rw [ha] at hs
        injection hs with hs
        subst hs
        obtain ⟨a1, a2⟩ := addW_some _ _ _ ha
        have hri : s.rs[i]? = some 0 := by
          have hlt : i < s.rs.length := by rw [h.len]; exact (List.getElem?_eq_some_iff.1 hb).1
          have hg := List.getElem?_eq_getElem hlt
          have hq := (h.rng s.rs[i] (List.getElem_mem hlt)).1
          by_cases h0 : s.rs[i] = 0
          · rw [hg, h0]
          · obtain ⟨c, c1, c2, _⟩ := h.top i s.rs[i] hg (by omega)
            rw [hb] at c1
            injection c1 with c1
            subst c1
            rw [hot] at c2
            exact absurd c2 ht
        -- what the maker needs stands behind
        have hpost : ∀ u ∈ b.s, u.kind ∈ post := fun u hu => hT.ahead pre t post e _ (nd_mem hbm hu) hot
        have hsame : ∀ x ∈ pre ++ [t], cnt (needL b.s lv r) x = 0 := fun x hx => cnt_need fun u hu e2 => by
          have h1 := hpost u hu
          rw [e2] at h1
          rcases List.mem_append.1 hx with hx | hx
          · exact (List.nodup_append.1 hnd).2.2 x hx x (List.mem_cons_of_mem _ h1) rfl
          · rw [List.mem_singleton.1 hx] at h1
            exact (List.nodup_cons.1 (List.nodup_append.1 hnd).2.1).1 h1
        refine ⟨by show (s.rs.set i r).length = _; rw [List.length_set]; exact h.len, fun q hq => ?_, fun x => ?_, fun j q h1 h2 => ?_, fun x hx => ?_, fun u hu => ?_, h.once, fun x => ?_⟩
        · rcases List.mem_or_eq_of_mem_set hq with hq | rfl
          · exact h.rng q hq
          · omega
        · show w' x = _ + nS lv x C.bs (s.rs.set i r)
          rw [a1, nS_set hr0 hb hri, h.wnt x]
          omega
        · have h1 : (s.rs.set i r)[j]? = some q := h1
          by_cases ej : i = j
          · subst ej
            have hlt : i < s.rs.length := (List.getElem?_eq_some_iff.1 hri).1
            rw [List.getElem?_set_self hlt] at h1
            injection h1 with h1
            subst h1
            exact ⟨b, hb, List.mem_append.2 (.inr (by rw [hot]; exact List.mem_singleton.2 rfl)), by rw [hot]; exact hk, hne⟩
          · rw [List.getElem?_set_ne ej] at h1
            obtain ⟨c, q1, q2, q3⟩ := h.top j q h1 h2
            exact ⟨c, q1, List.mem_append.2 (.inl q2), q3⟩
        · show w' x ≤ cnt s.raw x + cnt hv x + mS x C.bs (s.rs.set i r)
          rw [a1, hsame x hx, mS_set hb hri]
          have hrp : 0 ≤ r * b.per := Int.mul_nonneg (by omega) (by omega)
          rcases List.mem_append.1 hx with hx | hx
          · have := h.bal x hx
            split <;> omega
          · rw [List.mem_singleton.1 hx, if_pos hot]
            have h1 := hmS t
            have h2 := hrw t
            have h3 : mo hv t s ≤ r * b.per := by rw [Int.mul_comm]; exact hen.1
            omega
        · obtain ⟨q1, q2, q3, q4⟩ := h.raw u hu
          refine ⟨List.mem_append.2 (.inl q1), q2, q3, ?_⟩
          show _ = w' u.kind
          rw [a1, hsame u.kind (List.mem_append.2 (.inl q1))]
          omega
        · show 0 ≤ w' x ∧ w' x ≤ Recipe.mq
          refine ⟨?_, a2 (fun y => (h.cap y).2) x⟩
          rw [a1]
          have h1 := need_nonneg (s := b.s) (lv := lv) (r := r) (by omega) x
          have h2 := (h.cap x).1
          omega
theorem J.run {C : Cat} {kind n lv : Int} {hv : List St} {T : List Int} (hT : Top C.ty (Cat.ndL C.bs) T) (hv0 : ∀ x ∈ hv, 0 ≤ x.qty) (hper : ∀ b ∈ C.bs, 1 ≤ b.per) : ∀ (post pre : List Int) (s s' : Sx), T = pre ++ post → J C kind n lv hv pre s → rn C.bs lv hv post s = some s' → J C kind n lv hv T s'
  | [], pre, s, s', e, h, hr => by
    injection hr with hr
    subst hr
    rw [e, List.append_nil]
    exact h
  | t :: post, pre, s, s', e, h, hr => by
    unfold rn at hr
    cases hs : stp C.bs lv hv t s with
    | none => rw [hs] at hr; cases hr
    | some s1 =>
      rw [hs] at hr
      exact J.run hT hv0 hper post (pre ++ [t]) s1 s' (by rw [e]; simp) (h.step hT e hv0 hper hs) hr
theorem J.start {C : Cat} {kind n lv : Int} {hv : List St} (hn : 0 ≤ n ∧ n ≤ Recipe.mq) : J C kind n lv hv [] ⟨upd (fun _ => 0) kind n, List.replicate C.bs.length 0, [], []⟩ := by
  refine ⟨by simp, fun r hr => by rw [List.eq_of_mem_replicate hr]; omega, fun x => ?_, fun i r h1 h2 => ?_, fun x hx => (by cases hx), fun u hu => (by cases hu), by simp, fun x => ?_⟩
  · show upd (fun _ => 0) kind n x = _
    rw [nS_zero]
    unfold upd
    dsimp only
    omega
  · have h1 : (List.replicate C.bs.length (0 : Int))[i]? = some r := h1
    have := List.mem_of_getElem? h1
    rw [List.eq_of_mem_replicate this] at h2
    omega
  · show 0 ≤ upd (fun _ => 0) kind n x ∧ upd (fun _ => 0) kind n x ≤ Recipe.mq
    unfold upd
    dsimp only
    have : (0 : Int) ≤ Recipe.mq := by unfold Recipe.mq; omega
    split <;> omega
end Go.Proofs.Ytdbhdlgoecpeaaa.Bom
namespace Go.Proofs.Ytdbhdlgoecpeaaa.Bom
open Goods (St cnt)
open Cat (Cat PB)
open Recipe (needsE needsL needL up nd)

open Classical in
noncomputable def mayE (C : Cat) (kind lv : Int) (l : List St) : Int := if Cat.chkC C = 0 then (if (1 ≤ kind ∧ kind ≤ C.ty) ∧ (0 ≤ lv ∧ lv ≤ 10) ∧ Goods.Listed l C.ty then 0 else 1) else Cat.chkC C
theorem mayE_zero {C : Cat} {kind lv : Int} {l : List St} (h : mayE C kind lv l = 0) : Cat.chkC C = 0 ∧ (1 ≤ kind ∧ kind ≤ C.ty) ∧ (0 ≤ lv ∧ lv ≤ 10) ∧ Goods.Listed l C.ty := by
  unfold mayE at h
  by_cases hc : Cat.chkC C = 0
  · rw [if_pos hc] at h
    by_cases hk : (1 ≤ kind ∧ kind ≤ C.ty) ∧ (0 ≤ lv ∧ lv ≤ 10) ∧ Goods.Listed l C.ty
    · exact ⟨hc, hk⟩
    · rw [if_neg hk] at h
      omega
  · rw [if_neg hc] at h
    exact absurd h hc
theorem mayE_ok {C : Cat} {kind lv : Int} {l : List St} (h : Cat.chkC C = 0) (h1 : 1 ≤ kind ∧ kind ≤ C.ty) (h2 : 0 ≤ lv ∧ lv ≤ 10) (h3 : Goods.Listed l C.ty) : mayE C kind lv l = 0 := by
  unfold mayE
  rw [if_pos h, if_pos ⟨h1, h2, h3⟩]
theorem mayE_bad {C : Cat} {kind lv : Int} {l : List St} (h : Cat.chkC C = 0) (h1 : ¬ ((1 ≤ kind ∧ kind ≤ C.ty) ∧ (0 ≤ lv ∧ lv ≤ 10) ∧ Goods.Listed l C.ty)) : mayE C kind lv l = 1 := by
  unfold mayE
  rw [if_pos h, if_neg h1]
theorem mayE_err {C : Cat} {kind lv : Int} {l : List St} (h : ¬ Cat.chkC C = 0) : mayE C kind lv l = Cat.chkC C := by
  unfold mayE
  rw [if_neg h]
def RunsOk (C : Cat) (rs : List Int) : Prop := rs.length = C.bs.length ∧ ∀ r ∈ rs, 0 ≤ r ∧ r ≤ 1000
/-- Whether runs, and what is there, are enough. -/
def FitsP (C : Cat) (kind n lv : Int) (raw : List St) (rs : List Int) : Prop := mayE C kind lv raw = 0 ∧ (1 ≤ n ∧ n ≤ Recipe.mq) ∧ RunsOk C rs ∧ (∀ (i : Nat) (b : PB) (r : Int), C.bs[i]? = some b → rs[i]? = some r → r ≠ 0 → needsE b.b lv r = 0) ∧ ∀ t, 1 ≤ t → t ≤ C.ty → (if t = kind then n else 0) + nS lv t C.bs rs ≤ cnt raw t + mS t C.bs rs
/-! orders -/
theorem nodup_le : ∀ (n : Nat) (l : List Int), l.Nodup → (∀ x ∈ l, 1 ≤ x ∧ x ≤ n) → l.length ≤ n
  | 0, [], _, _ => Nat.le_refl _
  | 0, x :: l, _, h => by
    have := h x (List.mem_cons_self ..)
    omega
  | n + 1, l, hn, h => by
    have h1 := nodup_le n (l.erase ((n + 1 : Nat) : Int)) (hn.erase _) fun x hx => by
      have h2 := (List.Nodup.mem_erase_iff hn).1 hx
      have h3 := h x h2.2
      have h4 := h2.1
      omega
    by_cases hm : ((n + 1 : Nat) : Int) ∈ l
    · rw [List.length_erase_of_mem hm] at h1
      omega
    · rw [List.erase_of_not_mem hm] at h1
      omega
theorem top_of {ty : Int} {l : List Graph.Nd} (h : Graph.ordE ty l = 0) : Top ty l (Graph.ordV ty l).reverse := by
  obtain ⟨hm, hs, hl⟩ := Graph.ord_zero h
  have hall : ∀ x, 1 ≤ x → x ≤ ty → x ∈ Graph.ordV ty l := fun x h1 h2 => Classical.byContradiction fun hx => by
    have := nodup_le ty.toNat (x :: Graph.ordV ty l) (List.nodup_cons.2 ⟨hx, hs.nodup⟩) fun y hy => by
      rcases List.mem_cons.1 hy with rfl | hy
      · omega
      · have := hs.node y hy
        omega
    simp at this
    omega
  refine ⟨(by unfold List.Nodup; rw [List.pairwise_reverse]; exact hs.nodup.imp fun h e => h e.symm), fun x => ⟨fun hx => hs.node x (List.mem_reverse.1 hx), fun hx => List.mem_reverse.2 (hall x hx.1 hx.2)⟩, fun pre t post e d hd he => ?_⟩
  have e2 : Graph.ordV ty l = post.reverse ++ t :: pre.reverse := by
    have := congrArg List.reverse e
    simpa using this
  have h1 := hs.behind post.length t (by rw [e2]; simp) d hd he
  rw [e2] at h1
  rw [List.take_append_of_le_length (by simp)] at h1
  simpa using List.mem_of_mem_take h1
theorem cnt_once : ∀ {l : List St} {t : St}, (l.map St.kind).Nodup → t ∈ l → cnt l t.kind = t.qty
  | [], t, _, h => by cases h
  | s :: l, t, hn, h => by
    rw [List.map_cons, List.nodup_cons] at hn
    rw [Goods.cnt]
    rcases List.mem_cons.1 h with rfl | h
    · rw [if_pos rfl, Goods.cnt_none fun u hu e => hn.1 (List.mem_map.2 ⟨u, hu, e⟩)]
      omega
    · rw [if_neg fun e => hn.1 (List.mem_map.2 ⟨t, h, e.symm⟩), cnt_once hn.2 h]
      omega
theorem J.fits {C : Cat} {kind n lv : Int} {hv : List St} {T : List Int} {s : Sx} {all : List St} (h : J C kind n lv hv T s) (hT : Top C.ty (Cat.ndL C.bs) T) (hall : ∀ x, cnt all x = cnt s.raw x + cnt hv x) (hm : mayE C kind lv all = 0) (hn : 1 ≤ n ∧ n ≤ Recipe.mq) : FitsP C kind n lv all s.rs := by
  refine ⟨hm, hn, ⟨h.len, h.rng⟩, fun i b r h1 h2 h3 => ?_, fun t h1 h2 => ?_⟩
  · have hr := h.rng r (List.mem_of_getElem? h2)
    obtain ⟨c, q1, _, _, q4⟩ := h.top i r h2 (by omega)
    rw [h1] at q1
    injection q1 with q1
    subst q1
    exact q4
  · have h3 := h.bal t ((hT.all t).2 ⟨h1, h2⟩)
    rw [h.wnt t] at h3
    rw [hall t]
    exact h3
theorem J.less {C : Cat} {kind n lv : Int} {hv : List St} {T : List Int} {s : Sx} {all less : List St} {t : St} (h : J C kind n lv hv T s) (hT : Top C.ty (Cat.ndL C.bs) T) (hall : ∀ x, cnt all x = cnt s.raw x + cnt hv x) (ht : t ∈ s.raw) (hl : cnt less t.kind = cnt all t.kind - 1) : ¬ FitsP C kind n lv less s.rs := by
  rintro ⟨_, _, _, _, hf⟩
  obtain ⟨q1, q2, q3, q4⟩ := h.raw t ht
  have hk := (hT.all t.kind).1 q1
  have h1 := hf t.kind hk.1 hk.2
  rw [hl, hall, cnt_once h.once ht, mS_none (fm_none q3), ← h.wnt t.kind] at h1
  omega
/-! how long it takes -/
noncomputable def tim (lv : Int) (b : PB) (r : Int) : Int := if r = 0 then 0 else Recipe.timeV b.b lv r
/-- All runs one behind the other. -/
noncomputable def whl (lv : Int) : List PB → List Int → Int
  | b :: bs, r :: rs => tim lv b r + whl lv bs rs
  | _, _ => 0
/-- What the runs of a type's maker take. -/
noncomputable def own (C : Cat) (rs : List Int) (lv t : Int) : Int := match fm t C.bs with
  | none => 0
  | some (i, b) => tim lv b (rs.getD i 0)
def maxL : List Int → Int
  | [] => 0
  | x :: l => max x (maxL l)
/-- The way to a type, so many needs deep. -/
noncomputable def pth (C : Cat) (rs : List Int) (lv : Int) : Nat → Int → Int
  | 0, _ => 0
  | f + 1, t => match fm t C.bs with
    | none => 0
    | some (i, b) => if rs.getD i 0 = 0 then 0 else tim lv b (rs.getD i 0) + maxL (b.s.map fun s => pth C rs lv f s.kind)
noncomputable def pathV (C : Cat) (rs : List Int) (lv t : Int) : Int := pth C rs lv (C.ty.toNat + 1) t
theorem time_nonneg (b : Recipe.Bl) (lv r : Int) : 0 ≤ Recipe.timeV b lv r := by
  by_cases h : Recipe.timeE b lv r = 0
  · unfold Recipe.timeV
    rw [if_pos h]
    unfold Recipe.timeE at h
    split at h
    · rename_i hk
      have ht := hk.1.2.2.2.1
      have hl := hk.2
      unfold Recipe.tmv
      exact Recipe.up_nonneg (Int.mul_nonneg (Int.mul_nonneg (by omega) (by have := hl.2; omega)) (by have := hl.1; omega)) (by omega)
    · omega
  · unfold Recipe.timeV
    rw [if_neg h]
    exact Int.le_refl _
theorem tim_nonneg (lv : Int) (b : PB) (r : Int) : 0 ≤ tim lv b r := by
  unfold tim
  split
  · exact Int.le_refl _
  · exact time_nonneg _ _ _
theorem own_nonneg (C : Cat) (rs : List Int) (lv t : Int) : 0 ≤ own C rs lv t := by
  unfold own
  split
  · exact Int.le_refl _
  · exact tim_nonneg _ _ _
def sumL (g : Int → Int) : List Int → Int
  | [] => 0
  | x :: l => g x + sumL g l
theorem sumL_nonneg {g : Int → Int} (h : ∀ x, 0 ≤ g x) : ∀ l, 0 ≤ sumL g l
  | [] => Int.le_refl _
  | x :: l => by
    have := sumL_nonneg h l
    have := h x
    rw [sumL]
    omega
theorem sumL_append (g : Int → Int) (a b : List Int) : sumL g (a ++ b) = sumL g a + sumL g b := by
  induction a with
  | nil => simp [sumL]
  | cons x a ih => rw [List.cons_append, sumL, sumL, ih]; omega
theorem maxL_le {l : List Int} {B : Int} (hB : 0 ≤ B) (h : ∀ x ∈ l, x ≤ B) : maxL l ≤ B := by
  induction l with
  | nil => exact hB
  | cons x l ih =>
    rw [maxL]
    have h1 := h x (List.mem_cons_self ..)
    have h2 := ih fun y hy => h y (List.mem_cons_of_mem _ hy)
    omega
/-- The way to a type takes no longer than what stands behind it. -/
theorem pth_le {C : Cat} {rs : List Int} {lv : Int} {T : List Int} (hT : Top C.ty (Cat.ndL C.bs) T) : ∀ (f : Nat) (pre post : List Int) (t : Int), T = pre ++ t :: post → pth C rs lv f t ≤ sumL (own C rs lv) (t :: post)
  | 0, pre, post, t, _ => sumL_nonneg (own_nonneg C rs lv) _
  | f + 1, pre, post, t, e => by
    have hp := sumL_nonneg (own_nonneg C rs lv) post
    have ho := own_nonneg C rs lv t
    have eo : own C rs lv t = match fm t C.bs with
      | none => 0
      | some (i, b) => tim lv b (rs.getD i 0) := rfl
    rw [sumL]
    unfold pth
    cases hk : fm t C.bs with
    | none =>
      show (0 : Int) ≤ _
      omega
    | some p =>
      obtain ⟨i, b⟩ := p
      rw [hk] at eo
      have eo : own C rs lv t = tim lv b (rs.getD i 0) := eo
      show (if rs.getD i 0 = 0 then 0 else tim lv b (rs.getD i 0) + maxL (b.s.map fun s => pth C rs lv f s.kind)) ≤ _
      obtain ⟨hb, hot⟩ := fm_some hk
      split
      · omega
      · have hmx : maxL (b.s.map fun s => pth C rs lv f s.kind) ≤ sumL (own C rs lv) post := maxL_le hp fun x hx => by
          obtain ⟨u, hu, rfl⟩ := List.mem_map.1 hx
          have hup := hT.ahead pre t post e _ (nd_mem (List.mem_of_getElem? hb) hu) hot
          obtain ⟨a, c, e2⟩ := List.append_of_mem hup
          have e3 : post = a ++ u.kind :: c := e2
          have h1 := pth_le (rs := rs) (lv := lv) hT f (pre ++ t :: a) c u.kind (by rw [e, e3]; simp)
          have h2 := sumL_append (own C rs lv) a (u.kind :: c)
          have h3 := sumL_nonneg (own_nonneg C rs lv) a
          rw [e3, h2]
          omega
        omega
end Go.Proofs.Ytdbhdlgoecpeaaa.Bom
