/- A row of types, each made one by one of so many of the one ahead; said without a program. -/
import Derived.Test.YtohlkaoophbinaaZCatOrd
namespace Go.Proofs.Ytohlkaoophbinaa.Bom
open Go.Lib
open Goods (St cnt)
open Cat (Cat PB)
open Graph (Nd)
open Recipe (needsE needsL needL up nd)

def lnk (k s q : Int) : PB := ⟨k, 1, 1, [⟨s, q⟩], 0, 0, 1⟩
/-- The blueprints, from the last type. -/
def chn : List Int → List PB
  | [] => []
  | q :: l => lnk ((l.length : Int) + 2) ((l.length : Int) + 1) q :: chn l
theorem chn_length : ∀ l, (chn l).length = l.length
  | [] => rfl
  | q :: l => by rw [chn, List.length_cons, chn_length l, List.length_cons]
theorem chn_at : ∀ {l : List Int} {j : Nat} {q : Int}, l[j]? = some q → (chn l)[j]? = some (lnk ((l.length : Int) - j + 1) ((l.length : Int) - j) q)
  | [], j, q, h => by simp at h
  | x :: l, 0, q, h => by
    simp at h
    subst h
    show some (lnk ((l.length : Int) + 2) ((l.length : Int) + 1) x) = _
    rw [List.length_cons, show ((l.length + 1 : Nat) : Int) - (0 : Nat) + 1 = (l.length : Int) + 2 by omega, show ((l.length + 1 : Nat) : Int) - (0 : Nat) = (l.length : Int) + 1 by omega]
  | x :: l, j + 1, q, h => by
    have h1 := chn_at (l := l) (j := j) (q := q) (by simpa using h)
    show (chn l)[j]? = _
    rw [h1, List.length_cons, show ((l.length + 1 : Nat) : Int) - (j + 1 : Nat) = (l.length : Int) - j by omega]
theorem chn_mem : ∀ {l : List Int} {b : PB}, b ∈ chn l → ∃ k s q : Int, b = lnk k s q ∧ 2 ≤ k ∧ k ≤ (l.length : Int) + 1 ∧ 1 ≤ s ∧ s = k - 1 ∧ q ∈ l
  | [], b, h => by cases h
  | q :: l, b, h => by
    rw [chn] at h
    rw [List.length_cons]
    rcases List.mem_cons.1 h with rfl | h
    · exact ⟨_, _, q, rfl, by omega, by omega, by omega, by omega, List.mem_cons_self ..⟩
    · obtain ⟨k, s, x, e, h1, h2, h3, h4, h5⟩ := chn_mem h
      exact ⟨k, s, x, e, h1, by omega, h3, h4, List.mem_cons_of_mem _ h5⟩
def lks : Nat → List Nd
  | 0 => []
  | i + 1 => ⟨(i : Int) + 2, (i : Int) + 1⟩ :: lks i
theorem lks_chn : ∀ l, Cat.ndL (chn l) = lks l.length
  | [] => rfl
  | q :: l => by
    have h := lks_chn l
    show Cat.nd1 _ _ ++ Cat.ndL (chn l) = _
    rw [h]
    rfl
def dwn : Nat → List Int
  | 0 => []
  | k + 1 => ((k : Int) + 1) :: dwn k
def evP (l : List Int) : Cat := ⟨(l.length : Int) + 1, chn l, 1, [], 1, ⟨0, 0, 0⟩⟩
theorem lnk_ok {k s q ty : Int} (h0 : 0 ≤ ty) (h1 : ty ≤ 32) (h2 : 1 ≤ k ∧ k ≤ ty) (h3 : 1 ≤ s ∧ s ≤ ty) (h4 : s ≠ k) (h5 : 1 ≤ q ∧ q ≤ 16) : Recipe.BlOk (lnk k s q).b ty := by
  have h := blok_one (ot := k) (per := 1) (tm := 1) (k := s) (q := q) (mo := 1) (ty := ty) (sa := none) (sm := 0) (sc := 0) ⟨h0, h1⟩ h2 (by omega) (by omega) (by omega) h3 (by omega) h4
  exact h
theorem ev_ok {l : List Int} (hl : l.length ≤ 8) (hq : ∀ q ∈ l, 1 ≤ q ∧ q ≤ 16) : Cat.CatOk (evP l) ∧ Graph.May (evP l).ty (Cat.ndL (evP l).bs) := by
  have e1 : (evP l).ty = (l.length : Int) + 1 := rfl
  have e2 : (evP l).bs = chn l := rfl
  refine ⟨⟨⟨⟨by omega, by omega⟩, ⟨?_, ?_⟩, ⟨?_, ?_⟩, by rw [e2, chn_length]; omega, ?_, ?_⟩, fun b hb => ?_, fun y hy => ?_⟩, ⟨⟨by omega, by omega⟩, ?_, fun t ht => ?_⟩⟩
  · show (1 : Int) ≤ 1
    omega
  · show (1 : Int) ≤ 8
    omega
  · show (1 : Int) ≤ 1
    omega
  · show (1 : Int) ≤ 16
    omega
  · show 0 ≤ 8
    omega
  · simp [evP, Fee.FeeOk]
  · obtain ⟨k, s, q, rfl, h1, h2, h3, h4, h5⟩ := chn_mem hb
    exact lnk_ok (by omega) (by omega) ⟨by omega, by omega⟩ ⟨by omega, by omega⟩ (by omega) (hq q h5)
  · cases hy
  · rw [e2, lks_chn]
    have : ∀ n, (lks n).length = n := fun n => by
      induction n with
      | zero => rfl
      | succ n ih => rw [lks, List.length_cons, ih]
    rw [this]
    omega
  · rw [e2] at ht
    unfold Cat.ndL at ht
    obtain ⟨b, hb, hm⟩ := List.mem_flatMap.1 ht
    obtain ⟨k, s, q, rfl, h1, h2, h3, h4, h5⟩ := chn_mem hb
    simp [Cat.nd1, lnk] at hm
    subst hm
    rw [e1]
    exact ⟨⟨by show 1 ≤ k; omega, by show k ≤ _; omega⟩, by show 1 ≤ s; omega, by show s ≤ _; omega⟩
theorem ev_eval : ∀ m : Nat, m < 9 → Cat.gC ((m : Int) + 1) (lks m) = 0 ∧ Cat.ordB ((m : Int) + 1) (lks m) ((m : Int) + 1).toNat [] = some (dwn (m + 1)).reverse := by decide +kernel
theorem ev_chk {l : List Int} (hl : l.length ≤ 8) (hq : ∀ q ∈ l, 1 ≤ q ∧ q ≤ 16) : Cat.chkC (evP l) = 0 ∧ topV (evP l) = dwn (l.length + 1) := by
  obtain ⟨h, hm⟩ := ev_ok hl hq
  have e := ev_eval l.length (by omega)
  have hn : Cat.ndL (evP l).bs = lks l.length := lks_chn l
  refine ⟨?_, ?_⟩
  · rw [Cat.chk_gC h hm, hn]
    exact e.1
  · unfold topV
    rw [(Graph.ord_some hm (k := (dwn (l.length + 1)).reverse) (by rw [Cat.ord_eq, hn]; exact e.2)).2, List.reverse_reverse]
/-! how many are wanted -/
def wF : Int → List Int → Int
  | n, [] => n
  | n, q :: l => wF (n * q) l
def fB : Int → List Int → Bool
  | _, [] => true
  | n, q :: l => decide (n ≤ 1000) && fB (n * q) l
theorem wF_snoc (q : Int) : ∀ (l : List Int) (n : Int), wF n (l ++ [q]) = wF n l * q
  | [], _ => rfl
  | _ :: l, _ => wF_snoc q l _
theorem fB_snoc (q : Int) : ∀ (l : List Int) (n : Int), fB n (l ++ [q]) = (fB n l && decide (wF n l ≤ 1000))
  | [], n => by by_cases h : n ≤ 1000 <;> simp [fB, wF, h]
  | x :: l, n => by
    show (decide (n ≤ 1000) && fB (n * x) (l ++ [q])) = ((decide (n ≤ 1000) && fB (n * x) l) && decide (wF (n * x) l ≤ 1000))
    rw [fB_snoc q l, Bool.and_assoc]
theorem wF_in : ∀ (l : List Int) (n : Int), 1 ≤ n → (∀ q ∈ l, 1 ≤ q ∧ q ≤ 16) → 1 ≤ wF n l ∧ wF n l ≤ n * ((16 ^ l.length : Nat) : Int)
  | [], n, h, _ => by
    show 1 ≤ n ∧ n ≤ n * ((1 : Nat) : Int)
    omega
  | q :: l, n, h, hq => by
    have h1 := hq q (List.mem_cons_self ..)
    have h2 : 1 * 1 ≤ n * q := Int.mul_le_mul h h1.1 (by omega) (by omega)
    obtain ⟨h3, h4⟩ := wF_in l (n * q) (by omega) fun x hx => hq x (List.mem_cons_of_mem _ hx)
    refine ⟨h3, Int.le_trans h4 ?_⟩
    rw [List.length_cons, Nat.pow_succ, Int.natCast_mul, Int.mul_assoc, Int.mul_comm ((16 ^ l.length : Nat) : Int)]
    exact Int.mul_le_mul_of_nonneg_left (Int.mul_le_mul_of_nonneg_right h1.2 (Int.natCast_nonneg _)) (by omega)
/-! the run -/
theorem fm_none_all {t : Int} : ∀ {l : List PB}, (∀ b ∈ l, b.ot ≠ t) → fm t l = none
  | [], _ => rfl
  | b :: l, h => by
    unfold fm
    rw [if_neg (h b (List.mem_cons_self ..)), fm_none_all fun c hc => h c (List.mem_cons_of_mem _ hc)]
theorem fm_pre {t : Int} {b : PB} {post : List PB} (hb : b.ot = t) : ∀ {pre : List PB}, (∀ c ∈ pre, c.ot ≠ t) → fm t (pre ++ b :: post) = some (pre.length, b)
  | [], _ => by
    show fm t (b :: post) = _
    unfold fm
    rw [if_pos hb]
    rfl
  | c :: pre, h => by
    show fm t (c :: (pre ++ b :: post)) = _
    unfold fm
    rw [if_neg (h c (List.mem_cons_self ..)), fm_pre hb fun d hd => h d (List.mem_cons_of_mem _ hd)]
    rfl
theorem nd_zero {q m : Int} (hq : 1 ≤ q) (hm : 1 ≤ m) : nd q 0 m = m * q := by
  have e : up (q * m * (100 - 0)) 100 = q * m := by
    unfold up
    omega
  have h : 1 * m ≤ q * m := Int.mul_le_mul_of_nonneg_right hq (by omega)
  unfold nd
  rw [e, Int.mul_comm m q]
  omega
theorem up_one (m : Int) : up m 1 = m := by
  unfold up
  omega
theorem ev_rn {ty : Int} (hty : 0 ≤ ty ∧ ty ≤ 32) (bs : List PB) : ∀ (ql : List Int) (pre : List PB) (m : Int) (s : Sx), bs = pre ++ chn ql → (∀ b ∈ pre, (ql.length : Int) + 1 < b.ot) → (∀ q ∈ ql, 1 ≤ q ∧ q ≤ 16) → (ql.length : Int) + 1 ≤ ty → 1 ≤ m → (∀ x, x ≤ (ql.length : Int) → s.w x = 0) → s.w ((ql.length : Int) + 1) = m → s.raw = [] → s.left = [] →
    (fB m ql = true → ∃ s', rn bs 0 [] (dwn (ql.length + 1)) s = some s' ∧ s'.raw = [⟨1, wF m ql⟩] ∧ s'.left = []) ∧ (fB m ql = false → rn bs 0 [] (dwn (ql.length + 1)) s = none)
  | [], pre, m, s, e, hpre, _, _, hm, _, hw, hraw, hleft => by
    refine ⟨fun _ => ?_, fun h => by cases h⟩
    have hw : s.w 1 = m := hw
    have hf : fm 1 bs = none := fm_none_all fun b hb => by
      rw [e] at hb
      have := hpre b (by simpa [chn] using hb)
      simp at this
      omega
    have hmo : mo [] 1 s = m := by
      unfold mo
      rw [hw, Goods.cnt_nil]
      omega
    refine ⟨⟨s.w, s.rs, s.raw ++ [⟨1, mo [] 1 s⟩], s.left⟩, ?_, ?_, hleft⟩
    · show (match stp bs 0 [] 1 s with
        | none => none
        | some s' => rn bs 0 [] [] s') = _
      rw [stp_raw (by rw [hmo]; omega) hf]
      rfl
    · show s.raw ++ [(⟨1, mo [] 1 s⟩ : St)] = _
      rw [hraw, hmo]
      rfl
  | q :: ql, pre, m, s, e, hpre, hq, hlen, hm, hw0, hw, hraw, hleft => by
    rw [List.length_cons] at hpre hlen hw0 hw
    have hq1 := hq q (List.mem_cons_self ..)
    obtain ⟨t, ht⟩ : ∃ t : Int, ((ql.length + 1 : Nat) : Int) + 1 = t := ⟨_, rfl⟩
    rw [ht] at hpre hlen hw
    have hf : fm t bs = some (pre.length, lnk ((ql.length : Int) + 2) ((ql.length : Int) + 1) q) := by
      rw [e]
      exact fm_pre (show (ql.length : Int) + 2 = t by omega) fun c hc => by have := hpre c hc; omega
    have hmo : mo [] t s = m := by
      unfold mo
      rw [hw, Goods.cnt_nil]
      omega
    have hst := stp_made (lv := 0) (by rw [hmo]; omega) hf
    rw [hmo] at hst
    have hup : up m (lnk ((ql.length : Int) + 2) ((ql.length : Int) + 1) q).per = m := up_one m
    have hd : dwn ((q :: ql).length + 1) = t :: dwn (ql.length + 1) := by
      rw [List.length_cons, dwn, ht]
    have hrn : rn bs 0 [] (dwn ((q :: ql).length + 1)) s = match stp bs 0 [] t s with
        | none => none
        | some s' => rn bs 0 [] (dwn (ql.length + 1)) s' := by rw [hd]; rfl
    by_cases h1000 : m ≤ 1000
    case neg =>
      have hfb : fB m (q :: ql) = false := by
        show (decide (m ≤ 1000) && _) = false
        rw [decide_eq_false h1000]
        rfl
      refine ⟨fun h => (by rw [hfb] at h; cases h), fun _ => ?_⟩
      rw [hrn, hst, made_runs (by rw [hup]; omega)]
    have hfb : fB m (q :: ql) = fB (m * q) ql := by
      show (decide (m ≤ 1000) && _) = _
      rw [decide_eq_true h1000]
      rfl
    have hmq : 1 * 1 ≤ m * q ∧ m * q ≤ 1000 * 16 := ⟨Int.mul_le_mul hm hq1.1 (by omega) (by omega), Int.mul_le_mul h1000 hq1.2 (by omega) (by omega)⟩
    have hnd := nd_zero (q := q) (m := m) hq1.1 hm
    have emq : Recipe.mq = 1125899906842624 := rfl
    have hbl : Recipe.BlOk (lnk ((ql.length : Int) + 2) ((ql.length : Int) + 1) q).b ty := lnk_ok hty.1 hty.2 ⟨by omega, by omega⟩ ⟨by omega, by omega⟩ (by omega) hq1
    have hne : needsE (lnk ((ql.length : Int) + 2) ((ql.length : Int) + 1) q).b 0 m = 0 := (Recipe.needsE_ok (blok_32 hbl) ⟨⟨by omega, by omega⟩, by omega, by omega⟩ (fun u hu => by
      have hu : u ∈ [(⟨(ql.length : Int) + 1, q⟩ : St)] := hu
      rw [List.mem_singleton.1 hu]
      show nd q 0 m ≤ _
      rw [hnd]
      omega)).1
    have hz : s.w ((ql.length : Int) + 1) = 0 := hw0 _ (by omega)
    have hadd : addW s.w (needL (lnk ((ql.length : Int) + 2) ((ql.length : Int) + 1) q).s 0 m) = some (upd s.w ((ql.length : Int) + 1) (m * q)) := by
      show (if Recipe.mq - s.w ((ql.length : Int) + 1) < nd q 0 m then none else addW (upd s.w ((ql.length : Int) + 1) (s.w ((ql.length : Int) + 1) + nd q 0 m)) []) = _
      rw [hz, hnd, if_neg (by omega), Int.zero_add]
      rfl
    have hmf := made_fine (bs := bs) (lv := 0) (m := m) (t := t) (i := pre.length) (b := lnk ((ql.length : Int) + 2) ((ql.length : Int) + 1) q) (S := s) (by rw [hup]; omega) (by rw [hup]; exact hne) (by rw [hup]; exact hadd)
    rw [hup] at hmf
    have hper : (lnk ((ql.length : Int) + 2) ((ql.length : Int) + 1) q).per = 1 := rfl
    rw [hper, if_neg (by omega)] at hmf
    have ih := ev_rn hty bs ql (pre ++ [lnk ((ql.length : Int) + 2) ((ql.length : Int) + 1) q]) (m * q) ⟨upd s.w ((ql.length : Int) + 1) (m * q), s.rs.set pre.length m, s.raw, s.left⟩ (by rw [e]; simp [chn]) (fun b hb => by
      rcases List.mem_append.1 hb with hb | hb
      · have := hpre b hb
        omega
      · rw [List.mem_singleton.1 hb]
        show _ < (ql.length : Int) + 2
        omega) (fun x hx => hq x (List.mem_cons_of_mem _ hx)) (by omega) (by omega) (fun x hx => by
      show upd s.w ((ql.length : Int) + 1) (m * q) x = 0
      rw [upd_other _ _ (by omega)]
      exact hw0 x (by omega)) (upd_same _ _ _) hraw hleft
    rw [hrn, hst, hmf, hfb]
    exact ih
/-- What must come. -/
theorem ev_exp {l : List Int} {n : Int} (hl : l.length ≤ 8) (hq : ∀ q ∈ l, 1 ≤ q ∧ q ≤ 16) (hn : 1 ≤ n ∧ n ≤ 4) :
    (fB n l = true → expE (evP l) ((l.length : Int) + 1) n 0 [] = 0 ∧ (bill (evP l) ((l.length : Int) + 1) n 0 []).raw = [⟨1, wF n l⟩] ∧ (bill (evP l) ((l.length : Int) + 1) n 0 []).left = []) ∧ (fB n l = false → expE (evP l) ((l.length : Int) + 1) n 0 [] = 5) := by
  obtain ⟨hc, ht⟩ := ev_chk hl hq
  have emq : Recipe.mq = 1125899906842624 := rfl
  have e1 : (evP l).ty = (l.length : Int) + 1 := rfl
  have hm : mayE (evP l) ((l.length : Int) + 1) 0 [] = 0 := mayE_ok hc ⟨by omega, by omega⟩ ⟨by omega, by omega⟩ (listed_nil _)
  have hn2 : 1 ≤ n ∧ n ≤ Recipe.mq := ⟨hn.1, by omega⟩
  have hr := ev_rn (ty := (l.length : Int) + 1) ⟨by omega, by omega⟩ (chn l) l [] n (s0 (evP l) ((l.length : Int) + 1) n) rfl (fun b hb => by cases hb) hq (by omega) hn.1 (fun x hx => by
    show upd (fun _ => 0) ((l.length : Int) + 1) n x = 0
    rw [upd_other _ _ (by omega)]) (show upd (fun _ => 0) ((l.length : Int) + 1) n ((l.length : Int) + 1) = n from upd_same _ _ _) rfl rfl
  have hrun : runE (evP l) ((l.length : Int) + 1) n 0 [] = rn (chn l) 0 [] (dwn (l.length + 1)) (s0 (evP l) ((l.length : Int) + 1) n) := by
    unfold runE
    rw [ht]
    rfl
  have hw := wF_in l n hn.1 hq
  have hwb : wF n l ≤ 1125899906842624 := by
    have h16 : 16 ^ l.length ≤ 16 ^ 8 := Nat.pow_le_pow_right (by omega) hl
    have e8 : 16 ^ 8 = 4294967296 := by decide
    obtain ⟨P, hP⟩ : ∃ P, 16 ^ l.length = P := ⟨_, rfl⟩
    rw [hP] at h16 hw
    have h2 : n * (P : Int) ≤ 4 * 4294967296 := Int.mul_le_mul hn.2 (by omega) (by omega) (by omega)
    omega
  refine ⟨fun hf => ?_, fun hf => ?_⟩
  · obtain ⟨S, h1, h2, h3⟩ := hr.1 hf
    rw [← hrun] at h1
    rw [bill_some hm hn2 h1]
    refine ⟨exp_some hm hn2 h1, ?_, ?_⟩
    · show Goods.valN S.raw = _
      rw [h2, (norm_one1 (by omega) ⟨hw.1, hwb⟩).2.2]
    · show Goods.valN S.left = _
      rw [h3]
      have := Goods.len_valN []
      exact List.eq_nil_of_length_eq_zero (by simpa using this)
  · exact exp_none hm hn2 (by rw [hrun]; exact hr.2 hf)
end Go.Proofs.Ytohlkaoophbinaa.Bom
