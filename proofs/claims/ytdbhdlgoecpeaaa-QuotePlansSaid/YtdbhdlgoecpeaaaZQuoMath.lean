/- Plans: which job begins when; said without a program. -/
import Derived.Test.YtdbhdlgoecpeaaaZLaw
namespace Go.Proofs.Ytdbhdlgoecpeaaa.Quo

def updN {α : Type} (f : Nat → α) (k : Nat) (v : α) : Nat → α := fun i => if i = k then v else f i
theorem updN_same {α : Type} (f : Nat → α) (k : Nat) (v : α) : updN f k v k = v := by simp [updN]
theorem updN_other {α : Type} (f : Nat → α) {k i : Nat} (v : α) (h : i ≠ k) : updN f k v i = f i := by simp [updN, h]
/-- The jobs: which blueprints have some, which wait for which, how long they take; the slots. -/
structure Jb where
  n : Nat
  j : Nat → Bool
  w : Nat → Nat → Bool
  t : Nat → Int
  m : Int
/-- A plan under way: starts, ends, what was begun, the time. -/
structure Pl where
  s : Nat → Int
  e : Nat → Int
  b : Nat → Bool
  now : Int
def start : Pl := ⟨fun _ => 0, fun _ => 0, fun _ => false, 0⟩
def cntB (f : Nat → Bool) : Nat → Nat
  | 0 => 0
  | n + 1 => cntB f n + if f n then 1 else 0
theorem cntB_le (f : Nat → Bool) : ∀ n, cntB f n ≤ n
  | 0 => Nat.le_refl _
  | n + 1 => by
    have := cntB_le f n
    unfold cntB
    split <;> omega
theorem cntB_mono {f g : Nat → Bool} : ∀ n, (∀ i, i < n → f i = true → g i = true) → cntB f n ≤ cntB g n
  | 0, _ => Nat.le_refl _
  | n + 1, h => by
    have h1 := cntB_mono n fun i hi => h i (by omega)
    have h2 := h n (by omega)
    unfold cntB
    cases hf : f n with
    | false => simp; split <;> omega
    | true => rw [h2 hf]; simp; omega
theorem cntB_congr {f g : Nat → Bool} : ∀ n, (∀ i, i < n → f i = g i) → cntB f n = cntB g n
  | 0, _ => rfl
  | n + 1, h => by rw [cntB, cntB, cntB_congr n fun i hi => h i (by omega), h n (by omega)]
/-- All but one the same: one more. -/
theorem cntB_one {f g : Nat → Bool} {k : Nat} (hf : f k = false) (hg : g k = true) : ∀ n, (∀ i, i < n → i ≠ k → f i = g i) → cntB g n = cntB f n + if k < n then 1 else 0
  | 0, _ => by simp [cntB]
  | n + 1, h => by
    have h1 := cntB_one hf hg n fun i hi => h i (by omega)
    rw [cntB, cntB, h1]
    by_cases e : n = k
    · subst e
      rw [hf, hg]
      simp
    · rw [h n (by omega) e]
      by_cases hk : k < n
      · rw [if_pos hk, if_pos (show k < n + 1 by omega)]
        omega
      · rw [if_neg hk, if_neg (show ¬ k < n + 1 by omega)]
        omega
theorem cntB_pos {f : Nat → Bool} {k : Nat} (h : f k = true) : ∀ {n}, k < n → 0 < cntB f n
  | 0, h1 => by omega
  | n + 1, h1 => by
    unfold cntB
    by_cases e : n = k
    · subst e
      rw [h]
      simp
    · have := cntB_pos h (n := n) (by omega)
      omega
theorem cntB_zero {f : Nat → Bool} {n : Nat} (h : cntB f n = 0) : ∀ k, k < n → f k = false := fun k hk => by
  cases hf : f k with
  | false => rfl
  | true =>
    have := cntB_pos hf hk
    omega
def free (J : Jb) (p : Pl) (k : Nat) : Bool := (List.range J.n).all fun x => !J.w k x || (p.b x && decide (p.e x ≤ p.now))
def ready (J : Jb) (p : Pl) (k : Nat) : Bool := J.j k && !p.b k && free J p k
def runs (p : Pl) (k : Nat) : Bool := p.b k && decide (p.now < p.e k)
def doing (J : Jb) (p : Pl) : Nat := cntB (runs p) J.n
def left (J : Jb) (p : Pl) : Nat := cntB (fun k => J.j k && !p.b k) J.n
/-- The least that is ready, of the last d. -/
def nxF (J : Jb) (p : Pl) : Nat → Int
  | 0 => -1
  | d + 1 => if ready J p (J.n - (d + 1)) then ((J.n - (d + 1) : Nat) : Int) else nxF J p d
/-- When the next is over, of the first k; 0: none. -/
def thF (p : Pl) : Nat → Int
  | 0 => 0
  | k + 1 => if runs p k && (decide (thF p k = 0) || decide (p.e k < thF p k)) then p.e k else thF p k
theorem nxF_is (J : Jb) (p : Pl) : ∀ d, d ≤ J.n → nxF J p d = -1 ∧ (∀ k, J.n - d ≤ k → k < J.n → ready J p k = false) ∨ ∃ k : Nat, nxF J p d = (k : Int) ∧ k < J.n ∧ ready J p k = true
  | 0, _ => .inl ⟨rfl, fun k h1 h2 => by omega⟩
  | d + 1, hd => by
    unfold nxF
    cases hr : ready J p (J.n - (d + 1)) with
    | true => exact .inr ⟨J.n - (d + 1), by simp, by omega, hr⟩
    | false =>
      rcases nxF_is J p d (by omega) with ⟨h1, h2⟩ | h
      · refine .inl ⟨by simpa using h1, fun k hk1 hk2 => ?_⟩
        by_cases e : k = J.n - (d + 1)
        · rw [e]
          exact hr
        · exact h2 k (by omega) hk2
      · exact .inr (by simpa using h)
theorem thF_is {p : Pl} (h0 : 0 ≤ p.now) : ∀ n, (thF p n = 0 ∧ ∀ k, k < n → runs p k = false) ∨ (p.now < thF p n ∧ (∃ k, k < n ∧ runs p k = true ∧ p.e k = thF p n) ∧ ∀ k, k < n → runs p k = true → thF p n ≤ p.e k)
  | 0 => .inl ⟨rfl, fun k h => by omega⟩
  | n + 1 => by
    have ih := thF_is h0 n
    cases hr : runs p n with
    | false =>
      have e : thF p (n + 1) = thF p n := by show (if (runs p n && (decide (thF p n = 0) || decide (p.e n < thF p n))) = true then p.e n else thF p n) = _; rw [hr]; simp
      rw [e]
      rcases ih with ⟨h1, h2⟩ | ⟨h1, ⟨k, h2, h3⟩, h4⟩
      · refine .inl ⟨h1, fun k hk => ?_⟩
        by_cases e : k = n
        · rw [e]
          exact hr
        · exact h2 k (by omega)
      · refine .inr ⟨h1, ⟨k, by omega, h3⟩, fun x hx hx2 => ?_⟩
        by_cases e : x = n
        · rw [e, hr] at hx2
          cases hx2
        · exact h4 x (by omega) hx2
    | true =>
      have hgt : p.now < p.e n := by
        unfold runs at hr
        simp at hr
        exact hr.2
      rcases ih with ⟨h1, h2⟩ | ⟨h1, ⟨k, h2, h3⟩, h4⟩
      · have e : thF p (n + 1) = p.e n := by show (if (runs p n && (decide (thF p n = 0) || decide (p.e n < thF p n))) = true then p.e n else thF p n) = _; rw [hr, h1]; simp
        rw [e]
        refine .inr ⟨hgt, ⟨n, by omega, hr, rfl⟩, fun x hx hx2 => ?_⟩
        by_cases e : x = n
        · rw [e]
          exact Int.le_refl _
        · rw [h2 x (by omega)] at hx2
          cases hx2
      · by_cases hlt : p.e n < thF p n
        · have e : thF p (n + 1) = p.e n := by show (if (runs p n && (decide (thF p n = 0) || decide (p.e n < thF p n))) = true then p.e n else thF p n) = _; rw [hr]; simp [hlt]
          rw [e]
          refine .inr ⟨hgt, ⟨n, by omega, hr, rfl⟩, fun x hx hx2 => ?_⟩
          by_cases e : x = n
          · rw [e]
            exact Int.le_refl _
          · have := h4 x (by omega) hx2
            omega
        · have e : thF p (n + 1) = thF p n := by
            have : thF p n ≠ 0 := by omega
            show (if (runs p n && (decide (thF p n = 0) || decide (p.e n < thF p n))) = true then p.e n else thF p n) = _
            rw [hr]
            simp [hlt, this]
          rw [e]
          refine .inr ⟨h1, ⟨k, by omega, h3⟩, fun x hx hx2 => ?_⟩
          by_cases e : x = n
          · rw [e]
            omega
          · exact h4 x (by omega) hx2
/-- One begins. -/
def beg (J : Jb) (p : Pl) (k : Nat) : Pl := ⟨updN p.s k p.now, updN p.e k (p.now + J.t k), updN p.b k true, p.now⟩
def stp (J : Jb) (p : Pl) : Option Pl :=
  if 0 ≤ nxF J p J.n ∧ (doing J p : Int) < J.m then some (beg J p (nxF J p J.n).toNat)
  else if thF p J.n = 0 then none else some ⟨p.s, p.e, p.b, thF p J.n⟩
def planF (J : Jb) : Nat → Pl → Option Pl
  | 0, p => some p
  | f + 1, p => if left J p = 0 then some p else match stp J p with
    | none => none
    | some q => planF J f q
def mu (J : Jb) (p : Pl) : Nat := 2 * left J p + doing J p
def sumT (J : Jb) (p : Pl) : Nat → Int
  | 0 => 0
  | n + 1 => sumT J p n + if p.b n then J.t n else 0
def at_ (p : Pl) (x : Int) (k : Nat) : Bool := p.b k && (decide (p.s k ≤ x) && decide (x < p.e k))
structure Ok (J : Jb) (p : Pl) : Prop where
  n0 : 0 ≤ p.now
  none : ∀ k, p.b k = false → p.s k = 0 ∧ p.e k = 0
  job : ∀ k, p.b k = true → k < J.n ∧ J.j k = true ∧ 0 ≤ p.s k ∧ p.s k ≤ p.now ∧ p.e k = p.s k + J.t k
  wait : ∀ k x, p.b k = true → x < J.n → J.w k x = true → p.b x = true ∧ p.e x ≤ p.s k
  room : ∀ k, p.b k = true → (cntB (at_ p (p.s k)) J.n : Int) ≤ J.m
  here : p.now = 0 ∨ ∃ x, p.b x = true ∧ p.e x = p.now
  from_ : ∀ k, p.b k = true → p.s k = 0 ∨ ∃ x, p.b x = true ∧ p.e x = p.s k
  ends : ∀ k, p.b k = true → p.e k ≤ sumT J p J.n
theorem sumT_nonneg {J : Jb} (p : Pl) (ht : ∀ k, 0 ≤ J.t k) : ∀ n, 0 ≤ sumT J p n
  | 0 => Int.le_refl _
  | n + 1 => by
    have h1 := sumT_nonneg p ht n
    have h2 := ht n
    unfold sumT
    split <;> omega
theorem sumT_beg {J : Jb} {p : Pl} {k : Nat} (hb : p.b k = false) : ∀ n, sumT J (beg J p k) n = sumT J p n + if k < n then J.t k else 0
  | 0 => by simp [sumT]
  | n + 1 => by
    have h1 := sumT_beg (J := J) hb n
    unfold sumT
    rw [h1]
    by_cases e : n = k
    · subst e
      rw [show (beg J p n).b n = true from updN_same _ _ _, hb]
      simp
    · rw [show (beg J p k).b n = p.b n from updN_other _ _ e]
      by_cases hk : k < n
      · rw [if_pos hk, if_pos (show k < n + 1 by omega)]
        omega
      · rw [if_neg hk, if_neg (show ¬ k < n + 1 by omega)]
        omega
theorem start_ok (J : Jb) : Ok J start := ⟨Int.le_refl _, fun _ _ => ⟨rfl, rfl⟩, fun k h => (by cases h), fun k x h => (by cases h), fun k h => (by cases h), .inl rfl, fun k h => (by cases h), fun k h => (by cases h)⟩
theorem ready_is {J : Jb} {p : Pl} {k : Nat} (h : ready J p k = true) : J.j k = true ∧ p.b k = false ∧ ∀ x, x < J.n → J.w k x = true → p.b x = true ∧ p.e x ≤ p.now := by
  unfold ready free at h
  simp only [Bool.and_eq_true, Bool.not_eq_true', List.all_eq_true, List.mem_range, Bool.or_eq_true, decide_eq_true_eq] at h
  exact ⟨h.1.1, h.1.2, fun x hx hw => by
    rcases h.2 x hx with h1 | h1
    · rw [hw] at h1
      cases h1
    · exact h1⟩
theorem beg_ok {J : Jb} {p : Pl} {k : Nat} (h : Ok J p) (ht : ∀ k, 0 ≤ J.t k) (htk : 1 ≤ J.t k) (hk : k < J.n) (hr : ready J p k = true) (hd : (doing J p : Int) < J.m) (_ : ∀ k, J.w k k = false) : Ok J (beg J p k) := by
  obtain ⟨r1, r2, r3⟩ := ready_is hr
  have bk : (beg J p k).b k = true := updN_same _ _ _
  have sk : (beg J p k).s k = p.now := updN_same _ _ _
  have ek : (beg J p k).e k = p.now + J.t k := updN_same _ _ _
  have bo : ∀ x, x ≠ k → (beg J p k).b x = p.b x := fun x hx => updN_other _ _ hx
  have so : ∀ x, x ≠ k → (beg J p k).s x = p.s x := fun x hx => updN_other _ _ hx
  have eo : ∀ x, x ≠ k → (beg J p k).e x = p.e x := fun x hx => updN_other _ _ hx
  have far : ∀ x, p.b x = true → x ≠ k := fun x hx e => by rw [e, r2] at hx; cases hx
  have kp : ∀ x, p.b x = true → (beg J p k).b x = true ∧ (beg J p k).s x = p.s x ∧ (beg J p k).e x = p.e x := fun x hx => ⟨by rw [bo x (far x hx)]; exact hx, so x (far x hx), eo x (far x hx)⟩
  have old : ∀ x, (beg J p k).b x = true → x = k ∨ p.b x = true := fun x hx => by
    by_cases e : x = k
    · exact .inl e
    · rw [bo x e] at hx
      exact .inr hx
  have hsum := sumT_beg (J := J) r2 J.n
  rw [if_pos hk] at hsum
  have hnow : p.now ≤ sumT J p J.n := by
    rcases h.here with h1 | ⟨x, h1, h2⟩
    · rw [h1]
      exact sumT_nonneg p ht _
    · rw [← h2]
      exact h.ends x h1
  -- at the time now one more is being done
  have hnw : cntB (at_ (beg J p k) p.now) J.n = doing J p + 1 := by
    have h1 : at_ (beg J p k) p.now k = true := by unfold at_; rw [bk, sk, ek]; simp; omega
    have h2 : runs p k = false := by unfold runs; rw [r2]; rfl
    rw [cntB_one (f := runs p) h2 h1 J.n fun i hi hne => ?_, if_pos hk]
    · rfl
    · unfold at_ runs
      rw [bo i hne, so i hne, eo i hne]
      cases hb : p.b i with
      | false => rfl
      | true =>
        have := (h.job i hb).2.2.2.1
        simp [this]
  refine ⟨h.n0, fun x hx => ?_, fun x hx => ?_, fun x y hx hy hw => ?_, fun x hx => ?_, ?_, fun x hx => ?_, fun x hx => ?_⟩
  · have hne : x ≠ k := fun e => by rw [e, bk] at hx; cases hx
    rw [bo x hne] at hx
    rw [so x hne, eo x hne]
    exact h.none x hx
  · rcases old x hx with rfl | hb
    · rw [sk, ek]
      exact ⟨hk, r1, h.n0, Int.le_refl _, rfl⟩
    · obtain ⟨_, q2, q3⟩ := kp x hb
      rw [q2, q3]
      exact h.job x hb
  · rcases old x hx with rfl | hb
    · obtain ⟨q1, q2⟩ := r3 y hy hw
      obtain ⟨g1, _, g3⟩ := kp y q1
      rw [g3, sk]
      exact ⟨g1, q2⟩
    · obtain ⟨q1, q2⟩ := h.wait x y hb hy hw
      obtain ⟨g1, _, g3⟩ := kp y q1
      rw [g3, (kp x hb).2.1]
      exact ⟨g1, q2⟩
  · rcases old x hx with rfl | hb
    · rw [sk, hnw]
      omega
    · rw [(kp x hb).2.1]
      obtain ⟨_, _, _, hle, _⟩ := h.job x hb
      by_cases e : p.s x = p.now
      · rw [e, hnw]
        omega
      · rw [cntB_congr (g := at_ p (p.s x)) J.n fun i hi => ?_]
        · exact h.room x hb
        · by_cases ei : i = k
          · subst ei
            unfold at_
            rw [bk, sk, r2]
            simp
            omega
          · unfold at_
            rw [bo i ei, so i ei, eo i ei]
  · rcases h.here with h1 | ⟨x, h1, h2⟩
    · exact .inl h1
    · exact .inr ⟨x, (kp x h1).1, by rw [(kp x h1).2.2]; exact h2⟩
  · rcases old x hx with rfl | hb
    · rw [sk]
      rcases h.here with h1 | ⟨y, h1, h2⟩
      · exact .inl h1
      · exact .inr ⟨y, (kp y h1).1, by rw [(kp y h1).2.2]; exact h2⟩
    · rw [(kp x hb).2.1]
      rcases h.from_ x hb with h1 | ⟨y, h1, h2⟩
      · exact .inl h1
      · exact .inr ⟨y, (kp y h1).1, by rw [(kp y h1).2.2]; exact h2⟩
  · rcases old x hx with rfl | hb
    · rw [ek, hsum]
      omega
    · rw [(kp x hb).2.2, hsum]
      have := h.ends x hb
      omega
theorem later_ok {J : Jb} {p : Pl} {v : Int} (h : Ok J p) (hv : p.now < v) (hx : ∃ k, p.b k = true ∧ p.e k = v) : Ok J ⟨p.s, p.e, p.b, v⟩ :=
  have hn := h.n0
  ⟨by show 0 ≤ v; omega, h.none, fun k hk => by
    obtain ⟨h1, h2, h3, h4, h5⟩ := h.job k hk
    exact ⟨h1, h2, h3, by show p.s k ≤ v; omega, h5⟩, h.wait, h.room, .inr hx, h.from_, fun k hk => by
    have e : ∀ n, sumT J ⟨p.s, p.e, p.b, v⟩ n = sumT J p n := fun n => by
      induction n with
      | zero => rfl
      | succ n ih => rw [sumT, sumT, ih]
    rw [e]
    exact h.ends k hk⟩
/-- A step keeps what is asked of a plan, and there are fewer of them to come. -/
theorem step_ok {J : Jb} {p q : Pl} (h : Ok J p) (ht : ∀ k, 0 ≤ J.t k) (htj : ∀ k, k < J.n → J.j k = true → 1 ≤ J.t k) (hirr : ∀ k, J.w k k = false) (hs : stp J p = some q) : Ok J q ∧ mu J q < mu J p := by
  unfold stp at hs
  split at hs
  · rename_i hc
    injection hs with hs
    rcases nxF_is J p J.n (Nat.le_refl _) with ⟨h1, _⟩ | ⟨k, h1, hk, hr⟩
    · omega
    rw [h1] at hs
    have hs : beg J p k = q := hs
    subst hs
    obtain ⟨r1, r2, _⟩ := ready_is hr
    refine ⟨beg_ok h ht (htj k hk r1) hk hr hc.2 hirr, ?_⟩
    have e1 : left J p = left J (beg J p k) + 1 := by
      unfold left
      rw [cntB_one (f := fun x => J.j x && !(beg J p k).b x) (g := fun x => J.j x && !p.b x) (k := k) (by rw [show (beg J p k).b k = true from updN_same _ _ _]; simp) (by rw [r1, r2]; rfl) J.n fun i _ hne => by rw [show (beg J p k).b i = p.b i from updN_other _ _ hne], if_pos hk]
    have e2 : doing J (beg J p k) ≤ doing J p + 1 := by
      unfold doing
      have h2 : runs p k = false := by unfold runs; rw [r2]; rfl
      have h3 : runs (beg J p k) k = true := by
        unfold runs
        rw [show (beg J p k).b k = true from updN_same _ _ _, show (beg J p k).e k = p.now + J.t k from updN_same _ _ _, show (beg J p k).now = p.now from rfl]
        have := htj k hk r1
        simp
        omega
      rw [cntB_one h2 h3 J.n fun i _ hne => by unfold runs; rw [show (beg J p k).b i = p.b i from updN_other _ _ hne, show (beg J p k).e i = p.e i from updN_other _ _ hne]; rfl, if_pos hk]
      exact Nat.le_refl _
    unfold mu
    omega
  · split at hs
    · cases hs
    · rename_i h0
      injection hs with hs
      subst hs
      rcases thF_is h.n0 J.n with ⟨h1, _⟩ | ⟨h1, ⟨k, hk, hr, he⟩, _⟩
      · exact absurd h1 h0
      have hb : p.b k = true := by
        unfold runs at hr
        simp at hr
        exact hr.1
      refine ⟨later_ok h h1 ⟨k, hb, he⟩, ?_⟩
      have e2 : doing J ⟨p.s, p.e, p.b, thF p J.n⟩ < doing J p := by
        unfold doing
        have h2 : (fun x => runs ⟨p.s, p.e, p.b, thF p J.n⟩ x) k = false := by
          show (p.b k && decide (thF p J.n < p.e k)) = false
          rw [he]
          simp
        have h3 := cntB_one (f := fun x => if x = k then false else runs p x) (g := runs p) (k := k) (by simp) hr J.n fun i _ hne => by simp [hne]
        rw [if_pos hk] at h3
        have h4 := cntB_mono (f := runs ⟨p.s, p.e, p.b, thF p J.n⟩) (g := fun x => if x = k then false else runs p x) J.n fun i _ hi => by
          by_cases e : i = k
          · subst e
            exact Bool.noConfusion (h2.symm.trans hi)
          · show (if i = k then false else runs p i) = true
            rw [if_neg e]
            unfold runs at hi ⊢
            simp only [Bool.and_eq_true, decide_eq_true_eq] at hi ⊢
            exact ⟨hi.1, Int.lt_trans h1 hi.2⟩
        omega
      have e1 : left J ⟨p.s, p.e, p.b, thF p J.n⟩ = left J p := rfl
      unfold mu
      omega
/-- What may be asked of jobs. -/
structure Fine (J : Jb) : Prop where
  t0 : ∀ k, 0 ≤ J.t k
  tj : ∀ k, k < J.n → J.j k = true → 1 ≤ J.t k
  irr : ∀ k, J.w k k = false
theorem planF_more {J : Jb} (hF : Fine J) : ∀ (f g : Nat) (p : Pl), Ok J p → mu J p ≤ f → mu J p ≤ g → planF J f p = planF J g p
  | 0, 0, p, _, _, _ => rfl
  | 0, g + 1, p, _, hf, _ => by
    have : left J p = 0 := by unfold mu at hf; omega
    rw [planF, planF, if_pos this]
  | f + 1, 0, p, _, _, hg => by
    have : left J p = 0 := by unfold mu at hg; omega
    rw [planF, planF, if_pos this]
  | f + 1, g + 1, p, h, hf, hg => by
    rw [planF, planF]
    by_cases h0 : left J p = 0
    · rw [if_pos h0, if_pos h0]
    · rw [if_neg h0, if_neg h0]
      cases hs : stp J p with
      | none => rfl
      | some q =>
        obtain ⟨h1, h2⟩ := step_ok h hF.t0 hF.tj hF.irr hs
        exact planF_more hF f g q h1 (by omega) (by omega)
/-- The plan, as it goes on from here. -/
def pl (J : Jb) (p : Pl) : Option Pl := planF J (mu J p) p
theorem pl_done {J : Jb} {p : Pl} (h : left J p = 0) : pl J p = some p := by
  unfold pl
  cases mu J p with
  | zero => rfl
  | succ n => rw [planF, if_pos h]
theorem pl_next {J : Jb} (hF : Fine J) {p q : Pl} (h : Ok J p) (h0 : left J p ≠ 0) (hs : stp J p = some q) : pl J p = pl J q := by
  obtain ⟨h1, h2⟩ := step_ok h hF.t0 hF.tj hF.irr hs
  obtain ⟨n, hn⟩ : ∃ n, mu J p = n + 1 := ⟨mu J p - 1, by omega⟩
  unfold pl
  rw [hn, planF, if_neg h0, hs]
  exact planF_more hF _ _ q h1 (by omega) (Nat.le_refl _)
theorem pl_stuck {J : Jb} {p : Pl} (h0 : left J p ≠ 0) (hs : stp J p = none) : pl J p = none := by
  obtain ⟨n, hn⟩ : ∃ n, mu J p = n + 1 := ⟨mu J p - 1, by unfold mu; omega⟩
  unfold pl
  rw [hn, planF, if_neg h0, hs]
theorem planF_ok {J : Jb} (hF : Fine J) : ∀ (f : Nat) (p q : Pl), Ok J p → mu J p ≤ f → planF J f p = some q → Ok J q ∧ left J q = 0
  | 0, p, q, h, hf, e => by
    injection e with e
    subst e
    exact ⟨h, by unfold mu at hf; omega⟩
  | f + 1, p, q, h, hf, e => by
    rw [planF] at e
    by_cases h0 : left J p = 0
    · rw [if_pos h0] at e
      injection e with e
      subst e
      exact ⟨h, h0⟩
    · rw [if_neg h0] at e
      cases hs : stp J p with
      | none => rw [hs] at e; cases e
      | some r =>
        rw [hs] at e
        obtain ⟨h1, h2⟩ := step_ok h hF.t0 hF.tj hF.irr hs
        exact planF_ok hF f r q h1 (by omega) e
/-- What a plan is. -/
theorem pl_ok {J : Jb} (hF : Fine J) {q : Pl} (h : pl J start = some q) : Ok J q ∧ ∀ k, k < J.n → q.b k = J.j k := by
  obtain ⟨h1, h2⟩ := planF_ok hF _ _ q (start_ok J) (Nat.le_refl _) h
  refine ⟨h1, fun k hk => ?_⟩
  have h3 := cntB_zero h2 k hk
  cases hb : q.b k with
  | true => exact (h1.job k hb).2.1.symm
  | false =>
    rw [hb] at h3
    simpa using h3.symm
/-- All jobs one behind the other. -/
def allT (J : Jb) : Nat → Int
  | 0 => 0
  | n + 1 => allT J n + if J.j n then J.t n else 0
theorem sumT_all {J : Jb} {q : Pl} (h : ∀ k, k < J.n → q.b k = J.j k) : ∀ n, n ≤ J.n → sumT J q n = allT J n
  | 0, _ => rfl
  | n + 1, hn => by rw [sumT, allT, sumT_all h n (by omega), h n (by omega)]
/-- Whether jobs can be done so. -/
def FitsJ (J : Jb) (s e : Nat → Int) : Prop :=
  (∀ k, k < J.n → J.j k = false → s k = 0 ∧ e k = 0) ∧ (∀ k, k < J.n → J.j k = true → 0 ≤ s k ∧ e k = s k + J.t k) ∧
  (∀ k x, k < J.n → x < J.n → J.j k = true → J.w k x = true → e x ≤ s k) ∧ ∀ k, k < J.n → J.j k = true → (cntB (fun x => J.j x && (decide (s x ≤ s k) && decide (s k < e x))) J.n : Int) ≤ J.m
theorem pl_sound {J : Jb} (hF : Fine J) {q : Pl} (h : pl J start = some q) : FitsJ J q.s q.e ∧ (∀ k, k < J.n → q.e k ≤ allT J J.n) ∧ ∀ k, k < J.n → q.s k = 0 ∨ ∃ x, x < J.n ∧ J.j x = true ∧ q.e x = q.s k := by
  obtain ⟨h1, h2⟩ := pl_ok hF h
  have hall := sumT_all h2 J.n (Nat.le_refl _)
  refine ⟨⟨fun k hk hj => h1.none k (by rw [h2 k hk]; exact hj), fun k hk hj => ?_, fun k x hk hx hj hw => (h1.wait k x (by rw [h2 k hk]; exact hj) hx hw).2, fun k hk hj => ?_⟩, fun k hk => ?_, fun k hk => ?_⟩
  · obtain ⟨_, _, g1, _, g2⟩ := h1.job k (by rw [h2 k hk]; exact hj)
    exact ⟨g1, g2⟩
  · have := h1.room k (by rw [h2 k hk]; exact hj)
    rw [cntB_congr (g := fun x => J.j x && (decide (q.s x ≤ q.s k) && decide (q.s k < q.e x))) J.n fun i hi => by unfold at_; rw [h2 i hi]] at this
    exact this
  · rw [← hall]
    cases hb : q.b k with
    | true => exact h1.ends k hb
    | false =>
      rw [(h1.none k hb).2]
      exact sumT_nonneg q hF.t0 _
  · cases hb : q.b k with
    | false => exact .inl (h1.none k hb).1
    | true =>
      rcases h1.from_ k hb with g | ⟨x, g1, g2⟩
      · exact .inl g
      · obtain ⟨g3, g4, _⟩ := h1.job x g1
        exact .inr ⟨x, g3, g4, g2⟩
end Go.Proofs.Ytdbhdlgoecpeaaa.Quo
