/- Jobs: their bytes, the job of bytes; said without a program. -/
import Derived.Test.YtghlgmlelipjfaaZJobMath
import Derived.Test.YtghlgmlelipjfaaZPrRev
namespace Go.Proofs.Ytghlgmlelipjfaa.Job
open Goods (St)
open Pen (uiN uiS tmN tmS uintB)

def numsB : List Int → ByteArray
  | [] => ⟨#[]⟩
  | x :: l => uintB x ++ numsB l
theorem numsB_append : ∀ (l k : List Int), numsB (l ++ k) = numsB l ++ numsB k
  | [], k => by rw [List.nil_append]; exact (nil_append _).symm
  | x :: l, k => by
    show uintB x ++ numsB (l ++ k) = uintB x ++ numsB l ++ numsB k
    rw [numsB_append l k, append_assoc]
theorem numsB_one (x : Int) : numsB [x] = uintB x := append_nil _
theorem numsB_size : ∀ l : List Int, (numsB l).size ≤ 10 * l.length
  | [] => Nat.zero_le _
  | x :: l => by
    have h1 := numsB_size l
    have h2 := Pen.uintB_size x
    show (uintB x ++ numsB l).size ≤ _
    rw [ByteArray.size_append, List.length_cons]
    omega
def intsS : List St → List Int
  | [] => []
  | t :: l => t.kind :: t.qty :: intsS l
theorem intsS_append : ∀ (l k : List St), intsS (l ++ k) = intsS l ++ intsS k
  | [], _ => rfl
  | t :: l, k => by show t.kind :: t.qty :: intsS (l ++ k) = _; rw [intsS_append l k]; rfl
theorem intsS_length : ∀ l : List St, (intsS l).length = 2 * l.length
  | [] => rfl
  | t :: l => by have := intsS_length l; simp [intsS]; omega
abbrev RS := Option ByteArray
abbrev MX : Int := 9223372036854775807
def nedP : Nat → RS → List St × RS
  | 0, st => ([], st)
  | k + 1, st => if st = none then ([], st) else (⟨uiN st MX, uiN (uiS st MX) MX⟩ :: (nedP k (uiS (uiS st MX) MX)).1, (nedP k (uiS (uiS st MX) MX)).2)
theorem ui_sound {st : RS} {most : Int} {t : ByteArray} (h : uiS st most = some t) : ∃ s, st = some s ∧ s = uintB (uiN st most) ++ t ∧ (uiN st most : Int) ≤ most := by
  cases st with
  | none =>
    unfold uiS Pen.tkS at h
    split at h <;> simp at h
  | some s =>
    have hw := Pen.ui_wrote h
    refine ⟨s, rfl, ?_, ?_⟩
    · obtain ⟨h1, h2⟩ := hw
      by_cases hm : most < 0
      · unfold uiS at h
        rw [if_pos hm] at h
        simp at h
      · unfold uiS at h
        rw [if_neg hm] at h
        unfold Pen.tkS at h
        simp only [] at h
        split at h
        · simp at h
        · injection h with h
          rw [h1]
          have hk := (Pen.FK_le s).1
          have hts : t.size = s.size - Pen.FK s := by rw [← h, ByteArray.size_extract]; omega
          rw [hts, show s.size - (s.size - Pen.FK s) = Pen.FK s by omega, ← h]
          apply ByteArray.ext
          simp only [ByteArray.data_append, ByteArray.data_extract]
          rw [Array.extract_append_extract]
          rw [Nat.max_eq_right hk]
          simp
          exact (Array.extract_size (xs := s.data)).symm
    · unfold uiN
      split
      · rename_i hm
        unfold uiS at h
        rw [if_pos hm] at h
        simp at h
      · have := (Pen.tkN_le (some s) most.toNat).1
        omega
theorem ned_sound : ∀ (k : Nat) (st : RS) {t : ByteArray}, (nedP k st).2 = some t → ∃ s, st = some s ∧ s = numsB (intsS (nedP k st).1) ++ t ∧ (nedP k st).1.length = k
  | 0, st, t, h => ⟨t, h, (nil_append _).symm, rfl⟩
  | k + 1, st, t, h => by
    unfold nedP at h ⊢
    by_cases hn : st = none
    · rw [if_pos hn] at h
      rw [hn] at h
      simp at h
    · rw [if_neg hn] at h ⊢
      obtain ⟨s2, e2, f2, l2⟩ := ned_sound k _ h
      obtain ⟨s1, e1, f1, _⟩ := ui_sound e2
      obtain ⟨s0, e0, f0, _⟩ := ui_sound e1
      refine ⟨s0, e0, ?_, by simp [l2]⟩
      rw [f0, f1, f2]
      simp only [intsS, numsB, append_assoc]
theorem ui_full {n most : Int} {rest : ByteArray} (h0 : 0 ≤ n) (h1 : n ≤ most) (hm : most ≤ 9223372036854775807) : (uiN (some (uintB n ++ rest)) most : Int) = n ∧ uiS (some (uintB n ++ rest)) most = some rest := by
  obtain ⟨m, rfl⟩ := Int.eq_ofNat_of_zero_le h0
  obtain ⟨r1, r2⟩ := Pen.ui_back m most rest h1 hm
  exact ⟨by rw [r1], r2⟩
def Pos (x : Int) : Prop := 0 ≤ x ∧ x ≤ 9223372036854775807
theorem ned_full : ∀ (l : List St) (t : ByteArray), (∀ x ∈ l, Pos x.kind ∧ Pos x.qty) → nedP l.length (some (numsB (intsS l) ++ t)) = (l, some t)
  | [], t, _ => by show ([], some ((⟨#[]⟩ : ByteArray) ++ t)) = _; rw [nil_append]
  | x :: l, t, h => by
    obtain ⟨⟨a0, a1⟩, b0, b1⟩ := h x (List.mem_cons_self ..)
    have e : numsB (intsS (x :: l)) ++ t = uintB x.kind ++ (uintB x.qty ++ (numsB (intsS l) ++ t)) := by simp only [intsS, numsB, append_assoc]
    rw [e]
    obtain ⟨r1, r2⟩ := ui_full (rest := uintB x.qty ++ (numsB (intsS l) ++ t)) a0 a1 (Int.le_refl _)
    obtain ⟨r3, r4⟩ := ui_full (rest := numsB (intsS l) ++ t) b0 b1 (Int.le_refl _)
    show nedP (l.length + 1) _ = _
    unfold nedP
    rw [if_neg (by simp), r2, r4, ned_full l t fun y hy => h y (List.mem_cons_of_mem _ hy), r1, r3]
def lsq {α : Type} (one : RS → α × RS) : Nat → RS → List α × RS
  | 0, st => ([], st)
  | k + 1, st => ((one st).1 :: (lsq one k (one st).2).1, (lsq one k (one st).2).2)
def ltq {α : Type} (one : RS → α × RS) (most : Int) (st : RS) : List α × RS := lsq one (tmN st most) (tmS st most)
theorem lsq_len {α : Type} (one : RS → α × RS) : ∀ (k : Nat) (st : RS), (lsq one k st).1.length = k
  | 0, _ => rfl
  | k + 1, st => by
    show ((lsq one k (one st).2).1).length + 1 = k + 1
    rw [lsq_len one k]
theorem lsq_more {α : Type} {one : RS → α × RS} {n i : Nat} {st0 st st' : RS} {l : List α} {x : α} (h : lsq one n st0 = (l ++ (lsq one (n - i) st).1, (lsq one (n - i) st).2)) (hi : i < n) (h1 : (one st).1 = x) (h2 : (one st).2 = st') : lsq one n st0 = (l ++ [x] ++ (lsq one (n - (i + 1)) st').1, (lsq one (n - (i + 1)) st').2) := by
  obtain ⟨d, hd⟩ : ∃ d, n - i = d + 1 := ⟨n - i - 1, by omega⟩
  rw [h, hd, show n - (i + 1) = d by omega]
  subst h1 h2
  simp [lsq]
theorem lsq_end {α : Type} {one : RS → α × RS} {n : Nat} {st0 st : RS} {l : List α} (h : lsq one n st0 = (l ++ (lsq one (n - n) st).1, (lsq one (n - n) st).2)) : lsq one n st0 = (l, st) := by
  rw [h, Nat.sub_self]
  simp [lsq]
def stq (st : RS) : St × RS := (⟨uiN st MX, uiN (uiS st MX) MX⟩, uiS (uiS st MX) MX)
theorem lsq_sound {α : Type} {one : RS → α × RS} {f : α → List Int} {F : List α → List Int} (h0 : F [] = []) (hF : ∀ x l, F (x :: l) = f x ++ F l) (hone : ∀ st t, (one st).2 = some t → ∃ s, st = some s ∧ s = numsB (f (one st).1) ++ t) :
    ∀ (k : Nat) (st : RS) {t : ByteArray}, (lsq one k st).2 = some t → ∃ s, st = some s ∧ s = numsB (F (lsq one k st).1) ++ t
  | 0, st, t, h => ⟨t, h, by show t = numsB (F []) ++ t; rw [h0]; exact (nil_append _).symm⟩
  | k + 1, st, t, h => by
    obtain ⟨s2, e2, f2⟩ := lsq_sound h0 hF hone k _ h
    obtain ⟨s0, e0, f0⟩ := hone st s2 e2
    refine ⟨s0, e0, ?_⟩
    show s0 = numsB (F ((one st).1 :: (lsq one k (one st).2).1)) ++ t
    rw [f0, f2, hF, numsB_append, append_assoc]
theorem tm_sound {st : RS} {most : Int} {t : ByteArray} (h : tmS st most = some t) : ∃ s, st = some s ∧ s = uintB (tmN st most) ++ t := by
  have e : uiS st most = some t ∧ tmN st most = uiN st most := by
    unfold tmS at h
    unfold tmN
    split at h
    · simp at h
    · rename_i hc
      rw [if_neg hc]
      exact ⟨h, rfl⟩
  obtain ⟨s, e1, e2, _⟩ := ui_sound e.1
  rw [e.2]
  exact ⟨s, e1, e2⟩
theorem ltq_sound {α : Type} {one : RS → α × RS} {f : α → List Int} {F : List α → List Int} (h0 : F [] = []) (hF : ∀ x l, F (x :: l) = f x ++ F l) (hone : ∀ st t, (one st).2 = some t → ∃ s, st = some s ∧ s = numsB (f (one st).1) ++ t) {most : Int} {st : RS} {t : ByteArray} (h : (ltq one most st).2 = some t) :
    ∃ s, st = some s ∧ s = uintB ((ltq one most st).1.length : Int) ++ (numsB (F (ltq one most st).1) ++ t) := by
  obtain ⟨s2, e2, f2⟩ := lsq_sound h0 hF hone _ _ h
  obtain ⟨s1, e1, f1⟩ := tm_sound e2
  refine ⟨s1, e1, ?_⟩
  have hl : (ltq one most st).1.length = tmN st most := lsq_len one _ _
  rw [hl, f1, f2]
  rfl
theorem st_sound (st : RS) (t : ByteArray) (h : (stq st).2 = some t) : ∃ s, st = some s ∧ s = numsB ([(stq st).1.kind, (stq st).1.qty]) ++ t := by
  unfold stq at h
  dsimp only at h
  obtain ⟨s2, e2, f2, _⟩ := ui_sound h
  obtain ⟨s1, e1, f1, _⟩ := ui_sound e2
  refine ⟨s1, e1, ?_⟩
  unfold stq
  simp only []
  conv => lhs; rw [f1, f2]
  simp only [numsB, append_assoc, append_nil]
theorem uintB_one {n : Int} (h : 0 ≤ n) : 1 ≤ (uintB n).size := by
  obtain ⟨m, rfl⟩ := Int.eq_ofNat_of_zero_le h
  rw [Pen.uintB_nat]
  exact (Pen.wordB_size m).1
theorem tm_full {n : Nat} {most : Int} {rest : ByteArray} (h1 : (n : Int) ≤ most) (hm : most ≤ 9223372036854775807) (hr : n ≤ rest.size) : tmN (some (uintB (n : Int) ++ rest)) most = n ∧ tmS (some (uintB (n : Int) ++ rest)) most = some rest := by
  obtain ⟨p, q⟩ := Pen.ui_back n most rest h1 hm
  have hc : ¬ Pen.leftOf (uiS (some (uintB (n : Int) ++ rest)) most) < (uiN (some (uintB (n : Int) ++ rest)) most : Int) := by
    rw [p, q]
    show ¬ ((rest.size : Int) < (n : Int))
    omega
  unfold tmN tmS
  rw [if_neg hc, if_neg hc]
  exact ⟨p, q⟩
theorem lsq_full {α : Type} {one : RS → α × RS} {f : α → List Int} {F : List α → List Int} (h0 : F [] = []) (hF : ∀ x l, F (x :: l) = f x ++ F l) :
    ∀ (l : List α) (t : ByteArray), (∀ x ∈ l, ∀ t, one (some (numsB (f x) ++ t)) = (x, some t)) → lsq one l.length (some (numsB (F l) ++ t)) = (l, some t)
  | [], t, _ => by
    rw [h0]
    show ([], some ((⟨#[]⟩ : ByteArray) ++ t)) = _
    rw [nil_append]
  | x :: l, t, h => by
    have e : numsB (F (x :: l)) ++ t = numsB (f x) ++ (numsB (F l) ++ t) := by rw [hF, numsB_append, append_assoc]
    rw [e]
    show ((one _).1 :: (lsq one l.length (one _).2).1, (lsq one l.length (one _).2).2) = _
    rw [h x (List.mem_cons_self ..) _, lsq_full h0 hF l t fun y hy => h y (List.mem_cons_of_mem _ hy)]
theorem F_size {α : Type} {f : α → List Int} {F : List α → List Int} (hF : ∀ x l, F (x :: l) = f x ++ F l) : ∀ (l : List α), (∀ x ∈ l, 1 ≤ (numsB (f x)).size) → l.length ≤ (numsB (F l)).size
  | [], _ => Nat.zero_le _
  | x :: l, h => by
    have h1 := F_size hF l fun y hy => h y (List.mem_cons_of_mem _ hy)
    have h2 := h x (List.mem_cons_self ..)
    rw [hF, numsB_append, ByteArray.size_append, List.length_cons]
    omega
theorem ltq_full {α : Type} {one : RS → α × RS} {f : α → List Int} {F : List α → List Int} (h0 : F [] = []) (hF : ∀ x l, F (x :: l) = f x ++ F l) (l : List α) (t : ByteArray) (most : Int) (h : ∀ x ∈ l, ∀ t, one (some (numsB (f x) ++ t)) = (x, some t)) (hs : ∀ x ∈ l, 1 ≤ (numsB (f x)).size) (hl : (l.length : Int) ≤ most) (hm : most ≤ 9223372036854775807) :
    ltq one most (some (uintB (l.length : Int) ++ (numsB (F l) ++ t))) = (l, some t) := by
  have h1 := F_size hF l hs
  obtain ⟨p, q⟩ := tm_full (rest := numsB (F l) ++ t) hl hm (by rw [ByteArray.size_append]; omega)
  unfold ltq
  rw [p, q, lsq_full h0 hF l t h]
theorem numsB_cons_size {x : Int} {l : List Int} (h : 0 ≤ x) : 1 ≤ (numsB (x :: l)).size := by
  have := uintB_one h
  show 1 ≤ (uintB x ++ numsB l).size
  rw [ByteArray.size_append]
  omega
theorem st_full (x : St) (t : ByteArray) (h : Pos x.kind ∧ Pos x.qty) : stq (some (numsB [x.kind, x.qty] ++ t)) = (x, some t) := by
  obtain ⟨⟨a0, a1⟩, b0, b1⟩ := h
  have e : numsB [x.kind, x.qty] ++ t = uintB x.kind ++ (uintB x.qty ++ t) := by simp only [numsB, append_assoc, append_nil]
  rw [e]
  obtain ⟨r1, r2⟩ := ui_full (rest := uintB x.qty ++ t) a0 a1 (Int.le_refl _)
  obtain ⟨r3, r4⟩ := ui_full (rest := t) b0 b1 (Int.le_refl _)
  unfold stq
  rw [r2, r4, r1, r3]
theorem numsB_take {l : List Int} {i : Nat} {x : Int} (h : l[i]? = some x) : numsB (l.take (i + 1)) = numsB (l.take i) ++ uintB x := by
  rw [List.take_add_one, h]
  show numsB (l.take i ++ [x]) = _
  rw [numsB_append, numsB_one]
theorem numsB_le {l : List Int} {n : Nat} (h : l.length ≤ n) : (numsB l).size ≤ 10 * n := by
  have := numsB_size l
  omega
/-! Numbers that a composite literal lays. -/
theorem asm_one {S U : ByteArray} {l k : List Int} (h1 : S = numsB l) (h2 : U = numsB k) : S ++ U = numsB (l ++ k) := by
  subst h1 h2
  rw [numsB_append]
theorem intsS_take {s : List St} {k : Nat} {t : St} (h : s[k]? = some t) : intsS (s.take (k + 1)) = intsS (s.take k) ++ [t.kind, t.qty] := by
  rw [List.take_add_one, h]
  exact intsS_append _ [t]
/-! so many numbers -/
def rdK : Nat → RS → List Int × RS
  | 0, st => ([], st)
  | k + 1, st => ((uiN st MX : Int) :: (rdK k (uiS st MX)).1, (rdK k (uiS st MX)).2)
theorem rdK_len : ∀ (k : Nat) (st : RS), (rdK k st).1.length = k
  | 0, _ => rfl
  | k + 1, st => by
    show ((rdK k (uiS st MX)).1).length + 1 = k + 1
    rw [rdK_len k]
theorem rdK_sound : ∀ (k : Nat) (st : RS) {t : ByteArray}, (rdK k st).2 = some t → ∃ s, st = some s ∧ s = numsB (rdK k st).1 ++ t
  | 0, st, t, h => ⟨t, h, (nil_append _).symm⟩
  | k + 1, st, t, h => by
    obtain ⟨s2, e2, f2⟩ := rdK_sound k _ h
    obtain ⟨s1, e1, f1, _⟩ := ui_sound e2
    refine ⟨s1, e1, ?_⟩
    show s1 = uintB _ ++ numsB _ ++ t
    rw [append_assoc, ← f2, ← f1]
theorem rdK_full : ∀ (l : List Int) (t : ByteArray), (∀ x ∈ l, Pos x) → rdK l.length (some (numsB l ++ t)) = (l, some t)
  | [], t, _ => by show ([], some ((⟨#[]⟩ : ByteArray) ++ t)) = _; rw [nil_append]
  | x :: l, t, h => by
    obtain ⟨h0, h1⟩ := h x (List.mem_cons_self ..)
    have e : numsB (x :: l) ++ t = uintB x ++ (numsB l ++ t) := append_assoc _ _ _
    rw [e]
    obtain ⟨r1, r2⟩ := ui_full (rest := numsB l ++ t) h0 h1 (Int.le_refl _)
    show ((uiN _ MX : Int) :: (rdK l.length (uiS _ MX)).1, (rdK l.length (uiS _ MX)).2) = _
    rw [r2, r1, rdK_full l t fun y hy => h y (List.mem_cons_of_mem _ hy)]
/-- One number more. -/
theorem rdK_more {n i : Nat} {st0 st st' : RS} {l : List Int} {x : Nat} (h : rdK n st0 = (l ++ (rdK (n - i) st).1, (rdK (n - i) st).2)) (hi : i < n) (h1 : uiN st MX = x) (h2 : uiS st MX = st') : rdK n st0 = (l ++ [(x : Int)] ++ (rdK (n - (i + 1)) st').1, (rdK (n - (i + 1)) st').2) := by
  obtain ⟨d, hd⟩ : ∃ d, n - i = d + 1 := ⟨n - i - 1, by omega⟩
  rw [h, hd, show n - (i + 1) = d by omega]
  subst h1 h2
  simp [rdK]
theorem rdK_end {n : Nat} {st0 st : RS} {l : List Int} (h : rdK n st0 = (l ++ (rdK (n - n) st).1, (rdK (n - n) st).2)) : rdK n st0 = (l, st) := by
  rw [h, Nat.sub_self]
  simp [rdK]
def mkJ (a : List Int) (s : List St) (b : List Int) : JS := ⟨a.getD 0 0, a.getD 1 0, a.getD 2 0, a.getD 3 0, a.getD 4 0, a.getD 5 0, a.getD 6 0, a.getD 7 0, a.getD 8 0, a.getD 9 0, a.getD 10 0, s, b.getD 0 0, b.getD 1 0, b.getD 2 0, b.getD 3 0⟩
def front (j : JS) : List Int := [j.id, j.kd, j.ow, j.dv, j.pb, j.ba, j.dr, j.rn, j.cp, j.tm, j.fe]
def back (j : JS) : List Int := [j.st, j.sr, j.en, j.lf]
def ints (j : JS) : List Int := front j ++ ([(j.s.length : Int)] ++ (intsS j.s ++ back j))
theorem mk_of (j : JS) : mkJ (front j) j.s (back j) = j := rfl
theorem front_mk {a : List Int} (h : a.length = 11) (s : List St) (b : List Int) : front (mkJ a s b) = a := by
  match a, h with
  | [a0, a1, a2, a3, a4, a5, a6, a7, a8, a9, a10], _ => rfl
theorem back_mk {b : List Int} (h : b.length = 4) (s : List St) (a : List Int) : back (mkJ a s b) = b := by
  match b, h with
  | [b0, b1, b2, b3], _ => rfl
/-- The job that stands there, as the document reads it. -/
def p1 (st : RS) : RS := (rdK 11 st).2
def p2 (st : RS) : RS := (nedP (uiN (p1 st) 8) (uiS (p1 st) 8)).2
def jobP (st : RS) : JS × RS := (mkJ (rdK 11 st).1 (nedP (uiN (p1 st) 8) (uiS (p1 st) 8)).1 (rdK 4 (p2 st)).1, (rdK 4 (p2 st)).2)
/-- .. as the program does. -/
def q2 (st : RS) : RS := (ltq stq 8 (p1 st)).2
def jobQ (st : RS) : JS × RS := (mkJ (rdK 11 st).1 (ltq stq 8 (p1 st)).1 (rdK 4 (q2 st)).1, (rdK 4 (q2 st)).2)
theorem jobP_sound (st : RS) {t : ByteArray} (h : (jobP st).2 = some t) : ∃ s, st = some s ∧ s = numsB (ints (jobP st).1) ++ t := by
  unfold jobP at h
  dsimp only at h
  obtain ⟨s4, e4, f4⟩ := rdK_sound 4 _ h
  obtain ⟨s3, e3, f3, l3⟩ := ned_sound _ _ e4
  obtain ⟨s2, e2, f2, _⟩ := ui_sound e3
  obtain ⟨s1, e1, f1⟩ := rdK_sound 11 _ e2
  refine ⟨s1, e1, ?_⟩
  unfold jobP ints
  simp only []
  rw [front_mk (rdK_len 11 st), back_mk (rdK_len 4 _)]
  show s1 = numsB ((rdK 11 st).1 ++ ([((nedP (uiN (p1 st) 8) (uiS (p1 st) 8)).1.length : Int)] ++ (intsS (nedP (uiN (p1 st) 8) (uiS (p1 st) 8)).1 ++ (rdK 4 (p2 st)).1))) ++ t
  rw [l3]
  conv => lhs; rw [f1, f2, f3, f4]
  simp only [numsB_append, numsB, append_assoc, append_nil]
theorem jobQ_sound (st : RS) {t : ByteArray} (h : (jobQ st).2 = some t) : ∃ s, st = some s ∧ s = numsB (ints (jobQ st).1) ++ t := by
  unfold jobQ at h
  dsimp only at h
  obtain ⟨s4, e4, f4⟩ := rdK_sound 4 _ h
  obtain ⟨s3, e3, f3⟩ := ltq_sound (f := fun t : St => [t.kind, t.qty]) (F := intsS) rfl (fun _ _ => rfl) st_sound e4
  obtain ⟨s1, e1, f1⟩ := rdK_sound 11 _ e3
  refine ⟨s1, e1, ?_⟩
  unfold jobQ ints
  simp only []
  rw [front_mk (rdK_len 11 st), back_mk (rdK_len 4 _)]
  show s1 = numsB ((rdK 11 st).1 ++ ([((ltq stq 8 (p1 st)).1.length : Int)] ++ (intsS (ltq stq 8 (p1 st)).1 ++ (rdK 4 (q2 st)).1))) ++ t
  conv => lhs; rw [f1, f3, f4]
  simp only [numsB_append, numsB, append_assoc, append_nil]
theorem ok_pos {j : JS} (h : Ok j) : (∀ x ∈ front j, Pos x) ∧ (∀ x ∈ back j, Pos x) ∧ j.s.length ≤ 8 ∧ ∀ x ∈ j.s, Pos x.kind ∧ Pos x.qty := by
  have ha := h.asked
  obtain ⟨i1, i2, i3, i4, i5, i6, i7, i8, i9, i10, i11⟩ := ha
  obtain ⟨l0, l1, l2, l3⟩ := h.locks.2
  have hcp : 0 ≤ j.cp ∧ j.cp ≤ 10 := by
    by_cases e : j.kd = 4
    · have := i10.1 e
      omega
    · have := i10.2 e
      omega
  have hb := ok_bounds h
  have hst : 0 ≤ j.st ∧ j.st ≤ 6 ∧ 0 ≤ j.sr ∧ j.sr ≤ 1099511627776 := by
    rcases h.stands with ⟨_, k⟩ | ⟨_, k⟩ | ⟨_, k⟩ | ⟨_, k⟩
    · obtain ⟨k1, k2, k3⟩ := k
      omega
    · obtain ⟨k1, k2, k3⟩ := k
      omega
    · obtain ⟨k1, k2, k3, k4⟩ := k
      omega
    · obtain ⟨k1, k2, k3⟩ := k
      omega
  refine ⟨fun x hx => ?_, fun x hx => ?_, l0, fun x hx => ?_⟩
  · simp [front] at hx
    unfold Pos
    rcases hx with rfl | rfl | rfl | rfl | rfl | rfl | rfl | rfl | rfl | rfl | rfl <;> omega
  · simp [back] at hx
    unfold Pos
    rcases hx with rfl | rfl | rfl | rfl <;> omega
  · obtain ⟨hf, _⟩ := Goods.errN_zero l1
    have hN := Goods.valN_le j.s x (by rw [Goods.valN_ok l1, l2]; exact hx)
    have a1 := (hf x hx)
    have a2 := l3 x hx
    unfold Goods.mq at hN
    unfold Pos
    have := a1.1
    have := a1.2
    omega
theorem job_bytes (j : JS) (t : ByteArray) : numsB (ints j) ++ t = numsB (front j) ++ (uintB (j.s.length : Int) ++ (numsB (intsS j.s) ++ (numsB (back j) ++ t))) := by
  unfold ints
  simp only [numsB_append, numsB_one, append_assoc]
theorem jobP_full (j : JS) (t : ByteArray) (h : Ok j) : jobP (some (numsB (ints j) ++ t)) = (j, some t) := by
  obtain ⟨h1, h2, h3, h4⟩ := ok_pos h
  rw [job_bytes]
  have q1 := rdK_full (front j) (uintB (j.s.length : Int) ++ (numsB (intsS j.s) ++ (numsB (back j) ++ t))) h1
  obtain ⟨c1, c2⟩ := Pen.ui_back j.s.length 8 (numsB (intsS j.s) ++ (numsB (back j) ++ t)) (by omega) (by omega)
  have q3 := ned_full j.s (numsB (back j) ++ t) h4
  have q4 := rdK_full (back j) t h2
  have e1 : (front j).length = 11 := rfl
  have e4 : (back j).length = 4 := rfl
  rw [e1] at q1
  rw [e4] at q4
  unfold jobP p2 p1
  rw [q1]
  simp only []
  rw [c1, c2, q3]
  simp only []
  rw [q4]
  rfl
theorem jobQ_full (j : JS) (t : ByteArray) (h : Ok j) : jobQ (some (numsB (ints j) ++ t)) = (j, some t) := by
  obtain ⟨h1, h2, h3, h4⟩ := ok_pos h
  rw [job_bytes]
  have q1 := rdK_full (front j) (uintB (j.s.length : Int) ++ (numsB (intsS j.s) ++ (numsB (back j) ++ t))) h1
  have q3 := ltq_full (one := stq) (f := fun t : St => [t.kind, t.qty]) (F := intsS) rfl (fun _ _ => rfl) j.s (numsB (back j) ++ t) 8 (fun x hx t => st_full x t (h4 x hx)) (fun x hx => numsB_cons_size (h4 x hx).1.1) (by omega) (by omega)
  have q4 := rdK_full (back j) t h2
  have e1 : (front j).length = 11 := rfl
  have e4 : (back j).length = 4 := rfl
  rw [e1] at q1
  rw [e4] at q4
  unfold jobQ q2 p1
  rw [q1]
  simp only []
  rw [q3]
  simp only []
  rw [q4]
  rfl
/-! the job of bytes -/
noncomputable def putE (j : JS) : Int := chk j
open Classical in
noncomputable def putV (j : JS) : ByteArray := if chk j = 0 then numsB (ints j) else ⟨#[]⟩
open Classical in
noncomputable def takV (s : ByteArray) : JS := if h : ∃ j, chk j = 0 ∧ numsB (ints j) = s then h.choose else zJ
open Classical in
noncomputable def takE (s : ByteArray) : Int := if ∃ j, chk j = 0 ∧ numsB (ints j) = s then 0 else 2
abbrev TakIs (f : RS → JS × RS) (s : ByteArray) : Prop := (((f (some s)).2 = some ⟨#[]⟩ ∧ chk (f (some s)).1 = 0) → takE s = 0 ∧ takV s = (f (some s)).1) ∧ (¬ ((f (some s)).2 = some ⟨#[]⟩ ∧ chk (f (some s)).1 = 0) → takE s = 2 ∧ takV s = zJ)
theorem tak_of {f : RS → JS × RS} (hs : ∀ (st : RS) {t : ByteArray}, (f st).2 = some t → ∃ s, st = some s ∧ s = numsB (ints (f st).1) ++ t) (hf : ∀ (j : JS) (t : ByteArray), Ok j → f (some (numsB (ints j) ++ t)) = (j, some t)) (s : ByteArray) :
    (((f (some s)).2 = some ⟨#[]⟩ ∧ chk (f (some s)).1 = 0) → takE s = 0 ∧ takV s = (f (some s)).1) ∧ (¬ ((f (some s)).2 = some ⟨#[]⟩ ∧ chk (f (some s)).1 = 0) → takE s = 2 ∧ takV s = zJ) := by
  constructor
  · rintro ⟨h1, h2⟩
    obtain ⟨s', e1, e2⟩ := hs _ h1
    injection e1 with e1
    rw [append_nil] at e2
    have he : ∃ j, chk j = 0 ∧ numsB (ints j) = s := ⟨_, h2, (e1.trans e2).symm⟩
    clear e1 e2
    refine ⟨by unfold takE; rw [if_pos he], ?_⟩
    unfold takV
    rw [dif_pos he]
    have hs := he.choose_spec
    have := hf he.choose ⟨#[]⟩ (chk_zero hs.1)
    rw [hs.2, append_nil] at this
    rw [this]
  · intro h
    have he : ¬ ∃ j, chk j = 0 ∧ numsB (ints j) = s := by
      rintro ⟨j, hc, hs⟩
      have := hf j ⟨#[]⟩ (chk_zero hc)
      rw [hs, append_nil] at this
      rw [this] at h
      exact h ⟨rfl, hc⟩
    exact ⟨by unfold takE; rw [if_neg he], by unfold takV; rw [dif_neg he]⟩
theorem tak_is (s : ByteArray) : TakIs jobP s := tak_of (f := jobP) jobP_sound jobP_full s
theorem takq_is (s : ByteArray) : TakIs jobQ s := tak_of (f := jobQ) jobQ_sound jobQ_full s
/-- What is put is taken as it was. -/
theorem tak_put {j : JS} (h : putE j = 0) : takE (putV j) = 0 ∧ takV (putV j) = j := by
  unfold putE at h
  have e : putV j = numsB (ints j) := by unfold putV; rw [if_pos h]
  have hf := jobP_full j ⟨#[]⟩ (chk_zero h)
  rw [append_nil] at hf
  have := (tak_is (putV j)).1 (by rw [e, hf]; exact ⟨rfl, h⟩)
  rw [e, hf] at this
  rw [e]
  exact this
/-- No other bytes lead there. -/
theorem put_tak {s : ByteArray} (h : takE s = 0) : putE (takV s) = 0 ∧ putV (takV s) = s := by
  by_cases he : ∃ j, chk j = 0 ∧ numsB (ints j) = s
  · have hs := he.choose_spec
    have e : takV s = he.choose := by unfold takV; rw [dif_pos he]
    rw [e]
    refine ⟨hs.1, ?_⟩
    unfold putV
    rw [if_pos hs.1]
    exact hs.2
  · unfold takE at h
    rw [if_neg he] at h
    omega
theorem put_yes {j : JS} (h : chk j = 0) : putV j = numsB (ints j) ∧ putE j = 0 := ⟨by unfold putV; rw [if_pos h], h⟩
theorem put_no {j : JS} (h : ¬ chk j = 0) : putV j = ⟨#[]⟩ ∧ putE j = chk j := ⟨by unfold putV; rw [if_neg h], rfl⟩
end Go.Proofs.Ytghlgmlelipjfaa.Job
