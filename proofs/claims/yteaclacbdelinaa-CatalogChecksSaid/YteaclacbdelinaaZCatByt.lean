/- Catalogues: their bytes, the catalogue of bytes; said without a program. -/
import Derived.Test.YteaclacbdelinaaZCatMath
import Derived.Test.YteaclacbdelinaaZPrMath
namespace Go.Proofs.Yteaclacbdelinaa.Cat
open Goods (St)
open Recipe (Bl)
open Graph (Nd)
open Pen (uiN uiS uintB)

/-! bytes -/
def numsB : List Int → ByteArray
  | [] => ⟨#[]⟩
  | x :: l => uintB x ++ numsB l
theorem numsB_append : ∀ (l k : List Int), numsB (l ++ k) = numsB l ++ numsB k
  | [], k => by rw [List.nil_append]; exact (nil_append _).symm
  | x :: l, k => by
    show uintB x ++ numsB (l ++ k) = uintB x ++ numsB l ++ numsB k
    rw [numsB_append l k, append_assoc]
theorem numsB_one (x : Int) : numsB [x] = uintB x := append_nil _
theorem numsB_size : ∀ l : List Int, (numsB l).size ≤ 10 * l.length
  | [] => Nat.zero_le _
  | x :: l => by
    have h1 := numsB_size l
    have h2 := Pen.uintB_size x
    show (uintB x ++ numsB l).size ≤ _
    rw [ByteArray.size_append, List.length_cons]
    omega
def intsS : List St → List Int
  | [] => []
  | t :: l => t.kind :: t.qty :: intsS l
def intsB (b : PB) : List Int := [b.ot, b.per, b.tm, (b.s.length : Int)] ++ (intsS b.s ++ [b.cp, b.st, b.mo])
def intsBs : List PB → List Int
  | [] => []
  | b :: l => intsB b ++ intsBs l
def intsY (y : Ba) : List Int := [y.pl, y.mf, y.lb, y.rt]
def intsYs : List Ba → List Int
  | [] => []
  | y :: l => intsY y ++ intsYs l
def intsF (C : Cat) : List Int := [C.ch, C.f.broker, C.f.least, C.f.sales]
def ints (C : Cat) : List Int := [C.ty, (C.bs.length : Int)] ++ (intsBs C.bs ++ ([C.pl, (C.ys.length : Int)] ++ (intsYs C.ys ++ intsF C)))
theorem intsS_append : ∀ (l k : List St), intsS (l ++ k) = intsS l ++ intsS k
  | [], _ => rfl
  | t :: l, k => by show t.kind :: t.qty :: intsS (l ++ k) = _; rw [intsS_append l k]; rfl
theorem intsBs_append : ∀ (l k : List PB), intsBs (l ++ k) = intsBs l ++ intsBs k
  | [], _ => rfl
  | t :: l, k => by show intsB t ++ intsBs (l ++ k) = _; rw [intsBs_append l k, ← List.append_assoc]; rfl
theorem intsYs_append : ∀ (l k : List Ba), intsYs (l ++ k) = intsYs l ++ intsYs k
  | [], _ => rfl
  | t :: l, k => by show intsY t ++ intsYs (l ++ k) = _; rw [intsYs_append l k, ← List.append_assoc]; rfl
theorem intsS_length : ∀ l : List St, (intsS l).length = 2 * l.length
  | [] => rfl
  | t :: l => by have := intsS_length l; simp [intsS]; omega
theorem intsBs_length : ∀ l : List PB, (∀ b ∈ l, b.s.length ≤ 8) → (intsBs l).length ≤ 23 * l.length
  | [], _ => Nat.le_refl _
  | b :: l, h => by
    have h1 := intsBs_length l fun x hx => h x (List.mem_cons_of_mem _ hx)
    have h2 := intsS_length b.s
    have h3 := h b (List.mem_cons_self ..)
    simp [intsBs, intsB]
    omega
theorem intsYs_length : ∀ l : List Ba, (intsYs l).length = 4 * l.length
  | [] => rfl
  | b :: l => by have := intsYs_length l; simp [intsYs, intsY]; omega
noncomputable def putE (C : Cat) : Int := chkC C
open Classical in
noncomputable def putV (C : Cat) : ByteArray := if chkC C = 0 then numsB (ints C) else ⟨#[]⟩
open Classical in
/-- The catalogue of bytes, if there is one. -/
noncomputable def takV (s : ByteArray) : Cat := if h : ∃ C, chkC C = 0 ∧ numsB (ints C) = s then h.choose else zCat
open Classical in
noncomputable def takE (s : ByteArray) : Int := if ∃ C, chkC C = 0 ∧ numsB (ints C) = s then 0 else 2
/-! reading -/
abbrev RS := Option ByteArray
abbrev MX : Int := 9223372036854775807
def nedP : Nat → RS → List St × RS
  | 0, st => ([], st)
  | k + 1, st => if st = none then ([], st) else (⟨uiN st MX, uiN (uiS st MX) MX⟩ :: (nedP k (uiS (uiS st MX) MX)).1, (nedP k (uiS (uiS st MX) MX)).2)
/-- The state behind so many numbers. -/
def ga (most : Int) (st : RS) : RS := uiS st most
def b4 (st : RS) : RS := uiS (uiS (uiS (uiS st MX) MX) MX) 8
def b5 (st : RS) : RS := (nedP (uiN (uiS (uiS (uiS st MX) MX) MX) 8) (b4 st)).2
def bluP (st : RS) : PB × RS :=
  (⟨uiN st MX, uiN (uiS st MX) MX, uiN (uiS (uiS st MX) MX) MX, (nedP (uiN (uiS (uiS (uiS st MX) MX) MX) 8) (b4 st)).1, uiN (b5 st) MX, uiN (uiS (b5 st) MX) MX, uiN (uiS (uiS (b5 st) MX) MX) MX⟩,
    uiS (uiS (uiS (b5 st) MX) MX) MX)
def blsP : Nat → RS → List PB × RS
  | 0, st => ([], st)
  | k + 1, st => if st = none then ([], st) else ((bluP st).1 :: (blsP k (bluP st).2).1, (blsP k (bluP st).2).2)
def bayP (st : RS) : Ba × RS := (⟨uiN st MX, uiN (uiS st MX) MX, uiN (uiS (uiS st MX) MX) MX, uiN (uiS (uiS (uiS st MX) MX) MX) MX⟩, uiS (uiS (uiS (uiS st MX) MX) MX) MX)
def baysP : Nat → RS → List Ba × RS
  | 0, st => ([], st)
  | k + 1, st => if st = none then ([], st) else ((bayP st).1 :: (baysP k (bayP st).2).1, (baysP k (bayP st).2).2)
def c1 (st : RS) : RS := uiS (uiS st MX) 16
def c2 (st : RS) : RS := (blsP (uiN (uiS st MX) 16) (c1 st)).2
def c3 (st : RS) : RS := uiS (uiS (c2 st) MX) 8
def c4 (st : RS) : RS := (baysP (uiN (uiS (c2 st) MX) 8) (c3 st)).2
def catP (st : RS) : Cat × RS :=
  (⟨uiN st MX, (blsP (uiN (uiS st MX) 16) (c1 st)).1, uiN (c2 st) MX, (baysP (uiN (uiS (c2 st) MX) 8) (c3 st)).1, uiN (c4 st) MX, ⟨uiN (uiS (c4 st) MX) MX, uiN (uiS (uiS (c4 st) MX) MX) MX, uiN (uiS (uiS (uiS (c4 st) MX) MX) MX) MX⟩⟩,
    uiS (uiS (uiS (uiS (c4 st) MX) MX) MX) MX)
/-- What is read was written by just these bytes. -/
theorem ui_sound {st : RS} {most : Int} {t : ByteArray} (h : uiS st most = some t) : ∃ s, st = some s ∧ s = uintB (uiN st most) ++ t ∧ (uiN st most : Int) ≤ most := by
  cases st with
  | none =>
    unfold uiS Pen.tkS at h
    split at h <;> simp at h
  | some s =>
    have hw := Pen.ui_wrote h
    refine ⟨s, rfl, ?_, ?_⟩
    · obtain ⟨h1, h2⟩ := hw
      by_cases hm : most < 0
      · unfold uiS at h
        rw [if_pos hm] at h
        simp at h
      · unfold uiS at h
        rw [if_neg hm] at h
        unfold Pen.tkS at h
        simp only [] at h
        split at h
        · simp at h
        · injection h with h
          rw [h1]
          have hk := (Pen.FK_le s).1
          have hts : t.size = s.size - Pen.FK s := by rw [← h, ByteArray.size_extract]; omega
          rw [hts, show s.size - (s.size - Pen.FK s) = Pen.FK s by omega, ← h]
          apply ByteArray.ext
          simp only [ByteArray.data_append, ByteArray.data_extract]
          rw [Array.extract_append_extract]
          rw [Nat.max_eq_right hk]
          simp
          exact (Array.extract_size (xs := s.data)).symm
    · unfold uiN
      split
      · rename_i hm
        unfold uiS at h
        rw [if_pos hm] at h
        simp at h
      · have := (Pen.tkN_le (some s) most.toNat).1
        omega
theorem ned_sound : ∀ (k : Nat) (st : RS) {t : ByteArray}, (nedP k st).2 = some t → ∃ s, st = some s ∧ s = numsB (intsS (nedP k st).1) ++ t ∧ (nedP k st).1.length = k
  | 0, st, t, h => ⟨t, h, (nil_append _).symm, rfl⟩
  | k + 1, st, t, h => by
    unfold nedP at h ⊢
    by_cases hn : st = none
    · rw [if_pos hn] at h
      rw [hn] at h
      simp at h
    · rw [if_neg hn] at h ⊢
      obtain ⟨s2, e2, f2, l2⟩ := ned_sound k _ h
      obtain ⟨s1, e1, f1, _⟩ := ui_sound e2
      obtain ⟨s0, e0, f0, _⟩ := ui_sound e1
      refine ⟨s0, e0, ?_, by simp [l2]⟩
      rw [f0, f1, f2]
      simp only [intsS, numsB, append_assoc]
theorem blu_sound (st : RS) {t : ByteArray} (h : (bluP st).2 = some t) : ∃ s, st = some s ∧ s = numsB (intsB (bluP st).1) ++ t := by
  unfold bluP at h
  dsimp only at h
  obtain ⟨s8, e8, f8, _⟩ := ui_sound h
  obtain ⟨s7, e7, f7, _⟩ := ui_sound e8
  obtain ⟨s6, e6, f6, _⟩ := ui_sound e7
  obtain ⟨s5, e5, f5, l5⟩ := ned_sound _ _ e6
  obtain ⟨s4, e4, f4, _⟩ := ui_sound e5
  obtain ⟨s3, e3, f3, _⟩ := ui_sound e4
  obtain ⟨s2, e2, f2, _⟩ := ui_sound e3
  obtain ⟨s1, e1, f1, _⟩ := ui_sound e2
  refine ⟨s1, e1, ?_⟩
  unfold bluP intsB
  simp only []
  rw [l5]
  conv => lhs; rw [f1, f2, f3, f4, f5, f6, f7, f8]
  simp only [numsB_append, numsB, append_assoc, append_nil]
theorem bls_sound : ∀ (k : Nat) (st : RS) {t : ByteArray}, (blsP k st).2 = some t → ∃ s, st = some s ∧ s = numsB (intsBs (blsP k st).1) ++ t ∧ (blsP k st).1.length = k
  | 0, st, t, h => ⟨t, h, (nil_append _).symm, rfl⟩
  | k + 1, st, t, h => by
    unfold blsP at h ⊢
    by_cases hn : st = none
    · rw [if_pos hn] at h
      rw [hn] at h
      simp at h
    · rw [if_neg hn] at h ⊢
      obtain ⟨s2, e2, f2, l2⟩ := bls_sound k _ h
      obtain ⟨s0, e0, f0⟩ := blu_sound st e2
      refine ⟨s0, e0, ?_, by simp [l2]⟩
      rw [f0, f2]
      simp only [intsBs, numsB_append, append_assoc]
theorem bay_sound (st : RS) {t : ByteArray} (h : (bayP st).2 = some t) : ∃ s, st = some s ∧ s = numsB (intsY (bayP st).1) ++ t := by
  unfold bayP at h
  dsimp only at h
  obtain ⟨s4, e4, f4, _⟩ := ui_sound h
  obtain ⟨s3, e3, f3, _⟩ := ui_sound e4
  obtain ⟨s2, e2, f2, _⟩ := ui_sound e3
  obtain ⟨s1, e1, f1, _⟩ := ui_sound e2
  refine ⟨s1, e1, ?_⟩
  unfold bayP intsY
  simp only []
  conv => lhs; rw [f1, f2, f3, f4]
  simp only [numsB, append_assoc, append_nil]
theorem bays_sound : ∀ (k : Nat) (st : RS) {t : ByteArray}, (baysP k st).2 = some t → ∃ s, st = some s ∧ s = numsB (intsYs (baysP k st).1) ++ t ∧ (baysP k st).1.length = k
  | 0, st, t, h => ⟨t, h, (nil_append _).symm, rfl⟩
  | k + 1, st, t, h => by
    unfold baysP at h ⊢
    by_cases hn : st = none
    · rw [if_pos hn] at h
      rw [hn] at h
      simp at h
    · rw [if_neg hn] at h ⊢
      obtain ⟨s2, e2, f2, l2⟩ := bays_sound k _ h
      obtain ⟨s0, e0, f0⟩ := bay_sound st e2
      refine ⟨s0, e0, ?_, by simp [l2]⟩
      rw [f0, f2]
      simp only [intsYs, numsB_append, append_assoc]
theorem cat_sound (st : RS) {t : ByteArray} (h : (catP st).2 = some t) : ∃ s, st = some s ∧ s = numsB (ints (catP st).1) ++ t := by
  unfold catP at h
  dsimp only at h
  obtain ⟨s8, e8, f8, _⟩ := ui_sound h
  obtain ⟨s7, e7, f7, _⟩ := ui_sound e8
  obtain ⟨s6, e6, f6, _⟩ := ui_sound e7
  obtain ⟨s5, e5, f5, _⟩ := ui_sound e6
  obtain ⟨sy, ey, fy, ly⟩ := bays_sound _ _ e5
  obtain ⟨s4, e4, f4, _⟩ := ui_sound ey
  obtain ⟨s3, e3, f3, _⟩ := ui_sound e4
  obtain ⟨sb, eb, fb, lb⟩ := bls_sound _ _ e3
  obtain ⟨s2, e2, f2, _⟩ := ui_sound eb
  obtain ⟨s1, e1, f1, _⟩ := ui_sound e2
  refine ⟨s1, e1, ?_⟩
  unfold catP ints intsF
  simp only []
  rw [ly, lb]
  conv => lhs; rw [f1, f2, fb, f3, f4, fy, f5, f6, f7, f8]
  simp only [numsB_append, numsB, append_assoc, append_nil]
/-- What was written is read again. -/
theorem ui_full {n most : Int} {rest : ByteArray} (h0 : 0 ≤ n) (h1 : n ≤ most) (hm : most ≤ 9223372036854775807) : (uiN (some (uintB n ++ rest)) most : Int) = n ∧ uiS (some (uintB n ++ rest)) most = some rest := by
  obtain ⟨m, rfl⟩ := Int.eq_ofNat_of_zero_le h0
  obtain ⟨r1, r2⟩ := Pen.ui_back m most rest h1 hm
  exact ⟨by rw [r1], r2⟩
def Pos (x : Int) : Prop := 0 ≤ x ∧ x ≤ 9223372036854775807
theorem ned_full : ∀ (l : List St) (t : ByteArray), (∀ x ∈ l, Pos x.kind ∧ Pos x.qty) → nedP l.length (some (numsB (intsS l) ++ t)) = (l, some t)
  | [], t, _ => by show ([], some ((⟨#[]⟩ : ByteArray) ++ t)) = _; rw [nil_append]
  | x :: l, t, h => by
    obtain ⟨⟨a0, a1⟩, b0, b1⟩ := h x (List.mem_cons_self ..)
    have e : numsB (intsS (x :: l)) ++ t = uintB x.kind ++ (uintB x.qty ++ (numsB (intsS l) ++ t)) := by simp only [intsS, numsB, append_assoc]
    rw [e]
    obtain ⟨r1, r2⟩ := ui_full (rest := uintB x.qty ++ (numsB (intsS l) ++ t)) a0 a1 (Int.le_refl _)
    obtain ⟨r3, r4⟩ := ui_full (rest := numsB (intsS l) ++ t) b0 b1 (Int.le_refl _)
    show nedP (l.length + 1) _ = _
    unfold nedP
    rw [if_neg (by simp), r2, r4, ned_full l t fun y hy => h y (List.mem_cons_of_mem _ hy), r1, r3]
def PosB (b : PB) : Prop := Pos b.ot ∧ Pos b.per ∧ Pos b.tm ∧ Pos b.cp ∧ Pos b.st ∧ Pos b.mo ∧ b.s.length ≤ 8 ∧ ∀ x ∈ b.s, Pos x.kind ∧ Pos x.qty
theorem blu_full (b : PB) (t : ByteArray) (h : PosB b) : bluP (some (numsB (intsB b) ++ t)) = (b, some t) := by
  obtain ⟨h1, h2, h3, h4, h5, h6, h7, h8⟩ := h
  have e : numsB (intsB b) ++ t = uintB b.ot ++ (uintB b.per ++ (uintB b.tm ++ (uintB (b.s.length : Int) ++ (numsB (intsS b.s) ++ (uintB b.cp ++ (uintB b.st ++ (uintB b.mo ++ t))))))) := by
    simp only [intsB, numsB_append, numsB, append_assoc, append_nil]
  rw [e]
  obtain ⟨p1, q1⟩ := ui_full (rest := uintB b.per ++ (uintB b.tm ++ (uintB (b.s.length : Int) ++ (numsB (intsS b.s) ++ (uintB b.cp ++ (uintB b.st ++ (uintB b.mo ++ t))))))) h1.1 h1.2 (Int.le_refl _)
  obtain ⟨p2, q2⟩ := ui_full (rest := uintB b.tm ++ (uintB (b.s.length : Int) ++ (numsB (intsS b.s) ++ (uintB b.cp ++ (uintB b.st ++ (uintB b.mo ++ t)))))) h2.1 h2.2 (Int.le_refl _)
  obtain ⟨p3, q3⟩ := ui_full (rest := uintB (b.s.length : Int) ++ (numsB (intsS b.s) ++ (uintB b.cp ++ (uintB b.st ++ (uintB b.mo ++ t))))) h3.1 h3.2 (Int.le_refl _)
  obtain ⟨p4, q4⟩ := Pen.ui_back b.s.length 8 (numsB (intsS b.s) ++ (uintB b.cp ++ (uintB b.st ++ (uintB b.mo ++ t)))) (by omega) (by omega)
  have q5 := ned_full b.s (uintB b.cp ++ (uintB b.st ++ (uintB b.mo ++ t))) h8
  obtain ⟨p6, q6⟩ := ui_full (rest := uintB b.st ++ (uintB b.mo ++ t)) h4.1 h4.2 (Int.le_refl _)
  obtain ⟨p7, q7⟩ := ui_full (rest := uintB b.mo ++ t) h5.1 h5.2 (Int.le_refl _)
  obtain ⟨p8, q8⟩ := ui_full (rest := t) h6.1 h6.2 (Int.le_refl _)
  unfold bluP b5 b4
  rw [q1, q2, q3, q4, p4, q5]
  simp only [q6, q7, q8, p1, p2, p3, p6, p7, p8]
theorem bls_full : ∀ (l : List PB) (t : ByteArray), (∀ x ∈ l, PosB x) → blsP l.length (some (numsB (intsBs l) ++ t)) = (l, some t)
  | [], t, _ => by show ([], some ((⟨#[]⟩ : ByteArray) ++ t)) = _; rw [nil_append]
  | x :: l, t, h => by
    have e : numsB (intsBs (x :: l)) ++ t = numsB (intsB x) ++ (numsB (intsBs l) ++ t) := by simp only [intsBs, numsB_append, append_assoc]
    rw [e]
    show blsP (l.length + 1) _ = _
    unfold blsP
    rw [if_neg (by simp), blu_full x _ (h x (List.mem_cons_self ..)), bls_full l t fun y hy => h y (List.mem_cons_of_mem _ hy)]
def PosY (y : Ba) : Prop := Pos y.pl ∧ Pos y.mf ∧ Pos y.lb ∧ Pos y.rt
theorem bay_full (y : Ba) (t : ByteArray) (h : PosY y) : bayP (some (numsB (intsY y) ++ t)) = (y, some t) := by
  obtain ⟨h1, h2, h3, h4⟩ := h
  have e : numsB (intsY y) ++ t = uintB y.pl ++ (uintB y.mf ++ (uintB y.lb ++ (uintB y.rt ++ t))) := by simp only [intsY, numsB, append_assoc, append_nil]
  rw [e]
  obtain ⟨p1, q1⟩ := ui_full (rest := uintB y.mf ++ (uintB y.lb ++ (uintB y.rt ++ t))) h1.1 h1.2 (Int.le_refl _)
  obtain ⟨p2, q2⟩ := ui_full (rest := uintB y.lb ++ (uintB y.rt ++ t)) h2.1 h2.2 (Int.le_refl _)
  obtain ⟨p3, q3⟩ := ui_full (rest := uintB y.rt ++ t) h3.1 h3.2 (Int.le_refl _)
  obtain ⟨p4, q4⟩ := ui_full (rest := t) h4.1 h4.2 (Int.le_refl _)
  unfold bayP
  simp only [q1, q2, q3, q4, p1, p2, p3, p4]
theorem bays_full : ∀ (l : List Ba) (t : ByteArray), (∀ x ∈ l, PosY x) → baysP l.length (some (numsB (intsYs l) ++ t)) = (l, some t)
  | [], t, _ => by show ([], some ((⟨#[]⟩ : ByteArray) ++ t)) = _; rw [nil_append]
  | x :: l, t, h => by
    have e : numsB (intsYs (x :: l)) ++ t = numsB (intsY x) ++ (numsB (intsYs l) ++ t) := by simp only [intsYs, numsB_append, append_assoc]
    rw [e]
    show baysP (l.length + 1) _ = _
    unfold baysP
    rw [if_neg (by simp), bay_full x _ (h x (List.mem_cons_self ..)), bays_full l t fun y hy => h y (List.mem_cons_of_mem _ hy)]
theorem ok_pos {C : Cat} (h : CatOk C) : Pos C.ty ∧ (∀ b ∈ C.bs, PosB b) ∧ Pos C.pl ∧ (∀ y ∈ C.ys, PosY y) ∧ Pos C.ch ∧ Pos C.f.broker ∧ Pos C.f.least ∧ Pos C.f.sales := by
  obtain ⟨⟨h1, h2, h3, _, _, h6⟩, h7, h8⟩ := h
  unfold Fee.FeeOk at h6
  have hq : Recipe.mq ≤ 9223372036854775807 := by unfold Recipe.mq; omega
  refine ⟨⟨by omega, by omega⟩, fun b hb => ?_, ⟨by omega, by omega⟩, fun y hy => ?_, ⟨by omega, by omega⟩, ⟨by omega, by omega⟩, ⟨by omega, by omega⟩, ⟨by omega, by omega⟩⟩
  · have hk := h7 b hb
    have hqs := Recipe.ok_qty hk
    obtain ⟨k0, k1, k2, k3, k4, k5, k6, ⟨l0, l1, l2, l3⟩, _⟩ := hk
    obtain ⟨hf, _⟩ := Goods.errN_zero l1
    have k1' : 1 ≤ b.ot ∧ b.ot ≤ C.ty := k1
    have k2' : 1 ≤ b.per ∧ b.per ≤ 1048576 := k2
    have k3' : 1 ≤ b.tm ∧ b.tm ≤ 1048576 := k3
    have k4' : 0 ≤ b.cp ∧ b.cp ≤ 1048576 := k4
    have k5' : 0 ≤ b.st ∧ b.st ≤ 1048576 := k5
    have k6' : 1 ≤ b.mo ∧ b.mo ≤ 1000 := k6
    refine ⟨⟨by omega, by omega⟩, ⟨by omega, by omega⟩, ⟨by omega, by omega⟩, ⟨by omega, by omega⟩, ⟨by omega, by omega⟩, ⟨by omega, by omega⟩, l0, fun x hx => ?_⟩
    have a1 := (hf x hx).1
    have a2 := l3 x hx
    have a3 := hqs x hx
    exact ⟨⟨by omega, by omega⟩, by omega, by omega⟩
  · obtain ⟨y1, y2, y3, y4⟩ := h8 y hy
    exact ⟨⟨by omega, by omega⟩, ⟨by omega, by omega⟩, ⟨by omega, by omega⟩, by omega, by omega⟩
theorem cat_full (C : Cat) (t : ByteArray) (hk : CatOk C) : catP (some (numsB (ints C) ++ t)) = (C, some t) := by
  obtain ⟨h1, h2, h3, h4, h5, h6, h7, h8⟩ := ok_pos hk
  have hb := hk.1.2.2.2.1
  have hy := hk.1.2.2.2.2.1
  have e : numsB (ints C) ++ t = uintB C.ty ++ (uintB (C.bs.length : Int) ++ (numsB (intsBs C.bs) ++ (uintB C.pl ++ (uintB (C.ys.length : Int) ++ (numsB (intsYs C.ys) ++ (uintB C.ch ++ (uintB C.f.broker ++ (uintB C.f.least ++ (uintB C.f.sales ++ t))))))))) := by
    simp only [ints, intsF, numsB_append, numsB, append_assoc, append_nil]
  obtain ⟨R9, hR9⟩ : ∃ R, uintB C.f.sales ++ t = R := ⟨_, rfl⟩
  rw [hR9] at e
  obtain ⟨R8, hR8⟩ : ∃ R, uintB C.f.least ++ R9 = R := ⟨_, rfl⟩
  rw [hR8] at e
  obtain ⟨R7, hR7⟩ : ∃ R, uintB C.f.broker ++ R8 = R := ⟨_, rfl⟩
  rw [hR7] at e
  obtain ⟨R6, hR6⟩ : ∃ R, uintB C.ch ++ R7 = R := ⟨_, rfl⟩
  rw [hR6] at e
  obtain ⟨R5, hR5⟩ : ∃ R, numsB (intsYs C.ys) ++ R6 = R := ⟨_, rfl⟩
  rw [hR5] at e
  obtain ⟨R4, hR4⟩ : ∃ R, uintB (C.ys.length : Int) ++ R5 = R := ⟨_, rfl⟩
  rw [hR4] at e
  obtain ⟨R3, hR3⟩ : ∃ R, uintB C.pl ++ R4 = R := ⟨_, rfl⟩
  rw [hR3] at e
  obtain ⟨R2, hR2⟩ : ∃ R, numsB (intsBs C.bs) ++ R3 = R := ⟨_, rfl⟩
  rw [hR2] at e
  obtain ⟨R1, hR1⟩ : ∃ R, uintB (C.bs.length : Int) ++ R2 = R := ⟨_, rfl⟩
  rw [hR1] at e
  obtain ⟨R0, hR0⟩ : ∃ R, uintB C.ty ++ R1 = R := ⟨_, rfl⟩
  rw [hR0] at e
  rw [e]
  obtain ⟨p1, q1⟩ := ui_full (rest := R1) h1.1 h1.2 (Int.le_refl _)
  rw [hR0] at p1 q1
  obtain ⟨p4, q4⟩ := ui_full (rest := R4) h3.1 h3.2 (Int.le_refl _)
  rw [hR3] at p4 q4
  obtain ⟨p7, q7⟩ := ui_full (rest := R7) h5.1 h5.2 (Int.le_refl _)
  rw [hR6] at p7 q7
  obtain ⟨p8, q8⟩ := ui_full (rest := R8) h6.1 h6.2 (Int.le_refl _)
  rw [hR7] at p8 q8
  obtain ⟨p9, q9⟩ := ui_full (rest := R9) h7.1 h7.2 (Int.le_refl _)
  rw [hR8] at p9 q9
  obtain ⟨pa, qa⟩ := ui_full (rest := t) h8.1 h8.2 (Int.le_refl _)
  rw [hR9] at pa qa
  obtain ⟨p2, q2⟩ := Pen.ui_back C.bs.length 16 R2 (by omega) (by omega)
  rw [hR1] at p2 q2
  obtain ⟨p5, q5⟩ := Pen.ui_back C.ys.length 8 R5 (by omega) (by omega)
  rw [hR4] at p5 q5
  have q3 := bls_full C.bs R3 h2
  rw [hR2] at q3
  have q6 := bays_full C.ys R6 h4
  rw [hR5] at q6
  clear e hR0 hR1 hR2 hR3 hR4 hR5 hR6 hR7 hR8 hR9
  have d1 : c1 (some R0) = some R2 := by unfold c1; rw [q1, q2]
  have d2 : c2 (some R0) = some R3 := by unfold c2; rw [d1, q1, p2, q3]
  have d3 : c3 (some R0) = some R5 := by unfold c3; rw [d2, q4, q5]
  have d4 : c4 (some R0) = some R6 := by unfold c4; rw [d3, d2, q4, p5, q6]
  unfold catP
  rw [d1, d2, d3, d4, q1, p2, q3, q4, p5, q6, q7, q8, q9, qa, p1, p4, p7, p8, p9, pa]
/-- The catalogue of bytes is what is read of them, if that is a catalogue and nothing is left. -/
theorem tak_is (s : ByteArray) : (((catP (some s)).2 = some ⟨#[]⟩ ∧ chkC (catP (some s)).1 = 0) → takE s = 0 ∧ takV s = (catP (some s)).1) ∧ (¬ ((catP (some s)).2 = some ⟨#[]⟩ ∧ chkC (catP (some s)).1 = 0) → takE s = 2 ∧ takV s = zCat) := by
  constructor
  · rintro ⟨h1, h2⟩
    obtain ⟨s', e1, e2⟩ := cat_sound _ h1
    injection e1 with e1
    rw [append_nil] at e2
    have he : ∃ C, chkC C = 0 ∧ numsB (ints C) = s := ⟨_, h2, (e1.trans e2).symm⟩
    clear e1 e2
    refine ⟨by unfold takE; rw [if_pos he], ?_⟩
    unfold takV
    rw [dif_pos he]
    have hs := he.choose_spec
    have := cat_full he.choose ⟨#[]⟩ (chk_zero hs.1)
    rw [hs.2, append_nil] at this
    rw [this]
  · intro h
    have he : ¬ ∃ C, chkC C = 0 ∧ numsB (ints C) = s := by
      rintro ⟨C, hc, hs⟩
      have := cat_full C ⟨#[]⟩ (chk_zero hc)
      rw [hs, append_nil] at this
      rw [this] at h
      exact h ⟨rfl, hc⟩
    exact ⟨by unfold takE; rw [if_neg he], by unfold takV; rw [dif_neg he]⟩
/-- What is put is taken as it was. -/
theorem tak_put {C : Cat} (h : putE C = 0) : takE (putV C) = 0 ∧ takV (putV C) = C := by
  unfold putE at h
  have e : putV C = numsB (ints C) := by unfold putV; rw [if_pos h]
  have hf := cat_full C ⟨#[]⟩ (chk_zero h)
  rw [append_nil] at hf
  have := (tak_is (putV C)).1 (by rw [e, hf]; exact ⟨rfl, h⟩)
  rw [e, hf] at this
  rw [e]
  exact this
/-- No other bytes lead there. -/
theorem put_tak {s : ByteArray} (h : takE s = 0) : putE (takV s) = 0 ∧ putV (takV s) = s := by
  by_cases he : ∃ C, chkC C = 0 ∧ numsB (ints C) = s
  · have hs := he.choose_spec
    have e : takV s = he.choose := by unfold takV; rw [dif_pos he]
    rw [e]
    refine ⟨hs.1, ?_⟩
    unfold putV
    rw [if_pos hs.1]
    exact hs.2
  · unfold takE at h
    rw [if_neg he] at h
    omega
end Go.Proofs.Yteaclacbdelinaa.Cat
