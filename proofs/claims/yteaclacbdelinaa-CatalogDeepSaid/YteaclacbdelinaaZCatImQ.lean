/- How the program reads a catalogue, said without a program: each list is at most as long as bytes are left. -/
import Derived.Test.YteaclacbdelinaaZCatByt
namespace Go.Proofs.Yteaclacbdelinaa.Cat.Im
open Goods (St)
open Pen (uiN uiS tmN tmS uintB)

/-- So many, one behind the other. -/
def lsq {α : Type} (one : RS → α × RS) : Nat → RS → List α × RS
  | 0, st => ([], st)
  | k + 1, st => ((one st).1 :: (lsq one k (one st).2).1, (lsq one k (one st).2).2)
def ltq {α : Type} (one : RS → α × RS) (most : Int) (st : RS) : List α × RS := lsq one (tmN st most) (tmS st most)
theorem lsq_len {α : Type} (one : RS → α × RS) : ∀ (k : Nat) (st : RS), (lsq one k st).1.length = k
  | 0, _ => rfl
  | k + 1, st => by
    show ((lsq one k (one st).2).1).length + 1 = k + 1
    rw [lsq_len one k]
/-- .. the first of them, and what comes behind. -/
theorem lsq_more {α : Type} {one : RS → α × RS} {n i : Nat} {st0 st st' : RS} {l : List α} {x : α} (h : lsq one n st0 = (l ++ (lsq one (n - i) st).1, (lsq one (n - i) st).2)) (hi : i < n) (h1 : (one st).1 = x) (h2 : (one st).2 = st') : lsq one n st0 = (l ++ [x] ++ (lsq one (n - (i + 1)) st').1, (lsq one (n - (i + 1)) st').2) := by
  obtain ⟨d, hd⟩ : ∃ d, n - i = d + 1 := ⟨n - i - 1, by omega⟩
  rw [h, hd, show n - (i + 1) = d by omega]
  subst h1 h2
  simp [lsq]
theorem lsq_end {α : Type} {one : RS → α × RS} {n : Nat} {st0 st : RS} {l : List α} (h : lsq one n st0 = (l ++ (lsq one (n - n) st).1, (lsq one (n - n) st).2)) : lsq one n st0 = (l, st) := by
  rw [h, Nat.sub_self]
  simp [lsq]
def stq (st : RS) : St × RS := (⟨uiN st MX, uiN (uiS st MX) MX⟩, uiS (uiS st MX) MX)
def u3 (st : RS) : RS := uiS (uiS (uiS st MX) MX) MX
def u4 (st : RS) : RS := (ltq stq 8 (u3 st)).2
def bluq (st : RS) : PB × RS := (⟨uiN st MX, uiN (uiS st MX) MX, uiN (uiS (uiS st MX) MX) MX, (ltq stq 8 (u3 st)).1, uiN (u4 st) MX, uiN (uiS (u4 st) MX) MX, uiN (uiS (uiS (u4 st) MX) MX) MX⟩, uiS (uiS (uiS (u4 st) MX) MX) MX)
def d1 (st : RS) : RS := (ltq bluq 16 (uiS st MX)).2
def d2 (st : RS) : RS := (ltq bayP 8 (uiS (d1 st) MX)).2
def catq (st : RS) : Cat × RS := (⟨uiN st MX, (ltq bluq 16 (uiS st MX)).1, uiN (d1 st) MX, (ltq bayP 8 (uiS (d1 st) MX)).1, uiN (d2 st) MX, ⟨uiN (uiS (d2 st) MX) MX, uiN (uiS (uiS (d2 st) MX) MX) MX, uiN (uiS (uiS (uiS (d2 st) MX) MX) MX) MX⟩⟩, uiS (uiS (uiS (uiS (d2 st) MX) MX) MX) MX)
theorem blu_of {st t1 t2 t3 t4 t5 t6 t7 : RS} {ot per tm cp sd mo : Nat} {l : List St} (h1 : uiN st MX = ot) (k1 : uiS st MX = t1) (h2 : uiN t1 MX = per) (k2 : uiS t1 MX = t2) (h3 : uiN t2 MX = tm) (k3 : uiS t2 MX = t3) (hl : ltq stq 8 t3 = (l, t4)) (h5 : uiN t4 MX = cp) (k5 : uiS t4 MX = t5) (h6 : uiN t5 MX = sd) (k6 : uiS t5 MX = t6) (h7 : uiN t6 MX = mo) (k7 : uiS t6 MX = t7) : bluq st = (⟨ot, per, tm, l, cp, sd, mo⟩, t7) := by
  subst h1 k1 h2 k2 h3 k3 h5 k5 h6 k6 h7 k7
  unfold bluq u4 u3
  rw [hl]
theorem cat_of {st t1 t2 t3 t4 t5 t6 t7 t8 : RS} {ty pl ch f0 f1 f2 : Nat} {bs : List PB} {ys : List Ba} (h1 : uiN st MX = ty) (k1 : uiS st MX = t1) (hb : ltq bluq 16 t1 = (bs, t2)) (h3 : uiN t2 MX = pl) (k3 : uiS t2 MX = t3) (hy : ltq bayP 8 t3 = (ys, t4)) (h5 : uiN t4 MX = ch) (k5 : uiS t4 MX = t5) (h6 : uiN t5 MX = f0) (k6 : uiS t5 MX = t6) (h7 : uiN t6 MX = f1) (k7 : uiS t6 MX = t7) (h8 : uiN t7 MX = f2) (k8 : uiS t7 MX = t8) : catq st = (⟨ty, bs, pl, ys, ch, ⟨f0, f1, f2⟩⟩, t8) := by
  subst h1 k1
  have e1 : d1 st = t2 := by unfold d1; rw [hb]
  subst h3 k3
  have e2 : d2 st = t4 := by unfold d2; rw [e1, hy]
  subst h5 k5 h6 k6 h7 k7 h8 k8
  unfold catq
  rw [e1, e2, hb, hy]
/-! what is read was written by just these bytes -/
theorem lsq_sound {α : Type} {one : RS → α × RS} {f : α → List Int} {F : List α → List Int} (h0 : F [] = []) (hF : ∀ x l, F (x :: l) = f x ++ F l) (hone : ∀ st t, (one st).2 = some t → ∃ s, st = some s ∧ s = numsB (f (one st).1) ++ t) :
    ∀ (k : Nat) (st : RS) {t : ByteArray}, (lsq one k st).2 = some t → ∃ s, st = some s ∧ s = numsB (F (lsq one k st).1) ++ t
  | 0, st, t, h => ⟨t, h, by show t = numsB (F []) ++ t; rw [h0]; exact (nil_append _).symm⟩
  | k + 1, st, t, h => by
    obtain ⟨s2, e2, f2⟩ := lsq_sound h0 hF hone k _ h
    obtain ⟨s0, e0, f0⟩ := hone st s2 e2
    refine ⟨s0, e0, ?_⟩
    show s0 = numsB (F ((one st).1 :: (lsq one k (one st).2).1)) ++ t
    rw [f0, f2, hF, numsB_append, append_assoc]
theorem tm_sound {st : RS} {most : Int} {t : ByteArray} (h : tmS st most = some t) : ∃ s, st = some s ∧ s = uintB (tmN st most) ++ t := by
  have e : uiS st most = some t ∧ tmN st most = uiN st most := by
    unfold tmS at h
    unfold tmN
    split at h
    · simp at h
    · rename_i hc
      rw [if_neg hc]
      exact ⟨h, rfl⟩
  obtain ⟨s, e1, e2, _⟩ := ui_sound e.1
  rw [e.2]
  exact ⟨s, e1, e2⟩
theorem ltq_sound {α : Type} {one : RS → α × RS} {f : α → List Int} {F : List α → List Int} (h0 : F [] = []) (hF : ∀ x l, F (x :: l) = f x ++ F l) (hone : ∀ st t, (one st).2 = some t → ∃ s, st = some s ∧ s = numsB (f (one st).1) ++ t) {most : Int} {st : RS} {t : ByteArray} (h : (ltq one most st).2 = some t) :
    ∃ s, st = some s ∧ s = uintB ((ltq one most st).1.length : Int) ++ (numsB (F (ltq one most st).1) ++ t) := by
  obtain ⟨s2, e2, f2⟩ := lsq_sound h0 hF hone _ _ h
  obtain ⟨s1, e1, f1⟩ := tm_sound e2
  refine ⟨s1, e1, ?_⟩
  have hl : (ltq one most st).1.length = tmN st most := lsq_len one _ _
  rw [hl, f1, f2]
  rfl
theorem st_sound (st : RS) (t : ByteArray) (h : (stq st).2 = some t) : ∃ s, st = some s ∧ s = numsB ([(stq st).1.kind, (stq st).1.qty]) ++ t := by
  unfold stq at h
  dsimp only at h
  obtain ⟨s2, e2, f2, _⟩ := ui_sound h
  obtain ⟨s1, e1, f1, _⟩ := ui_sound e2
  refine ⟨s1, e1, ?_⟩
  unfold stq
  simp only []
  conv => lhs; rw [f1, f2]
  simp only [numsB, append_assoc, append_nil]
theorem bluq_sound (st : RS) (t : ByteArray) (h : (bluq st).2 = some t) : ∃ s, st = some s ∧ s = numsB (intsB (bluq st).1) ++ t := by
  unfold bluq at h
  dsimp only at h
  obtain ⟨s7, e7, f7, _⟩ := ui_sound h
  obtain ⟨s6, e6, f6, _⟩ := ui_sound e7
  obtain ⟨s5, e5, f5, _⟩ := ui_sound e6
  obtain ⟨s4, e4, f4⟩ := ltq_sound (f := fun t : St => [t.kind, t.qty]) (F := intsS) rfl (fun _ _ => rfl) st_sound e5
  obtain ⟨s3, e3, f3, _⟩ := ui_sound e4
  obtain ⟨s2, e2, f2, _⟩ := ui_sound e3
  obtain ⟨s1, e1, f1, _⟩ := ui_sound e2
  refine ⟨s1, e1, ?_⟩
  unfold bluq intsB
  simp only []
  conv => lhs; rw [f1, f2, f3, f4, f5, f6, f7]
  simp only [numsB_append, numsB, append_assoc, append_nil]
theorem catq_sound (st : RS) {t : ByteArray} (h : (catq st).2 = some t) : ∃ s, st = some s ∧ s = numsB (ints (catq st).1) ++ t := by
  unfold catq at h
  dsimp only at h
  obtain ⟨s8, e8, f8, _⟩ := ui_sound h
  obtain ⟨s7, e7, f7, _⟩ := ui_sound e8
  obtain ⟨s6, e6, f6, _⟩ := ui_sound e7
  obtain ⟨s5, e5, f5, _⟩ := ui_sound e6
  obtain ⟨s4, e4, f4⟩ := ltq_sound (f := intsY) (F := intsYs) rfl (fun _ _ => rfl) (fun st t => bay_sound st) e5
  obtain ⟨s3, e3, f3, _⟩ := ui_sound e4
  obtain ⟨s2, e2, f2⟩ := ltq_sound (f := intsB) (F := intsBs) rfl (fun _ _ => rfl) bluq_sound e3
  obtain ⟨s1, e1, f1, _⟩ := ui_sound e2
  refine ⟨s1, e1, ?_⟩
  unfold catq ints intsF
  simp only []
  conv => lhs; rw [f1, f2, f3, f4, f5, f6, f7, f8]
  simp only [numsB_append, numsB, append_assoc, append_nil]
/-! what was written is read again -/
theorem uintB_one {n : Int} (h : 0 ≤ n) : 1 ≤ (uintB n).size := by
  obtain ⟨m, rfl⟩ := Int.eq_ofNat_of_zero_le h
  rw [Pen.uintB_nat]
  exact (Pen.wordB_size m).1
theorem tm_full {n : Nat} {most : Int} {rest : ByteArray} (h1 : (n : Int) ≤ most) (hm : most ≤ 9223372036854775807) (hr : n ≤ rest.size) : tmN (some (uintB (n : Int) ++ rest)) most = n ∧ tmS (some (uintB (n : Int) ++ rest)) most = some rest := by
  obtain ⟨p, q⟩ := Pen.ui_back n most rest h1 hm
  have hc : ¬ Pen.leftOf (uiS (some (uintB (n : Int) ++ rest)) most) < (uiN (some (uintB (n : Int) ++ rest)) most : Int) := by
    rw [p, q]
    show ¬ ((rest.size : Int) < (n : Int))
    omega
  unfold tmN tmS
  rw [if_neg hc, if_neg hc]
  exact ⟨p, q⟩
theorem lsq_full {α : Type} {one : RS → α × RS} {f : α → List Int} {F : List α → List Int} (h0 : F [] = []) (hF : ∀ x l, F (x :: l) = f x ++ F l) :
    ∀ (l : List α) (t : ByteArray), (∀ x ∈ l, ∀ t, one (some (numsB (f x) ++ t)) = (x, some t)) → lsq one l.length (some (numsB (F l) ++ t)) = (l, some t)
  | [], t, _ => by
    rw [h0]
    show ([], some ((⟨#[]⟩ : ByteArray) ++ t)) = _
    rw [nil_append]
  | x :: l, t, h => by
    have e : numsB (F (x :: l)) ++ t = numsB (f x) ++ (numsB (F l) ++ t) := by rw [hF, numsB_append, append_assoc]
    rw [e]
    show ((one _).1 :: (lsq one l.length (one _).2).1, (lsq one l.length (one _).2).2) = _
    rw [h x (List.mem_cons_self ..) _, lsq_full h0 hF l t fun y hy => h y (List.mem_cons_of_mem _ hy)]
theorem F_size {α : Type} {f : α → List Int} {F : List α → List Int} (hF : ∀ x l, F (x :: l) = f x ++ F l) : ∀ (l : List α), (∀ x ∈ l, 1 ≤ (numsB (f x)).size) → l.length ≤ (numsB (F l)).size
  | [], _ => Nat.zero_le _
  | x :: l, h => by
    have h1 := F_size hF l fun y hy => h y (List.mem_cons_of_mem _ hy)
    have h2 := h x (List.mem_cons_self ..)
    rw [hF, numsB_append, ByteArray.size_append, List.length_cons]
    omega
theorem ltq_full {α : Type} {one : RS → α × RS} {f : α → List Int} {F : List α → List Int} (h0 : F [] = []) (hF : ∀ x l, F (x :: l) = f x ++ F l) (l : List α) (t : ByteArray) (most : Int) (h : ∀ x ∈ l, ∀ t, one (some (numsB (f x) ++ t)) = (x, some t)) (hs : ∀ x ∈ l, 1 ≤ (numsB (f x)).size) (hl : (l.length : Int) ≤ most) (hm : most ≤ 9223372036854775807) :
    ltq one most (some (uintB (l.length : Int) ++ (numsB (F l) ++ t))) = (l, some t) := by
  have h1 := F_size hF l hs
  obtain ⟨p, q⟩ := tm_full (rest := numsB (F l) ++ t) hl hm (by rw [ByteArray.size_append]; omega)
  unfold ltq
  rw [p, q, lsq_full h0 hF l t h]
theorem numsB_cons_size {x : Int} {l : List Int} (h : 0 ≤ x) : 1 ≤ (numsB (x :: l)).size := by
  have := uintB_one h
  show 1 ≤ (uintB x ++ numsB l).size
  rw [ByteArray.size_append]
  omega
theorem st_full (x : St) (t : ByteArray) (h : Pos x.kind ∧ Pos x.qty) : stq (some (numsB [x.kind, x.qty] ++ t)) = (x, some t) := by
  obtain ⟨⟨a0, a1⟩, b0, b1⟩ := h
  have e : numsB [x.kind, x.qty] ++ t = uintB x.kind ++ (uintB x.qty ++ t) := by simp only [numsB, append_assoc, append_nil]
  rw [e]
  obtain ⟨r1, r2⟩ := ui_full (rest := uintB x.qty ++ t) a0 a1 (Int.le_refl _)
  obtain ⟨r3, r4⟩ := ui_full (rest := t) b0 b1 (Int.le_refl _)
  unfold stq
  rw [r2, r4, r1, r3]
theorem bluq_full (b : PB) (t : ByteArray) (h : PosB b) : bluq (some (numsB (intsB b) ++ t)) = (b, some t) := by
  obtain ⟨h1, h2, h3, h4, h5, h6, h7, h8⟩ := h
  have e : numsB (intsB b) ++ t = uintB b.ot ++ (uintB b.per ++ (uintB b.tm ++ (uintB (b.s.length : Int) ++ (numsB (intsS b.s) ++ (uintB b.cp ++ (uintB b.st ++ (uintB b.mo ++ t))))))) := by
    simp only [intsB, numsB_append, numsB, append_assoc, append_nil]
  rw [e]
  obtain ⟨p1, q1⟩ := ui_full (rest := uintB b.per ++ (uintB b.tm ++ (uintB (b.s.length : Int) ++ (numsB (intsS b.s) ++ (uintB b.cp ++ (uintB b.st ++ (uintB b.mo ++ t))))))) h1.1 h1.2 (Int.le_refl _)
  obtain ⟨p2, q2⟩ := ui_full (rest := uintB b.tm ++ (uintB (b.s.length : Int) ++ (numsB (intsS b.s) ++ (uintB b.cp ++ (uintB b.st ++ (uintB b.mo ++ t)))))) h2.1 h2.2 (Int.le_refl _)
  obtain ⟨p3, q3⟩ := ui_full (rest := uintB (b.s.length : Int) ++ (numsB (intsS b.s) ++ (uintB b.cp ++ (uintB b.st ++ (uintB b.mo ++ t))))) h3.1 h3.2 (Int.le_refl _)
  have q5 := ltq_full (one := stq) (f := fun t : St => [t.kind, t.qty]) (F := intsS) rfl (fun _ _ => rfl) b.s (uintB b.cp ++ (uintB b.st ++ (uintB b.mo ++ t))) 8 (fun x hx t => st_full x t (h8 x hx)) (fun x hx => numsB_cons_size (h8 x hx).1.1) (by omega) (by omega)
  obtain ⟨p6, q6⟩ := ui_full (rest := uintB b.st ++ (uintB b.mo ++ t)) h4.1 h4.2 (Int.le_refl _)
  obtain ⟨p7, q7⟩ := ui_full (rest := uintB b.mo ++ t) h5.1 h5.2 (Int.le_refl _)
  obtain ⟨p8, q8⟩ := ui_full (rest := t) h6.1 h6.2 (Int.le_refl _)
  unfold bluq u4 u3
  rw [q1, q2, q3, q5]
  simp only [q6, q7, q8, p1, p2, p3, p6, p7, p8]
theorem catq_full (C : Cat) (t : ByteArray) (hk : CatOk C) : catq (some (numsB (ints C) ++ t)) = (C, some t) := by
  obtain ⟨h1, h2, h3, h4, h5, h6, h7, h8⟩ := ok_pos hk
  have hb := hk.1.2.2.2.1
  have hy := hk.1.2.2.2.2.1
  have e : numsB (ints C) ++ t = uintB C.ty ++ (uintB (C.bs.length : Int) ++ (numsB (intsBs C.bs) ++ (uintB C.pl ++ (uintB (C.ys.length : Int) ++ (numsB (intsYs C.ys) ++ (uintB C.ch ++ (uintB C.f.broker ++ (uintB C.f.least ++ (uintB C.f.sales ++ t))))))))) := by
    simp only [ints, intsF, numsB_append, numsB, append_assoc, append_nil]
  obtain ⟨R9, hR9⟩ : ∃ R, uintB C.f.sales ++ t = R := ⟨_, rfl⟩
  rw [hR9] at e
  obtain ⟨R8, hR8⟩ : ∃ R, uintB C.f.least ++ R9 = R := ⟨_, rfl⟩
  rw [hR8] at e
  obtain ⟨R7, hR7⟩ : ∃ R, uintB C.f.broker ++ R8 = R := ⟨_, rfl⟩
  rw [hR7] at e
  obtain ⟨R6, hR6⟩ : ∃ R, uintB C.ch ++ R7 = R := ⟨_, rfl⟩
  rw [hR6] at e
  obtain ⟨R4, hR4⟩ : ∃ R, uintB (C.ys.length : Int) ++ (numsB (intsYs C.ys) ++ R6) = R := ⟨_, rfl⟩
  rw [hR4] at e
  obtain ⟨R3, hR3⟩ : ∃ R, uintB C.pl ++ R4 = R := ⟨_, rfl⟩
  rw [hR3] at e
  obtain ⟨R1, hR1⟩ : ∃ R, uintB (C.bs.length : Int) ++ (numsB (intsBs C.bs) ++ R3) = R := ⟨_, rfl⟩
  rw [hR1] at e
  obtain ⟨R0, hR0⟩ : ∃ R, uintB C.ty ++ R1 = R := ⟨_, rfl⟩
  rw [hR0] at e
  rw [e]
  obtain ⟨p1, q1⟩ := ui_full (rest := R1) h1.1 h1.2 (Int.le_refl _)
  rw [hR0] at p1 q1
  obtain ⟨p4, q4⟩ := ui_full (rest := R4) h3.1 h3.2 (Int.le_refl _)
  rw [hR3] at p4 q4
  obtain ⟨p7, q7⟩ := ui_full (rest := R7) h5.1 h5.2 (Int.le_refl _)
  rw [hR6] at p7 q7
  obtain ⟨p8, q8⟩ := ui_full (rest := R8) h6.1 h6.2 (Int.le_refl _)
  rw [hR7] at p8 q8
  obtain ⟨p9, q9⟩ := ui_full (rest := R9) h7.1 h7.2 (Int.le_refl _)
  rw [hR8] at p9 q9
  obtain ⟨pa, qa⟩ := ui_full (rest := t) h8.1 h8.2 (Int.le_refl _)
  rw [hR9] at pa qa
  have q3 := ltq_full (one := bluq) (f := intsB) (F := intsBs) rfl (fun _ _ => rfl) C.bs R3 16 (fun x hx t => bluq_full x t (h2 x hx)) (fun x hx => numsB_cons_size (h2 x hx).1.1) (by omega) (by omega)
  rw [hR1] at q3
  have q6 := ltq_full (one := bayP) (f := intsY) (F := intsYs) rfl (fun _ _ => rfl) C.ys R6 8 (fun x hx t => bay_full x t (h4 x hx)) (fun x hx => numsB_cons_size (h4 x hx).1.1) (by omega) (by omega)
  rw [hR4] at q6
  clear e hR0 hR1 hR3 hR4 hR6 hR7 hR8 hR9
  have e1 : d1 (some R0) = some R3 := by unfold d1; rw [q1, q3]
  have e2 : d2 (some R0) = some R6 := by unfold d2; rw [e1, q4, q6]
  unfold catq
  rw [e1, e2, q1, q3, q4, q6, q7, q8, q9, qa, p1, p4, p7, p8, p9, pa]
/-- The catalogue of bytes is what the program reads of them, if that is a catalogue and nothing is left. -/
theorem takq_is (s : ByteArray) : (((catq (some s)).2 = some ⟨#[]⟩ ∧ chkC (catq (some s)).1 = 0) → takE s = 0 ∧ takV s = (catq (some s)).1) ∧ (¬ ((catq (some s)).2 = some ⟨#[]⟩ ∧ chkC (catq (some s)).1 = 0) → takE s = 2 ∧ takV s = zCat) := by
  constructor
  · rintro ⟨h1, h2⟩
    obtain ⟨s', e1, e2⟩ := catq_sound _ h1
    injection e1 with e1
    rw [append_nil] at e2
    have he : ∃ C, chkC C = 0 ∧ numsB (ints C) = s := ⟨_, h2, (e1.trans e2).symm⟩
    clear e1 e2
    refine ⟨by unfold takE; rw [if_pos he], ?_⟩
    unfold takV
    rw [dif_pos he]
    have hs := he.choose_spec
    have := catq_full he.choose ⟨#[]⟩ (chk_zero hs.1)
    rw [hs.2, append_nil] at this
    rw [this]
  · intro h
    have he : ¬ ∃ C, chkC C = 0 ∧ numsB (ints C) = s := by
      rintro ⟨C, hc, hs⟩
      have := catq_full C ⟨#[]⟩ (chk_zero hc)
      rw [hs, append_nil] at this
      rw [this] at h
      exact h ⟨rfl, hc⟩
    exact ⟨by unfold takE; rw [if_neg he], by unfold takV; rw [dif_neg he]⟩
end Go.Proofs.Yteaclacbdelinaa.Cat.Im
