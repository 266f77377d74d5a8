/- Bays as they are, without memory: lines, who runs, who waits; what each call answers and leaves. -/
namespace Go.Proofs.Ytokkefokodcphaa.Bay

structure Ln where
  r : List Int
  q : List Int
  s : Int
def has (j : Int) (x : Ln) : Bool := decide (j ∈ x.r) || decide (j ∈ x.q)
theorem has_iff {j : Int} {x : Ln} : has j x = true ↔ j ∈ x.r ∨ j ∈ x.q := by simp [has]
/-- The first line at which a job is; the number of lines: none. -/
def fnd : List Ln → Int → Nat
  | [], _ => 0
  | x :: L, j => if has j x then 0 else fnd L j + 1
theorem fnd_le : ∀ (L : List Ln) (j : Int), fnd L j ≤ L.length
  | [], _ => Nat.le_refl _
  | x :: L, j => by
    unfold fnd
    split
    · simp
    · have := fnd_le L j
      simp
      omega
theorem fnd_not : ∀ (L : List Ln) (j : Int) (i : Nat) (x : Ln), i < fnd L j → L[i]? = some x → has j x = false
  | [], _, i, x, h, _ => by simp [fnd] at h
  | y :: L, j, i, x, h, hx => by
    unfold fnd at h
    split at h
    · omega
    · rename_i hy
      cases i with
      | zero =>
        have : y = x := by simpa using hx
        subst this
        simpa using hy
      | succ i => exact fnd_not L j i x (by omega) (by simpa using hx)
theorem fnd_has : ∀ (L : List Ln) (j : Int) (x : Ln), L[fnd L j]? = some x → has j x = true
  | [], _, x, h => by simp at h
  | y :: L, j, x, h => by
    unfold fnd at h
    split at h
    · rename_i hy
      have : y = x := by simpa using h
      rwa [← this]
    · exact fnd_has L j x (by simpa using h)
theorem fnd_eq {L : List Ln} {j : Int} {k : Nat} (hk : k ≤ L.length) (h1 : ∀ (i : Nat) (x : Ln), i < k → L[i]? = some x → has j x = false) (h2 : ∀ x, L[k]? = some x → has j x = true) : fnd L j = k := by
  rcases Nat.lt_trichotomy (fnd L j) k with h | h | h
  · have hx := List.getElem?_eq_getElem (l := L) (i := fnd L j) (by omega)
    have := h1 _ _ h hx
    rw [fnd_has L j _ hx] at this
    cases this
  · exact h
  · have hx := List.getElem?_eq_getElem (l := L) (i := k) (by have := fnd_le L j; omega)
    have := fnd_not L j k _ h hx
    rw [h2 _ hx] at this
    cases this
theorem fnd_none {L : List Ln} {j : Int} : fnd L j = L.length ↔ ∀ (i : Nat) (x : Ln), L[i]? = some x → has j x = false := by
  refine ⟨fun h i x hx => fnd_not L j i x (by rw [h]; exact (List.getElem?_eq_some_iff.1 hx).1) hx, fun h => fnd_eq (Nat.le_refl _) (fun i x _ hx => h i x hx) (fun x hx => by simp at hx)⟩
/-- A number at its place among numbers that rise. -/
def ins : List Int → Int → List Int
  | [], j => [j]
  | x :: r, j => if j < x then j :: x :: r else x :: ins r j
theorem ins_length : ∀ (r : List Int) (j : Int), (ins r j).length = r.length + 1
  | [], _ => rfl
  | x :: r, j => by
    unfold ins
    split
    · simp
    · simp [ins_length r j]
theorem mem_ins : ∀ {r : List Int} {j k : Int}, k ∈ ins r j ↔ k = j ∨ k ∈ r
  | [], j, k => by simp [ins]
  | x :: r, j, k => by
    unfold ins
    split
    · simp
    · simp [mem_ins (r := r)]
      constructor
      · rintro (h | h | h)
        · exact .inr (.inl h)
        · exact .inl h
        · exact .inr (.inr h)
      · rintro (h | h | h)
        · exact .inr (.inl h)
        · exact .inl h
        · exact .inr (.inr h)
abbrev Rise (r : List Int) : Prop := r.Pairwise (· < ·)
theorem rise_ins : ∀ {r : List Int} {j : Int}, Rise r → j ∉ r → Rise (ins r j)
  | [], j, _, _ => by simp [ins, Rise]
  | x :: r, j, h, hj => by
    have h1 := List.pairwise_cons.1 h
    unfold ins
    split
    · rename_i hlt
      refine List.pairwise_cons.2 ⟨fun y hy => ?_, h⟩
      rcases List.mem_cons.1 hy with rfl | hy
      · exact hlt
      · have := h1.1 y hy
        omega
    · rename_i hlt
      have hne : j ≠ x := fun e => hj (by rw [e]; exact List.mem_cons_self ..)
      refine List.pairwise_cons.2 ⟨fun y hy => ?_, rise_ins h1.2 (fun hm => hj (List.mem_cons_of_mem _ hm))⟩
      rcases mem_ins.1 hy with rfl | hy
      · omega
      · exact h1.1 y hy
/-- .. as the program cuts it. -/
theorem ins_cut : ∀ {r : List Int} {j : Int} (k : Nat), k ≤ r.length → (∀ i x, i < k → r[i]? = some x → x < j) → (∀ x, r[k]? = some x → j < x) → ins r j = r.take k ++ j :: r.drop k
  | [], j, k, hk, _, _ => by
    obtain rfl : k = 0 := by simpa using hk
    rfl
  | x :: r, j, 0, _, _, h2 => by
    have := h2 x rfl
    simp [ins, this]
  | x :: r, j, k + 1, hk, h1, h2 => by
    have h3 := h1 0 x (by omega) rfl
    unfold ins
    rw [if_neg (by omega)]
    rw [ins_cut k (by simpa using hk) (fun i y hi hy => h1 (i + 1) y (by omega) (by simpa using hy)) (fun y hy => h2 y (by simpa using hy))]
    simp
theorem rise_lt {r : List Int} (h : Rise r) {i k : Nat} {x y : Int} (hik : i < k) (hi : r[i]? = some x) (hk : r[k]? = some y) : x < y := by
  obtain ⟨h1, rfl⟩ := List.getElem?_eq_some_iff.1 hi
  obtain ⟨h2, rfl⟩ := List.getElem?_eq_some_iff.1 hk
  exact List.pairwise_iff_getElem.1 h i k h1 h2 hik
/-- Without one. -/
def out (l : List Int) (j : Int) : List Int := l.filter (fun x => !(x == j))
theorem out_not {l : List Int} {j : Int} (h : j ∉ l) : out l j = l := by
  unfold out
  rw [List.filter_eq_self]
  intro x hx
  have : x ≠ j := fun e => h (e ▸ hx)
  simpa using this
theorem mem_out {l : List Int} {j x : Int} : x ∈ out l j ↔ x ∈ l ∧ x ≠ j := by simp [out]
theorem out_len (l : List Int) (j : Int) : (out l j).length ≤ l.length := List.length_filter_le _ _
theorem out_one : ∀ {l : List Int} {j : Int}, l.Nodup → j ∈ l → (out l j).length + 1 = l.length
  | [], j, _, h => by cases h
  | x :: l, j, hn, h => by
    have h1 := List.nodup_cons.1 hn
    by_cases e : x = j
    · subst e
      have := out_not h1.1
      unfold out at this ⊢
      simp [this]
    · have hm : j ∈ l := by
        rcases List.mem_cons.1 h with h | h
        · exact absurd h.symm e
        · exact h
      have := out_one h1.2 hm
      have e2 : (x == j) = false := by simpa using e
      unfold out at this ⊢
      simp [e2, this]
theorem rise_out {l : List Int} (h : Rise l) (j : Int) : Rise (out l j) := h.filter _
theorem rise_nodup {l : List Int} (h : Rise l) : l.Nodup := h.imp (fun h => by omega)
/-- What may be. -/
def Job (j : Int) : Prop := 1 ≤ j ∧ j ≤ 1099511627776
def Side (L : List Ln) (b s : Int) : Prop := (1 ≤ b ∧ b ≤ (L.length / 2 : Nat)) ∧ 0 ≤ s ∧ s ≤ 1
instance (j : Int) : Decidable (Job j) := by unfold Job; infer_instance
instance (L : List Ln) (b s : Int) : Decidable (Side L b s) := by unfold Side; infer_instance
def kk (b s : Int) : Nat := (2 * (b - 1) + s).toNat
structure OkLn (x : Ln) : Prop where
  rise : Rise x.r
  nq : x.q.Nodup
  far : ∀ j, j ∈ x.r → j ∉ x.q
  job : ∀ j, has j x = true → Job j
  s0 : 0 ≤ x.s
  s8 : x.s ≤ 8
  room : (x.r.length : Int) ≤ x.s
  q8 : x.q.length ≤ 8
  full : x.q ≠ [] → (x.r.length : Int) = x.s ∧ 0 < x.s
structure Good (L : List Ln) : Prop where
  ok : ∀ (i : Nat) (x : Ln), L[i]? = some x → OkLn x
  ap : ∀ (i k : Nat) (x y : Ln) (j : Int), L[i]? = some x → L[k]? = some y → has j x = true → has j y = true → i = k
  even : L.length % 2 = 0
  few : L.length ≤ 16
theorem Good.side {L : List Ln} (h : Good L) {b s : Int} (hs : Side L b s) : kk b s < L.length ∧ ((kk b s : Nat) : Int) = 2 * (b - 1) + s := by
  obtain ⟨⟨h1, h2⟩, h3, h4⟩ := hs
  have := h.even
  unfold kk
  omega
/-- A line put in the place of one that had all its jobs, but for one that was nowhere. -/
theorem Good.set {L : List Ln} (h : Good L) {k : Nat} {x y : Ln} {j : Int} (hx : L[k]? = some x) (hy : OkLn y) (hj : fnd L j = L.length ∨ has j x = true) (hm : ∀ i, has i y = true → has i x = true ∨ i = j) : Good (L.set k y) := by
  have hlt := (List.getElem?_eq_some_iff.1 hx).1
  have hcase : ∀ (i : Nat) (z : Ln), (L.set k y)[i]? = some z → (i = k ∧ z = y) ∨ (i ≠ k ∧ L[i]? = some z) := fun i z hz => by
    by_cases e : i = k
    · subst e
      rw [List.getElem?_set_self hlt] at hz
      exact .inl ⟨rfl, (Option.some.inj hz).symm⟩
    · rw [List.getElem?_set_ne (fun e2 => e e2.symm)] at hz
      exact .inr ⟨e, hz⟩
  have hold : ∀ (i : Nat) (z : Ln) (a : Int), L[i]? = some z → has a z = true → has a y = true → i = k := fun i z a hz ha hy => by
    rcases hm a hy with h1 | rfl
    · exact h.ap i k z x a hz hx ha h1
    · rcases hj with h1 | h1
      · rw [fnd_none.1 h1 i z hz] at ha
        cases ha
      · exact h.ap i k z x a hz hx ha h1
  refine ⟨fun i z hz => ?_, fun i i2 z z2 a hz hz2 ha ha2 => ?_, by rw [List.length_set]; exact h.even, by rw [List.length_set]; exact h.few⟩
  · rcases hcase i z hz with ⟨_, rfl⟩ | ⟨_, h1⟩
    · exact hy
    · exact h.ok i z h1
  · rcases hcase i z hz with ⟨rfl, rfl⟩ | ⟨h0, h1⟩
    · rcases hcase i2 z2 hz2 with ⟨rfl, rfl⟩ | ⟨h2, h3⟩
      · rfl
      · exact absurd (hold i2 z2 a h3 ha2 ha) h2
    · rcases hcase i2 z2 hz2 with ⟨rfl, rfl⟩ | ⟨h2, h3⟩
      · exact absurd (hold i z a h1 ha ha2) h0
      · exact h.ap i i2 z z2 a h1 h3 ha ha2
/-- A job asks: the lines behind it, whether it runs, the error. -/
def ask (L : List Ln) (b s j : Int) : List Ln × Bool × Int :=
  if ¬ Side L b s then (L, false, 3) else if ¬ Job j then (L, false, 1) else if fnd L j < L.length then (L, false, 9) else
    match L[kk b s]? with
    | none => (L, false, 3)
    | some x => if (x.r.length : Int) < x.s then (L.set (kk b s) ⟨ins x.r j, x.q, x.s⟩, true, 0) else if 0 < x.s ∧ x.q.length < 8 then (L.set (kk b s) ⟨x.r, x.q ++ [j], x.s⟩, false, 0) else (L, false, 10)
/-- A job leaves: the lines behind it, who runs now, the error. -/
def leave (L : List Ln) (j : Int) : List Ln × Int × Int :=
  match L[fnd L j]? with
  | none => (L, 0, 3)
  | some x => if j ∈ x.q then (L.set (fnd L j) ⟨x.r, out x.q j, x.s⟩, 0, 0) else
    match x.q with
    | [] => (L.set (fnd L j) ⟨out x.r j, [], x.s⟩, 0, 0)
    | n :: q => (L.set (fnd L j) ⟨ins (out x.r j) n, q, x.s⟩, n, 0)
/-- Where a number stands; -1: nowhere. -/
def idx : List Int → Int → Int
  | [], _ => -1
  | x :: l, j => if x = j then 0 else if idx l j < 0 then -1 else idx l j + 1
theorem idx_not : ∀ {l : List Int} {j : Int}, j ∉ l → idx l j = -1
  | [], _, _ => rfl
  | x :: l, j, h => by
    unfold idx
    rw [if_neg (fun e => h (by rw [e]; exact List.mem_cons_self ..)), idx_not (fun hm => h (List.mem_cons_of_mem _ hm))]
    rfl
theorem idx_at : ∀ {l : List Int} {j : Int} {k : Nat}, l[k]? = some j → (∀ i x, i < k → l[i]? = some x → x ≠ j) → idx l j = k
  | [], j, k, h, _ => by simp at h
  | x :: l, j, 0, h, _ => by
    have : x = j := by simpa using h
    simp [idx, this]
  | x :: l, j, k + 1, h, h1 => by
    have h2 := h1 0 x (by omega) rfl
    have := idx_at (l := l) (j := j) (k := k) (by simpa using h) (fun i y hi hy => h1 (i + 1) y (by omega) (by simpa using hy))
    unfold idx
    rw [if_neg h2, this]
    rw [if_neg (by omega)]
    simp
theorem idx_lt {l : List Int} {j : Int} : -1 ≤ idx l j ∧ idx l j < l.length := by
  induction l with
  | nil => simp [idx]
  | cons x l ih =>
    unfold idx
    simp
    split
    · omega
    · split <;> omega
def wher (L : List Ln) (j : Int) : Int × Int × Int × Int :=
  match L[fnd L j]? with
  | none => (0, 0, 0, 3)
  | some x => ((fnd L j / 2 : Nat) + 1, (fnd L j % 2 : Nat), idx x.q j, 0)
def free (L : List Ln) (b s : Int) : Int × Int :=
  if ¬ Side L b s then (0, 3) else match L[kk b s]? with
    | none => (0, 3)
    | some x => (x.s - x.r.length, 0)
theorem ok_ask_run {L : List Ln} (h : Good L) {k : Nat} {x : Ln} {j : Int} (hx : L[k]? = some x) (hj : Job j) (hf : fnd L j = L.length) (hr : (x.r.length : Int) < x.s) : Good (L.set k ⟨ins x.r j, x.q, x.s⟩) ∧ j ∉ x.r := by
  have o := h.ok k x hx
  have hn := fnd_none.1 hf k x hx
  have hn1 : j ∉ x.r := fun hm => by rw [has_iff.2 (.inl hm)] at hn; cases hn
  have hn2 : j ∉ x.q := fun hm => by rw [has_iff.2 (.inr hm)] at hn; cases hn
  refine ⟨h.set (j := j) hx ⟨rise_ins o.rise hn1, o.nq, fun i hi => ?_, fun i hi => ?_, o.s0, o.s8, ?_, o.q8, fun hq => ?_⟩ (.inl hf) (fun i hi => ?_), hn1⟩
  · rcases mem_ins.1 hi with rfl | hi
    · exact hn2
    · exact o.far i hi
  · rcases has_iff.1 hi with hi | hi
    · rcases mem_ins.1 hi with rfl | hi
      · exact hj
      · exact o.job i (has_iff.2 (.inl hi))
    · exact o.job i (has_iff.2 (.inr hi))
  · show ((ins x.r j).length : Int) ≤ x.s
    rw [ins_length]
    omega
  · have := o.full hq
    omega
  · rcases has_iff.1 hi with hi | hi
    · rcases mem_ins.1 hi with rfl | hi
      · exact .inr rfl
      · exact .inl (has_iff.2 (.inl hi))
    · exact .inl (has_iff.2 (.inr hi))
theorem ok_ask_wait {L : List Ln} (h : Good L) {k : Nat} {x : Ln} {j : Int} (hx : L[k]? = some x) (hj : Job j) (hf : fnd L j = L.length) (hr : ¬ (x.r.length : Int) < x.s) (hs : 0 < x.s) (hq : x.q.length < 8) : Good (L.set k ⟨x.r, x.q ++ [j], x.s⟩) := by
  have o := h.ok k x hx
  have hn := fnd_none.1 hf k x hx
  have hn1 : j ∉ x.r := fun hm => by rw [has_iff.2 (.inl hm)] at hn; cases hn
  have hn2 : j ∉ x.q := fun hm => by rw [has_iff.2 (.inr hm)] at hn; cases hn
  have hmem : ∀ i, i ∈ x.q ++ [j] → i ∈ x.q ∨ i = j := fun i hi => by
    rcases List.mem_append.1 hi with hi | hi
    · exact .inl hi
    · exact .inr (by simpa using hi)
  refine h.set (j := j) hx ⟨o.rise, ?_, fun i hi hm => ?_, fun i hi => ?_, o.s0, o.s8, o.room, ?_, fun _ => ⟨?_, hs⟩⟩ (.inl hf) (fun i hi => ?_)
  · show (x.q ++ [j]).Nodup
    rw [List.nodup_append]
    refine ⟨o.nq, by simp, fun a ha b hb e => ?_⟩
    have : b = j := by simpa using hb
    exact hn2 (by rw [← this, ← e]; exact ha)
  · rcases hmem i hm with hm | rfl
    · exact o.far i hi hm
    · exact hn1 hi
  · rcases has_iff.1 hi with hi | hi
    · exact o.job i (has_iff.2 (.inl hi))
    · rcases hmem i hi with hi | rfl
      · exact o.job i (has_iff.2 (.inr hi))
      · exact hj
  · show (x.q ++ [j]).length ≤ 8
    simp
    omega
  · have := o.room
    show (x.r.length : Int) = x.s
    omega
  · rcases has_iff.1 hi with hi | hi
    · exact .inl (has_iff.2 (.inl hi))
    · rcases hmem i hi with hi | rfl
      · exact .inl (has_iff.2 (.inr hi))
      · exact .inr rfl
theorem good_ask {L : List Ln} (h : Good L) (b s j : Int) : Good (ask L b s j).1 := by
  unfold ask
  split
  · exact h
  split
  · exact h
  rename_i hj
  split
  · exact h
  rename_i hf
  split
  · exact h
  rename_i x hx
  have hf2 : fnd L j = L.length := by have := fnd_le L j; omega
  have hj2 : Job j := Decidable.of_not_not hj
  split
  · rename_i hr
    exact (ok_ask_run h hx hj2 hf2 hr).1
  · rename_i hr
    split
    · rename_i hs
      exact ok_ask_wait h hx hj2 hf2 hr hs.1 hs.2
    · exact h
theorem good_leave {L : List Ln} (h : Good L) (j : Int) : Good (leave L j).1 := by
  unfold leave
  split
  · exact h
  rename_i x hx
  have hj := fnd_has L j x hx
  have o := h.ok _ x hx
  split
  · rename_i hq
    have hl := out_one o.nq hq
    have hne : x.q ≠ [] := fun e => by rw [e] at hq; cases hq
    refine h.set (j := j) hx ⟨o.rise, o.nq.filter _, fun i hi hm => o.far i hi (mem_out.1 hm).1, fun i hi => ?_, o.s0, o.s8, o.room, ?_, fun _ => o.full hne⟩ (.inr hj) (fun i hi => ?_)
    · rcases has_iff.1 hi with hi | hi
      · exact o.job i (has_iff.2 (.inl hi))
      · exact o.job i (has_iff.2 (.inr (mem_out.1 hi).1))
    · have := o.q8
      show (out x.q j).length ≤ 8
      omega
    · rcases has_iff.1 hi with hi | hi
      · exact .inl (has_iff.2 (.inl hi))
      · exact .inl (has_iff.2 (.inr (mem_out.1 hi).1))
  rename_i hq
  have hr : j ∈ x.r := by
    rcases has_iff.1 hj with h1 | h1
    · exact h1
    · exact absurd h1 hq
  have hl := out_one (rise_nodup o.rise) hr
  have hroom := o.room
  split
  · refine h.set (j := j) hx ⟨rise_out o.rise j, List.nodup_nil, fun i _ hm => (by cases hm), fun i hi => ?_, o.s0, o.s8, ?_, by simp, fun hn => absurd rfl hn⟩ (.inr hj) (fun i hi => ?_)
    · rcases has_iff.1 hi with hi | hi
      · exact o.job i (has_iff.2 (.inl (mem_out.1 hi).1))
      · cases hi
    · show ((out x.r j).length : Int) ≤ x.s
      omega
    · rcases has_iff.1 hi with hi | hi
      · exact .inl (has_iff.2 (.inl (mem_out.1 hi).1))
      · cases hi
  · rename_i n q e
    have hfull := o.full (by rw [e]; simp)
    have hq8 := o.q8
    have hnq := o.nq
    rw [e] at hq8 hnq
    have hn1 := List.nodup_cons.1 hnq
    have hnr : n ∉ x.r := fun hm => o.far n hm (by rw [e]; exact List.mem_cons_self ..)
    refine h.set (j := j) hx ⟨rise_ins (rise_out o.rise j) (fun hm => hnr (mem_out.1 hm).1), hn1.2, fun i hi hm => ?_, fun i hi => ?_, o.s0, o.s8, ?_, ?_, fun _ => ⟨?_, hfull.2⟩⟩ (.inr hj) (fun i hi => ?_)
    · rcases mem_ins.1 hi with rfl | hi
      · exact hn1.1 hm
      · exact o.far i (mem_out.1 hi).1 (by rw [e]; exact List.mem_cons_of_mem _ hm)
    · rcases has_iff.1 hi with hi | hi
      · rcases mem_ins.1 hi with rfl | hi
        · exact o.job i (has_iff.2 (.inr (by rw [e]; exact List.mem_cons_self ..)))
        · exact o.job i (has_iff.2 (.inl (mem_out.1 hi).1))
      · exact o.job i (has_iff.2 (.inr (by rw [e]; exact List.mem_cons_of_mem _ hi)))
    · show ((ins (out x.r j) n).length : Int) ≤ x.s
      rw [ins_length]
      omega
    · show q.length ≤ 8
      simp at hq8
      omega
    · show ((ins (out x.r j) n).length : Int) = x.s
      rw [ins_length]
      omega
    · rcases has_iff.1 hi with hi | hi
      · rcases mem_ins.1 hi with rfl | hi
        · exact .inl (has_iff.2 (.inr (by rw [e]; exact List.mem_cons_self ..)))
        · exact .inl (has_iff.2 (.inl (mem_out.1 hi).1))
      · exact .inl (has_iff.2 (.inr (by rw [e]; exact List.mem_cons_of_mem _ hi)))
end Go.Proofs.Ytokkefokodcphaa.Bay
