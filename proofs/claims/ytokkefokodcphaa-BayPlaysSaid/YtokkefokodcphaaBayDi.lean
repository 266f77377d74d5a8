/- What the document's Load asks of lines, and that the program's asks the same. -/
import Derived.Test.YtokkefokodcphaaBayImQ
import Derived.Test.YtokkefokodcphaaBayDe
namespace Go.Proofs.Ytokkefokodcphaa.Bay
open Go.RowKit Go.Lib IRows

abbrev Pr := List Int × List Int
def allOf (ls : List Pr) : List Int := ls.flatMap fun x => x.1 ++ x.2
/-- The jobs of a row are new ones, each. -/
def NewJobs (all : List Int) (r : List Int) : Prop := ∀ (i : Nat) (j : Int), r[i]? = some j → Job j ∧ j ∉ all ∧ j ∉ r.take i
structure DLine (s : Int) (all : List Int) (x : Pr) : Prop where
  room : (x.1.length : Int) ≤ s
  q8 : x.2.length ≤ 8
  full : x.2 ≠ [] → s ≤ x.1.length ∧ s ≠ 0
  up : Up1 x.1
  run : NewJobs all x.1
  wait : NewJobs (all ++ x.1) x.2
def DocL (l : List By) : Nat → List Int → List Pr → Prop
  | _, _, [] => True
  | k, all, x :: xs => DLine (slotOf l k) all x ∧ DocL l (k + 1) (all ++ (x.1 ++ x.2)) xs
def mkL (l : List By) : Nat → List Pr → List Ln
  | _, [] => []
  | k, x :: xs => ⟨x.1, x.2, slotOf l k⟩ :: mkL l (k + 1) xs
theorem mkL_len (l : List By) : ∀ (k : Nat) (ls : List Pr), (mkL l k ls).length = ls.length
  | _, [] => rfl
  | k, x :: xs => by simp [mkL, mkL_len l (k + 1) xs]
theorem mkL_p (l : List By) : ∀ (k : Nat) (ls : List Pr), (mkL l k ls).map Ln.p = ls
  | _, [] => rfl
  | k, x :: xs => by simp [mkL, mkL_p l (k + 1) xs, Ln.p]
theorem mkL_at (l : List By) : ∀ (k : Nat) (ls : List Pr) (i : Nat) (y : Ln), (mkL l k ls)[i]? = some y → y.s = slotOf l (k + i)
  | _, [], i, y, h => by simp [mkL] at h
  | k, x :: xs, 0, y, h => by
    have : (⟨x.1, x.2, slotOf l k⟩ : Ln) = y := by simpa [mkL] using h
    rw [← this]; rfl
  | k, x :: xs, i + 1, y, h => by
    have := mkL_at l (k + 1) xs i y (by simpa [mkL] using h)
    rw [this, show k + 1 + i = k + (i + 1) by omega]
theorem newjobs_cons {all : List Int} {j : Int} {r : List Int} : NewJobs all (j :: r) ↔ (Job j ∧ j ∉ all) ∧ NewJobs (all ++ [j]) r := by
  constructor
  · intro h
    refine ⟨⟨(h 0 j rfl).1, (h 0 j rfl).2.1⟩, fun i a ha => ?_⟩
    obtain ⟨h1, h2, h3⟩ := h (i + 1) a (by simpa using ha)
    rw [List.take_succ_cons] at h3
    refine ⟨h1, fun hm => ?_, fun hm => h3 (List.mem_cons_of_mem _ hm)⟩
    rcases List.mem_append.1 hm with hm | hm
    · exact h2 hm
    · exact h3 (by rw [List.mem_singleton.1 hm]; exact List.mem_cons_self ..)
  · rintro ⟨⟨h1, h2⟩, h3⟩ i a ha
    cases i with
    | zero =>
      have : j = a := by simpa using ha
      subst this
      exact ⟨h1, h2, by simp⟩
    | succ i =>
      obtain ⟨h4, h5, h6⟩ := h3 i a (by simpa using ha)
      refine ⟨h4, fun hm => h5 (List.mem_append_left _ hm), fun hm => ?_⟩
      rw [List.take_succ_cons] at hm
      rcases List.mem_cons.1 hm with rfl | hm
      · exact h5 (List.mem_append_right _ (List.mem_singleton.2 rfl))
      · exact h6 hm
theorem newjobs_nil (all : List Int) : NewJobs all [] := fun i j h => by simp at h
/-- Lines of which just these jobs are somewhere. -/
def Known (L : List Ln) (all : List Int) : Prop := ∀ j, fnd L j < L.length ↔ j ∈ all
theorem known_set {L : List Ln} {all : List Int} {k : Nat} {x y : Ln} {j : Int} (h : Known L all) (hx : L[k]? = some x) (hy : ∀ i, has i y = true ↔ has i x = true ∨ i = j) : Known (L.set k y) (all ++ [j]) := by
  have hlt := (List.getElem?_eq_some_iff.1 hx).1
  have key : ∀ (M : List Ln) (i : Int), fnd M i < M.length ↔ ∃ (t : Nat) (z : Ln), M[t]? = some z ∧ has i z = true := fun M i => by
    constructor
    · intro h
      exact ⟨_, _, List.getElem?_eq_getElem h, fnd_has M i _ (List.getElem?_eq_getElem h)⟩
    · rintro ⟨t, z, hz, h1⟩
      rcases fnd_len M i with h2 | h2
      · exact h2
      · rw [fnd_none.1 h2 t z hz] at h1
        cases h1
  intro i
  rw [key]
  have h0 := (h i)
  rw [key] at h0
  rw [List.mem_append, List.mem_singleton, ← h0]
  constructor
  · rintro ⟨t, z, hz, h1⟩
    by_cases e : t = k
    · subst e
      rw [List.getElem?_set_self hlt] at hz
      rw [← Option.some.inj hz] at h1
      rcases (hy i).1 h1 with h2 | h2
      · exact .inl ⟨t, x, hx, h2⟩
      · exact .inr h2
    · rw [List.getElem?_set_ne (fun e2 => e e2.symm)] at hz
      exact .inl ⟨t, z, hz, h1⟩
  · rintro (⟨t, z, hz, h1⟩ | rfl)
    · by_cases e : t = k
      · subst e
        rw [hx] at hz
        rw [← Option.some.inj hz] at h1
        exact ⟨t, y, List.getElem?_set_self hlt, (hy i).2 (.inl h1)⟩
      · exact ⟨t, z, by rw [List.getElem?_set_ne (fun e2 => e e2.symm)]; exact hz, h1⟩
    · exact ⟨k, y, List.getElem?_set_self hlt, (hy i).2 (.inr rfl)⟩
theorem ins_end : ∀ {r : List Int} {j : Int}, (∀ x ∈ r, x < j) → ins r j = r ++ [j]
  | [], _, _ => rfl
  | x :: r, j, h => by
    have := h x (List.mem_cons_self ..)
    unfold ins
    rw [if_neg (by omega), ins_end (fun y hy => h y (List.mem_cons_of_mem _ hy))]
    rfl
theorem side_of {L : List Ln} (he : L.length % 2 = 0) {k : Nat} (hk : k < L.length) : Side L ((k / 2 : Nat) + 1) (k % 2 : Nat) ∧ kk ((k / 2 : Nat) + 1) (k % 2 : Nat) = k := by
  unfold Side kk
  omega
theorem has_eq {j : Int} {x y : Ln} (h : ∀ i, (i ∈ y.r ∨ i ∈ y.q) ↔ (i ∈ x.r ∨ i ∈ x.q) ∨ i = j) : ∀ i, has i y = true ↔ has i x = true ∨ i = j := fun i => by rw [has_iff, has_iff]; exact h i
/-- A row of rising numbers asks. -/
theorem asks_run : ∀ (r r0 : List Int) (s : Int) (L : List Ln) (k : Nat) (all : List Int), Good L → L[k]? = some ⟨r0, [], s⟩ → Known L all → (∀ x ∈ r0, x ∈ all) → Up1 (r0 ++ r) →
    (∀ L', asks k true L r = some L' → (NewJobs all r ∧ (r0.length : Int) + r.length ≤ s) ∧ L' = L.set k ⟨r0 ++ r, [], s⟩ ∧ Good L' ∧ Known L' (all ++ r)) ∧ (asks k true L r = none → ¬ (NewJobs all r ∧ (r0.length : Int) + r.length ≤ s))
  | [], r0, s, L, k, all, hg, hx, hK, _, _ => by
    refine ⟨fun L' e => ?_, fun e => by cases e⟩
    obtain rfl := Option.some.inj e
    have o := hg.ok k _ hx
    refine ⟨⟨newjobs_nil _, by have := o.room; simpa using this⟩, ?_, hg, by simpa using hK⟩
    rw [List.append_nil]
    have hlt := (List.getElem?_eq_some_iff.1 hx).1
    apply List.ext_getElem?
    intro i
    by_cases e : i = k
    · subst e
      rw [List.getElem?_set_self hlt, hx]
    · rw [List.getElem?_set_ne (fun e2 => e e2.symm)]
  | j :: r, r0, s, L, k, all, hg, hx, hK, h0, hup => by
    have hlt := (List.getElem?_eq_some_iff.1 hx).1
    obtain ⟨hs, hk⟩ := side_of hg.even hlt
    have o := hg.ok k _ hx
    have hroom := o.room
    unfold asks
    by_cases hj : Job j
    case neg =>
      have e1 : ask L ((k / 2 : Nat) + 1) (k % 2 : Nat) j = (L, false, 1) := by unfold ask; rw [if_neg (fun h => h hs), if_pos hj]
      rw [e1, if_neg (fun h => by cases h.1)]
      exact ⟨fun L' e => (by cases e), fun _ h => hj (newjobs_cons.1 h.1).1.1⟩
    by_cases hf : fnd L j < L.length
    · have e1 : ask L ((k / 2 : Nat) + 1) (k % 2 : Nat) j = (L, false, 9) := by unfold ask; rw [if_neg (fun h => h hs), if_neg (fun h => h hj), if_pos hf]
      rw [e1, if_neg (fun h => by cases h.1)]
      exact ⟨fun L' e => (by cases e), fun _ h => (newjobs_cons.1 h.1).1.2 ((hK j).1 hf)⟩
    have hfl : fnd L j = L.length := by have := fnd_le L j; omega
    have hnall : j ∉ all := fun h => hf ((hK j).2 h)
    by_cases hr : (r0.length : Int) < s
    · have hn0 : j ∉ r0 := fun h => hnall (h0 j h)
      have hins : ins r0 j = r0 ++ [j] := ins_end (fun x hx => by
        obtain ⟨i, hi, rfl⟩ := List.getElem_of_mem hx
        have hlast : ∀ (t : Nat) (u : Int), i ≤ t → (r0 ++ [j])[t]? = some u → r0[i] ≤ u := fun t => by
          induction t with
          | zero =>
            intro u hit hu
            obtain rfl : i = 0 := by omega
            rw [List.getElem?_append_left (by omega)] at hu
            have := (List.getElem?_eq_some_iff.1 hu).2
            omega
          | succ t ih =>
            intro u hit hu
            by_cases e : i = t + 1
            · subst e
              rw [List.getElem?_append_left (by omega)] at hu
              have := (List.getElem?_eq_some_iff.1 hu).2
              omega
            · have htl := (List.getElem?_eq_some_iff.1 hu).1
              have h1 := ih _ (by omega) (List.getElem?_eq_getElem (by omega))
              have hb : ∀ (p : Nat) (v : Int), (r0 ++ [j])[p]? = some v → (r0 ++ j :: r)[p]? = some v := fun p v hv => by
                have := (List.getElem?_eq_some_iff.1 hv).1
                rw [show r0 ++ j :: r = (r0 ++ [j]) ++ r by simp, List.getElem?_append_left this]
                exact hv
              have h2 := hup t _ _ (hb t _ (List.getElem?_eq_getElem (by omega))) (hb (t + 1) u hu)
              omega
        have h3 := hlast r0.length j (by omega) (by simp)
        have h4 : r0[i] ≠ j := fun e => hn0 (by rw [← e]; exact List.getElem_mem hi)
        omega)
      have e1 : ask L ((k / 2 : Nat) + 1) (k % 2 : Nat) j = (L.set k ⟨r0 ++ [j], [], s⟩, true, 0) := by
        unfold ask
        rw [if_neg (fun h => h hs), if_neg (fun h => h hj), if_neg hf, hk, hx]
        dsimp only
        rw [if_pos hr, hins]
      rw [e1, if_pos ⟨rfl, rfl⟩]
      have hg2 := (ok_ask_run hg hx hj hfl hr).1
      dsimp only at hg2
      rw [hins] at hg2
      have hK2 : Known (L.set k ⟨r0 ++ [j], [], s⟩) (all ++ [j]) := known_set hK hx (has_eq fun i => by simp)
      obtain ⟨h1, h2⟩ := asks_run r (r0 ++ [j]) s _ k (all ++ [j]) hg2 (List.getElem?_set_self hlt) hK2 (fun x hx => by
        rcases List.mem_append.1 hx with hx | hx
        · exact List.mem_append_left _ (h0 x hx)
        · exact List.mem_append_right _ hx) (by rw [List.append_assoc]; exact hup)
      have hlen : ((r0 ++ [j]).length : Int) + r.length = (r0.length : Int) + (j :: r).length := by simp; omega
      rw [hlen] at h1 h2
      refine ⟨fun L' e => ?_, fun e h => h2 e ⟨(newjobs_cons.1 h.1).2, h.2⟩⟩
      obtain ⟨⟨g1, g2⟩, g3, g4, g5⟩ := h1 L' e
      refine ⟨⟨newjobs_cons.2 ⟨⟨hj, hnall⟩, g1⟩, g2⟩, ?_, g4, ?_⟩
      · rw [g3, List.set_set, List.append_assoc]; rfl
      · rw [List.append_assoc] at g5; exact g5
    · have e1 : (ask L ((k / 2 : Nat) + 1) (k % 2 : Nat) j).2.1 = false := by
        unfold ask
        rw [if_neg (fun h => h hs), if_neg (fun h => h hj), if_neg hf, hk, hx]
        dsimp only
        rw [if_neg hr]
        split <;> rfl
      rw [if_neg (fun h => by rw [e1] at h; cases h.2)]
      exact ⟨fun L' e => (by cases e), fun _ h => hr (by have := h.2; simp at this; omega)⟩
/-- A row waits. -/
theorem asks_wait : ∀ (q q0 r : List Int) (s : Int) (L : List Ln) (k : Nat) (all : List Int), Good L → L[k]? = some ⟨r, q0, s⟩ → Known L all →
    (∀ L', asks k false L q = some L' → (NewJobs all q ∧ q0.length + q.length ≤ 8 ∧ (q ≠ [] → s ≤ r.length ∧ 0 < s)) ∧ L' = L.set k ⟨r, q0 ++ q, s⟩ ∧ Good L' ∧ Known L' (all ++ q)) ∧ (asks k false L q = none → ¬ (NewJobs all q ∧ q0.length + q.length ≤ 8 ∧ (q ≠ [] → s ≤ r.length ∧ 0 < s)))
  | [], q0, r, s, L, k, all, hg, hx, hK => by
    refine ⟨fun L' e => ?_, fun e => by cases e⟩
    obtain rfl := Option.some.inj e
    have o := hg.ok k _ hx
    refine ⟨⟨newjobs_nil _, by have := o.q8; simpa using this, fun h => absurd rfl h⟩, ?_, hg, by simpa using hK⟩
    rw [List.append_nil]
    have hlt := (List.getElem?_eq_some_iff.1 hx).1
    apply List.ext_getElem?
    intro i
    by_cases e : i = k
    · subst e
      rw [List.getElem?_set_self hlt, hx]
    · rw [List.getElem?_set_ne (fun e2 => e e2.symm)]
  | j :: q, q0, r, s, L, k, all, hg, hx, hK => by
    have hlt := (List.getElem?_eq_some_iff.1 hx).1
    obtain ⟨hs, hk⟩ := side_of hg.even hlt
    have o := hg.ok k _ hx
    unfold asks
    by_cases hj : Job j
    case neg =>
      have e1 : ask L ((k / 2 : Nat) + 1) (k % 2 : Nat) j = (L, false, 1) := by unfold ask; rw [if_neg (fun h => h hs), if_pos hj]
      rw [e1, if_neg (fun h => by cases h.1)]
      exact ⟨fun L' e => (by cases e), fun _ h => hj (newjobs_cons.1 h.1).1.1⟩
    by_cases hf : fnd L j < L.length
    · have e1 : ask L ((k / 2 : Nat) + 1) (k % 2 : Nat) j = (L, false, 9) := by unfold ask; rw [if_neg (fun h => h hs), if_neg (fun h => h hj), if_pos hf]
      rw [e1, if_neg (fun h => by cases h.1)]
      exact ⟨fun L' e => (by cases e), fun _ h => (newjobs_cons.1 h.1).1.2 ((hK j).1 hf)⟩
    have hfl : fnd L j = L.length := by have := fnd_le L j; omega
    have hnall : j ∉ all := fun h => hf ((hK j).2 h)
    by_cases hr : (r.length : Int) < s
    · have e1 : (ask L ((k / 2 : Nat) + 1) (k % 2 : Nat) j).2.1 = true := by
        unfold ask
        rw [if_neg (fun h => h hs), if_neg (fun h => h hj), if_neg hf, hk, hx]
        dsimp only
        rw [if_pos hr]
      rw [if_neg (fun h => by rw [e1] at h; cases h.2)]
      exact ⟨fun L' e => (by cases e), fun _ h => by have := (h.2.2 (by simp)).1; omega⟩
    by_cases hw : 0 < s ∧ q0.length < 8
    · have e1 : ask L ((k / 2 : Nat) + 1) (k % 2 : Nat) j = (L.set k ⟨r, q0 ++ [j], s⟩, false, 0) := by
        unfold ask
        rw [if_neg (fun h => h hs), if_neg (fun h => h hj), if_neg hf, hk, hx]
        dsimp only
        rw [if_neg hr, if_pos hw]
      rw [e1, if_pos ⟨rfl, rfl⟩]
      have hg2 := ok_ask_wait hg hx hj hfl hr hw.1 hw.2
      dsimp only at hg2
      have hK2 : Known (L.set k ⟨r, q0 ++ [j], s⟩) (all ++ [j]) := known_set hK hx (has_eq fun i => by
        simp only [List.mem_append, List.mem_singleton]
        constructor
        · rintro (h | h | h)
          · exact .inl (.inl h)
          · exact .inl (.inr h)
          · exact .inr h
        · rintro ((h | h) | h)
          · exact .inl h
          · exact .inr (.inl h)
          · exact .inr (.inr h))
      obtain ⟨h1, h2⟩ := asks_wait q (q0 ++ [j]) r s _ k (all ++ [j]) hg2 (List.getElem?_set_self hlt) hK2
      have hlen : (q0 ++ [j]).length + q.length = q0.length + (j :: q).length := by simp; omega
      rw [hlen] at h1 h2
      refine ⟨fun L' e => ?_, fun e h => h2 e ⟨(newjobs_cons.1 h.1).2, h.2.1, fun _ => h.2.2 (by simp)⟩⟩
      obtain ⟨⟨g1, g2, _⟩, g3, g4, g5⟩ := h1 L' e
      refine ⟨⟨newjobs_cons.2 ⟨⟨hj, hnall⟩, g1⟩, g2, fun _ => ⟨by omega, hw.1⟩⟩, ?_, g4, ?_⟩
      · rw [g3, List.set_set, List.append_assoc]; rfl
      · rw [List.append_assoc] at g5; exact g5
    · have e1 : (ask L ((k / 2 : Nat) + 1) (k % 2 : Nat) j).2.2 = 10 := by
        unfold ask
        rw [if_neg (fun h => h hs), if_neg (fun h => h hj), if_neg hf, hk, hx]
        dsimp only
        rw [if_neg hr, if_neg hw]
      rw [if_neg (fun h => by rw [e1] at h; cases h.1)]
      refine ⟨fun L' e => (by cases e), fun _ h => hw ⟨(h.2.2 (by simp)).2, ?_⟩⟩
      have := h.2.1
      simp at this
      omega
theorem dline_iff {s : Int} {all : List Int} {x : Pr} (hs : 0 ≤ s) : DLine s all x ↔ Up1 x.1 ∧ (NewJobs all x.1 ∧ ((([] : List Int).length : Nat) : Int) + x.1.length ≤ s) ∧ (NewJobs (all ++ x.1) x.2 ∧ ([] : List Int).length + x.2.length ≤ 8 ∧ (x.2 ≠ [] → s ≤ x.1.length ∧ 0 < s)) := by
  constructor
  · intro h
    refine ⟨h.up, ⟨h.run, by have := h.room; simp; exact this⟩, h.wait, by have := h.q8; simpa using this, fun hq => ⟨(h.full hq).1, ?_⟩⟩
    have := (h.full hq).2
    omega
  · rintro ⟨h1, ⟨h2, h3⟩, h4, h5, h6⟩
    exact ⟨by simpa using h3, by simpa using h5, fun hq => ⟨(h6 hq).1, by have := (h6 hq).2; omega⟩, h1, h2, h4⟩
/-- All lines. -/
theorem load_doc (l : List By) : ∀ (ls : List Pr) (k : Nat) (L : List Ln) (all : List Int), Good L → Known L all → k + ls.length = L.length → (∀ i, k ≤ i → i < L.length → L[i]? = some ⟨[], [], slotOf l i⟩) →
    (DocL l k all ls → loadL k L ls = some (L.take k ++ mkL l k ls)) ∧ (¬ DocL l k all ls → loadL k L ls = none)
  | [], k, L, all, hg, hK, hlen, _ => by
    refine ⟨fun _ => ?_, fun h => absurd trivial h⟩
    show some L = _
    simp at hlen
    rw [hlen, List.take_of_length_le (Nat.le_refl _)]
    simp [mkL]
  | x :: ls, k, L, all, hg, hK, hlen, hrest => by
    simp at hlen
    have hx := hrest k (Nat.le_refl _) (by omega)
    have o := hg.ok k _ hx
    have hs0 : 0 ≤ slotOf l k := o.s0
    unfold loadL DocL
    by_cases hup : Up1 x.1
    case neg =>
      rw [if_neg hup]
      exact ⟨fun h => absurd h.1.up hup, fun _ => rfl⟩
    rw [if_pos hup]
    obtain ⟨ha1, ha2⟩ := asks_run x.1 [] (slotOf l k) L k all hg hx hK (fun y hy => by cases hy) (by rw [List.nil_append]; exact hup)
    cases hA : asks k true L x.1 with
    | none =>
      refine ⟨fun h => absurd ((dline_iff hs0).1 h.1).2.1 (ha2 hA), fun _ => rfl⟩
    | some L1 =>
      obtain ⟨hr, hL1, hg1, hK1⟩ := ha1 L1 hA
      rw [List.nil_append] at hL1
      have hlt : k < L.length := by omega
      have hx1 : L1[k]? = some ⟨x.1, [], slotOf l k⟩ := by rw [hL1]; exact List.getElem?_set_self hlt
      obtain ⟨hb1, hb2⟩ := asks_wait x.2 [] x.1 (slotOf l k) L1 k (all ++ x.1) hg1 hx1 hK1
      rw [Option.bind_some]
      cases hB : asks k false L1 x.2 with
      | none =>
        refine ⟨fun h => absurd ((dline_iff hs0).1 h.1).2.2 (hb2 hB), fun _ => rfl⟩
      | some L2 =>
        obtain ⟨hq, hL2, hg2, hK2⟩ := hb1 L2 hB
        rw [List.nil_append] at hL2
        have hD : DLine (slotOf l k) all x := (dline_iff hs0).2 ⟨hup, hr, hq⟩
        have hL2' : L2 = L.set k ⟨x.1, x.2, slotOf l k⟩ := by rw [hL2, hL1, List.set_set]
        rw [List.append_assoc] at hK2
        have hrec := load_doc l ls (k + 1) L2 (all ++ (x.1 ++ x.2)) hg2 hK2 (by rw [hL2', List.length_set]; omega) (fun i hi hil => by
          rw [hL2', List.length_set] at hil
          rw [hL2', List.getElem?_set_ne (by omega)]
          exact hrest i (by omega) hil)
        rw [Option.bind_some]
        refine ⟨fun h => ?_, fun h => hrec.2 (fun h2 => h ⟨hD, h2⟩)⟩
        rw [hrec.1 h.2]
        congr 1
        rw [hL2']
        have ht : (L.set k ⟨x.1, x.2, slotOf l k⟩).take (k + 1) = L.take k ++ [⟨x.1, x.2, slotOf l k⟩] := by
          rw [List.take_add_one, List.getElem?_set_self hlt, List.take_set_of_le (Nat.le_refl _)]
          rfl
        rw [ht, List.append_assoc]
        rfl
def DocOk (l : List By) (ls : List Pr) : Prop := MayB l ∧ ls.length = 2 * l.length ∧ DocL l 0 [] ls
theorem newL_len (l : List By) : (newL l).length = 2 * l.length := by rw [← newX_pl, List.length_map, newX_len]; omega
theorem loadV_doc (l : List By) (ls : List Pr) : (DocOk l ls → loadV l ls = some (mkL l 0 ls)) ∧ (¬ DocOk l ls → loadV l ls = none) := by
  unfold loadV DocOk
  by_cases h : MayB l ∧ ls.length = 2 * l.length
  · rw [if_pos h]
    have hlen := newL_len l
    have h0 : ∀ (i : Nat), 0 ≤ i → i < (newL l).length → (newL l)[i]? = some ⟨[], [], slotOf l i⟩ := fun i _ hi => by
      have h1 := List.getElem?_eq_getElem hi
      obtain ⟨y, hy, e⟩ := newL_at l i _ h1
      rw [h1, e]
      unfold slotOf
      rw [hy]
    have hK : Known (newL l) [] := fun j => by
      constructor
      · intro hf
        have h1 := List.getElem?_eq_getElem hf
        have h2 := fnd_has _ _ _ h1
        rw [h0 _ (by omega) hf] at h1
        rw [← Option.some.inj h1] at h2
        cases h2
      · intro h; cases h
    obtain ⟨h1, h2⟩ := load_doc l ls 0 (newL l) [] (good_new h.1) hK (by rw [hlen]; omega) h0
    exact ⟨fun h3 => by simpa using h1 h3.2.2, fun h3 => h2 (fun h4 => h3 ⟨h.1, h.2, h4⟩)⟩
  · rw [if_neg h]
    exact ⟨fun h3 => absurd ⟨h3.1, h3.2.1⟩ h, fun _ => rfl⟩
theorem fit_mk (l : List By) (ls : List Pr) (h : ls.length = 2 * l.length) : Fit l (mkL l 0 ls) := ⟨by rw [mkL_len]; exact h, fun k x hx => by have := mkL_at l 0 ls k x hx; rwa [Nat.zero_add] at this⟩
end Go.Proofs.Ytokkefokodcphaa.Bay
