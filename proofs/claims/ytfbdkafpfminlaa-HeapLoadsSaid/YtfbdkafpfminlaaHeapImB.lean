/- The program's queue in memory; the numbers' places. -/
import Derived.Test.YtfbdkafpfminlaaHeapImA
import Derived.Test.YtfbdkafpfminlaaIntMaps
import Derived.Test.YtfbdkafpfminlaaStep
namespace Go.Proofs.Ytfbdkafpfminlaa.Heap.Im
open Go.RowKit Go.Lib

/-- Where each number stands. -/
structure Places (M : Int → Option Value) (l : List Tm) : Prop where
  at_ : ∀ i t, l[i]? = some t → M t.id = some (.int .i64 (i : Nat))
  no : ∀ id, (∀ t ∈ l, t.id ≠ id) → M id = none
theorem Places.same {M : Int → Option Value} {l : List Tm} (h : Places M l) {i j : Nat} {s t : Tm} (hi : l[i]? = some s) (hj : l[j]? = some t) (e : s.id = t.id) : i = j := by
  have h1 := h.at_ i s hi
  have h2 := h.at_ j t hj
  rw [e, h2] at h1
  have h3 : ((j : Nat) : Int) = (i : Nat) := by simpa using h1
  omega
theorem getElem?_sw (l : List Tm) (i k j : Nat) (hi : i < l.length) (hk : k < l.length) : (sw l i k)[j]? = if j = k then some (nthT l i) else if j = i then some (nthT l k) else l[j]? := by
  unfold sw
  rw [List.getElem?_set, List.getElem?_set, List.length_set]
  by_cases h1 : j = k
  · subst h1
    simp [hk]
  · rw [if_neg (fun e => h1 e.symm), if_neg h1]
    by_cases h2 : j = i
    · subst h2
      simp [hi]
    · rw [if_neg (fun e => h2 e.symm), if_neg h2]
theorem Places.sw {M : Int → Option Value} {l : List Tm} (h : Places M l) {i k : Nat} (hi : i < l.length) (hk : k < l.length) :
    Places (fun x => if x = (nthT l i).id then some (.int .i64 (k : Nat)) else if x = (nthT l k).id then some (.int .i64 (i : Nat)) else M x) (sw l i k) := by
  refine ⟨fun j t hj => ?_, fun id hn => ?_⟩
  · rw [getElem?_sw _ _ _ _ hi hk] at hj
    by_cases h1 : j = k
    · rw [if_pos h1] at hj
      cases hj
      simp [h1]
    · rw [if_neg h1] at hj
      by_cases h2 : j = i
      · rw [if_pos h2] at hj
        cases hj
        have h3 : ¬ (nthT l k).id = (nthT l i).id := fun e => h1 (by rw [h2]; exact (h.same (nthT_at hk) (nthT_at hi) e).symm)
        simp only [h3, if_false, if_true, h2]
      · rw [if_neg h2] at hj
        have h3 : ¬ t.id = (nthT l i).id := fun e => h2 (h.same hj (nthT_at hi) e)
        have h4 : ¬ t.id = (nthT l k).id := fun e => h1 (h.same hj (nthT_at hk) e)
        simp only [h3, h4, if_false]
        exact h.at_ j t hj
  · have hp := perm_sw l i k hi hk
    have h3 : ¬ id = (nthT l i).id := fun e => hn _ (hp.mem_iff.2 (List.mem_of_getElem? (nthT_at hi))) e.symm
    have h4 : ¬ id = (nthT l k).id := fun e => hn _ (hp.mem_iff.2 (List.mem_of_getElem? (nthT_at hk))) e.symm
    simp only [h3, h4, if_false]
    exact h.no id fun t ht => hn t (hp.mem_iff.2 ht)
theorem Places.app {M : Int → Option Value} {l : List Tm} (h : Places M l) (t : Tm) (hn : ∀ x ∈ l, x.id ≠ t.id) : Places (fun x => if x = t.id then some (.int .i64 (l.length : Nat)) else M x) (l ++ [t]) := by
  refine ⟨fun j u hj => ?_, fun id hid => ?_⟩
  · rcases Nat.lt_or_ge j l.length with h1 | h1
    · rw [List.getElem?_append_left h1] at hj
      have h2 : ¬ u.id = t.id := hn u (List.mem_of_getElem? hj)
      simp only [h2, if_false]
      exact h.at_ j u hj
    · rw [List.getElem?_append_right h1] at hj
      have h2 : j - l.length = 0 := by
        have := (List.getElem?_eq_some_iff.1 hj).1
        simpa using this
      rw [h2] at hj
      have h3 : t = u := by simpa using hj
      subst h3
      have h4 : j = l.length := by omega
      simp [h4]
  · have h2 : ¬ id = t.id := fun e => hid t (by simp) e.symm
    simp only [h2, if_false]
    exact h.no id fun x hx => hid x (by simp [hx])
theorem Places.drop {M : Int → Option Value} {l : List Tm} {n : Nat} (h : Places M l) (hn : l.length = n + 1) : Places (fun x => if x = (nthT l n).id then none else M x) (l.take n) := by
  refine ⟨fun j u hj => ?_, fun id hid => ?_⟩
  · have h1 : j < n := by
      have := (List.getElem?_eq_some_iff.1 hj).1
      rw [List.length_take] at this
      omega
    rw [List.getElem?_take_of_lt h1] at hj
    have h2 : ¬ u.id = (nthT l n).id := fun e => by
      have := h.same hj (nthT_at (by omega)) e
      omega
    simp only [h2, if_false]
    exact h.at_ j u hj
  · by_cases h2 : id = (nthT l n).id
    · simp [h2]
    · simp only [h2, if_false]
      refine h.no id fun x hx e => ?_
      obtain ⟨j, hj, rfl⟩ := List.mem_iff_getElem.1 hx
      rcases Nat.lt_or_ge j n with h3 | h3
      · exact hid _ (List.mem_iff_getElem.2 ⟨j, by rw [List.length_take]; omega, by rw [List.getElem_take]⟩) e
      · have h4 : j = n := by omega
        subst h4
        exact h2 (by rw [nthT_get hj]; exact e.symm)
/-- The queue at block Q: lv its timers, ps where each lies, b the numbers' places. -/
structure MV (w : World) (Q : Nat) (l : List Tm) (most next : Int) (lv : Value) (ps : List Nat) (b : Nat) : Prop where
  head : w.heap[Q]? = some (.cells #[.int .i64 most, .int .i64 next, lv, .map (some b)] 53 (0, 0))
  row : w.ownsRow 0 68 1 lv l.length (ps.map ptr)
  tms : ∀ (i p : Nat) (t : Tm), ps[i]? = some p → l[i]? = some t → w.heap[p]? = some (.cells t.cells 45 (0, 0))
  map : ∃ M, Ints.MapIs Try.prog 3 w b l.length M ∧ Places M l
  ids : ∀ t ∈ l, Ints.I64 t.id
  qb : Q ≠ b
  lq : lv.ownBlock ≠ some Q
  lb : lv.ownBlock ≠ some b
  ap : ∀ p ∈ ps, p ≠ Q ∧ p ≠ b ∧ lv.ownBlock ≠ some p
def foot (Q : Nat) (lv : Value) (ps : List Nat) (b : Nat) (k : Nat) : Prop := k = Q ∨ k = b ∨ lv.ownBlock = some k ∨ k ∈ ps
def MQ (w : World) (Q : Nat) (F : Nat → Prop) (l : List Tm) (most next : Int) : Prop := ∃ lv ps b, MV w Q l most next lv ps b ∧ ∀ k, F k ↔ foot Q lv ps b k
section
variable {w : World} {Q : Nat} {l : List Tm} {most next : Int} {lv : Value} {ps : List Nat} {b : Nat}
theorem MV.len (h : MV w Q l most next lv ps b) : ps.length = l.length := by
  have := h.row.1
  simpa using this
theorem MV.lt (h : MV w Q l most next lv ps b) : ∀ k, foot Q lv ps b k → k < w.heap.size := by
  intro k hk
  rcases hk with rfl | rfl | hk | hk
  · exact (Array.getElem?_eq_some_iff.1 h.head).1
  · obtain ⟨M, hM, _⟩ := h.map
    exact hM.lt
  · exact (h.row.lt k hk).2
  · obtain ⟨i, hi, e⟩ := List.mem_iff_getElem.1 hk
    have hl := h.len
    have := h.tms i k (l[i]'(by omega)) (by rw [List.getElem?_eq_getElem hi, e]) (List.getElem?_eq_getElem (by omega))
    exact (Array.getElem?_eq_some_iff.1 this).1
theorem MV.keep {w' : World} (h : MV w Q l most next lv ps b) (hk : ∀ k, foot Q lv ps b k → w'.heap[k]? = w.heap[k]?) : MV w' Q l most next lv ps b := by
  obtain ⟨M, hM, hP⟩ := h.map
  exact ⟨(hk Q (.inl rfl)).trans h.head, own_same h.row (fun k e => hk k (.inr (.inr (.inl e)))), fun i p t hp ht => (hk p (.inr (.inr (.inr (List.mem_of_getElem? hp))))).trans (h.tms i p t hp ht),
    ⟨M, hM.of_block (hk b (.inr (.inl rfl))), hP⟩, h.ids, h.qb, h.lq, h.lb, h.ap⟩
theorem MV.under {w' : World} (h : MV w Q l most next lv ps b) (hb : Below w.heap.size w w') : MV w' Q l most next lv ps b := h.keep fun k hk => hb.block k (h.lt k hk)
/-- The row, and each timer in it. -/
theorem MV.at_ (h : MV w Q l most next lv ps b) {i : Nat} (hi : i < l.length) : ∃ g c p, lv = .slice (some ⟨g, 0, none⟩) l.length c ∧ ps[i]? = some p ∧ w.cell? ⟨g, i, none⟩ = some (ptr p) ∧ w.frozen? ⟨g, i, none⟩ = false ∧ w.heap[p]? = some (.cells (nthT l i).cells 45 (0, 0)) := by
  have hl := h.len
  rcases h.row.2 with ⟨_, h0⟩ | ⟨g, cap, cur, rfl, _, hg, _⟩
  · omega
  · have hp : ps[i]? = some (ps[i]'(by omega)) := List.getElem?_eq_getElem (by omega)
    refine ⟨g, cap, ps[i]'(by omega), rfl, hp, ?_, free_block i hg, h.tms i _ _ hp (nthT_at hi)⟩
    have := h.row.cells (g := g) rfl i (ptr (ps[i]'(by omega))) (by rw [List.getElem?_map, hp]; rfl)
    rw [addr_add, Nat.zero_add] at this
    exact this
theorem MV.c (h : MV w Q l most next lv ps b) : w.cell? ⟨Q, 0, none⟩ = some (.int .i64 most) ∧ w.cell? ⟨Q, 1, none⟩ = some (.int .i64 next) ∧ w.cell? ⟨Q, 2, none⟩ = some lv ∧ w.cell? ⟨Q, 3, none⟩ = some (.map (some b)) :=
  ⟨cell_block (j := 0) h.head rfl, cell_block (j := 1) h.head rfl, cell_block (j := 2) h.head rfl, cell_block (j := 3) h.head rfl⟩
theorem MV.slice (h : MV w Q l most next lv ps b) : ∃ a c, lv = .slice a l.length c ∧ l.length ≤ c ∧ c ≤ maxLen := by
  rcases h.row.2 with ⟨hv, h0⟩ | ⟨g, cap, cur, hv, _, _, hn, hm, _⟩
  · exact ⟨none, 0, by rw [hv, h0], by omega, by unfold maxLen; omega⟩
  · exact ⟨_, cap, hv, hn, hm⟩
end
theorem MQ.lt {w : World} {Q : Nat} {F : Nat → Prop} {l : List Tm} {most next : Int} (h : MQ w Q F l most next) : ∀ k, F k → k < w.heap.size := by
  obtain ⟨lv, ps, b, h, hF⟩ := h
  exact fun k hk => h.lt k ((hF k).1 hk)
theorem MQ.keep {w w' : World} {Q : Nat} {F : Nat → Prop} {l : List Tm} {most next : Int} (h : MQ w Q F l most next) (hk : ∀ k, F k → w'.heap[k]? = w.heap[k]?) : MQ w' Q F l most next := by
  obtain ⟨lv, ps, b, h, hF⟩ := h
  exact ⟨lv, ps, b, h.keep fun k e => hk k ((hF k).2 e), hF⟩
theorem MQ.under {w w' : World} {Q : Nat} {F : Nat → Prop} {l : List Tm} {most next : Int} (h : MQ w Q F l most next) (hb : Below w.heap.size w w') : MQ w' Q F l most next := h.keep fun k hk => hb.block k (h.lt k hk)
end Go.Proofs.Ytfbdkafpfminlaa.Heap.Im
