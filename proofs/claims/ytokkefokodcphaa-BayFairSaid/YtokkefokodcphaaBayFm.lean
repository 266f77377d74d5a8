/- By3: nobody waits while there is room; who comes first begins first. -/
import Derived.Test.YtokkefokodcphaaBayMath
namespace Go.Proofs.Ytokkefokodcphaa.Bay

/-- One bay; jobs 1, 2, and so on came; the last that began. -/
structure FI (n : Int) (L : List Ln) (nx la : Int) : Prop where
  good : Good L
  one : ∃ r q, L = [⟨r, q, n⟩, ⟨[], [], 0⟩] ∧ (∀ j, j ∈ q → la < j ∧ j < nx) ∧ (∀ j, j ∈ r → j < nx) ∧ Rise q
  pos : 0 < n
  lt : la < nx
  la0 : 0 ≤ la
theorem fi_new {n : Int} (h : Good [⟨[], [], n⟩, ⟨[], [], 0⟩]) (hn : 0 < n) : FI n [⟨[], [], n⟩, ⟨[], [], 0⟩] 1 0 :=
  ⟨h, ⟨[], [], rfl, fun j hj => (by cases hj), fun j hj => (by cases hj), List.Pairwise.nil⟩, hn, by omega, by omega⟩
theorem fi_ask {n : Int} {L : List Ln} {nx la : Int} (h : FI n L nx la) (h1 : 1 ≤ nx) (h2 : nx ≤ 100) :
    ((ask L 1 0 nx).2 = (false, 10) ∧ (ask L 1 0 nx).1 = L) ∨ ((ask L 1 0 nx).2 = (true, 0) ∧ FI n (ask L 1 0 nx).1 (nx + 1) nx) ∨ ((ask L 1 0 nx).2 = (false, 0) ∧ FI n (ask L 1 0 nx).1 (nx + 1) la) := by
  have hg := good_ask h.good 1 0 nx
  obtain ⟨r, q, rfl, hq, hr, hri⟩ := h.one
  have o := h.good.ok 0 _ rfl
  have hs : Side [⟨r, q, n⟩, ⟨[], [], 0⟩] 1 0 := by simp [Side]
  have hj : Job nx := ⟨by omega, by omega⟩
  have hno : fnd [⟨r, q, n⟩, ⟨[], [], 0⟩] nx = 2 := fnd_none.2 fun i x hx => by
    have hm := List.mem_of_getElem? hx
    cases hb : has nx x with
    | false => rfl
    | true =>
      rcases has_iff.1 hb with hb | hb <;> rcases List.mem_cons.1 hm with rfl | hm
      · have := hr nx hb
        omega
      · obtain rfl : x = ⟨[], [], 0⟩ := by simpa using hm
        cases hb
      · have := (hq nx hb).2
        omega
      · obtain rfl : x = ⟨[], [], 0⟩ := by simpa using hm
        cases hb
  have hk : kk 1 0 = 0 := rfl
  by_cases c : (r.length : Int) < n
  · have e : ask [⟨r, q, n⟩, ⟨[], [], 0⟩] 1 0 nx = ([⟨ins r nx, q, n⟩, ⟨[], [], 0⟩], true, 0) := by
      unfold ask
      rw [if_neg (fun hn => hn hs), if_neg (fun hn => hn hj), if_neg (by rw [hno]; simp)]
      rw [hk]
      show (if (r.length : Int) < n then _ else _) = _
      rw [if_pos c]
      rfl
    rw [e] at hg ⊢
    obtain rfl : q = [] := Decidable.byContradiction fun hne => by have := (o.full hne).1; have : (r.length : Int) = n := this; omega
    refine .inr (.inl ⟨rfl, hg, ⟨_, _, rfl, fun j hj => (by cases hj), fun j hj => ?_, List.Pairwise.nil⟩, h.pos, by omega, by omega⟩)
    rcases mem_ins.1 hj with rfl | hj
    · omega
    · have := hr j hj
      omega
  · by_cases c2 : q.length < 8
    · have e : ask [⟨r, q, n⟩, ⟨[], [], 0⟩] 1 0 nx = ([⟨r, q ++ [nx], n⟩, ⟨[], [], 0⟩], false, 0) := by
        unfold ask
        rw [if_neg (fun hn => hn hs), if_neg (fun hn => hn hj), if_neg (by rw [hno]; simp)]
        rw [hk]
        show (if (r.length : Int) < n then _ else if 0 < n ∧ q.length < 8 then _ else _) = _
        rw [if_neg c, if_pos ⟨h.pos, c2⟩]
        rfl
      rw [e] at hg ⊢
      have hlt := h.lt
      refine .inr (.inr ⟨rfl, hg, ⟨_, _, rfl, fun j hj => ?_, fun j hj => ?_, ?_⟩, h.pos, by omega, h.la0⟩)
      · rcases List.mem_append.1 hj with hj | hj
        · have := hq j hj
          omega
        · obtain rfl : j = nx := by simpa using hj
          omega
      · have := hr j hj
        omega
      · refine List.pairwise_append.2 ⟨hri, by simp, fun a ha b hb => ?_⟩
        obtain rfl : b = nx := by simpa using hb
        exact (hq a ha).2
    · have e : ask [⟨r, q, n⟩, ⟨[], [], 0⟩] 1 0 nx = ([⟨r, q, n⟩, ⟨[], [], 0⟩], false, 10) := by
        unfold ask
        rw [if_neg (fun hn => hn hs), if_neg (fun hn => hn hj), if_neg (by rw [hno]; simp)]
        rw [hk]
        show (if (r.length : Int) < n then _ else if 0 < n ∧ q.length < 8 then _ else _) = _
        rw [if_neg c, if_neg (fun h => c2 h.2)]
      rw [e]
      exact .inl ⟨rfl, rfl⟩
theorem fi_leave {n : Int} {L : List Ln} {nx la : Int} (h : FI n L nx la) (j : Int) :
    ((leave L j).2.2 = 0 ∧ 0 < (leave L j).2.1 ∧ la < (leave L j).2.1 ∧ FI n (leave L j).1 nx (leave L j).2.1) ∨ ((leave L j).2.1 = 0 ∧ FI n (leave L j).1 nx la) := by
  have hg := good_leave h.good j
  have h0 := h
  obtain ⟨r, q, rfl, hq, hr, hri⟩ := h.one
  have o := h.good.ok 0 _ rfl
  cases hx : ([⟨r, q, n⟩, ⟨[], [], 0⟩] : List Ln)[fnd [⟨r, q, n⟩, ⟨[], [], 0⟩] j]? with
  | none =>
    have e : leave [⟨r, q, n⟩, ⟨[], [], 0⟩] j = ([⟨r, q, n⟩, ⟨[], [], 0⟩], 0, 3) := by
      unfold leave
      rw [hx]
    rw [e]
    exact .inr ⟨rfl, h0⟩
  | some x =>
    have hj := fnd_has _ j x hx
    have hm := List.mem_of_getElem? hx
    have hf0 : fnd [⟨r, q, n⟩, ⟨[], [], 0⟩] j = 0 ∧ x = ⟨r, q, n⟩ := by
      rcases List.mem_cons.1 hm with rfl | hm
      · exact ⟨h.good.ap _ 0 _ _ j hx rfl hj hj, rfl⟩
      · obtain rfl : x = ⟨[], [], 0⟩ := by simpa using hm
        rcases has_iff.1 hj with hj | hj <;> cases hj
    obtain ⟨hf, rfl⟩ := hf0
    by_cases c : j ∈ q
    · have e : leave [⟨r, q, n⟩, ⟨[], [], 0⟩] j = ([⟨r, out q j, n⟩, ⟨[], [], 0⟩], 0, 0) := by
        unfold leave
        rw [hx, hf]
        show (if j ∈ q then _ else _) = _
        rw [if_pos c]
        rfl
      rw [e] at hg ⊢
      exact .inr ⟨rfl, hg, ⟨_, _, rfl, fun i hi => hq i (mem_out.1 hi).1, hr, rise_out hri j⟩, h.pos, h.lt, h.la0⟩
    · cases q with
      | nil =>
        have e : leave [⟨r, [], n⟩, ⟨[], [], 0⟩] j = ([⟨out r j, [], n⟩, ⟨[], [], 0⟩], 0, 0) := by
          unfold leave
          rw [hx, hf]
          show (if j ∈ [] then _ else _) = _
          rw [if_neg c]
          rfl
        rw [e] at hg ⊢
        exact .inr ⟨rfl, hg, ⟨_, _, rfl, fun i hi => (by cases hi), fun i hi => hr i (mem_out.1 hi).1, List.Pairwise.nil⟩, h.pos, h.lt, h.la0⟩
      | cons m q =>
        have e : leave [⟨r, m :: q, n⟩, ⟨[], [], 0⟩] j = ([⟨ins (out r j) m, q, n⟩, ⟨[], [], 0⟩], m, 0) := by
          unfold leave
          rw [hx, hf]
          show (if j ∈ m :: q then _ else _) = _
          rw [if_neg c]
          rfl
        rw [e] at hg ⊢
        have hm1 := hq m (List.mem_cons_self ..)
        have hp := List.pairwise_cons.1 hri
        have hla := h.la0
        refine .inl ⟨rfl, by show 0 < m; omega, hm1.1, hg, ⟨_, _, rfl, fun i hi => ⟨hp.1 i hi, (hq i (List.mem_cons_of_mem _ hi)).2⟩, fun i hi => ?_, hp.2⟩, h.pos, hm1.2, by show 0 ≤ m; omega⟩
        rcases mem_ins.1 hi with rfl | hi
        · exact hm1.2
        · exact hr i (mem_out.1 hi).1
/-- The lines, told by what was asked of them. -/
theorem fi_lines {n : Int} {L : List Ln} {nx la : Int} (h : FI n L nx la) : L.length = 2 ∧ ∃ r q, L[0]? = some ⟨r, q, n⟩ ∧ (0 < q.length → (r.length : Int) = n) ∧ (r.length : Int) ≤ n ∧ r.length ≤ 8 ∧ q.length ≤ 8 := by
  obtain ⟨r, q, rfl, _⟩ := h.one
  have o := h.good.ok 0 _ rfl
  have h1 := o.room
  have h2 := o.s8
  refine ⟨rfl, r, q, rfl, fun hq => ?_, h1, ?_, o.q8⟩
  · have hne : q ≠ [] := fun e => by rw [e] at hq; simp at hq
    exact (o.full hne).1
  · have h1 : (r.length : Int) ≤ n := h1
    have h2 : n ≤ 8 := h2
    omega
end Go.Proofs.Ytokkefokodcphaa.Bay
