/- Rows of numbers in memory, wherever they begin in their block: what they are, what appends to them. -/
import Derived.Test.YtokkefokodcphaaIntSame
import Derived.Test.YtokkefokodcphaaAppend
import Derived.Test.YtokkefokodcphaaStep
import Derived.Deep.AppendSrc
namespace Go.Proofs.Ytokkefokodcphaa.Bay
open Go.RowKit Go.Lib IRows

/-- Where a row lies, and its capacity. -/
structure Rm where
  a : Option Addr
  c : Nat
def ownB (m : Rm) : Option Nat := if m.c = 0 then none else m.a.map Addr.block
abbrev rV (m : Rm) (l : List Int) : Value := .slice m.a l.length m.c
/-- A row of numbers of one's own. -/
def RowAt (w : World) (m : Rm) (l : List Int) : Prop :=
  (m.c = 0 ∧ l = []) ∨ ∃ g off cur, m.a = some ⟨g, off, none⟩ ∧ 0 < m.c ∧ l.length ≤ m.c ∧ m.c ≤ maxLen ∧ w.heap[g]? = some (.cells cur 3 (0, 0)) ∧ off + m.c ≤ cur.size ∧ ∀ (i : Nat) (x : Int), l[i]? = some x → cur[off + i]? = some (.int .i64 x)
theorem row_none (w : World) (a : Option Addr) : RowAt w ⟨a, 0⟩ [] := .inl ⟨rfl, rfl⟩
theorem own_none {m : Rm} (h : m.c = 0) : ownB m = none := by unfold ownB; rw [if_pos h]
theorem own_some {m : Rm} {g off : Nat} (h : 0 < m.c) (ha : m.a = some ⟨g, off, none⟩) : ownB m = some g := by
  unfold ownB
  rw [if_neg (by omega), ha]
  rfl
theorem RowAt.lt {w : World} {m : Rm} {l : List Int} (h : RowAt w m l) {g : Nat} (hg : ownB m = some g) : g < w.heap.size := by
  rcases h with ⟨h0, _⟩ | ⟨g', off, cur, ha, hc, _, _, hb, _⟩
  · rw [own_none h0] at hg
    cases hg
  · rw [own_some hc ha] at hg
    cases hg
    exact (Array.getElem?_eq_some_iff.1 hb).1
theorem RowAt.same {w w' : World} {m : Rm} {l : List Int} (h : RowAt w m l) (hk : ∀ g, ownB m = some g → w'.heap[g]? = w.heap[g]?) : RowAt w' m l := by
  rcases h with h | ⟨g, off, cur, ha, hc, hl, hm, hb, hs, hat⟩
  · exact .inl h
  · exact .inr ⟨g, off, cur, ha, hc, hl, hm, (hk g (own_some hc ha)).trans hb, hs, hat⟩
theorem RowAt.irow {w : World} {m : Rm} {l : List Int} (h : RowAt w m l) : IRow w m.a l := by
  rcases h with ⟨_, rfl⟩ | ⟨g, off, cur, ha, hc, hl, hm, hb, hs, hat⟩
  · intro i x hi
    simp at hi
  · intro i x hi
    exact ⟨g, off, ha, (Array.getElem?_eq_some_iff.1 hb).1, cell_block hb (hat i x hi)⟩
theorem RowAt.le {w : World} {m : Rm} {l : List Int} (h : RowAt w m l) : l.length ≤ m.c := by
  rcases h with ⟨_, rfl⟩ | ⟨_, _, _, _, _, hl, _⟩
  · simp
  · exact hl
theorem RowAt.cap {w : World} {m : Rm} {l : List Int} (h : RowAt w m l) : m.c ≤ maxLen := by
  rcases h with ⟨h0, rfl⟩ | ⟨_, _, _, _, _, _, hm, _⟩
  · rw [h0]; exact Nat.zero_le _
  · exact hm
theorem RowAt.some {w : World} {m : Rm} {l : List Int} (h : RowAt w m l) (hl : 0 < l.length) : ∃ g off cur, m.a = some ⟨g, off, none⟩ ∧ 0 < m.c ∧ w.heap[g]? = some (.cells cur 3 (0, 0)) ∧ off + m.c ≤ cur.size ∧ ∀ (i : Nat) (x : Int), l[i]? = some x → cur[off + i]? = some (.int .i64 x) := by
  rcases h with ⟨_, rfl⟩ | ⟨g, off, cur, ha, hc, _, _, hb, hs, hat⟩
  · simp at hl
  · exact ⟨g, off, cur, ha, hc, hb, hs, hat⟩
/-- A call that turned a row alone, into one that lies where it lay, or in a new block. -/
structure Went (w w' : World) (m m' : Rm) : Prop where
  only : w.grownBy w' (ownB m)
  new : ∀ g, ownB m' = some g → ownB m = some g ∨ w.heap.size ≤ g
theorem Went.refl (w : World) (m : Rm) : Went w w m m := ⟨only_refl _ _, fun _ h => .inl h⟩
theorem only_below {w w1 w' : World} {o : Option Nat} (h : Below w.heap.size w w1) (k : w1.grownBy w' o) : w.grownBy w' o :=
  ⟨k.os.trans h.os, k.tape.trans h.tape, k.output.trans h.output, Nat.le_trans h.size k.size, fun q hq hn => (k.block q (Nat.lt_of_lt_of_le hq h.size) hn).trans (h.block q hq)⟩
theorem Went.behind {w w1 w' : World} {m m' : Rm} (h : Below w.heap.size w w1) (k : Went w1 w' m m') : Went w w' m m' :=
  ⟨only_below h k.only, fun g hg => (k.new g hg).imp id (fun h2 => Nat.le_trans h.size h2)⟩
theorem info1 : ∃ i : TypeInfo, Try.prog.info? 3 = some i ∧ i.zero = some (.int .i64 0) ∧ i.size = 1 ∧ i.bytes = 8 := info_parts info_int
/-- append(row, x): the number x stands in a block behind the row's. -/
theorem app_row (w : World) {m : Rm} {l : List Int} (x : Int) (h : RowAt w m l) (hl : l.length ≤ 1000) (g0 : Nat) (ty : TypeId)
    (hx : w.cell? ⟨g0, 0, none⟩ = some (.int .i64 x)) (_ : g0 < w.heap.size) (hg1 : ownB m ≠ some g0) :
    ∃ m' w', (Builtin.append_ #[52, 52] ty #[.slice m.a l.length m.c, .slice (some ⟨g0, 0, none⟩) 1 1]).run Try.prog w = .ok (.slice m'.a (l.length + 1) m'.c) w' ∧ RowAt w' m' (l ++ [x]) ∧ Went w w' m m' := by
  obtain ⟨i, hi, hz, hs, hb⟩ := info1
  have hsrc : Src Try.prog i.size 52 (.slice (some ⟨g0, 0, none⟩) 1 1) 1 [.int .i64 x] w := by
    rw [hs]
    exact Src.ofSlice w Try.underlying52 ⟨g0, 0, none⟩ 1 1 _ rfl (fun j u hj => by
      match j, hj with
      | 0, hj =>
        have : Value.int .i64 x = u := by simpa using hj
        rw [← this]
        simpa [Addr.add] using hx) (fun u hu => by simp at hu; subst hu; rfl)
  rcases h with ⟨h0, rfl⟩ | ⟨g, off, cur, ha, hc, hlc, hcm, hbk, hsz, hat⟩
  · have hr := run_append_grow_src (P := Try.prog) w 52 52 ty 3 i (.int .i64 0) Try.underlying52 hi hz m.a 0 m.c [] (by
      rw [hs]
      cases ha : m.a with
      | none => exact run_firstCells_none w.drew 1 0 0 m.c
      | some a => exact run_firstCells_some w.drew 1 0 a 0 m.c [] rfl (fun j v hj => by simp at hj)) _ 1 _ hsrc (by omega) (by omega) (by rw [hb]; exact growslice_fits (by omega) (by omega))
    refine ⟨⟨some ⟨w.heap.size, 0, none⟩, grownCap w (0 + 1) m.c 3⟩, _, hr, ?_, ?_⟩
    · have hcap := grownCap_ge w (0 + 1) m.c 3
      refine .inr ⟨w.heap.size, 0, _, rfl, by show 0 < grownCap w (0 + 1) m.c 3; omega, by simpa using hcap, grownCap_le_maxLen w _ _ _ (by unfold maxLen; omega), heap_alloc_new w.drew _, ?_, fun j y hj => ?_⟩
      · simp [Builtin.zeroCells, Value.cells]
        omega
      · match j, hj with
        | 0, hj =>
          have : x = y := by simpa using hj
          subst this
          rw [Nat.zero_add, Array.getElem?_append_left (by simp)]
          rfl
    · refine ⟨⟨rfl, rfl, rfl, by simp, fun k hk _ => heap_alloc_old w.drew _ hk⟩, fun q hq => ?_⟩
      have e : w.heap.size = q := by
        unfold ownB at hq
        split at hq
        · cases hq
        · simpa using hq
      exact .inr (by omega)
  · rw [ha]
    have hown := own_some hc ha
    have hne : g ≠ g0 := fun e => hg1 (by rw [hown, e])
    by_cases hroom : l.length < m.c
    · have hr := run_append_room_src (P := Try.prog) w 52 52 ty 3 i Try.underlying52 hi g off l.length m.c _ 1 _ hsrc (by omega) (fun j hj => by
        have : j = 0 := by simpa using hj
        subst this
        rw [hs, cell_of_row w g _ cur _ (0, 0) hbk]
        simp
        omega) (fun j _ => free_block _ hbk)
      rw [hs] at hr
      simp only [World.setCells, Nat.mul_one] at hr
      refine ⟨m, w.setCell ⟨g, off + l.length, none⟩ (.int .i64 x), by rw [ha]; exact hr, ?_, ⟨⟨rfl, rfl, rfl, by simp [World.setCell], fun k hk hn => heap_setCell_other w ⟨g, off + l.length, none⟩ k _ (fun e => hn (by rw [hown, e]))⟩, fun _ hq => .inl hq⟩⟩
      refine .inr ⟨g, off, cur.setIfInBounds (off + l.length) (.int .i64 x), ha, hc, by simp; omega, hcm, ?_, by simpa using hsz, fun j y hj => ?_⟩
      · exact heap_setCell_same w g (off + l.length) cur _ _ hbk
      · rw [Array.getElem?_setIfInBounds]
        rcases Nat.lt_or_ge j l.length with h1 | h1
        · rw [List.getElem?_append_left h1] at hj
          rw [if_neg (by omega)]
          exact hat j y hj
        · have hj2 := (List.getElem?_eq_some_iff.1 hj).1
          simp at hj2
          obtain rfl : j = l.length := by omega
          have : x = y := by simpa using hj
          subst this
          rw [if_pos rfl, if_pos (by omega)]
    · have e : l.length = m.c := by omega
      have hr := run_append_grow_src (P := Try.prog) w 52 52 ty 3 i (.int .i64 0) Try.underlying52 hi hz (some ⟨g, off, none⟩) l.length m.c (l.map (Value.int .i64)) (by
        rw [hs]
        exact run_firstCells_some w.drew 1 l.length ⟨g, off, none⟩ l.length m.c _ (by simp) (fun j v hj => by
          rw [addr_add]
          rw [List.getElem?_map] at hj
          cases hlj : l[j]? with
          | none => rw [hlj] at hj; cases hj
          | some y =>
            rw [hlj] at hj
            have : Value.int .i64 y = v := by simpa using hj
            rw [← this]
            exact cell_block (w := w.drew) hbk (hat j y hlj))) _ 1 _ hsrc (by omega) (by omega) (by rw [hb]; exact growslice_fits (by omega) (by omega))
      refine ⟨⟨some ⟨w.heap.size, 0, none⟩, grownCap w (l.length + 1) m.c 3⟩, _, hr, ?_, ?_⟩
      · have hcap := grownCap_ge w (l.length + 1) m.c 3
        refine .inr ⟨w.heap.size, 0, _, rfl, by show 0 < grownCap w (l.length + 1) m.c 3; omega, by simpa using hcap, grownCap_le_maxLen w _ _ _ (by unfold maxLen; omega), heap_alloc_new w.drew _, ?_, fun j y hj => ?_⟩
        · simp [Builtin.zeroCells, Value.cells]
          omega
        · have hj2 := (List.getElem?_eq_some_iff.1 hj).1
          simp at hj2
          rw [Nat.zero_add, Array.getElem?_append_left (by simp; omega), List.getElem?_toArray]
          have : l.map (Value.int .i64) ++ [.int .i64 x] = (l ++ [x]).map (Value.int .i64) := by simp
          rw [this, List.getElem?_map, hj]
          rfl
      · refine ⟨⟨rfl, rfl, rfl, by simp, fun k hk _ => heap_alloc_old w.drew _ hk⟩, fun q hq => ?_⟩
        have e : w.heap.size = q := by
          unfold ownB at hq
          split at hq
          · cases hq
          · simpa using hq
        exact .inr (by omega)
/-- x[1:] of a row that has one. -/
theorem rest_row {w : World} {m : Rm} {x : Int} {l : List Int} (h : RowAt w m (x :: l)) :
    ∃ m', (∀ W, (Instr.slice 52 (.slice m.a (l.length + 1) m.c) (some (.int .i64 1)) none none).run Try.prog W = .ok (.slice m'.a l.length m'.c) W) ∧ RowAt w m' l ∧ ∀ g, ownB m' = some g → ownB m = some g := by
  obtain ⟨i, hi, hz, hs, hb⟩ := info1
  rcases h with ⟨_, h0⟩ | ⟨g, off, cur, ha, hc, hlc, hcm, hbk, hsz, hat⟩
  · cases h0
  · have hr := fun W => run_rest (P := Try.prog) (t := 52) (e := 3) W (by kernel_rfl) (by kernel_rfl) hi hs m.a (l.length + 1) m.c 1 (by omega)
    simp only [Nat.add_sub_cancel] at hr
    by_cases e : m.c = 1
    · refine ⟨⟨m.a, 0⟩, fun W => ?_, ?_, fun q hq => by rw [own_none rfl] at hq; cases hq⟩
      · have e1 : atAddr m.a 1 1 m.c = m.a := by unfold atAddr; rw [if_pos e]
        have hr := hr W
        rw [e1, e] at hr
        rw [e]
        exact hr
      · have hl0 : l = [] := by
          rw [e] at hlc
          simpa using hlc
        rw [hl0]
        exact row_none w m.a
    · refine ⟨⟨some ⟨g, off + 1, none⟩, m.c - 1⟩, fun W => ?_, ?_, fun q hq => ?_⟩
      · have e1 : atAddr m.a 1 1 m.c = some ⟨g, off + 1, none⟩ := by
          unfold atAddr
          rw [if_neg e, ha]
          simp [Addr.add]
        have hr := hr W
        rw [e1] at hr
        exact hr
      · simp at hlc
        refine .inr ⟨g, off + 1, cur, rfl, by show 0 < m.c - 1; omega, by show l.length ≤ m.c - 1; omega, by show m.c - 1 ≤ maxLen; omega, hbk, by show off + 1 + (m.c - 1) ≤ cur.size; omega, fun j y hj => ?_⟩
        have := hat (j + 1) y (by simpa using hj)
        rwa [show off + 1 + j = off + (j + 1) by omega]
      · rw [own_some (m := ⟨some ⟨g, off + 1, none⟩, m.c - 1⟩) (by show 0 < m.c - 1; omega) rfl] at hq
        rw [own_some hc ha]
        exact hq
end Go.Proofs.Ytokkefokodcphaa.Bay
