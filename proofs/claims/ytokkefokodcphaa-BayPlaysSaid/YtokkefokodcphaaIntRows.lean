/- Rows of ints: of the call's own, one and two; that lie somewhere. -/
import Derived.Test.YtokkefokodcphaaRows
import Derived.Test.YtokkefokodcphaaCommon
import Derived.Laws.OwnMore
import Derived.Deep.AppendLies
namespace Go.Proofs.Ytokkefokodcphaa.IRows
open Go.RowKit Go.Lib

theorem addr_add (g o j : Nat) : (⟨g, o, none⟩ : Addr).add j = ⟨g, o + j, none⟩ := by
  unfold Addr.add
  split
  · rename_i h
    subst h
    simp
  · rfl
theorem info_int : (Try.prog.info? 3).map (fun i => (i.zero, i.size, i.bytes)) = some (some (.int .i64 0), 1, 8) := by kernel_rfl
/-- Ints in a row of one's own. -/
abbrev KS (w : World) (B : Nat) (v : Value) (l : List Int) : Prop := w.ownsRow B 3 1 v l.length (l.map (Value.int .i64))
theorem ks_nil (w : World) (B : Nat) : KS w B (.slice none 0 0) [] := World.ownsRow_nil _ _ _ _
theorem KS.moved {w w' : World} {B : Nat} {v : Value} {l : List Int} (h : KS w B v l) (hk : ∀ k, v.ownBlock = some k → w'.heap[k]? = w.heap[k]?) : KS w' B v l := by
  refine ⟨h.1, ?_⟩
  rcases h.2 with h1 | ⟨g, cap, cur, hv, h1, h2, h3⟩
  · exact .inl h1
  · exact .inr ⟨g, cap, cur, hv, h1, (hk g (by rw [hv]; rfl)).trans h2, h3⟩
theorem KS.under {w w' : World} {B : Nat} {v : Value} {l : List Int} (h : KS w B v l) (hb : Below w.heap.size w w') : KS w' B v l := h.moved fun k hk => hb.block k (h.lt k hk).2
/-- What a row of one's own is, and its cells. -/
theorem KS.at {w : World} {B : Nat} {v : Value} {l : List Int} (h : KS w B v l) : ∃ a c, v = .slice a l.length c ∧ (0 < l.length → ∃ g, a = some ⟨g, 0, none⟩ ∧ B ≤ g ∧ g < w.heap.size) ∧
    ∀ (i : Nat) (x : Int), l[i]? = some x → ∃ g, a = some ⟨g, 0, none⟩ ∧ g < w.heap.size ∧ w.cell? ⟨g, i, none⟩ = some (.int .i64 x) ∧ w.frozen? ⟨g, i, none⟩ = false := by
  rcases h.2 with ⟨hv, h0⟩ | ⟨g, cap, cur, hv, hb, hg, hn, hm, _⟩
  · refine ⟨none, 0, by rw [hv, h0], fun h1 => by omega, fun i x hx => ?_⟩
    have := (List.getElem?_eq_some_iff.1 hx).1
    omega
  · refine ⟨some ⟨g, 0, none⟩, cap, hv, fun _ => ⟨g, rfl, hb, (Array.getElem?_eq_some_iff.1 hg).1⟩, fun i x hx => ⟨g, rfl, (Array.getElem?_eq_some_iff.1 hg).1, ?_, ?_⟩⟩
    · have := h.cells (g := g) (by rw [hv]; rfl) i (.int .i64 x) (by rw [List.getElem?_map, hx]; rfl)
      rw [addr_add, Nat.zero_add] at this
      exact this
    · subst hv
      exact World.ownsRow.frozenAt h i
/-- One more at its end. -/
theorem app_int (w : World) (B : Nat) (v : Value) (xs : List Int) (x : Int) (h : KS w B v xs) (hl : xs.length ≤ 1099511627776) (hB : B ≤ w.heap.size) :
    ∃ g cap w', (Builtin.append_ #[52, 52] 52 #[v, .slice (some ⟨w.heap.size, 0, none⟩) 1 1]).run Try.prog (w.alloc (.cells #[.int .i64 x] 3)) = .ok (.slice (some ⟨g, 0, none⟩) (xs.length + 1) cap) w' ∧
      KS w' B (.slice (some ⟨g, 0, none⟩) (xs.length + 1) cap) (xs ++ [x]) ∧ Below B w w' ∧ (∀ q, q < w.heap.size → v.ownBlock ≠ some q → w'.heap[q]? = w.heap[q]?) ∧ (v.ownBlock = some g ∨ w.heap.size ≤ g) ∧ g < w'.heap.size := by
  obtain ⟨i0, hi, hz0, hz1, hz2⟩ := info_parts info_int
  have hal : Below B w (w.alloc (.cells #[.int .i64 x] 3)) := (Below.refl B w).alloc hB _
  obtain ⟨g, cap, w', hr, h2, h3, h4, h5⟩ := run_append_lies (P := Try.prog) (w.alloc (.cells #[.int .i64 x] 3)) 52 52 B 3 i0 (.int .i64 0) 1 8 Try.underlying52 hi hz0 hz1 hz2 rfl (by omega) v xs.length (xs.map (Value.int .i64)) (h.alloc _) ⟨w.heap.size, 0, none⟩ 1 1 [.int .i64 x] rfl (fun j u hj => by
    match j, hj with
    | 0, hj => simp at hj; subst hj; simp [Addr.add]) (fun u hu => by simp at hu; subst hu; rfl) (by omega) (by unfold maxLen; omega) (by omega) (Nat.le_trans hB hal.size) _ rfl
  refine ⟨g, cap, w', hr, ?_, hal.grown h3 (Nat.le_trans hB hal.size) (fun q hq => (h.lt q hq).1), fun q hq hne => ?_, ?_, h5⟩
  · show w'.ownsRow B 3 1 _ (xs ++ [x]).length ((xs ++ [x]).map (Value.int .i64))
    rw [List.length_append, List.map_append]
    exact h2
  · exact (h3.block q (by simp; omega) (fun e => hne e.symm)).trans (heap_alloc_old _ _ hq)
  · rcases h4 with h4 | h4
    · exact .inl h4
    · right
      rw [h4]
      simp
/-- One of its own is turned. -/
theorem set_int {w : World} {B g c n : Nat} {l : List Int} (h : KS w B (.slice (some ⟨g, 0, none⟩) n c) l) (k : Nat) (x : Int) :
    KS (w.setCell ⟨g, k, none⟩ (.int .i64 x)) B (.slice (some ⟨g, 0, none⟩) n c) (l.set k x) ∧ Below B w (w.setCell ⟨g, k, none⟩ (.int .i64 x)) ∧ ∀ q, q ≠ g → (w.setCell ⟨g, k, none⟩ (.int .i64 x)).heap[q]? = w.heap[q]? := by
  obtain rfl : n = l.length := by
    rcases h.2 with ⟨hv, h0⟩ | ⟨_, _, _, hv, _⟩
    · cases hv
    · injection hv
  obtain ⟨h1, h2⟩ := World.ownsRow.stored h k (.int .i64 x)
  obtain ⟨hB, hlt⟩ := h.lt g rfl
  refine ⟨?_, (Below.refl B w).grown h2 (by omega) (fun q hq => by rw [← Option.some.inj hq]; exact hB), fun q hq => heap_setCell_other w ⟨g, k, none⟩ q _ (fun e => hq e)⟩
  show World.ownsRow _ B 3 1 _ (l.set k x).length ((l.set k x).map (Value.int .i64))
  rw [List.length_set, List.map_set]
  exact h1
/-- Two rows of one's own that do not touch. -/
structure Two (w : World) (B : Nat) (v1 : Value) (l1 : List Int) (v2 : Value) (l2 : List Int) : Prop where
  one : KS w B v1 l1
  two : KS w B v2 l2
  far : ∀ g, v1.ownBlock = some g → v2.ownBlock ≠ some g
theorem Two.swap {w : World} {B : Nat} {v1 v2 : Value} {l1 l2 : List Int} (h : Two w B v1 l1 v2 l2) : Two w B v2 l2 v1 l1 := ⟨h.two, h.one, fun g h1 h2 => h.far g h2 h1⟩
theorem Two.under {w w' : World} {B : Nat} {v1 v2 : Value} {l1 l2 : List Int} (h : Two w B v1 l1 v2 l2) (hb : Below w.heap.size w w') : Two w' B v1 l1 v2 l2 := ⟨h.one.under hb, h.two.under hb, h.far⟩
theorem Two.app {w : World} {B : Nat} {v1 v2 : Value} {l1 l2 : List Int} (h : Two w B v1 l1 v2 l2) (x : Int) (hl : l1.length ≤ 1099511627776) (hB : B ≤ w.heap.size) :
    ∃ g cap w', (Builtin.append_ #[52, 52] 52 #[v1, .slice (some ⟨w.heap.size, 0, none⟩) 1 1]).run Try.prog (w.alloc (.cells #[.int .i64 x] 3)) = .ok (.slice (some ⟨g, 0, none⟩) (l1.length + 1) cap) w' ∧
      Two w' B (.slice (some ⟨g, 0, none⟩) (l1.length + 1) cap) (l1 ++ [x]) v2 l2 ∧ Below B w w' := by
  obtain ⟨g, cap, w', hr, h1, h2, h3, h4, _⟩ := app_int w B v1 l1 x h.one hl hB
  refine ⟨g, cap, w', hr, ⟨h1, h.two.moved fun k hk => h3 k (h.two.lt k hk).2 (fun e => h.far k e hk), fun q hq hq2 => ?_⟩, h2⟩
  have e : g = q := by simpa [Value.ownBlock] using hq
  subst e
  rcases h4 with h4 | h4
  · exact h.far g h4 hq2
  · have := (h.two.lt g hq2).2
    omega
theorem Two.set {w : World} {B g c n : Nat} {v2 : Value} {l1 l2 : List Int} (h : Two w B (.slice (some ⟨g, 0, none⟩) n c) l1 v2 l2) (k : Nat) (x : Int) :
    Two (w.setCell ⟨g, k, none⟩ (.int .i64 x)) B (.slice (some ⟨g, 0, none⟩) n c) (l1.set k x) v2 l2 ∧ Below B w (w.setCell ⟨g, k, none⟩ (.int .i64 x)) := by
  obtain ⟨h1, h2, h3⟩ := set_int h.one k x
  exact ⟨⟨h1, h.two.moved fun q hq => h3 q (fun e => h.far g rfl (by rw [← e]; exact hq)), h.far⟩, h2⟩
/-- Ints that lie somewhere. -/
def IRow (w : World) (a : Option Addr) (l : List Int) : Prop := ∀ (i : Nat) (x : Int), l[i]? = some x → ∃ g off, a = some ⟨g, off, none⟩ ∧ g < w.heap.size ∧ w.cell? ⟨g, off + i, none⟩ = some (.int .i64 x)
theorem IRow.under {w w' : World} {a : Option Addr} {l : List Int} (h : IRow w a l) (hb : Below w.heap.size w w') : IRow w' a l := fun i x hi => by
  obtain ⟨g, off, e, hg, k0⟩ := h i x hi
  exact ⟨g, off, e, Nat.lt_of_lt_of_le hg hb.size, ((bcell hb).1 g _ hg).trans k0⟩
theorem irow_own {w : World} {B : Nat} {v : Value} {l : List Int} (h : KS w B v l) : ∃ a c, v = .slice a l.length c ∧ IRow w a l := by
  obtain ⟨a, c, hv, _, hat⟩ := h.at
  refine ⟨a, c, hv, fun i x hx => ?_⟩
  obtain ⟨g, e, hg, k0, _⟩ := hat i x hx
  exact ⟨g, 0, e, hg, by simpa using k0⟩
/-- .. as a walk wants them, at any world behind. -/
theorem irow_at {w : World} {a : Option Addr} {l : List Int} (h : IRow w a l) : Hid (∀ W i, Below w.heap.size w W → i < l.length → ∃ g off x, a = some ⟨g, off, none⟩ ∧ Hid (l[i]? = some x) ∧ W.cell? ⟨g, off + i, none⟩ = some (.int .i64 x)) := Lib.hid (fun W i hW hi => by
  obtain ⟨g, off, e, _, k0⟩ := (h.under hW) i l[i] (List.getElem?_eq_getElem hi)
  exact ⟨g, off, _, e, Lib.hid (List.getElem?_eq_getElem hi), k0⟩)
theorem irow_all {w : World} {a : Option Addr} {l : List Int} (h : IRow w a l) : Hid (∀ i, i < l.length → ∃ g off x, a = some ⟨g, off, none⟩ ∧ Hid (l[i]? = some x) ∧ Hid (∀ W, Below w.heap.size w W → W.cell? ⟨g, off + i, none⟩ = some (.int .i64 x))) := Lib.hid (fun i hi => by
  obtain ⟨g, off, e, hg, k0⟩ := h i l[i] (List.getElem?_eq_getElem hi)
  exact ⟨g, off, _, e, Lib.hid (List.getElem?_eq_getElem hi), Lib.hid fun W hW => ((bcell hW).1 g _ hg).trans k0⟩)
end Go.Proofs.Ytokkefokodcphaa.IRows
