/- Lots in memory: a row of one's own; lots that lie somewhere; a bin as a value. -/
import Derived.Test.YtkljaaeeocghjaaRows
import Derived.Test.YtkljaaeeocghjaaBinMath
import Derived.Test.YtkljaaeeocghjaaAppend
import Derived.Laws.OwnMore
import Derived.Laws.StructEq
import Derived.BigQuiet
import Derived.RegionTactic
import Derived.Deep.QuietTactic
namespace Go.Proofs.Ytkljaaeeocghjaa.Bins
open Go.RowKit Go.Lib

abbrev sV (t : Lt) : Value := .agg #[.int .i64 t.b.o, .int .i64 t.b.d, .int .i64 t.b.p, .int .i64 t.b.t, .int .i64 t.q]
def ltCells (t : Lt) : List Value := [.int .i64 t.b.o, .int .i64 t.b.d, .int .i64 t.b.p, .int .i64 t.b.t, .int .i64 t.q]
def Lt.cells (t : Lt) : Array Value := #[.int .i64 t.b.o, .int .i64 t.b.d, .int .i64 t.b.p, .int .i64 t.b.t, .int .i64 t.q]
def lcells (l : List Lt) : List Value := l.flatMap ltCells
theorem lcells_cons (t : Lt) (l : List Lt) : lcells (t :: l) = ltCells t ++ lcells l := by simp [lcells]
theorem lcells_append (l m : List Lt) : lcells (l ++ m) = lcells l ++ lcells m := by simp [lcells]
theorem lcells_length : ∀ l : List Lt, (lcells l).length = l.length * 5
  | [] => rfl
  | p :: l => by rw [lcells_cons, List.length_append, lcells_length l]; simp [ltCells]; omega
theorem lcells_at : ∀ (l : List Lt) (i : Nat) (p : Lt), l[i]? = some p → ∀ (j : Nat) (v : Value), (ltCells p)[j]? = some v → (lcells l)[i * 5 + j]? = some v
  | [], i, p, h => by simp at h
  | q :: l, 0, p, h => by
    intro j v hj
    have : q = p := by simpa using h
    subst this
    have hlt : j < (ltCells q).length := (List.getElem?_eq_some_iff.1 hj).1
    rw [lcells_cons, List.getElem?_append_left (by simpa using hlt)]
    simpa using hj
  | q :: l, i + 1, p, h => by
    intro j v hj
    have ih := lcells_at l i p (by simpa using h) j v hj
    rw [lcells_cons, show (i + 1) * 5 + j = 5 + (i * 5 + j) by omega, List.getElem?_append_right (by simp [ltCells])]
    simpa [ltCells] using ih
theorem lcells_one : ∀ (l : List Lt), ∀ u ∈ lcells l, u.oneCell' = true
  | [], u, h => by cases h
  | p :: l, u, h => by
    rw [lcells_cons] at h
    rcases List.mem_append.1 h with h | h
    · simp [ltCells] at h
      rcases h with rfl | rfl | rfl | rfl | rfl <;> rfl
    · exact lcells_one l u h
theorem take_lt (l : List Lt) (n : Nat) : lcells (l.take n) = (lcells l).take (n * 5) := by
  induction n generalizing l with
  | zero => simp [lcells]
  | succ n ih =>
    cases l with
    | nil => simp [lcells]
    | cons k l => rw [List.take_succ_cons, lcells_cons, lcells_cons, ih, show (n + 1) * 5 = (ltCells k).length + n * 5 by show _ = 5 + n * 5; omega, List.take_length_add_append]
theorem drop_lt (l : List Lt) (n : Nat) : lcells (l.drop n) = (lcells l).drop (n * 5) := by
  induction n generalizing l with
  | zero => simp
  | succ n ih =>
    cases l with
    | nil => simp [lcells]
    | cons k l => rw [List.drop_succ_cons, lcells_cons, ih, show (n + 1) * 5 = (ltCells k).length + n * 5 by show _ = 5 + n * 5; omega, List.drop_length_add_append]
/-- Lots in a row of one's own. -/
abbrev OwnL (w : World) (B : Nat) (v : Value) (l : List Lt) : Prop := w.ownsRow B 66 5 v l.length (lcells l)
abbrev zeroLtV : Value := .agg #[.int .i64 0, .int .i64 0, .int .i64 0, .int .i64 0, .int .i64 0]
theorem info_lt : (Try.prog.info? 66).map (fun i => (i.zero, i.size, i.bytes)) = some (some zeroLtV, 5, 40) := by kernel_rfl
theorem elem_lt : Program.elem Try.prog 22 = 66 := by kernel_rfl
theorem under_lt : Try.prog.underlying 22 = some (.slice (Program.elem Try.prog 22)) := by
  rw [elem_lt]
  exact Try.underlying22
theorem addr_add (g o j : Nat) : (⟨g, o, none⟩ : Addr).add j = ⟨g, o + j, none⟩ := by
  unfold Addr.add
  split
  · rename_i h
    subst h
    simp
  · rfl
theorem own_same {w w' : World} {B : Nat} {e : TypeId} {size n : Nat} {v : Value} {xs : List Value} (h : w.ownsRow B e size v n xs) (hs : ∀ q, v.ownBlock = some q → w'.heap[q]? = w.heap[q]?) : w'.ownsRow B e size v n xs := by
  refine ⟨h.1, ?_⟩
  rcases h.2 with h1 | ⟨g, cap, cur, hv, h1, h2, h3⟩
  · exact .inl h1
  · exact .inr ⟨g, cap, cur, hv, h1, (hs g (by rw [hv]; rfl)).trans h2, h3⟩
theorem own_under {w w' : World} {B : Nat} {e : TypeId} {size n : Nat} {v : Value} {xs : List Value} (h : w.ownsRow B e size v n xs) (hb : Below w.heap.size w w') : w'.ownsRow B e size v n xs := own_same h (fun q hq => hb.block q (h.lt q hq).2)
theorem rowL {w : World} {B : Nat} {v : Value} {l : List Lt} (h : OwnL w B v l) : ∃ a c, v = .slice a l.length c ∧ l.length ≤ c ∧ c ≤ maxLen ∧ (a = none ∨ ∃ g, a = some ⟨g, 0, none⟩) ∧ ∀ j u, (lcells l)[j]? = some u → ∃ g, a = some ⟨g, 0, none⟩ ∧ g < w.heap.size ∧ w.cell? ⟨g, j, none⟩ = some u := by
  rcases h.2 with ⟨hv, h0⟩ | ⟨g, cap, cur, hv, _, hg, hn, hm, _⟩
  · refine ⟨none, 0, by rw [hv, h0], by omega, by unfold maxLen; omega, .inl rfl, fun j u hj => ?_⟩
    have := (List.getElem?_eq_some_iff.1 hj).1
    rw [lcells_length, h0] at this
    omega
  · refine ⟨some ⟨g, 0, none⟩, cap, hv, hn, hm, .inr ⟨g, rfl⟩, fun j u hj => ⟨g, rfl, (Array.getElem?_eq_some_iff.1 hg).1, ?_⟩⟩
    have := h.cells (g := g) (by rw [hv]; rfl) j u hj
    rw [addr_add, Nat.zero_add] at this
    exact this
/-- The five cells of a lot at an address. -/
def CellsL (w : World) (g o : Nat) (p : Lt) : Prop := w.cell? ⟨g, o, none⟩ = some (.int .i64 p.b.o) ∧ w.cell? ⟨g, o + 1, none⟩ = some (.int .i64 p.b.d) ∧ w.cell? ⟨g, o + 2, none⟩ = some (.int .i64 p.b.p) ∧ w.cell? ⟨g, o + 3, none⟩ = some (.int .i64 p.b.t) ∧ w.cell? ⟨g, o + 4, none⟩ = some (.int .i64 p.q)
theorem row_lt {w : World} {B : Nat} {v : Value} {l : List Lt} (h : OwnL w B v l) : ∃ a c, v = .slice a l.length c ∧ l.length ≤ c ∧ ∀ (i : Nat) (p : Lt), l[i]? = some p → ∃ g, a = some ⟨g, 0, none⟩ ∧ g < w.heap.size ∧ CellsL w g (i * 5) p := by
  obtain ⟨a, c, hv, hc, _, _, hat⟩ := rowL h
  refine ⟨a, c, hv, hc, fun i p hi => ?_⟩
  obtain ⟨g, rfl, hg, c0⟩ := hat _ _ (lcells_at l i p hi 0 _ rfl)
  have hh : ∀ j u, (ltCells p)[j]? = some u → w.cell? ⟨g, i * 5 + j, none⟩ = some u := fun j u hj => by
    obtain ⟨g2, e, _, c1⟩ := hat _ _ (lcells_at l i p hi j u hj)
    cases e
    exact c1
  exact ⟨g, rfl, hg, c0, hh 1 _ rfl, hh 2 _ rfl, hh 3 _ rfl, hh 4 _ rfl⟩
theorem app_lt (w : World) (B : Nat) (v : Value) (xs ys : List Lt) (h : OwnL w B v xs) (xa : Option Addr) (m xc : Nat) (hm : m = ys.length) (hsrc : ∀ j u, (lcells ys)[j]? = some u → ∃ ad, xa = some ad ∧ w.cell? (ad.add j) = some u) (hl : xs.length + ys.length ≤ 1099511627776) (hB : B ≤ w.heap.size) :
    ∃ v' w', (Builtin.append_ #[22, 22] 22 #[v, .slice xa m xc]).run Try.prog w = .ok v' w' ∧ OwnL w' B v' (xs ++ ys) ∧ Below B w w' := by
  obtain ⟨i0, hi, hz0, hz1, hz2⟩ := info_parts info_lt
  subst hm
  obtain ⟨v', w', hr, h2, h3⟩ := app_any (P := Try.prog) (t := 22) (e := 66) (i := i0) w B 22 zeroLtV 5 40 Try.underlying22 hi hz0 hz1 hz2 rfl (by omega) v xs.length (lcells xs) h xa ys.length xc (lcells ys) (lcells_length ys) hsrc (lcells_one ys) (by unfold maxLen; omega) (by omega) hB
  rw [← lcells_append, ← List.length_append] at h2
  exact ⟨v', w', hr, h2, (Below.refl B w).grown h3 hB (fun k hk => (h.lt k hk).1)⟩
theorem src_take_lt {w : World} {B : Nat} {a : Option Addr} {c : Nat} {l : List Lt} (h : OwnL w B (.slice a l.length c) l) (n : Nat) :
    ∀ j u, (lcells (l.take n))[j]? = some u → ∃ ad, a = some ad ∧ w.cell? (ad.add j) = some u := fun j u hj => by
  obtain ⟨a', c', e, _, _, _, hs⟩ := rowL h
  injection e with e1 _ _
  subst e1
  rw [take_lt] at hj
  have hlt := (List.getElem?_eq_some_iff.1 hj).1
  rw [List.length_take] at hlt
  rw [List.getElem?_take_of_lt (by omega)] at hj
  obtain ⟨g, rfl, _, hc⟩ := hs j u hj
  exact ⟨_, rfl, by rw [addr_add, Nat.zero_add]; exact hc⟩
theorem src_drop_lt {w : World} {B : Nat} {a : Option Addr} {c : Nat} {l : List Lt} (h : OwnL w B (.slice a l.length c) l) (n : Nat) :
    ∀ j u, (lcells (l.drop n))[j]? = some u → ∃ ad, atAddr a 5 n c = some ad ∧ w.cell? (ad.add j) = some u := fun j u hj => by
  obtain ⟨a', c', e, hlc, _, _, hs⟩ := rowL h
  injection e with e1 _ e3
  subst e1; subst e3
  have hn : n < l.length := by
    have hlt := (List.getElem?_eq_some_iff.1 hj).1
    rw [lcells_length, List.length_drop] at hlt
    omega
  rw [drop_lt, List.getElem?_drop] at hj
  obtain ⟨g, rfl, _, hc⟩ := hs _ u hj
  refine ⟨⟨g, n * 5, none⟩, ?_, ?_⟩
  · unfold atAddr
    rw [if_neg (by omega)]
    simp [addr_add]
  · rw [addr_add]
    exact hc
/-- Lots that lie somewhere. -/
def Lots (w : World) (a : Option Addr) (l : List Lt) : Prop := ∀ (i : Nat) (t : Lt), l[i]? = some t → ∃ g off, a = some ⟨g, off, none⟩ ∧ g < w.heap.size ∧ CellsL w g (off + i * 5) t
theorem CellsL.under {w w' : World} {g o : Nat} {t : Lt} (h : CellsL w g o t) (hg : g < w.heap.size) (hb : Below w.heap.size w w') : CellsL w' g o t := by
  obtain ⟨k0, k1, k2, k3, k4⟩ := h
  exact ⟨((bcell hb).1 g _ hg).trans k0, ((bcell hb).1 g _ hg).trans k1, ((bcell hb).1 g _ hg).trans k2, ((bcell hb).1 g _ hg).trans k3, ((bcell hb).1 g _ hg).trans k4⟩
theorem Lots.under {w w' : World} {a : Option Addr} {l : List Lt} (h : Lots w a l) (hb : Below w.heap.size w w') : Lots w' a l := fun i t hi => by
  obtain ⟨g, off, e, hg, k⟩ := h i t hi
  exact ⟨g, off, e, Nat.lt_of_lt_of_le hg hb.size, k.under hg hb⟩
theorem lots_own {w : World} {B : Nat} {v : Value} {l : List Lt} (h : OwnL w B v l) : ∃ a c, v = .slice a l.length c ∧ Lots w a l := by
  obtain ⟨a, c, hv, _, hat⟩ := row_lt h
  refine ⟨a, c, hv, fun i t hi => ?_⟩
  obtain ⟨g, e, hg, k⟩ := hat i t hi
  exact ⟨g, 0, e, hg, by rw [Nat.zero_add]; exact k⟩
theorem nth_at {l : List Lt} {i : Nat} (h : i < l.length) : ∃ t, l[i]? = some t := ⟨l[i], List.getElem?_eq_getElem h⟩
theorem mem_take_succ {l : List Lt} {i : Nat} {t : Lt} (h : l[i]? = some t) {s : Lt} : s ∈ l.take (i + 1) ↔ s ∈ l.take i ∨ s = t := by
  rw [List.take_add_one, h]
  simp
theorem below_cat {B : Nat} {a b c : World} (h : Below B a b) (k : Below B b c) : Below B a c := ⟨k.os.trans h.os, k.tape.trans h.tape, k.output.trans h.output, Nat.le_trans h.size k.size, fun q hq => (k.block q hq).trans (h.block q hq)⟩
/-- The lots of a row, wherever it lies. -/
theorem lots_at {w : World} {a : Option Addr} {l : List Lt} (h : Lots w a l) : Hid (∀ W i, Below w.heap.size w W → i < l.length → ∃ g off t, a = some ⟨g, off, none⟩ ∧ Hid (l[i]? = some t) ∧ CellsL W g (off + i * 5) t) := Lib.hid (fun W i hW hi => by
  obtain ⟨t, ht⟩ := nth_at hi
  obtain ⟨g, off, e, _, k⟩ := (h.under hW) i t ht
  exact ⟨g, off, t, e, Lib.hid ht, k⟩)
/-- What a row of one's own is. -/
theorem own_form {w : World} {B : Nat} {a : Option Addr} {n c : Nat} {l : List Lt} (h : OwnL w B (.slice a n c) l) : l.length = n ∧ n ≤ c ∧ c ≤ maxLen ∧ (a = none ∨ ∃ g, a = some ⟨g, 0, none⟩) ∧ Lots w a l := by
  obtain ⟨a', c', e, h1, h2, h3, _⟩ := rowL h
  injection e with e1 e2 e3
  subst e1; subst e2; subst e3
  obtain ⟨a2, c2, e, h4⟩ := lots_own h
  injection e with e1 _ _
  subst e1
  exact ⟨rfl, h1, h2, h3, h4⟩
abbrev bV (x : Bn) : Value := .agg #[.int .i64 x.o, .int .i64 x.d, .int .i64 x.p, .int .i64 x.t]
end Go.Proofs.Ytkljaaeeocghjaa.Bins
