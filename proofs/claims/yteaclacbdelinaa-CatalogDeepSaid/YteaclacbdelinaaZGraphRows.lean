/- Needs in a row of one's own; one more at its end. -/
import Derived.Test.YteaclacbdelinaaZGraphMath
import Derived.Test.YteaclacbdelinaaZAppend
namespace Go.Proofs.Yteaclacbdelinaa.Graph
open Go.RowKit Go.Lib IRows

theorem own_same {w w' : World} {B : Nat} {e : TypeId} {size n : Nat} {v : Value} {xs : List Value} (h : w.ownsRow B e size v n xs) (hs : ∀ q, v.ownBlock = some q → w'.heap[q]? = w.heap[q]?) : w'.ownsRow B e size v n xs := by
  refine ⟨h.1, ?_⟩
  rcases h.2 with h1 | ⟨g, cap, cur, hv, h1, h2, h3⟩
  · exact .inl h1
  · exact .inr ⟨g, cap, cur, hv, h1, (hs g (by rw [hv]; rfl)).trans h2, h3⟩
theorem own_under {w w' : World} {B : Nat} {e : TypeId} {size n : Nat} {v : Value} {xs : List Value} (h : w.ownsRow B e size v n xs) (hb : Below w.heap.size w w') : w'.ownsRow B e size v n xs := own_same h (fun q hq => hb.block q (h.lt q hq).2)
abbrev sV (t : Nd) : Value := .agg #[.int .i64 t.a, .int .i64 t.b]
def ndCells (t : Nd) : List Value := [.int .i64 t.a, .int .i64 t.b]
def Nd.cells (t : Nd) : Array Value := #[.int .i64 t.a, .int .i64 t.b]
def ncells (l : List Nd) : List Value := l.flatMap ndCells
theorem ncells_cons (t : Nd) (l : List Nd) : ncells (t :: l) = ndCells t ++ ncells l := by simp [ncells]
theorem ncells_append (l m : List Nd) : ncells (l ++ m) = ncells l ++ ncells m := by simp [ncells]
theorem ncells_length : ∀ l : List Nd, (ncells l).length = l.length * 2
  | [] => rfl
  | p :: l => by rw [ncells_cons, List.length_append, ncells_length l]; simp [ndCells]; omega
theorem ncells_at : ∀ (l : List Nd) (i : Nat) (p : Nd), l[i]? = some p → ∀ (j : Nat) (v : Value), (ndCells p)[j]? = some v → (ncells l)[i * 2 + j]? = some v
  | [], i, p, h => by simp at h
  | q :: l, 0, p, h => by
    intro j v hj
    have : q = p := by simpa using h
    subst this
    have hlt : j < (ndCells q).length := (List.getElem?_eq_some_iff.1 hj).1
    rw [ncells_cons, List.getElem?_append_left (by simpa using hlt)]
    simpa using hj
  | q :: l, i + 1, p, h => by
    intro j v hj
    have ih := ncells_at l i p (by simpa using h) j v hj
    rw [ncells_cons, show (i + 1) * 2 + j = 2 + (i * 2 + j) by omega, List.getElem?_append_right (by simp [ndCells])]
    simpa [ndCells] using ih
theorem ncells_one : ∀ (l : List Nd), ∀ u ∈ ncells l, u.oneCell' = true
  | [], u, h => by cases h
  | p :: l, u, h => by
    rw [ncells_cons] at h
    rcases List.mem_append.1 h with h | h
    · simp [ndCells] at h
      rcases h with rfl | rfl <;> rfl
    · exact ncells_one l u h
theorem take_nd (l : List Nd) (n : Nat) : ncells (l.take n) = (ncells l).take (n * 2) := by
  induction n generalizing l with
  | zero => simp [ncells]
  | succ n ih =>
    cases l with
    | nil => simp [ncells]
    | cons k l => rw [List.take_succ_cons, ncells_cons, ncells_cons, ih, show (n + 1) * 2 = (ndCells k).length + n * 2 by show _ = 2 + n * 2; omega, List.take_length_add_append]
theorem drop_nd (l : List Nd) (n : Nat) : ncells (l.drop n) = (ncells l).drop (n * 2) := by
  induction n generalizing l with
  | zero => simp
  | succ n ih =>
    cases l with
    | nil => simp [ncells]
    | cons k l => rw [List.drop_succ_cons, ncells_cons, ih, show (n + 1) * 2 = (ndCells k).length + n * 2 by show _ = 2 + n * 2; omega, List.drop_length_add_append]
/-- Needs in a row of one's own. -/
abbrev OwnN (w : World) (B : Nat) (v : Value) (l : List Nd) : Prop := w.ownsRow B 32 2 v l.length (ncells l)
abbrev zeroNdV : Value := .agg #[.int .i64 0, .int .i64 0]
theorem info_nd : (Try.prog.info? 32).map (fun i => (i.zero, i.size, i.bytes)) = some (some zeroNdV, 2, 16) := by kernel_rfl
theorem elem_nd : Program.elem Try.prog 30 = 32 := by kernel_rfl
theorem under_nd : Try.prog.underlying 30 = some (.slice (Program.elem Try.prog 30)) := by
  rw [elem_nd]
  exact Try.underlying30
theorem rowN {w : World} {B : Nat} {v : Value} {l : List Nd} (h : OwnN w B v l) : ∃ a c, v = .slice a l.length c ∧ l.length ≤ c ∧ c ≤ maxLen ∧ (a = none ∨ ∃ g, a = some ⟨g, 0, none⟩) ∧ ∀ j u, (ncells l)[j]? = some u → ∃ g, a = some ⟨g, 0, none⟩ ∧ g < w.heap.size ∧ w.cell? ⟨g, j, none⟩ = some u := by
  rcases h.2 with ⟨hv, h0⟩ | ⟨g, cap, cur, hv, _, hg, hn, hm, _⟩
  · refine ⟨none, 0, by rw [hv, h0], by omega, by unfold maxLen; omega, .inl rfl, fun j u hj => ?_⟩
    have := (List.getElem?_eq_some_iff.1 hj).1
    rw [ncells_length, h0] at this
    omega
  · refine ⟨some ⟨g, 0, none⟩, cap, hv, hn, hm, .inr ⟨g, rfl⟩, fun j u hj => ⟨g, rfl, (Array.getElem?_eq_some_iff.1 hg).1, ?_⟩⟩
    have := h.cells (g := g) (by rw [hv]; rfl) j u hj
    rw [addr_add, Nat.zero_add] at this
    exact this
theorem row_nd {w : World} {B : Nat} {v : Value} {l : List Nd} (h : OwnN w B v l) : ∃ a c, v = .slice a l.length c ∧ l.length ≤ c ∧ ∀ (i : Nat) (p : Nd), l[i]? = some p → ∃ g, a = some ⟨g, 0, none⟩ ∧ g < w.heap.size ∧
    w.cell? ⟨g, i * 2, none⟩ = some (.int .i64 p.a) ∧ w.cell? ⟨g, i * 2 + 1, none⟩ = some (.int .i64 p.b) := by
  obtain ⟨a, c, hv, hc, _, _, hat⟩ := rowN h
  refine ⟨a, c, hv, hc, fun i p hi => ?_⟩
  obtain ⟨g, rfl, hg, c0⟩ := hat _ _ (ncells_at l i p hi 0 _ rfl)
  have hh : ∀ j u, (ndCells p)[j]? = some u → w.cell? ⟨g, i * 2 + j, none⟩ = some u := fun j u hj => by
    obtain ⟨g2, e, _, c1⟩ := hat _ _ (ncells_at l i p hi j u hj)
    cases e
    exact c1
  exact ⟨g, rfl, hg, c0, hh 1 _ rfl⟩
theorem app_nd (w : World) (B : Nat) (v : Value) (xs ys : List Nd) (h : OwnN w B v xs) (xa : Option Addr) (m xc : Nat) (hm : m = ys.length) (hsrc : ∀ j u, (ncells ys)[j]? = some u → ∃ ad, xa = some ad ∧ w.cell? (ad.add j) = some u) (hl : xs.length + ys.length ≤ 1099511627776) (hB : B ≤ w.heap.size) :
    ∃ v' w', (Builtin.append_ #[30, 30] 30 #[v, .slice xa m xc]).run Try.prog w = .ok v' w' ∧ OwnN w' B v' (xs ++ ys) ∧ Below B w w' := by
  obtain ⟨i0, hi, hz0, hz1, hz2⟩ := info_parts info_nd
  subst hm
  obtain ⟨v', w', hr, h2, h3⟩ := app_any (P := Try.prog) (t := 30) (e := 32) (i := i0) w B 30 zeroNdV 2 16 Try.underlying30 hi hz0 hz1 hz2 rfl (by omega) v xs.length (ncells xs) h xa ys.length xc (ncells ys) (ncells_length ys) hsrc (ncells_one ys) (by unfold maxLen; omega) (by omega) hB
  rw [← ncells_append, ← List.length_append] at h2
  exact ⟨v', w', hr, h2, (Below.refl B w).grown h3 hB (fun k hk => (h.lt k hk).1)⟩
theorem src_take_nd {w : World} {B : Nat} {a : Option Addr} {c : Nat} {l : List Nd} (h : OwnN w B (.slice a l.length c) l) (n : Nat) :
    ∀ j u, (ncells (l.take n))[j]? = some u → ∃ ad, a = some ad ∧ w.cell? (ad.add j) = some u := fun j u hj => by
  obtain ⟨a', c', e, _, _, _, hs⟩ := rowN h
  injection e with e1 _ _
  subst e1
  rw [take_nd] at hj
  have hlt := (List.getElem?_eq_some_iff.1 hj).1
  rw [List.length_take] at hlt
  rw [List.getElem?_take_of_lt (by omega)] at hj
  obtain ⟨g, rfl, _, hc⟩ := hs j u hj
  exact ⟨_, rfl, by rw [addr_add, Nat.zero_add]; exact hc⟩
theorem src_drop_nd {w : World} {B : Nat} {a : Option Addr} {c : Nat} {l : List Nd} (h : OwnN w B (.slice a l.length c) l) (n : Nat) :
    ∀ j u, (ncells (l.drop n))[j]? = some u → ∃ ad, atAddr a 2 n c = some ad ∧ w.cell? (ad.add j) = some u := fun j u hj => by
  obtain ⟨a', c', e, hlc, _, _, hs⟩ := rowN h
  injection e with e1 _ e3
  subst e1; subst e3
  have hn : n < l.length := by
    have hlt := (List.getElem?_eq_some_iff.1 hj).1
    rw [ncells_length, List.length_drop] at hlt
    omega
  rw [drop_nd, List.getElem?_drop] at hj
  obtain ⟨g, rfl, _, hc⟩ := hs _ u hj
  refine ⟨⟨g, n * 2, none⟩, ?_, ?_⟩
  · unfold atAddr
    rw [if_neg (by omega)]
    simp [addr_add]
  · rw [addr_add]
    exact hc
theorem nds_own {w : World} {B : Nat} {a : Option Addr} {n c : Nat} {l : List Nd} (h : OwnN w B (.slice a n c) l) : l.length = n ∧ Nds w a l := by
  obtain ⟨a', c', e, _, hat⟩ := row_nd h
  injection e with e1 e2 _
  subst e1
  refine ⟨e2.symm, fun i t hi => ?_⟩
  obtain ⟨g, e, hg, k0, k1⟩ := hat i t hi
  exact ⟨g, 0, e, hg, by simpa using k0, by simpa using k1⟩
/-- One more need at a row's end, as walks want it. -/
theorem app1n (W : World) {B : Nat} {a : Option Addr} {m c : Nat} {o : List Nd} (t : Nd) (h : OwnN W B (.slice a m c) o) (hm : m ≤ 1048576) (hB : B ≤ W.heap.size) :
    ∃ a' c' W', Hid ((Builtin.append_ #[30, 30] 30 #[.slice a m c, .slice (some ⟨W.heap.size, 0, none⟩) 1 1]).run Try.prog (W.alloc (.cells #[.int .i64 t.a, .int .i64 t.b] 32)) = .ok (.slice a' (m + 1) c') W') ∧ OwnN W' B (.slice a' (m + 1) c') (o ++ [t]) ∧ Below B W W' := by
  have hl : o.length = m := (nds_own h).1
  have hA : Below B W (W.alloc (.cells #[.int .i64 t.a, .int .i64 t.b] 32)) := (Below.refl B W).alloc hB _
  obtain ⟨v2, W3, r2, o2, b2⟩ := app_nd (W.alloc (.cells #[.int .i64 t.a, .int .i64 t.b] 32)) B _ o [t] (h.alloc _) (some ⟨W.heap.size, 0, none⟩) 1 1 rfl (fun j u hj => ⟨_, rfl, by
    have hblk := heap_alloc_new W (.cells #[.int .i64 t.a, .int .i64 t.b] 32)
    rw [addr_add, Nat.zero_add]
    refine cell_block (j := j) hblk ?_
    rw [← Array.getElem?_toList]
    exact hj⟩) (by simp; omega) (Nat.le_trans hB hA.size)
  obtain ⟨a2, c2, rfl, _⟩ := rowN o2
  have e : (o ++ [t]).length = m + 1 := by simp [hl]
  rw [e] at r2 o2
  exact ⟨a2, c2, W3, Lib.hid r2, by rw [e] at *; exact o2, ⟨b2.os.trans hA.os, b2.tape.trans hA.tape, b2.output.trans hA.output, Nat.le_trans hA.size b2.size, fun q hq => (b2.block q hq).trans (hA.block q hq)⟩⟩
end Go.Proofs.Yteaclacbdelinaa.Graph
