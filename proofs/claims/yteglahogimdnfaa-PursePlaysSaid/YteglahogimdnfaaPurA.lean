/- Accounts in memory: a row of one's own; accounts that lie somewhere. -/
import Derived.Test.YteglahogimdnfaaRows
import Derived.Test.YteglahogimdnfaaPurMath
import Derived.Test.YteglahogimdnfaaAppend
import Derived.Laws.OwnMore
import Derived.Laws.StructEq
import Derived.BigQuiet
import Derived.RegionTactic
import Derived.Deep.QuietTactic
namespace Go.Proofs.Yteglahogimdnfaa.Purse
open Go.RowKit Go.Lib

abbrev sV (t : Ac) : Value := .agg #[.int .i64 t.own, .int .i64 t.mon]
def acCells (t : Ac) : List Value := [.int .i64 t.own, .int .i64 t.mon]
def Ac.cells (t : Ac) : Array Value := #[.int .i64 t.own, .int .i64 t.mon]
def acells (l : List Ac) : List Value := l.flatMap acCells
theorem acells_cons (t : Ac) (l : List Ac) : acells (t :: l) = acCells t ++ acells l := by simp [acells]
theorem acells_append (l m : List Ac) : acells (l ++ m) = acells l ++ acells m := by simp [acells]
theorem acells_length : ∀ l : List Ac, (acells l).length = l.length * 2
  | [] => rfl
  | p :: l => by rw [acells_cons, List.length_append, acells_length l]; simp [acCells]; omega
theorem acells_at : ∀ (l : List Ac) (i : Nat) (p : Ac), l[i]? = some p → ∀ (j : Nat) (v : Value), (acCells p)[j]? = some v → (acells l)[i * 2 + j]? = some v
  | [], i, p, h => by simp at h
  | q :: l, 0, p, h => by
    intro j v hj
    have : q = p := by simpa using h
    subst this
    have hlt : j < (acCells q).length := (List.getElem?_eq_some_iff.1 hj).1
    rw [acells_cons, List.getElem?_append_left (by simpa using hlt)]
    simpa using hj
  | q :: l, i + 1, p, h => by
    intro j v hj
    have ih := acells_at l i p (by simpa using h) j v hj
    rw [acells_cons, show (i + 1) * 2 + j = 2 + (i * 2 + j) by omega, List.getElem?_append_right (by simp [acCells])]
    simpa [acCells] using ih
theorem acells_one : ∀ (l : List Ac), ∀ u ∈ acells l, u.oneCell' = true
  | [], u, h => by cases h
  | p :: l, u, h => by
    rw [acells_cons] at h
    rcases List.mem_append.1 h with h | h
    · simp [acCells] at h
      rcases h with rfl | rfl <;> rfl
    · exact acells_one l u h
theorem take_ac (l : List Ac) (n : Nat) : acells (l.take n) = (acells l).take (n * 2) := by
  induction n generalizing l with
  | zero => simp [acells]
  | succ n ih =>
    cases l with
    | nil => simp [acells]
    | cons k l => rw [List.take_succ_cons, acells_cons, acells_cons, ih, show (n + 1) * 2 = (acCells k).length + n * 2 by show _ = 2 + n * 2; omega, List.take_length_add_append]
theorem drop_ac (l : List Ac) (n : Nat) : acells (l.drop n) = (acells l).drop (n * 2) := by
  induction n generalizing l with
  | zero => simp
  | succ n ih =>
    cases l with
    | nil => simp [acells]
    | cons k l => rw [List.drop_succ_cons, acells_cons, ih, show (n + 1) * 2 = (acCells k).length + n * 2 by show _ = 2 + n * 2; omega, List.drop_length_add_append]
/-- Accounts in a row of one's own. -/
abbrev OwnA (w : World) (B : Nat) (v : Value) (l : List Ac) : Prop := w.ownsRow B 63 2 v l.length (acells l)
abbrev zeroAcV : Value := .agg #[.int .i64 0, .int .i64 0]
theorem info_ac : (Try.prog.info? 63).map (fun i => (i.zero, i.size, i.bytes)) = some (some zeroAcV, 2, 16) := by kernel_rfl
theorem elem_ac : Program.elem Try.prog 22 = 63 := by kernel_rfl
theorem under_ac : Try.prog.underlying 22 = some (.slice (Program.elem Try.prog 22)) := by
  rw [elem_ac]
  exact Try.underlying22
theorem addr_add (g o j : Nat) : (⟨g, o, none⟩ : Addr).add j = ⟨g, o + j, none⟩ := by
  unfold Addr.add
  split
  · rename_i h
    subst h
    simp
  · rfl
theorem own_same {w w' : World} {B : Nat} {e : TypeId} {size n : Nat} {v : Value} {xs : List Value} (h : w.ownsRow B e size v n xs) (hs : ∀ q, v.ownBlock = some q → w'.heap[q]? = w.heap[q]?) : w'.ownsRow B e size v n xs := by
  refine ⟨h.1, ?_⟩
  rcases h.2 with h1 | ⟨g, cap, cur, hv, h1, h2, h3⟩
  · exact .inl h1
  · exact .inr ⟨g, cap, cur, hv, h1, (hs g (by rw [hv]; rfl)).trans h2, h3⟩
theorem own_under {w w' : World} {B : Nat} {e : TypeId} {size n : Nat} {v : Value} {xs : List Value} (h : w.ownsRow B e size v n xs) (hb : Below w.heap.size w w') : w'.ownsRow B e size v n xs := own_same h (fun q hq => hb.block q (h.lt q hq).2)
theorem rowA {w : World} {B : Nat} {v : Value} {l : List Ac} (h : OwnA w B v l) : ∃ a c, v = .slice a l.length c ∧ l.length ≤ c ∧ c ≤ maxLen ∧ (a = none ∨ ∃ g, a = some ⟨g, 0, none⟩) ∧ ∀ j u, (acells l)[j]? = some u → ∃ g, a = some ⟨g, 0, none⟩ ∧ g < w.heap.size ∧ w.cell? ⟨g, j, none⟩ = some u := by
  rcases h.2 with ⟨hv, h0⟩ | ⟨g, cap, cur, hv, _, hg, hn, hm, _⟩
  · refine ⟨none, 0, by rw [hv, h0], by omega, by unfold maxLen; omega, .inl rfl, fun j u hj => ?_⟩
    have := (List.getElem?_eq_some_iff.1 hj).1
    rw [acells_length, h0] at this
    omega
  · refine ⟨some ⟨g, 0, none⟩, cap, hv, hn, hm, .inr ⟨g, rfl⟩, fun j u hj => ⟨g, rfl, (Array.getElem?_eq_some_iff.1 hg).1, ?_⟩⟩
    have := h.cells (g := g) (by rw [hv]; rfl) j u hj
    rw [addr_add, Nat.zero_add] at this
    exact this
theorem row_ac {w : World} {B : Nat} {v : Value} {l : List Ac} (h : OwnA w B v l) : ∃ a c, v = .slice a l.length c ∧ l.length ≤ c ∧ ∀ (i : Nat) (p : Ac), l[i]? = some p → ∃ g, a = some ⟨g, 0, none⟩ ∧ g < w.heap.size ∧
    w.cell? ⟨g, i * 2, none⟩ = some (.int .i64 p.own) ∧ w.cell? ⟨g, i * 2 + 1, none⟩ = some (.int .i64 p.mon) := by
  obtain ⟨a, c, hv, hc, _, _, hat⟩ := rowA h
  refine ⟨a, c, hv, hc, fun i p hi => ?_⟩
  obtain ⟨g, rfl, hg, c0⟩ := hat _ _ (acells_at l i p hi 0 _ rfl)
  have hh : ∀ j u, (acCells p)[j]? = some u → w.cell? ⟨g, i * 2 + j, none⟩ = some u := fun j u hj => by
    obtain ⟨g2, e, _, c1⟩ := hat _ _ (acells_at l i p hi j u hj)
    cases e
    exact c1
  exact ⟨g, rfl, hg, c0, hh 1 _ rfl⟩
theorem app_ac (w : World) (B : Nat) (v : Value) (xs ys : List Ac) (h : OwnA w B v xs) (xa : Option Addr) (m xc : Nat) (hm : m = ys.length) (hsrc : ∀ j u, (acells ys)[j]? = some u → ∃ ad, xa = some ad ∧ w.cell? (ad.add j) = some u) (hl : xs.length + ys.length ≤ 1099511627776) (hB : B ≤ w.heap.size) :
    ∃ v' w', (Builtin.append_ #[22, 22] 22 #[v, .slice xa m xc]).run Try.prog w = .ok v' w' ∧ OwnA w' B v' (xs ++ ys) ∧ Below B w w' := by
  obtain ⟨i0, hi, hz0, hz1, hz2⟩ := info_parts info_ac
  subst hm
  obtain ⟨v', w', hr, h2, h3⟩ := app_any (P := Try.prog) (t := 22) (e := 63) (i := i0) w B 22 zeroAcV 2 16 Try.underlying22 hi hz0 hz1 hz2 rfl (by omega) v xs.length (acells xs) h xa ys.length xc (acells ys) (acells_length ys) hsrc (acells_one ys) (by unfold maxLen; omega) (by omega) hB
  rw [← acells_append, ← List.length_append] at h2
  exact ⟨v', w', hr, h2, (Below.refl B w).grown h3 hB (fun k hk => (h.lt k hk).1)⟩
theorem src_take_ac {w : World} {B : Nat} {a : Option Addr} {c : Nat} {l : List Ac} (h : OwnA w B (.slice a l.length c) l) (n : Nat) :
    ∀ j u, (acells (l.take n))[j]? = some u → ∃ ad, a = some ad ∧ w.cell? (ad.add j) = some u := fun j u hj => by
  obtain ⟨a', c', e, _, _, _, hs⟩ := rowA h
  injection e with e1 _ _
  subst e1
  rw [take_ac] at hj
  have hlt := (List.getElem?_eq_some_iff.1 hj).1
  rw [List.length_take] at hlt
  rw [List.getElem?_take_of_lt (by omega)] at hj
  obtain ⟨g, rfl, _, hc⟩ := hs j u hj
  exact ⟨_, rfl, by rw [addr_add, Nat.zero_add]; exact hc⟩
theorem src_drop_ac {w : World} {B : Nat} {a : Option Addr} {c : Nat} {l : List Ac} (h : OwnA w B (.slice a l.length c) l) (n : Nat) :
    ∀ j u, (acells (l.drop n))[j]? = some u → ∃ ad, atAddr a 2 n c = some ad ∧ w.cell? (ad.add j) = some u := fun j u hj => by
  obtain ⟨a', c', e, hlc, _, _, hs⟩ := rowA h
  injection e with e1 _ e3
  subst e1; subst e3
  have hn : n < l.length := by
    have hlt := (List.getElem?_eq_some_iff.1 hj).1
    rw [acells_length, List.length_drop] at hlt
    omega
  rw [drop_ac, List.getElem?_drop] at hj
  obtain ⟨g, rfl, _, hc⟩ := hs _ u hj
  refine ⟨⟨g, n * 2, none⟩, ?_, ?_⟩
  · unfold atAddr
    rw [if_neg (by omega)]
    simp [addr_add]
  · rw [addr_add]
    exact hc
/-- Accounts that lie somewhere. -/
def Accs (w : World) (a : Option Addr) (l : List Ac) : Prop := ∀ (i : Nat) (t : Ac), l[i]? = some t → ∃ g off, a = some ⟨g, off, none⟩ ∧ g < w.heap.size ∧ w.cell? ⟨g, off + i * 2, none⟩ = some (.int .i64 t.own) ∧ w.cell? ⟨g, off + i * 2 + 1, none⟩ = some (.int .i64 t.mon)
theorem Accs.under {w w' : World} {a : Option Addr} {l : List Ac} (h : Accs w a l) (hb : Below w.heap.size w w') : Accs w' a l := fun i t hi => by
  obtain ⟨g, off, e, hg, k0, k1⟩ := h i t hi
  exact ⟨g, off, e, Nat.lt_of_lt_of_le hg hb.size, ((bcell hb).1 g _ hg).trans k0, ((bcell hb).1 g _ hg).trans k1⟩
theorem accs_own {w : World} {B : Nat} {v : Value} {l : List Ac} (h : OwnA w B v l) : ∃ a c, v = .slice a l.length c ∧ Accs w a l := by
  obtain ⟨a, c, hv, _, hat⟩ := row_ac h
  refine ⟨a, c, hv, fun i t hi => ?_⟩
  obtain ⟨g, e, hg, k0, k1⟩ := hat i t hi
  exact ⟨g, 0, e, hg, by simpa using k0, by simpa using k1⟩
end Go.Proofs.Yteglahogimdnfaa.Purse
