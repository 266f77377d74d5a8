/- Keys in memory, held against each other; keys in rows. -/
import Derived.Test.YtfebaiefoonncaaRows
import Derived.Test.YtfebaiefoonncaaTbMath
import Derived.Test.YtfebaiefoonncaaAppend
import Derived.Test.YtfebaiefoonncaaStep
import Derived.Laws.OwnMore
import Derived.Laws.StructEq
import Derived.BigQuiet
import Derived.RegionTactic
import Derived.Deep.QuietTactic
import Derived.Deep.RegionHeld3
import Derived.Deep.RegionWith
import Derived.ChangeKeysEq
namespace Go.Proofs.Ytfebaiefoonncaa.Tb
open Go.RowKit Go.Lib

def Key.cells (k : Key) : Array Value := #[.int .i64 k.a, .int .i64 k.b, .int .i64 k.c, .int .i64 k.d]
abbrev kV (k : Key) : Value := .agg #[.int .i64 k.a, .int .i64 k.b, .int .i64 k.c, .int .i64 k.d]
theorem below_drewN {B : Nat} {w w' : World} (h : Below B w w') (k : Nat) : Below B w (w'.drewN k) := ⟨h.os, h.tape, h.output, h.size, h.block⟩
theorem key_at {w : World} {g : Nat} {k : Key} {t : TypeId} (h : w.heap[g]? = some (.cells k.cells t (0, 0))) (j : Nat) (hj : j < 4) : w.cell? ⟨g, j, none⟩ = some (.int .i64 (k.at j)) := by
  match j, hj with
  | 0, _ => exact cell_block (j := 0) h rfl
  | 1, _ => exact cell_block (j := 1) h rfl
  | 2, _ => exact cell_block (j := 2) h rfl
  | 3, _ => exact cell_block (j := 3) h rfl
theorem addr_add (g o j : Nat) : (⟨g, o, none⟩ : Addr).add j = ⟨g, o + j, none⟩ := by
  unfold Addr.add
  split
  · rename_i h
    subst h
    simp
  · rfl
instance : DecidableEq Key := fun x y => decidable_of_iff (x.a = y.a ∧ x.b = y.b ∧ x.c = y.c ∧ x.d = y.d) ⟨fun ⟨h0, h1, h2, h3⟩ => key_eq h0 h1 h2 h3, fun h => by subst h; exact ⟨rfl, rfl, rfl, rfl⟩⟩
theorem key_cell (k : Key) (i : Nat) (h : i < 4) : k.cells[i]? = some (.int .i64 (k.at i)) := by
  match i, h with
  | 0, _ => rfl
  | 1, _ => rfl
  | 2, _ => rfl
  | 3, _ => rfl
set_option maxRecDepth 100000 in
theorem key_items (x y : Key) (d : Nat) (w : World) : ∀ is : List Nat, (∀ i ∈ is, i < 4) → (Op.eqItems (d + 1) 3 1 x.cells y.cells is).run Try.prog w = .ok (is.all fun i => decide (x.at i = y.at i)) w
  | [], _ => by simp [Op.eqItems]
  | i :: is, h => by
    have h1 := h i (by simp)
    have p1 := run_part_plain (P := Try.prog) (w := w) (e := 3) (by kernel_rfl) (key_cell x i h1)
    have p2 := run_part_plain (P := Try.prog) (w := w) (e := 3) (by kernel_rfl) (key_cell y i h1)
    have p3 := run_equalIn_int (P := Try.prog) w d 3 .i64 .i64 (x.at i) (y.at i) Try.underlying3
    have ih := key_items x y d w is (fun j hj => h j (by simp [hj]))
    simp only [Op.eqItems, Nat.mul_one, Sem.run_bind, p1, p2, p3, Result.andThen_ok, List.all_cons]
    by_cases hq : x.at i = y.at i
    · simp [hq, ih]
    · simp [hq]
set_option maxRecDepth 100000 in
theorem run_keys (x y : Key) (d : Nat) (w : World) : (Op.equalIn (d + 2) 65 (kV x) (kV y)).run Try.prog w = .ok (decide (x = y)) w := by
  obtain ⟨i, hi⟩ : ∃ i, Try.prog.info? 3 = some i := by
    cases h : Try.prog.info? 3 with
    | none =>
      have : (Try.prog.info? 3).isSome = true := by kernel_rfl
      rw [h] at this
      cases this
    | some i => exact ⟨i, rfl⟩
  have hc : Try.prog.cellsOf 3 = 1 := by kernel_rfl
  show (Op.equalIn (d + 1 + 1) 65 (.agg x.cells) (.agg y.cells)).run Try.prog w = _
  rw [run_equalIn_array w (d + 1) _ _ Try.underlying65 hi, hc, key_items x y d w (List.range 4) (fun i hi => by simpa using hi)]
  congr 1
  by_cases h : x = y
  · subst h
    simp
  · rw [decide_eq_false h]
    apply Bool.eq_false_iff.2
    intro hall
    have := fun i (hi : i < 4) => of_decide_eq_true ((List.all_eq_true.1 hall) i (by simpa using hi))
    exact h (key_eq (this 0 (by omega)) (this 1 (by omega)) (this 2 (by omega)) (this 3 (by omega)))
/-- Keys, in a row of their own. -/
def keyCells (k : Key) : List Value := [.int .i64 k.a, .int .i64 k.b, .int .i64 k.c, .int .i64 k.d]
def kcells (l : List Key) : List Value := l.flatMap keyCells
theorem kcells_cons (k : Key) (l : List Key) : kcells (k :: l) = keyCells k ++ kcells l := by simp [kcells]
theorem kcells_append (l m : List Key) : kcells (l ++ m) = kcells l ++ kcells m := by simp [kcells]
theorem kcells_length : ∀ l : List Key, (kcells l).length = l.length * 4
  | [] => rfl
  | p :: l => by rw [kcells_cons, List.length_append, kcells_length l]; simp [keyCells]; omega
theorem kcells_at : ∀ (l : List Key) (i : Nat) (p : Key), l[i]? = some p → ∀ (j : Nat) (v : Value), (keyCells p)[j]? = some v → (kcells l)[i * 4 + j]? = some v
  | [], i, p, h => by simp at h
  | q :: l, 0, p, h => by
    intro j v hj
    have : q = p := by simpa using h
    subst this
    have hlt : j < (keyCells q).length := (List.getElem?_eq_some_iff.1 hj).1
    rw [kcells_cons, List.getElem?_append_left (by simpa using hlt)]
    simpa using hj
  | q :: l, i + 1, p, h => by
    intro j v hj
    have ih := kcells_at l i p (by simpa using h) j v hj
    rw [kcells_cons, show (i + 1) * 4 + j = 4 + (i * 4 + j) by omega, List.getElem?_append_right (by simp [keyCells])]
    simpa [keyCells] using ih
abbrev OwnK (w : World) (B : Nat) (v : Value) (l : List Key) : Prop := w.ownsRow B 65 4 v l.length (kcells l)
abbrev zeroKeyV : Value := .agg #[.int .i64 0, .int .i64 0, .int .i64 0, .int .i64 0]
set_option maxRecDepth 100000 in
theorem info_key : (Try.prog.info? 65).map (fun i => (i.zero, i.size, i.bytes)) = some (some zeroKeyV, 4, 32) := by kernel_rfl
theorem kcells_one : ∀ (l : List Key), ∀ u ∈ kcells l, u.oneCell' = true
  | [], u, h => by cases h
  | p :: l, u, h => by
    rw [kcells_cons] at h
    rcases List.mem_append.1 h with h | h
    · simp [keyCells] at h
      rcases h with rfl | rfl | rfl | rfl <;> rfl
    · exact kcells_one l u h
theorem app_keys (w : World) (B : Nat) (v : Value) (xs ys : List Key) (h : OwnK w B v xs) (xa : Option Addr) (m xc : Nat) (hm : m = ys.length) (hsrc : ∀ j u, (kcells ys)[j]? = some u → ∃ ad, xa = some ad ∧ w.cell? (ad.add j) = some u) (hl : xs.length + ys.length ≤ 1099511627776) (hB : B ≤ w.heap.size) :
    ∃ v' w', (Builtin.append_ #[41, 41] 41 #[v, .slice xa m xc]).run Try.prog w = .ok v' w' ∧ OwnK w' B v' (xs ++ ys) ∧ Below B w w' := by
  obtain ⟨i0, hi, hz0, hz1, hz2⟩ := info_parts info_key
  subst hm
  obtain ⟨v', w', hr, h2, h3⟩ := app_any (P := Try.prog) (t := 41) (e := 65) (i := i0) w B 41 zeroKeyV 4 32 Try.underlying41 hi hz0 hz1 hz2 rfl (by omega) v xs.length (kcells xs) h xa ys.length xc (kcells ys) (kcells_length ys) hsrc (kcells_one ys) (by unfold maxLen; omega) (by omega) hB
  rw [← kcells_append, ← List.length_append] at h2
  exact ⟨v', w', hr, h2, (Below.refl B w).grown h3 hB (fun k hk => (h.lt k hk).1)⟩
theorem below_cat {B : Nat} {a b c : World} (h : Below B a b) (k : Below B b c) : Below B a c := ⟨k.os.trans h.os, k.tape.trans h.tape, k.output.trans h.output, Nat.le_trans h.size k.size, fun q hq => (k.block q hq).trans (h.block q hq)⟩
abbrev ptr (Q : Nat) : Value := .pointer (some ⟨Q, 0, none⟩)
section
variable {V : Type}
theorem take_snoc {l : List (Pair V)} {i : Nat} {p : Pair V} (h : l[i]? = some p) : l.take (i + 1) = l.take i ++ [p] := by
  have hi := (List.getElem?_eq_some_iff.1 h).1
  rw [List.take_succ_eq_append_getElem hi, (List.getElem?_eq_some_iff.1 h).2]
abbrev placeV (l : List (Pair V)) (k : Key) : Value := .tuple #[.int .i64 (place l k : Nat), .bool (has l k)]
theorem place_lt {l : List (Pair V)} {k : Key} {n : Nat} (hn : place l k = n) (h : has l k = true) : n + 1 ≤ l.length := by
  rw [← hn]
  show place l k < l.length
  obtain ⟨p, hp, hh⟩ := List.any_eq_true.1 h
  refine List.length_filter_lt_length_iff_exists.2 ⟨p, hp, ?_⟩
  have := of_decide_eq_true hh
  unfold below
  simp
  omega
theorem length_put (l : List (Pair V)) (k : Key) (v : V) : (put l k v).length ≤ l.length + 1 := by
  unfold put
  have := place_le l k
  rw [List.length_append, List.length_cons, List.length_take]
  split
  · rw [List.length_drop]; omega
  · rw [List.length_drop]; omega
theorem length_del (l : List (Pair V)) (k : Key) : (del l k).length ≤ l.length := by
  unfold del
  split
  · rw [← List.eraseIdx_eq_take_drop_succ]
    exact (List.eraseIdx_sublist _ _).length_le
  · exact Nat.le_refl _
def nthP [Inhabited V] (l : List (Pair V)) (n : Nat) : Pair V := l.getD n ⟨zeroKey, default⟩
def valueAt [Inhabited V] (l : List (Pair V)) (k : Key) : V := if has l k then (nthP l (place l k)).v else default
end
end Go.Proofs.Ytfebaiefoonncaa.Tb
