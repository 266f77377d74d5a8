/- Keys and pairs held against each other; the document's Same, SameKeys. -/
import Derived.Test.YtighjiiaplihjaaTabB
import Derived.ChangeKeysEq
namespace Go.Proofs.Ytighjiiaplihjaa.Tab
open Go.RowKit Go.Lib

instance : DecidableEq Key := fun x y => decidable_of_iff (x.a = y.a ∧ x.b = y.b ∧ x.c = y.c ∧ x.d = y.d) ⟨fun ⟨h0, h1, h2, h3⟩ => key_eq h0 h1 h2 h3, fun h => by subst h; exact ⟨rfl, rfl, rfl, rfl⟩⟩
instance : DecidableEq Pair := fun x y => decidable_of_iff (x.k = y.k ∧ x.v = y.v) ⟨fun ⟨h0, h1⟩ => by obtain ⟨k, v⟩ := x; obtain ⟨k', v'⟩ := y; simp only at h0 h1; rw [h0, h1], fun h => by subst h; exact ⟨rfl, rfl⟩⟩
theorem key_cell (k : Key) (i : Nat) (h : i < 4) : k.cells[i]? = some (.int .i64 (k.at i)) := by
  match i, h with
  | 0, _ => rfl
  | 1, _ => rfl
  | 2, _ => rfl
  | 3, _ => rfl
theorem key_items (x y : Key) (d : Nat) (w : World) : ∀ is : List Nat, (∀ i ∈ is, i < 4) → (Op.eqItems (d + 1) 3 1 x.cells y.cells is).run Try.prog w = .ok (is.all fun i => decide (x.at i = y.at i)) w
  | [], _ => by simp [Op.eqItems]
  | i :: is, h => by
    have h1 := h i (by simp)
    have p1 := run_part_plain (P := Try.prog) (w := w) (e := 3) (by kernel_rfl) (key_cell x i h1)
    have p2 := run_part_plain (P := Try.prog) (w := w) (e := 3) (by kernel_rfl) (key_cell y i h1)
    have p3 := run_equalIn_int (P := Try.prog) w d 3 .i64 .i64 (x.at i) (y.at i) Try.underlying3
    have ih := key_items x y d w is (fun j hj => h j (by simp [hj]))
    simp only [Op.eqItems, Nat.mul_one, Sem.run_bind, p1, p2, p3, Result.andThen_ok, List.all_cons]
    by_cases hq : x.at i = y.at i
    · simp [hq, ih]
    · simp [hq]
theorem run_keys (x y : Key) (d : Nat) (w : World) : (Op.equalIn (d + 2) 38 (kV x) (kV y)).run Try.prog w = .ok (decide (x = y)) w := by
  obtain ⟨i, hi⟩ : ∃ i, Try.prog.info? 3 = some i := by
    cases h : Try.prog.info? 3 with
    | none =>
      have : (Try.prog.info? 3).isSome = true := by kernel_rfl
      rw [h] at this
      cases this
    | some i => exact ⟨i, rfl⟩
  have hc : Try.prog.cellsOf 3 = 1 := by kernel_rfl
  show (Op.equalIn (d + 1 + 1) 38 (.agg x.cells) (.agg y.cells)).run Try.prog w = _
  rw [run_equalIn_array w (d + 1) _ _ Try.underlying38 hi, hc, key_items x y d w (List.range 4) (fun i hi => by simpa using hi)]
  congr 1
  by_cases h : x = y
  · subst h
    simp
  · rw [decide_eq_false h]
    apply Bool.eq_false_iff.2
    intro hall
    have := fun i (hi : i < 4) => of_decide_eq_true ((List.all_eq_true.1 hall) i (by simpa using hi))
    exact h (key_eq (this 0 (by omega)) (this 1 (by omega)) (this 2 (by omega)) (this 3 (by omega)))
set_option maxRecDepth 100000 in
set_option maxHeartbeats 2000000 in
theorem run_pairs (p q : Pair) (W : World) : (binOp .neq 42 (pV p) (pV q)).run Try.prog W = .ok (.bool (!decide (p = q))) W := by
  have hk := run_keys p.k q.k 9997 W
  rw [run_neq_struct]
  go_simp
  by_cases h1 : p.k = q.k
  · by_cases h2 : p.v = q.v
    · have : p = q := by obtain ⟨k, v⟩ := p; obtain ⟨k', v'⟩ := q; simp only at h1 h2; rw [h1, h2]
      simp [h1, h2, this]
    · have : ¬ p = q := fun e => h2 (by rw [e])
      simp [h1, h2, this]
  · have : ¬ p = q := fun e => h1 (by rw [e])
    simp [h1, this]
/-- Keys, in a row of their own. -/
def keyCells (k : Key) : List Value := [.int .i64 k.a, .int .i64 k.b, .int .i64 k.c, .int .i64 k.d]
def kcells (l : List Key) : List Value := l.flatMap keyCells
theorem kcells_cons (k : Key) (l : List Key) : kcells (k :: l) = keyCells k ++ kcells l := by simp [kcells]
theorem kcells_append (l m : List Key) : kcells (l ++ m) = kcells l ++ kcells m := by simp [kcells]
theorem kcells_length : ∀ l : List Key, (kcells l).length = l.length * 4
  | [] => rfl
  | p :: l => by rw [kcells_cons, List.length_append, kcells_length l]; simp [keyCells]; omega
theorem kcells_at : ∀ (l : List Key) (i : Nat) (p : Key), l[i]? = some p → ∀ (j : Nat) (v : Value), (keyCells p)[j]? = some v → (kcells l)[i * 4 + j]? = some v
  | [], i, p, h => by simp at h
  | q :: l, 0, p, h => by
    intro j v hj
    have : q = p := by simpa using h
    subst this
    have hlt : j < (keyCells q).length := (List.getElem?_eq_some_iff.1 hj).1
    rw [kcells_cons, List.getElem?_append_left (by simpa using hlt)]
    simpa using hj
  | q :: l, i + 1, p, h => by
    intro j v hj
    have ih := kcells_at l i p (by simpa using h) j v hj
    rw [kcells_cons, show (i + 1) * 4 + j = 4 + (i * 4 + j) by omega, List.getElem?_append_right (by simp [keyCells])]
    simpa [keyCells] using ih
abbrev OwnK (w : World) (B : Nat) (v : Value) (l : List Key) : Prop := w.ownsRow B 38 4 v l.length (kcells l)
theorem keys_at {w : World} {B : Nat} {v : Value} {l : List Key} (h : OwnK w B v l) : ∃ a c, v = .slice a l.length c ∧ l.length ≤ c ∧ ∀ (i : Nat) (p : Key), l[i]? = some p → ∃ g, a = some ⟨g, 0, none⟩ ∧ g < w.heap.size ∧
    w.cell? ⟨g, i * 4, none⟩ = some (.int .i64 p.a) ∧ w.cell? ⟨g, i * 4 + 1, none⟩ = some (.int .i64 p.b) ∧ w.cell? ⟨g, i * 4 + 2, none⟩ = some (.int .i64 p.c) ∧ w.cell? ⟨g, i * 4 + 3, none⟩ = some (.int .i64 p.d) := by
  rcases h.2 with ⟨hv, h0⟩ | ⟨g, cap, cur, hv, _, hg, hn, _⟩
  · refine ⟨none, 0, by rw [hv, h0], by omega, fun i p hi => ?_⟩
    have := (List.getElem?_eq_some_iff.1 hi).1
    omega
  · refine ⟨some ⟨g, 0, none⟩, cap, hv, hn, fun i p hi => ⟨g, rfl, (Array.getElem?_eq_some_iff.1 hg).1, ?_⟩⟩
    have hc : ∀ (j : Nat) (v : Value), (keyCells p)[j]? = some v → w.cell? ⟨g, i * 4 + j, none⟩ = some v := fun j v hj => by
      have := h.cells (g := g) (by rw [hv]; rfl) _ _ (kcells_at l i p hi j v hj)
      rw [addr_add, Nat.zero_add] at this
      exact this
    exact ⟨hc 0 _ rfl, hc 1 _ rfl, hc 2 _ rfl, hc 3 _ rfl⟩
set_option maxRecDepth 100000 in
set_option maxHeartbeats 4000000 in
/-- Same, of two lists that are the same. -/
theorem same_yes (v1 v2 : Value) (l : List Pair) (w : World) (h1 : Pairs w v1 l) (h2 : Pairs w v2 l) (hl : l.length ≤ 1048576) :
    Calls Try.prog 10 #[v1, v2] w fun e w' => e = .returned (.bool true) ∧ Below w.heap.size w w' := by
  obtain ⟨a1, c1, rfl, hc1, hat1⟩ := pairs_at h1
  obtain ⟨a2, c2, rfl, hc2, hat2⟩ := pairs_at h2
  obtain ⟨n, hn⟩ : ∃ n, l.length = n := ⟨_, rfl⟩
  rw [hn] at hc1 hc2 hl ⊢
  have H1 := Lib.hid hat1; have H2 := Lib.hid hat2; have HN := Lib.hid hn
  clear h1 h2 hat1 hat2 hn
  go_enter Try.func10, Try.ntmps10
  go_wp2_with fail
  go_loopw [5] (fun t wr => ∃ k m : Nat, k ≤ n ∧ t = .int .i64 k ∧ wr = w.drewN m) (fun t _ => n - (RowKit.intOf t).toNat)
  case atStart => exact ⟨0, 0, by omega, rfl, rfl⟩
  case round =>
    obtain ⟨k, m, hk, rfl, rfl⟩ := hrel
    by_cases hlt : k < n
    · obtain ⟨p, hp⟩ : ∃ p, l[k]? = some p := ⟨l[k]'(by have := HN.out; omega), List.getElem?_eq_getElem (by have := HN.out; omega)⟩
      obtain ⟨g1, rfl, hg1, c0, c1', c2', c3, c4⟩ := H1.out k p hp
      obtain ⟨g2, rfl, hg2, d0, d1, d2, d3, d4⟩ := H2.out k p hp
      have hk0 : (0 : Int) ≤ (k : Int) := by omega
      have hlt2 : (k : Int) < (n : Int) := by omega
      have hne : ∀ W, (binOp .neq 42 (pV p) (pV p)).run Try.prog W = .ok (.bool false) W := fun W => by
        have := run_pairs p p W
        simpa using this
      go_wp2_with fail
      go_quiet (fail)
      go_wp2_with fail
      go_roundw
      case rel => exact ⟨k + 1, _, by omega, by go_num, rfl⟩
      case measure => simp [RowKit.intOf]; omega
    · obtain rfl : k = n := by omega
      go_wp2_with fail
      go_ret
      exact ⟨rfl, below_drewN (Below.refl _ w) _⟩
set_option maxRecDepth 100000 in
set_option maxHeartbeats 4000000 in
theorem sameKeys_yes (v1 v2 : Value) (B1 B2 : Nat) (l : List Key) (w : World) (h1 : OwnK w B1 v1 l) (h2 : OwnK w B2 v2 l) (hl : l.length ≤ 1048576) :
    Calls Try.prog 12 #[v1, v2] w fun e w' => e = .returned (.bool true) ∧ Below w.heap.size w w' := by
  obtain ⟨a1, c1, rfl, hc1, hat1⟩ := keys_at h1
  obtain ⟨a2, c2, rfl, hc2, hat2⟩ := keys_at h2
  obtain ⟨n, hn⟩ : ∃ n, l.length = n := ⟨_, rfl⟩
  rw [hn] at hc1 hc2 hl ⊢
  have H1 := Lib.hid hat1; have H2 := Lib.hid hat2; have HN := Lib.hid hn
  clear h1 h2 hat1 hat2 hn
  go_enter Try.func12, Try.ntmps12
  go_wp2_with fail
  go_loopw [5] (fun t wr => ∃ k m : Nat, k ≤ n ∧ t = .int .i64 k ∧ wr = w.drewN m) (fun t _ => n - (RowKit.intOf t).toNat)
  case atStart => exact ⟨0, 0, by omega, rfl, rfl⟩
  case round =>
    obtain ⟨k, m, hk, rfl, rfl⟩ := hrel
    by_cases hlt : k < n
    · obtain ⟨p, hp⟩ : ∃ p, l[k]? = some p := ⟨l[k]'(by have := HN.out; omega), List.getElem?_eq_getElem (by have := HN.out; omega)⟩
      obtain ⟨g1, rfl, hg1, c0, c1', c2', c3⟩ := H1.out k p hp
      obtain ⟨g2, rfl, hg2, d0, d1, d2, d3⟩ := H2.out k p hp
      have hk0 : (0 : Int) ≤ (k : Int) := by omega
      have hlt2 : (k : Int) < (n : Int) := by omega
      have hne : ∀ W, (Op.equalIn 10000 38 (kV p) (kV p)).run Try.prog W = .ok true W := fun W => by
        have := run_keys p p 9998 W
        simpa using this
      go_wp2_with fail
      go_quiet (fail)
      go_wp2_with fail
      go_roundw
      case rel => exact ⟨k + 1, _, by omega, by go_num, rfl⟩
      case measure => simp [RowKit.intOf]; omega
    · obtain rfl : k = n := by omega
      go_wp2_with fail
      go_ret
      exact ⟨rfl, below_drewN (Below.refl _ w) _⟩
end Go.Proofs.Ytighjiiaplihjaa.Tab
