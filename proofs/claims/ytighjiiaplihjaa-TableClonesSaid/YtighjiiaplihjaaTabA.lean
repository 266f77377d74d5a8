/- Keys and pairs in memory; the document's Compare and Place. -/
import Derived.Test.YtighjiiaplihjaaRows
import Derived.Test.YtighjiiaplihjaaTabMath
import Derived.Laws.OwnMore
import Derived.Laws.StructEq
import Derived.BigQuiet
import Derived.RegionTactic
import Derived.Deep.QuietTactic
import Derived.Deep.RegionHeld3
namespace Go.Proofs.Ytighjiiaplihjaa.Tab
open Go.RowKit Go.Lib

def Key.cells (k : Key) : Array Value := #[.int .i64 k.a, .int .i64 k.b, .int .i64 k.c, .int .i64 k.d]
abbrev kV (k : Key) : Value := .agg #[.int .i64 k.a, .int .i64 k.b, .int .i64 k.c, .int .i64 k.d]
abbrev pV (p : Pair) : Value := .agg #[.int .i64 p.k.a, .int .i64 p.k.b, .int .i64 p.k.c, .int .i64 p.k.d, .int .i64 p.v]
def pairCells (p : Pair) : List Value := [.int .i64 p.k.a, .int .i64 p.k.b, .int .i64 p.k.c, .int .i64 p.k.d, .int .i64 p.v]
def cells (l : List Pair) : List Value := l.flatMap pairCells
theorem cells_cons (p : Pair) (l : List Pair) : cells (p :: l) = pairCells p ++ cells l := by simp [cells]
theorem cells_append (l m : List Pair) : cells (l ++ m) = cells l ++ cells m := by simp [cells]
theorem cells_length : ∀ l : List Pair, (cells l).length = l.length * 5
  | [] => rfl
  | p :: l => by rw [cells_cons, List.length_append, cells_length l]; simp [pairCells]; omega
theorem cells_at : ∀ (l : List Pair) (i : Nat) (p : Pair), l[i]? = some p → ∀ (j : Nat) (v : Value), (pairCells p)[j]? = some v → (cells l)[i * 5 + j]? = some v
  | [], i, p, h => by simp at h
  | q :: l, 0, p, h => by
    intro j v hj
    have : q = p := by simpa using h
    subst this
    have hlt : j < (pairCells q).length := (List.getElem?_eq_some_iff.1 hj).1
    rw [cells_cons, List.getElem?_append_left (by simpa using hlt)]
    simpa using hj
  | q :: l, i + 1, p, h => by
    intro j v hj
    have ih := cells_at l i p (by simpa using h) j v hj
    rw [cells_cons, show (i + 1) * 5 + j = 5 + (i * 5 + j) by omega, List.getElem?_append_right (by simp [pairCells])]
    simpa [pairCells] using ih
/-- Pairs of the document's, in a row of their own. -/
abbrev Pairs (w : World) (v : Value) (l : List Pair) : Prop := w.ownsRow 0 42 5 v l.length (cells l)
theorem pairs_at {w : World} {v : Value} {l : List Pair} (h : Pairs w v l) : ∃ a c, v = .slice a l.length c ∧ l.length ≤ c ∧ ∀ (i : Nat) (p : Pair), l[i]? = some p → ∃ g, a = some ⟨g, 0, none⟩ ∧ g < w.heap.size ∧
    w.cell? ⟨g, i * 5, none⟩ = some (.int .i64 p.k.a) ∧ w.cell? ⟨g, i * 5 + 1, none⟩ = some (.int .i64 p.k.b) ∧ w.cell? ⟨g, i * 5 + 2, none⟩ = some (.int .i64 p.k.c) ∧ w.cell? ⟨g, i * 5 + 3, none⟩ = some (.int .i64 p.k.d) ∧ w.cell? ⟨g, i * 5 + 4, none⟩ = some (.int .i64 p.v) := by
  rcases h.2 with ⟨hv, h0⟩ | ⟨g, cap, cur, hv, _, hg, hn, _⟩
  · refine ⟨none, 0, by rw [hv, h0], by omega, fun i p hi => ?_⟩
    have := (List.getElem?_eq_some_iff.1 hi).1
    omega
  · refine ⟨some ⟨g, 0, none⟩, cap, hv, hn, fun i p hi => ⟨g, rfl, (Array.getElem?_eq_some_iff.1 hg).1, ?_⟩⟩
    have hadd : ∀ j, (⟨g, 0, none⟩ : Addr).add j = ⟨g, j, none⟩ := fun j => by unfold Addr.add; split <;> simp_all
    have hc : ∀ (j : Nat) (v : Value), (pairCells p)[j]? = some v → w.cell? ⟨g, i * 5 + j, none⟩ = some v := fun j v hj => by
      have := h.cells (g := g) (by rw [hv]; rfl) _ _ (cells_at l i p hi j v hj)
      rw [hadd] at this
      exact this
    exact ⟨hc 0 _ rfl, hc 1 _ rfl, hc 2 _ rfl, hc 3 _ rfl, hc 4 _ rfl⟩
theorem below_drewN {B : Nat} {w w' : World} (h : Below B w w') (k : Nat) : Below B w (w'.drewN k) := ⟨h.os, h.tape, h.output, h.size, h.block⟩
theorem key_at {w : World} {g : Nat} {k : Key} {t : TypeId} (h : w.heap[g]? = some (.cells k.cells t (0, 0))) (j : Nat) (hj : j < 4) : w.cell? ⟨g, j, none⟩ = some (.int .i64 (k.at j)) := by
  match j, hj with
  | 0, _ => exact cell_block (j := 0) h rfl
  | 1, _ => exact cell_block (j := 1) h rfl
  | 2, _ => exact cell_block (j := 2) h rfl
  | 3, _ => exact cell_block (j := 3) h rfl
set_option maxRecDepth 100000 in
set_option maxHeartbeats 2000000 in
theorem compare_any (x y : Key) (w : World) :
    Calls Try.prog 19 #[kV x, kV y] w fun e w' => e = .returned (.int .i64 (cmp x y)) ∧ Below w.heap.size w w' := by
  have b0 : ((w.alloc (.cells x.cells 38)).alloc (.cells y.cells 38)).heap[w.heap.size]? = some (.cells x.cells 38 (0, 0)) := by
    rw [heap_alloc_old _ _ (by simp)]
    exact heap_alloc_new w _
  have b1 : ((w.alloc (.cells x.cells 38)).alloc (.cells y.cells 38)).heap[w.heap.size + 1]? = some (.cells y.cells 38 (0, 0)) := by
    have := heap_alloc_new (w.alloc (.cells x.cells 38)) (.cells y.cells 38)
    simpa using this
  have HB0 := Lib.hid b0; have HB1 := Lib.hid b1
  have HBL := Lib.hid (((Below.refl _ w).alloc (Nat.le_refl _) (.cells x.cells 38)).alloc (by simp) (.cells y.cells 38))
  clear b0 b1
  go_enter Try.func19, Try.ntmps19
  go_wp2_with fail
  go_loopw [5] (fun t wr => ∃ i m : Nat, t = .int .i64 i ∧ i ≤ 4 ∧ wr = ((w.alloc (.cells x.cells 38)).alloc (.cells y.cells 38)).drewN m ∧ Hid (cmp x y = cmpFrom x y i (4 - i))) (fun t _ => 4 - (RowKit.intOf t).toNat)
  case atStart => exact ⟨0, 0, rfl, by omega, rfl, Lib.hid rfl⟩
  case round =>
    obtain ⟨i, m, rfl, hi, rfl, HC⟩ := hrel
    obtain ⟨X, hX⟩ : ∃ X, (w.alloc (.cells x.cells 38)).alloc (.cells y.cells 38) = X := ⟨_, rfl⟩
    have HB0' := HB0.out; have HB1' := HB1.out; have HBL' := HBL.out
    rw [hX] at HB0' HB1' HBL' ⊢
    have HBX : Hid (∀ n, Below w.heap.size w (X.drewN n)) := Lib.hid (fun n => ⟨HBL'.os, HBL'.tape, HBL'.output, HBL'.size, HBL'.block⟩)
    by_cases hlt : i < 4
    · have hx := key_at HB0' i hlt
      have hy := key_at HB1' i hlt
      obtain ⟨a, ha⟩ : ∃ a, x.at i = a := ⟨_, rfl⟩
      obtain ⟨b, hb⟩ : ∃ b, y.at i = b := ⟨_, rfl⟩
      rw [ha] at hx
      rw [hb] at hy
      have hn : 4 - i = (4 - (i + 1)) + 1 := by omega
      have hi0 : (0 : Int) ≤ (i : Int) := by omega
      have hi4 : (i : Int) < 4 := by omega
      clear hX HBL' HB0' HB1'
      by_cases h1 : a < b
      · have HE : Hid (cmp x y = -1) := Lib.hid (by
          rw [HC.out, hn]
          exact cmpFrom_less x y i _ (by omega))
        clear ha hb hn
        go_wp2_with fail
        go_quiet (fail)
        go_wp2_with fail
        go_ret
        exact ⟨ret_i64 HE.out.symm, below_drewN (HBX.out _) _⟩
      · by_cases h2 : b < a
        · have HE : Hid (cmp x y = 1) := Lib.hid (by
            rw [HC.out, hn]
            exact cmpFrom_more x y i _ (by omega))
          clear ha hb hn
          go_wp2_with fail
          go_quiet (fail)
          go_wp2_with fail
          go_quiet (fail)
          go_wp2_with fail
          go_ret
          exact ⟨ret_i64 HE.out.symm, below_drewN (below_drewN (HBX.out _) _) _⟩
        · have HE : Hid (cmp x y = cmpFrom x y (i + 1) (4 - (i + 1))) := Lib.hid (by
            rw [HC.out, hn]
            exact cmpFrom_step x y i _ (by omega))
          clear ha hb hn
          go_wp2_with fail
          go_quiet (fail)
          go_wp2_with fail
          go_quiet (fail)
          go_wp2_with fail
          go_roundw
          case rel => exact ⟨i + 1, _, by go_num, by omega, rfl, HE⟩
          case measure => simp [RowKit.intOf]; omega
    · obtain rfl : i = 4 := by omega
      have HE : Hid (cmp x y = 0) := Lib.hid HC.out
      clear hX HB0' HB1' HBL'
      go_wp2_with fail
      go_ret
      exact ⟨ret_i64 HE.out.symm, HBX.out _⟩
/-! Place -/
theorem place_snoc (l : List Pair) (k : Key) (p : Pair) : place (l ++ [p]) k = place l k + (if cmp p.k k < 0 then 1 else 0) := by
  unfold place
  rw [List.filter_append, List.length_append]
  by_cases h : cmp p.k k < 0
  · simp [below, h]
  · simp [below, h]
theorem has_snoc (l : List Pair) (k : Key) (p : Pair) : has (l ++ [p]) k = (has l k || decide (cmp p.k k = 0)) := by
  unfold has
  rw [List.any_append]
  simp [hits]
theorem take_snoc {l : List Pair} {i : Nat} {p : Pair} (h : l[i]? = some p) : l.take (i + 1) = l.take i ++ [p] := by
  have hi := (List.getElem?_eq_some_iff.1 h).1
  rw [List.take_succ_eq_append_getElem hi, (List.getElem?_eq_some_iff.1 h).2]
theorem place_has {l : List Pair} {k : Key} {i m : Nat} {b : Bool} {p : Pair} {r : Int} (hp : l[i]? = some p) (h1 : place (l.take i) k = m) (h2 : has (l.take i) k = b) (hr : cmp p.k k = r) :
    place (l.take (i + 1)) k = m + (if r < 0 then 1 else 0) ∧ has (l.take (i + 1)) k = (b || decide (r = 0)) := by
  rw [take_snoc hp, place_snoc, has_snoc, h1, h2, hr]
  exact ⟨rfl, rfl⟩
abbrev placeV (l : List Pair) (k : Key) : Value := .tuple #[.int .i64 (place l k : Nat), .bool (has l k)]
set_option maxRecDepth 100000 in
set_option maxHeartbeats 4000000 in
theorem place_any (v : Value) (l : List Pair) (k : Key) (w : World) (h : Pairs w v l) (hl : l.length ≤ 1048576) :
    Calls Try.prog 29 #[v, kV k] w fun e w' => e = .returned (placeV l k) ∧ Below w.heap.size w w' := by
  obtain ⟨a, c, rfl, hcap, hat⟩ := pairs_at h
  obtain ⟨n, hn⟩ : ∃ n, l.length = n := ⟨_, rfl⟩
  have hbl := (Below.refl _ w).alloc (Nat.le_refl _) (.cells k.cells 38)
  have hbk := heap_alloc_new w (.cells k.cells 38)
  have HAT := Lib.hid hat; have HBL := Lib.hid hbl; have HBK := Lib.hid hbk; have HN := Lib.hid hn
  rw [hn] at hcap hl ⊢
  clear hat hbl hbk h hn
  go_enter Try.func29, Try.ntmps29
  go_wp2_with fail
  go_loopw [6, 7, 8] (fun tn tb ti wr => ∃ (i m : Nat) (b : Bool), ti = .int .i64 i ∧ i ≤ n ∧ tn = .int .i64 m ∧ m ≤ i ∧ tb = .bool b ∧ Hid (place (l.take i) k = m ∧ has (l.take i) k = b) ∧ Hid (Below w.heap.size w wr) ∧ Hid (wr.heap[w.heap.size]? = some (.cells k.cells 38 (0, 0)))) (fun _ _ t _ => n - (RowKit.intOf t).toNat)
  case atStart => exact ⟨0, 0, false, rfl, by omega, rfl, by omega, rfl, Lib.hid ⟨rfl, rfl⟩, HBL, HBK⟩
  case round =>
    obtain ⟨i, m, b, rfl, hi, rfl, hm, rfl, HP, HB, HK⟩ := hrel
    by_cases hlt : i < n
    · obtain ⟨p, hp⟩ : ∃ p, l[i]? = some p := ⟨l[i]'(by have := HN.out; omega), List.getElem?_eq_getElem (by have := HN.out; omega)⟩
      obtain ⟨g, rfl, hg, c0, c1, c2, c3, c4⟩ := HAT.out i p hp
      have hsz := HB.out.size
      have hkb : w.heap.size < wr.heap.size := (Array.getElem?_eq_some_iff.1 HK.out).1
      have HKB := Lib.hid hkb
      have HS : Hid (∀ W, Below wr.heap.size wr W → (W.cell? ⟨g, i * 5, none⟩ = some (.int .i64 p.k.a) ∧ W.cell? ⟨g, i * 5 + 1, none⟩ = some (.int .i64 p.k.b) ∧ W.cell? ⟨g, i * 5 + 2, none⟩ = some (.int .i64 p.k.c) ∧ W.cell? ⟨g, i * 5 + 3, none⟩ = some (.int .i64 p.k.d)) ∧
          W.cell? ⟨w.heap.size, 0, none⟩ = some (.int .i64 k.a) ∧ W.cell? ⟨w.heap.size, 1, none⟩ = some (.int .i64 k.b) ∧ W.cell? ⟨w.heap.size, 2, none⟩ = some (.int .i64 k.c) ∧ W.cell? ⟨w.heap.size, 3, none⟩ = some (.int .i64 k.d)) := Lib.hid (fun W hW => by
        have hbW := below_then HB.out hW
        have hK := (hW.block _ hkb).trans HK.out
        exact ⟨⟨((bcell hbW).1 g _ hg).trans c0, ((bcell hbW).1 g _ hg).trans c1, ((bcell hbW).1 g _ hg).trans c2, ((bcell hbW).1 g _ hg).trans c3⟩, key_at hK 0 (by omega), key_at hK 1 (by omega), key_at hK 2 (by omega), key_at hK 3 (by omega)⟩)
      obtain ⟨⟨e0, e1, e2, e3⟩, k0, k1, k2, k3⟩ := HS.out wr (Below.refl _ _)
      have hi0 : (0 : Int) ≤ (i : Int) := by omega
      have hlt2 : (i : Int) < (n : Int) := by omega
      clear c0 c1 c2 c3 c4 hkb
      rcases cmp_in p.k k with hr | hr | hr
      · cases b
        · have HC : Hid (Calls Try.prog 19 #[kV p.k, kV k] wr.drew fun e w' => e = .returned (.int .i64 (-1)) ∧ Below wr.heap.size wr w') := Lib.hid (by
            rw [← hr]
            exact (compare_any p.k k wr.drew).mono (fun e w' ⟨h1, h2⟩ => ⟨h1, h2.os, h2.tape, h2.output, h2.size, h2.block⟩))
          have HP2 : Hid (place (l.take (i + 1)) k = m + 1 ∧ has (l.take (i + 1)) k = false) := Lib.hid (by have := place_has hp HP.out.1 HP.out.2 hr; simpa using this)
          clear hr
          go_wp2_with fail
          go_region_held3 (fun W => (W.cell? ⟨g, i * 5, none⟩ = some (.int .i64 p.k.a) ∧ W.cell? ⟨g, i * 5 + 1, none⟩ = some (.int .i64 p.k.b) ∧ W.cell? ⟨g, i * 5 + 2, none⟩ = some (.int .i64 p.k.c) ∧ W.cell? ⟨g, i * 5 + 3, none⟩ = some (.int .i64 p.k.d)) ∧
              W.cell? ⟨w.heap.size, 0, none⟩ = some (.int .i64 k.a) ∧ W.cell? ⟨w.heap.size, 1, none⟩ = some (.int .i64 k.b) ∧ W.cell? ⟨w.heap.size, 2, none⟩ = some (.int .i64 k.c) ∧ W.cell? ⟨w.heap.size, 3, none⟩ = some (.int .i64 k.d))
            (first | exact HS.out _ ((Below.refl _ wr).drew) | exact HS.out _ hb3)
            (first | (go_at_call 19; refine HC.out.mono ?_; rintro e w3 ⟨rfl, hb3⟩))
          all_goals
            go_wp2_with fail
            go_roundw
            case rel => exact ⟨i + 1, m + 1, false, by go_num, by omega, by go_num, by omega, rfl, HP2, Lib.hid (below_then HB.out hb3), Lib.hid ((hb3.block _ HKB.out).trans HK.out)⟩
            case measure => simp [RowKit.intOf]; omega
        · have HC : Hid (Calls Try.prog 19 #[kV p.k, kV k] wr.drew fun e w' => e = .returned (.int .i64 (-1)) ∧ Below wr.heap.size wr w') := Lib.hid (by
            rw [← hr]
            exact (compare_any p.k k wr.drew).mono (fun e w' ⟨h1, h2⟩ => ⟨h1, h2.os, h2.tape, h2.output, h2.size, h2.block⟩))
          have HP2 : Hid (place (l.take (i + 1)) k = m + 1 ∧ has (l.take (i + 1)) k = true) := Lib.hid (by have := place_has hp HP.out.1 HP.out.2 hr; simpa using this)
          clear hr
          go_wp2_with fail
          go_region_held3 (fun W => (W.cell? ⟨g, i * 5, none⟩ = some (.int .i64 p.k.a) ∧ W.cell? ⟨g, i * 5 + 1, none⟩ = some (.int .i64 p.k.b) ∧ W.cell? ⟨g, i * 5 + 2, none⟩ = some (.int .i64 p.k.c) ∧ W.cell? ⟨g, i * 5 + 3, none⟩ = some (.int .i64 p.k.d)) ∧
              W.cell? ⟨w.heap.size, 0, none⟩ = some (.int .i64 k.a) ∧ W.cell? ⟨w.heap.size, 1, none⟩ = some (.int .i64 k.b) ∧ W.cell? ⟨w.heap.size, 2, none⟩ = some (.int .i64 k.c) ∧ W.cell? ⟨w.heap.size, 3, none⟩ = some (.int .i64 k.d))
            (first | exact HS.out _ ((Below.refl _ wr).drew) | exact HS.out _ hb3)
            (first | (go_at_call 19; refine HC.out.mono ?_; rintro e w3 ⟨rfl, hb3⟩))
          all_goals
            go_wp2_with fail
            go_roundw
            case rel => exact ⟨i + 1, m + 1, true, by go_num, by omega, by go_num, by omega, rfl, HP2, Lib.hid (below_then HB.out hb3), Lib.hid ((hb3.block _ HKB.out).trans HK.out)⟩
            case measure => simp [RowKit.intOf]; omega
      · cases b
        · have HC : Hid (Calls Try.prog 19 #[kV p.k, kV k] wr.drew fun e w' => e = .returned (.int .i64 (0)) ∧ Below wr.heap.size wr w') := Lib.hid (by
            rw [← hr]
            exact (compare_any p.k k wr.drew).mono (fun e w' ⟨h1, h2⟩ => ⟨h1, h2.os, h2.tape, h2.output, h2.size, h2.block⟩))
          have HP2 : Hid (place (l.take (i + 1)) k = m ∧ has (l.take (i + 1)) k = true) := Lib.hid (by have := place_has hp HP.out.1 HP.out.2 hr; simpa using this)
          clear hr
          go_wp2_with fail
          go_region_held3 (fun W => (W.cell? ⟨g, i * 5, none⟩ = some (.int .i64 p.k.a) ∧ W.cell? ⟨g, i * 5 + 1, none⟩ = some (.int .i64 p.k.b) ∧ W.cell? ⟨g, i * 5 + 2, none⟩ = some (.int .i64 p.k.c) ∧ W.cell? ⟨g, i * 5 + 3, none⟩ = some (.int .i64 p.k.d)) ∧
              W.cell? ⟨w.heap.size, 0, none⟩ = some (.int .i64 k.a) ∧ W.cell? ⟨w.heap.size, 1, none⟩ = some (.int .i64 k.b) ∧ W.cell? ⟨w.heap.size, 2, none⟩ = some (.int .i64 k.c) ∧ W.cell? ⟨w.heap.size, 3, none⟩ = some (.int .i64 k.d))
            (first | exact HS.out _ ((Below.refl _ wr).drew) | exact HS.out _ hb3)
            (first | (go_at_call 19; refine HC.out.mono ?_; rintro e w3 ⟨rfl, hb3⟩))
          all_goals
            go_wp2_with fail
            go_roundw
            case rel => exact ⟨i + 1, m, true, by go_num, by omega, rfl, by omega, rfl, HP2, Lib.hid (below_then HB.out hb3), Lib.hid ((hb3.block _ HKB.out).trans HK.out)⟩
            case measure => simp [RowKit.intOf]; omega
        · have HC : Hid (Calls Try.prog 19 #[kV p.k, kV k] wr.drew fun e w' => e = .returned (.int .i64 (0)) ∧ Below wr.heap.size wr w') := Lib.hid (by
            rw [← hr]
            exact (compare_any p.k k wr.drew).mono (fun e w' ⟨h1, h2⟩ => ⟨h1, h2.os, h2.tape, h2.output, h2.size, h2.block⟩))
          have HP2 : Hid (place (l.take (i + 1)) k = m ∧ has (l.take (i + 1)) k = true) := Lib.hid (by have := place_has hp HP.out.1 HP.out.2 hr; simpa using this)
          clear hr
          go_wp2_with fail
          go_region_held3 (fun W => (W.cell? ⟨g, i * 5, none⟩ = some (.int .i64 p.k.a) ∧ W.cell? ⟨g, i * 5 + 1, none⟩ = some (.int .i64 p.k.b) ∧ W.cell? ⟨g, i * 5 + 2, none⟩ = some (.int .i64 p.k.c) ∧ W.cell? ⟨g, i * 5 + 3, none⟩ = some (.int .i64 p.k.d)) ∧
              W.cell? ⟨w.heap.size, 0, none⟩ = some (.int .i64 k.a) ∧ W.cell? ⟨w.heap.size, 1, none⟩ = some (.int .i64 k.b) ∧ W.cell? ⟨w.heap.size, 2, none⟩ = some (.int .i64 k.c) ∧ W.cell? ⟨w.heap.size, 3, none⟩ = some (.int .i64 k.d))
            (first | exact HS.out _ ((Below.refl _ wr).drew) | exact HS.out _ hb3)
            (first | (go_at_call 19; refine HC.out.mono ?_; rintro e w3 ⟨rfl, hb3⟩))
          all_goals
            go_wp2_with fail
            go_roundw
            case rel => exact ⟨i + 1, m, true, by go_num, by omega, rfl, by omega, rfl, HP2, Lib.hid (below_then HB.out hb3), Lib.hid ((hb3.block _ HKB.out).trans HK.out)⟩
            case measure => simp [RowKit.intOf]; omega
      · cases b
        · have HC : Hid (Calls Try.prog 19 #[kV p.k, kV k] wr.drew fun e w' => e = .returned (.int .i64 (1)) ∧ Below wr.heap.size wr w') := Lib.hid (by
            rw [← hr]
            exact (compare_any p.k k wr.drew).mono (fun e w' ⟨h1, h2⟩ => ⟨h1, h2.os, h2.tape, h2.output, h2.size, h2.block⟩))
          have HP2 : Hid (place (l.take (i + 1)) k = m ∧ has (l.take (i + 1)) k = false) := Lib.hid (by have := place_has hp HP.out.1 HP.out.2 hr; simpa using this)
          clear hr
          go_wp2_with fail
          go_region_held3 (fun W => (W.cell? ⟨g, i * 5, none⟩ = some (.int .i64 p.k.a) ∧ W.cell? ⟨g, i * 5 + 1, none⟩ = some (.int .i64 p.k.b) ∧ W.cell? ⟨g, i * 5 + 2, none⟩ = some (.int .i64 p.k.c) ∧ W.cell? ⟨g, i * 5 + 3, none⟩ = some (.int .i64 p.k.d)) ∧
              W.cell? ⟨w.heap.size, 0, none⟩ = some (.int .i64 k.a) ∧ W.cell? ⟨w.heap.size, 1, none⟩ = some (.int .i64 k.b) ∧ W.cell? ⟨w.heap.size, 2, none⟩ = some (.int .i64 k.c) ∧ W.cell? ⟨w.heap.size, 3, none⟩ = some (.int .i64 k.d))
            (first | exact HS.out _ ((Below.refl _ wr).drew) | exact HS.out _ hb3)
            (first | (go_at_call 19; refine HC.out.mono ?_; rintro e w3 ⟨rfl, hb3⟩))
          all_goals
            go_wp2_with fail
            go_roundw
            case rel => exact ⟨i + 1, m, false, by go_num, by omega, rfl, by omega, rfl, HP2, Lib.hid (below_then HB.out hb3), Lib.hid ((hb3.block _ HKB.out).trans HK.out)⟩
            case measure => simp [RowKit.intOf]; omega
        · have HC : Hid (Calls Try.prog 19 #[kV p.k, kV k] wr.drew fun e w' => e = .returned (.int .i64 (1)) ∧ Below wr.heap.size wr w') := Lib.hid (by
            rw [← hr]
            exact (compare_any p.k k wr.drew).mono (fun e w' ⟨h1, h2⟩ => ⟨h1, h2.os, h2.tape, h2.output, h2.size, h2.block⟩))
          have HP2 : Hid (place (l.take (i + 1)) k = m ∧ has (l.take (i + 1)) k = true) := Lib.hid (by have := place_has hp HP.out.1 HP.out.2 hr; simpa using this)
          clear hr
          go_wp2_with fail
          go_region_held3 (fun W => (W.cell? ⟨g, i * 5, none⟩ = some (.int .i64 p.k.a) ∧ W.cell? ⟨g, i * 5 + 1, none⟩ = some (.int .i64 p.k.b) ∧ W.cell? ⟨g, i * 5 + 2, none⟩ = some (.int .i64 p.k.c) ∧ W.cell? ⟨g, i * 5 + 3, none⟩ = some (.int .i64 p.k.d)) ∧
              W.cell? ⟨w.heap.size, 0, none⟩ = some (.int .i64 k.a) ∧ W.cell? ⟨w.heap.size, 1, none⟩ = some (.int .i64 k.b) ∧ W.cell? ⟨w.heap.size, 2, none⟩ = some (.int .i64 k.c) ∧ W.cell? ⟨w.heap.size, 3, none⟩ = some (.int .i64 k.d))
            (first | exact HS.out _ ((Below.refl _ wr).drew) | exact HS.out _ hb3)
            (first | (go_at_call 19; refine HC.out.mono ?_; rintro e w3 ⟨rfl, hb3⟩))
          all_goals
            go_wp2_with fail
            go_roundw
            case rel => exact ⟨i + 1, m, true, by go_num, by omega, rfl, by omega, rfl, HP2, Lib.hid (below_then HB.out hb3), Lib.hid ((hb3.block _ HKB.out).trans HK.out)⟩
            case measure => simp [RowKit.intOf]; omega
    · obtain rfl : i = n := by omega
      have HE : Hid (place l k = m ∧ has l k = b) := Lib.hid (by have := HP.out; rw [List.take_of_length_le (by have := HN.out; omega)] at this; exact this)
      have HB2 := HB
      go_wp2_with fail
      go_ret2
      refine ⟨?_, HB2.out⟩
      show Ending.returned (Value.tuple #[.int .i64 (m : Nat), .bool b]) = .returned (placeV l k)
      rw [← HE.out.1, ← HE.out.2]
end Go.Proofs.Ytighjiiaplihjaa.Tab
