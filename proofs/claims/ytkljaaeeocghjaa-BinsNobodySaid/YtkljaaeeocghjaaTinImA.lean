/- The program's table of numbers: what it is in memory (two slices, the first cells of a block of whatever type); its lists, and how it compares keys. -/
import Derived.Test.YtkljaaeeocghjaaTinA
namespace Go.Proofs.Ytkljaaeeocghjaa.Tab.Im
open Go.RowKit Go.Lib

abbrev icells (l : List Int) : List Value := l.map (Value.int .i64)
abbrev OwnI (w : World) (B : Nat) (v : Value) (l : List Int) : Prop := w.ownsRow B 3 1 v l.length (icells l)
abbrev vals (l : List Pair) : List Int := l.map Pair.v
/-- The program's table at block Q: two lists that nobody writes over; F: all that it is made of. -/
structure PTV (w : World) (Q : Nat) (F : Nat → Prop) (l : List Pair) (ks vs : Value) : Prop where
  head : ∃ T, w.heap[Q]? = some (.cells #[ks, vs] T (0, 0))
  keys : OwnK w 0 ks (keys l)
  vals : OwnI w 0 vs (vals l)
  self : F Q
  kb : ∀ q, ks.ownBlock = some q → F q ∧ q ≠ Q
  vb : ∀ q, vs.ownBlock = some q → F q ∧ q ≠ Q
  lt : ∀ k, F k → k < w.heap.size
def PT (w : World) (Q : Nat) (F : Nat → Prop) (l : List Pair) : Prop := ∃ ks vs, PTV w Q F l ks vs
theorem own_same {w w' : World} {B : Nat} {e : TypeId} {size n : Nat} {v : Value} {xs : List Value} (h : w.ownsRow B e size v n xs) (hs : ∀ q, v.ownBlock = some q → w'.heap[q]? = w.heap[q]?) : w'.ownsRow B e size v n xs := by
  refine ⟨h.1, ?_⟩
  rcases h.2 with h1 | ⟨g, cap, cur, hv, h1, h2, h3⟩
  · exact .inl h1
  · exact .inr ⟨g, cap, cur, hv, h1, (hs g (by rw [hv]; rfl)).trans h2, h3⟩
theorem PTV.keep {w w' : World} {Q : Nat} {F : Nat → Prop} {l : List Pair} {ks vs : Value} (h : PTV w Q F l ks vs) (hsz : w.heap.size ≤ w'.heap.size) (hk : ∀ k, F k → w'.heap[k]? = w.heap[k]?) : PTV w' Q F l ks vs :=
  ⟨h.head.imp fun _ e => (hk Q h.self).trans e, own_same h.keys (fun q hq => hk q (h.kb q hq).1), own_same h.vals (fun q hq => hk q (h.vb q hq).1), h.self, h.kb, h.vb, fun k hf => Nat.lt_of_lt_of_le (h.lt k hf) hsz⟩
theorem PTV.under {w w' : World} {Q : Nat} {F : Nat → Prop} {l : List Pair} {ks vs : Value} (h : PTV w Q F l ks vs) (hb : Below w.heap.size w w') : PTV w' Q F l ks vs :=
  h.keep hb.size (fun k hk => hb.block k (h.lt k hk))
theorem PT.keep {w w' : World} {Q : Nat} {F : Nat → Prop} {l : List Pair} (h : PT w Q F l) (hsz : w.heap.size ≤ w'.heap.size) (hk : ∀ k, F k → w'.heap[k]? = w.heap[k]?) : PT w' Q F l := by
  obtain ⟨ks, vs, h⟩ := h
  exact ⟨ks, vs, h.keep hsz hk⟩
theorem PT.lt {w : World} {Q : Nat} {F : Nat → Prop} {l : List Pair} (h : PT w Q F l) (k : Nat) (hk : F k) : k < w.heap.size := by
  obtain ⟨ks, vs, h⟩ := h
  exact h.lt k hk
/-- A table's two fields. -/
theorem PTV.cells {w : World} {Q : Nat} {F : Nat → Prop} {l : List Pair} {ks vs : Value} (h : PTV w Q F l ks vs) : w.cell? ⟨Q, 0, none⟩ = some ks ∧ w.cell? ⟨Q, 1, none⟩ = some vs :=
  h.head.elim fun _ e => ⟨cell_block (j := 0) e rfl, cell_block (j := 1) e rfl⟩
/-- A slice of a row of the table's. -/
theorem rowK {w : World} {B : Nat} {v : Value} {l : List Key} (h : OwnK w B v l) : ∃ a c, v = .slice a l.length c ∧ l.length ≤ c ∧ c ≤ maxLen ∧ (a = none ∨ ∃ g, a = some ⟨g, 0, none⟩) ∧ ∀ j u, (kcells l)[j]? = some u → ∃ g, a = some ⟨g, 0, none⟩ ∧ g < w.heap.size ∧ w.cell? ⟨g, j, none⟩ = some u := by
  rcases h.2 with ⟨hv, h0⟩ | ⟨g, cap, cur, hv, _, hg, hn, hm, _⟩
  · refine ⟨none, 0, by rw [hv, h0], by omega, by unfold maxLen; omega, .inl rfl, fun j u hj => ?_⟩
    have := (List.getElem?_eq_some_iff.1 hj).1
    rw [kcells_length, h0] at this
    omega
  · refine ⟨some ⟨g, 0, none⟩, cap, hv, hn, hm, .inr ⟨g, rfl⟩, fun j u hj => ⟨g, rfl, (Array.getElem?_eq_some_iff.1 hg).1, ?_⟩⟩
    have := h.cells (g := g) (by rw [hv]; rfl) j u hj
    rw [addr_add, Nat.zero_add] at this
    exact this
theorem rowI {w : World} {B : Nat} {v : Value} {l : List Int} (h : OwnI w B v l) : ∃ a c, v = .slice a l.length c ∧ l.length ≤ c ∧ c ≤ maxLen ∧ (a = none ∨ ∃ g, a = some ⟨g, 0, none⟩) ∧ ∀ j u, (icells l)[j]? = some u → ∃ g, a = some ⟨g, 0, none⟩ ∧ g < w.heap.size ∧ w.cell? ⟨g, j, none⟩ = some u := by
  rcases h.2 with ⟨hv, h0⟩ | ⟨g, cap, cur, hv, _, hg, hn, hm, _⟩
  · refine ⟨none, 0, by rw [hv, h0], by omega, by unfold maxLen; omega, .inl rfl, fun j u hj => ?_⟩
    have := (List.getElem?_eq_some_iff.1 hj).1
    rw [List.length_map, h0] at this
    omega
  · refine ⟨some ⟨g, 0, none⟩, cap, hv, hn, hm, .inr ⟨g, rfl⟩, fun j u hj => ⟨g, rfl, (Array.getElem?_eq_some_iff.1 hg).1, ?_⟩⟩
    have := h.cells (g := g) (by rw [hv]; rfl) j u hj
    rw [addr_add, Nat.zero_add] at this
    exact this
set_option maxRecDepth 100000 in
theorem lists_any {Q : Nat} {F : Nat → Prop} {l : List Pair} {ks vs : Value} (w : World) (h : PTV w Q F l ks vs) :
    Calls Try.prog 55 #[ptr Q] w fun e w' => e = .returned (.tuple #[ks, vs]) ∧ ∃ m, w.drewN m = w' := by
  obtain ⟨c0, c1⟩ := h.cells
  clear h
  go_enter Try.func55, Try.ntmps55
  go_wp2_with fail
  go_quiet (fail)
  go_wp2_with fail
  go_ret2
  exact ⟨rfl, _, rfl⟩
set_option maxRecDepth 100000 in
theorem lists_nil (w : World) :
    Calls Try.prog 55 #[.pointer none] w fun e w' => e = .returned (.tuple #[.slice none 0 0, .slice none 0 0]) ∧ w = w' := by
  go_enter Try.func55, Try.ntmps55
  go_wp2_with fail
  go_ret2
  exact ⟨rfl, rfl⟩
set_option maxRecDepth 100000 in
theorem isNaN_any (a : Int) (w : World) : Calls Try.prog 74 #[.int .i64 a] w fun e w' => e = .returned (.bool false) ∧ w = w' := by
  go_enter Try.func74, Try.ntmps74
  go_wp2_with fail
  go_ret
  exact ⟨by simp, rfl⟩
def cmpI (a b : Int) : Int := if a < b then -1 else if b < a then 1 else 0
set_option maxRecDepth 100000 in
theorem cmp_any (a b : Int) (w : World) : Calls Try.prog 73 #[.int .i64 a, .int .i64 b] w fun e w' => e = .returned (.int .i64 (cmpI a b)) ∧ w = w' := by
  have HA := Lib.hid (isNaN_any a w)
  have HB := Lib.hid (isNaN_any b w)
  by_cases h1 : a < b
  · have HC : Hid (cmpI a b = -1) := Lib.hid (by unfold cmpI; rw [if_pos h1])
    go_enter Try.func73, Try.ntmps73
    go_wp2_with fail
    refine HA.out.mono ?_
    rintro e w' ⟨rfl, rfl⟩
    go_wp2_with fail
    refine HB.out.mono ?_
    rintro e w' ⟨rfl, rfl⟩
    go_wp2_with fail
    go_ret
    exact ⟨ret_i64 HC.out.symm, rfl⟩
  · by_cases h2 : b < a
    · have HC : Hid (cmpI a b = 1) := Lib.hid (by unfold cmpI; rw [if_neg h1, if_pos h2])
      go_enter Try.func73, Try.ntmps73
      go_wp2_with fail
      refine HA.out.mono ?_
      rintro e w' ⟨rfl, rfl⟩
      go_wp2_with fail
      refine HB.out.mono ?_
      rintro e w' ⟨rfl, rfl⟩
      go_wp2_with fail
      go_ret
      exact ⟨ret_i64 HC.out.symm, rfl⟩
    · have HC : Hid (cmpI a b = 0) := Lib.hid (by unfold cmpI; rw [if_neg h1, if_neg h2])
      go_enter Try.func73, Try.ntmps73
      go_wp2_with fail
      refine HA.out.mono ?_
      rintro e w' ⟨rfl, rfl⟩
      go_wp2_with fail
      refine HB.out.mono ?_
      rintro e w' ⟨rfl, rfl⟩
      go_wp2_with fail
      go_ret
      exact ⟨ret_i64 HC.out.symm, rfl⟩
theorem cmpI_from (x y : Key) (i : Nat) (h : i < 4) (hc : cmp x y = cmpFrom x y i (4 - i)) : (cmpI (x.at i) (y.at i) = 0 ∧ cmp x y = cmpFrom x y (i + 1) (4 - (i + 1))) ∨ (cmpI (x.at i) (y.at i) ≠ 0 ∧ cmpI (x.at i) (y.at i) = cmp x y) := by
  have hn : 4 - i = (4 - (i + 1)) + 1 := by omega
  rw [hn] at hc
  unfold cmpI
  by_cases h1 : x.at i < y.at i
  · rw [if_pos h1, hc, cmpFrom_less x y i _ h1]
    exact .inr ⟨by decide, rfl⟩
  · by_cases h2 : y.at i < x.at i
    · rw [if_neg h1, if_pos h2, hc, cmpFrom_more x y i _ h2]
      exact .inr ⟨by decide, rfl⟩
    · rw [if_neg h1, if_neg h2, hc, cmpFrom_step x y i _ (by omega)]
      exact .inl ⟨rfl, rfl⟩
set_option maxRecDepth 100000 in
set_option maxHeartbeats 2000000 in
theorem ints_any (b1 b2 : Nat) (x y : Key) (w : World) (h1 : w.heap[b1]? = some (.cells x.cells 81 (0, 0))) (h2 : w.heap[b2]? = some (.cells y.cells 81 (0, 0))) :
    Calls Try.prog 72 #[.slice (some ⟨b1, 0, none⟩) 4 4, .slice (some ⟨b2, 0, none⟩) 4 4] w fun e w' => e = .returned (.int .i64 (cmp x y)) ∧ w = w' := by
  have H1 := Lib.hid h1; have H2 := Lib.hid h2
  clear h1 h2
  go_enter Try.func72, Try.ntmps72
  go_wp2_with fail
  go_loopw [11] (fun t wr => ∃ i : Nat, t = .int .i64 i ∧ i ≤ 4 ∧ wr = w ∧ Hid (cmp x y = cmpFrom x y i (4 - i))) (fun t _ => 4 - (RowKit.intOf t).toNat)
  case atStart => exact ⟨0, rfl, by omega, rfl, Lib.hid rfl⟩
  case round =>
    obtain ⟨i, rfl, hi, rfl, HC⟩ := hrel
    by_cases hlt : i < 4
    · have hx := key_at H1.out i hlt
      have hy := key_at H2.out i hlt
      have HCC := cmpI_from x y i hlt HC.out
      obtain ⟨a, ha⟩ : ∃ a, x.at i = a := ⟨_, rfl⟩
      obtain ⟨b, hb⟩ : ∃ b, y.at i = b := ⟨_, rfl⟩
      rw [ha] at hx HCC
      rw [hb] at hy HCC
      have HCM := Lib.hid (cmp_any a b wr)
      obtain ⟨r, hr⟩ : ∃ r, cmpI a b = r := ⟨_, rfl⟩
      rw [hr] at HCM HCC
      clear ha hb hr
      have hi0 : (0 : Int) ≤ (i : Int) := by omega
      have hi4 : (i : Int) < 4 := by omega
      have hi5 : ¬ (4 : Int) ≤ (i : Int) := by omega
      rcases HCC with ⟨rfl, hc⟩ | ⟨hr, hc⟩
      · have HE := Lib.hid hc
        clear hc
        go_wp2_with fail
        refine HCM.out.mono ?_
        rintro e w' ⟨rfl, rfl⟩
        go_wp2_with fail
        go_roundw
        case rel => exact ⟨i + 1, by go_num, by omega, (by first | rfl | trivial), HE⟩
        case measure => simp [RowKit.intOf]; omega
      · have HE := Lib.hid hc
        have hr2 : (r == 0) = false := by simpa using hr
        have hr3 : (r != 0) = true := by simpa using hr
        clear hc
        go_wp2_with fail
        refine HCM.out.mono ?_
        rintro e w' ⟨rfl, rfl⟩
        go_wp2_with fail
        go_ret
        exact ⟨ret_i64 HE.out, rfl⟩
    · obtain rfl : i = 4 := by omega
      have HE : Hid (cmp x y = 0) := Lib.hid HC.out
      go_wp2_with fail
      go_ret
      exact ⟨ret_i64 HE.out.symm, rfl⟩
set_option maxRecDepth 100000 in
set_option maxHeartbeats 2000000 in
theorem tcompare_any (x y : Key) (w : World) :
    Calls Try.prog 67 #[kV x, kV y] w fun e w' => e = .returned (.int .i64 (cmp x y)) ∧ Below w.heap.size w w' := by
  obtain ⟨Z, hZ⟩ : ∃ Z, (w.alloc (.cells #[.int .i64 x.a, .int .i64 x.b, .int .i64 x.c, .int .i64 x.d] 81)).alloc (.cells #[.int .i64 y.a, .int .i64 y.b, .int .i64 y.c, .int .i64 y.d] 81) = Z := ⟨_, rfl⟩
  have hY : (w.alloc (.cells x.cells 81)).alloc (.cells y.cells 81) = Z := hZ
  have b0 : Z.heap[w.heap.size]? = some (.cells x.cells 81 (0, 0)) := by
    rw [← hY, heap_alloc_old _ _ (by simp)]
    exact heap_alloc_new w _
  have b1 : Z.heap[w.heap.size + 1]? = some (.cells y.cells 81 (0, 0)) := by
    rw [← hY]
    have := heap_alloc_new (w.alloc (.cells x.cells 81)) (.cells y.cells 81)
    simpa using this
  have HB : Hid (∀ m, Below w.heap.size w (Z.drewN m)) := Lib.hid (fun m => by
    have h := ((Below.refl _ w).alloc (Nat.le_refl _) (.cells x.cells 81)).alloc (by simp) (.cells y.cells 81)
    have h2 : Below w.heap.size w Z := by rw [← hY]; exact h
    exact below_drewN h2 m)
  have HC := Lib.hid (fun m => quiet_same (ints_any w.heap.size (w.heap.size + 1) x y (Z.drewN m) b0 b1))
  clear b0 b1 hY
  go_enter Try.func67, Try.ntmps67
  go_wp2_with fail
  clear hZ
  go_quiet (first | (go_at_call 72; exact HC.out _))
  go_wp2_with fail
  go_ret
  exact ⟨rfl, HB.out _⟩
end Go.Proofs.Ytkljaaeeocghjaa.Tab.Im
