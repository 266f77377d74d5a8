/- The document's Put and Delete. -/
import Derived.Test.YtighjiiaplihjaaTabA
import Derived.Test.YtighjiiaplihjaaAppend
namespace Go.Proofs.Ytighjiiaplihjaa.Tab
open Go.RowKit Go.Lib

/-- Pairs in a row of the call's own. -/
abbrev Own (w : World) (B : Nat) (v : Value) (l : List Pair) : Prop := w.ownsRow B 42 5 v l.length (cells l)
abbrev zeroPair : Value := .agg #[.int .i64 0, .int .i64 0, .int .i64 0, .int .i64 0, .int .i64 0]
theorem info_pair : (Try.prog.info? 42).map (fun i => (i.zero, i.size, i.bytes)) = some (some zeroPair, 5, 40) := by kernel_rfl
theorem elem_pair : Program.elem Try.prog 29 = 42 := by kernel_rfl
theorem under_pairs : Try.prog.underlying 29 = some (.slice (Program.elem Try.prog 29)) := by
  rw [elem_pair]
  exact Try.underlying29
theorem cells_split (l : List Pair) (n : Nat) : cells l = cells (l.take n) ++ cells (l.drop n) := by rw [← cells_append, List.take_append_drop]
theorem cells_one : ∀ (l : List Pair), ∀ u ∈ cells l, u.oneCell' = true
  | [], u, h => by cases h
  | p :: l, u, h => by
    rw [cells_cons] at h
    rcases List.mem_append.1 h with h | h
    · simp [pairCells] at h
      rcases h with rfl | rfl | rfl | rfl | rfl <;> rfl
    · exact cells_one l u h
theorem pairs_slice {w : World} {B : Nat} {v : Value} {l : List Pair} (h : Own w B v l) : ∃ a c, v = .slice a l.length c ∧ l.length ≤ c ∧ (a = none ∨ ∃ g, a = some ⟨g, 0, none⟩) ∧ ∀ j u, (cells l)[j]? = some u → ∃ g, a = some ⟨g, 0, none⟩ ∧ g < w.heap.size ∧ w.cell? ⟨g, j, none⟩ = some u := by
  rcases h.2 with ⟨hv, h0⟩ | ⟨g, cap, cur, hv, _, hg, hn, _⟩
  · refine ⟨none, 0, by rw [hv, h0], by omega, .inl rfl, fun j u hj => ?_⟩
    have := (List.getElem?_eq_some_iff.1 hj).1
    rw [cells_length, h0] at this
    omega
  · refine ⟨some ⟨g, 0, none⟩, cap, hv, hn, .inr ⟨g, rfl⟩, fun j u hj => ⟨g, rfl, (Array.getElem?_eq_some_iff.1 hg).1, ?_⟩⟩
    have := h.cells (g := g) (by rw [hv]; rfl) j u hj
    have hadd : (⟨g, 0, none⟩ : Addr).add j = ⟨g, j, none⟩ := by unfold Addr.add; split <;> simp_all
    rw [hadd] at this
    exact this
theorem addr_add (g o j : Nat) : (⟨g, o, none⟩ : Addr).add j = ⟨g, o + j, none⟩ := by
  unfold Addr.add
  split
  · rename_i h
    subst h
    simp
  · rfl
/-- The first n of them, as a source. -/
theorem src_take {w W : World} {B : Nat} {a : Option Addr} {c : Nat} {l : List Pair} (h : Own w B (.slice a l.length c) l) (hb : ∀ g j, g < w.heap.size → a = some ⟨g, 0, none⟩ → W.cell? ⟨g, j, none⟩ = w.cell? ⟨g, j, none⟩) (n : Nat) :
    ∀ j u, (cells (l.take n))[j]? = some u → ∃ ad, a = some ad ∧ W.cell? (ad.add j) = some u := fun j u hj => by
  obtain ⟨a', c', e, _, _, hs⟩ := pairs_slice h
  injection e with e1 _ _
  subst e1
  have h1 : (cells l)[j]? = some u := by
    rw [cells_split l n, List.getElem?_append_left (List.getElem?_eq_some_iff.1 hj).1]
    exact hj
  obtain ⟨g, rfl, hg, hc⟩ := hs j u h1
  refine ⟨_, rfl, ?_⟩
  rw [addr_add, Nat.zero_add, hb g j hg rfl, hc]
/-- Those from the n-th on, as a source. -/
theorem src_drop {w W : World} {B : Nat} {a : Option Addr} {c : Nat} {l : List Pair} (h : Own w B (.slice a l.length c) l) (hb : ∀ g j, g < w.heap.size → a = some ⟨g, 0, none⟩ → W.cell? ⟨g, j, none⟩ = w.cell? ⟨g, j, none⟩) (n : Nat) :
    ∀ j u, (cells (l.drop n))[j]? = some u → ∃ ad, atAddr a 5 n c = some ad ∧ W.cell? (ad.add j) = some u := fun j u hj => by
  obtain ⟨a', c', e, hlc, _, hs⟩ := pairs_slice h
  injection e with e1 _ e3
  subst e1; subst e3
  have hlt := (List.getElem?_eq_some_iff.1 hj).1
  rw [cells_length, List.length_drop] at hlt
  have hn : n < l.length := by omega
  have ht : (cells (l.take n)).length = n * 5 := by rw [cells_length, List.length_take]; omega
  have h1 : (cells l)[n * 5 + j]? = some u := by
    rw [cells_split l n, List.getElem?_append_right (by omega), ht, Nat.add_sub_cancel_left]
    exact hj
  obtain ⟨g, rfl, hg, hc⟩ := hs _ u h1
  refine ⟨⟨g, n * 5, none⟩, ?_, ?_⟩
  · unfold atAddr
    rw [if_neg (by omega)]
    simp [addr_add]
  · rw [addr_add, hb g _ hg rfl, hc]
/-- One append of pairs, as an equation. -/
theorem app_pairs (w : World) (B : Nat) (v : Value) (xs ys : List Pair) (h : Own w B v xs) (xa : Option Addr) (m xc : Nat) (hm : m = ys.length) (hsrc : ∀ j u, (cells ys)[j]? = some u → ∃ ad, xa = some ad ∧ w.cell? (ad.add j) = some u) (hl : xs.length + ys.length ≤ 1099511627776) (hB : B ≤ w.heap.size) :
    ∃ v' w', (Builtin.append_ #[29, 29] 29 #[v, .slice xa m xc]).run Try.prog w = .ok v' w' ∧ Own w' B v' (xs ++ ys) ∧ Below B w w' := by
  obtain ⟨i0, hi, hz0, hz1, hz2⟩ := info_parts info_pair
  subst hm
  obtain ⟨v', w', hr, h2, h3⟩ := app_any (P := Try.prog) (t := 29) (e := 42) (i := i0) w B 29 zeroPair 5 40 Try.underlying29 hi hz0 hz1 hz2 rfl (by omega) v xs.length (cells xs) h xa ys.length xc (cells ys) (cells_length ys) hsrc (cells_one ys) (by unfold maxLen; omega) (by omega) hB
  rw [← cells_append, ← List.length_append] at h2
  exact ⟨v', w', hr, h2, (Below.refl B w).grown h3 hB (fun k hk => (h.lt k hk).1)⟩
theorem own_next {w w' : World} {B : Nat} {v : Value} {l : List Pair} (h : Own w B v l) (hb : Below w.heap.size w w') : Own w' B v l := h.kept (row := none) ⟨hb.os, hb.tape, hb.output, hb.size, fun i hi _ => hb.block i hi⟩ (Classical.em _)
theorem place_lt {l : List Pair} {k : Key} {n : Nat} (hn : place l k = n) (h : has l k = true) : n + 1 ≤ l.length := by
  rw [← hn]
  show place l k < l.length
  obtain ⟨p, hp, hh⟩ := List.any_eq_true.1 h
  refine List.length_filter_lt_length_iff_exists.2 ⟨p, hp, ?_⟩
  have := of_decide_eq_true hh
  unfold below
  simp
  omega
set_option maxRecDepth 100000 in
set_option maxHeartbeats 4000000 in
theorem put_any (lv : Value) (l : List Pair) (k : Key) (x : Int) (w : World) (h : Pairs w lv l) (hl : l.length ≤ 1048576) :
    Calls Try.prog 27 #[lv, kV k, .int .i64 x] w fun e w' => ∃ v', e = .returned (.tuple #[v', .bool (!has l k)]) ∧ Own w' w.heap.size v' (put l k x) ∧ Below w.heap.size w w' := by
  obtain ⟨i0, hi, hz0, hz1, hz2⟩ := info_parts info_pair
  obtain ⟨a, c, rfl, hcap, ha, _⟩ := pairs_slice h
  obtain ⟨n, hn⟩ : ∃ n, place l k = n := ⟨_, rfl⟩
  obtain ⟨b, hb⟩ : ∃ b, has l k = b := ⟨_, rfl⟩
  have hnl : n ≤ l.length := hn ▸ place_le l k
  have hX := (Below.refl _ w).alloc (Nat.le_refl _) (.cells k.cells 38)
  have hXs : (w.alloc (.cells k.cells 38)).heap.size = w.heap.size + 1 := by simp
  have hk0 := heap_alloc_new w (.cells k.cells 38)
  have HPL := Lib.hid (place_any (.slice a l.length c) l k _ (own_next h hX) hl)
  have HT := Lib.hid (fun (W : World) => run_take (P := Try.prog) W elem_pair under_pairs hi a l.length c n ha (by omega))
  have HRS := Lib.hid (fun (W : World) (m : Nat) (hm : m ≤ l.length) => run_rest (P := Try.prog) W elem_pair under_pairs hi hz1 a l.length c m hm)
  rw [show placeV l k = .tuple #[.int .i64 (n : Nat), .bool b] by unfold placeV; rw [hn, hb]] at HPL
  have HH := Lib.hid h; have HX := Lib.hid hX; have HK0 := Lib.hid hk0
  rw [hb]
  clear h hX hk0
  go_enter Try.func27, Try.ntmps27
  go_wp2_with fail
  refine HPL.out.mono ?_
  rintro e W1 ⟨rfl, hb1⟩
  have hw1 := below_then HX.out hb1
  have hkW1 := (hb1.block _ (by omega)).trans HK0.out
  have hs1 := hb1.size
  have hcell1 : ∀ g j, g < w.heap.size → W1.cell? ⟨g, j, none⟩ = w.cell? ⟨g, j, none⟩ := fun g j hg => (bcell hw1).1 g j hg
  obtain ⟨v1, W2, hr1, h1', b2⟩ := app_pairs W1 W1.heap.size (.slice none 0 0) [] (l.take n) (World.ownsRow_nil _ _ _ _) a n c (by rw [List.length_take]; omega) (src_take HH.out (fun g j hg _ => hcell1 g j hg) n) (by rw [List.length_take, List.length_nil]; omega) (Nat.le_refl _)
  rw [List.nil_append] at h1'
  have hs2 := b2.size
  have hkW2 := (b2.block w.heap.size (by omega)).trans hkW1
  obtain ⟨v2, W3, hr2, h2', b3'⟩ := app_pairs (W2.alloc (.cells #[.int .i64 k.a, .int .i64 k.b, .int .i64 k.c, .int .i64 k.d, .int .i64 x] 42)) W1.heap.size v1 (l.take n) [⟨k, x⟩] (h1'.alloc _) (some ⟨W2.heap.size, 0, none⟩) 1 1 rfl (fun j u hj => ⟨_, rfl, by
    have hblk := heap_alloc_new W2 (.cells #[.int .i64 k.a, .int .i64 k.b, .int .i64 k.c, .int .i64 k.d, .int .i64 x] 42)
    rw [addr_add, Nat.zero_add]
    refine cell_block (j := j) hblk ?_
    rw [← Array.getElem?_toList]
    exact hj⟩) (by rw [List.length_take, List.length_singleton]; omega) (by simp; omega)
  have b3 : Below W1.heap.size W2 W3 := by
    have h0 := (Below.refl W1.heap.size W2).alloc hs2 (.cells #[.int .i64 k.a, .int .i64 k.b, .int .i64 k.c, .int .i64 k.d, .int .i64 x] 42)
    exact ⟨b3'.os.trans h0.os, b3'.tape.trans h0.tape, b3'.output.trans h0.output, Nat.le_trans h0.size b3'.size, fun q hq => (b3'.block q hq).trans (h0.block q hq)⟩
  have hs3 := b3.size
  have hcell3 : ∀ g j, g < w.heap.size → W3.cell? ⟨g, j, none⟩ = w.cell? ⟨g, j, none⟩ := fun g j hg => by
    have e1 : W3.heap[g]? = W1.heap[g]? := (b3.block g (by omega)).trans (b2.block g (by omega))
    rw [World.cell?_of_block (w := W1) (w' := W3) (a := ⟨g, j, none⟩) e1, hcell1 g j hg]
  have k0 : W2.cell? ⟨w.heap.size, 0, none⟩ = some (.int .i64 k.a) := cell_block (j := 0) hkW2 rfl
  have k1 : W2.cell? ⟨w.heap.size, 1, none⟩ = some (.int .i64 k.b) := cell_block (j := 1) hkW2 rfl
  have k2 : W2.cell? ⟨w.heap.size, 2, none⟩ = some (.int .i64 k.c) := cell_block (j := 2) hkW2 rfl
  have k3 : W2.cell? ⟨w.heap.size, 3, none⟩ = some (.int .i64 k.d) := cell_block (j := 3) hkW2 rfl
  have HW1 := Lib.hid hw1
  clear hb1 hw1 hkW1 hkW2 hcell1 b3'
  cases b with
  | true =>
    have hput : put l k x = l.take n ++ [⟨k, x⟩] ++ l.drop (n + 1) := by
      unfold put
      rw [hn, hb]
      simp
    have HPUT := Lib.hid hput
    have HM := Lib.hid (HRS.out)
    have hml : n + 1 ≤ l.length := place_lt hn hb
    obtain ⟨v3, W4, hr3, h3, b4⟩ := app_pairs W3 W1.heap.size v2 (l.take n ++ [⟨k, x⟩]) (l.drop (n + 1)) h2' (atAddr a 5 (n + 1) c) (l.length - (n + 1)) (c - (n + 1)) (by rw [List.length_drop]) (src_drop HH.out (fun g j hg _ => hcell3 g j hg) (n + 1)) (by rw [List.length_append, List.length_drop, List.length_take, List.length_singleton]; omega) (by omega)
    have hsl3 := HRS.out W3 (n + 1) hml
    rw [show ((n + 1 : Nat) : Int) = (n : Int) + 1 by omega] at hsl3
    have HR1 := Lib.hid hr1; have HR2 := Lib.hid hr2; have HR3 := Lib.hid hr3
    have HE : Hid (Own W4 w.heap.size v3 (put l k x) ∧ Below w.heap.size w W4) := Lib.hid (by
      refine ⟨?_, ?_⟩
      · rw [HPUT.out]
        exact World.ownsRow.mono h3 (by omega)
      · exact below_then HW1.out ⟨(b4.os.trans b3.os).trans b2.os, (b4.tape.trans b3.tape).trans b2.tape, (b4.output.trans b3.output).trans b2.output, Nat.le_trans b2.size (Nat.le_trans b3.size b4.size), fun q hq => (b4.block q hq).trans ((b3.block q hq).trans (b2.block q hq))⟩)
    have hsl1 := HT.out W1
    clear hr1 hr2 hr3 h1' h2' h3 b2 b3 b4 hput hcell3 hn hb hXs
    go_wp2_with (at_builtin; first | refine walk_run rfl _ _ _ _ rfl _ _ rfl rfl HR1.out ?_ | refine walk_run rfl _ _ _ _ rfl _ _ rfl rfl HR2.out ?_ | refine walk_run rfl _ _ _ _ rfl _ _ rfl rfl HR3.out ?_)
    go_ret2
    exact ⟨_, rfl, HE.out⟩
  | false =>
    have hput : put l k x = l.take n ++ [⟨k, x⟩] ++ l.drop (n) := by
      unfold put
      rw [hn, hb]
      simp
    have HPUT := Lib.hid hput
    have HM := Lib.hid (HRS.out)
    have hml : n ≤ l.length := hnl
    obtain ⟨v3, W4, hr3, h3, b4⟩ := app_pairs W3 W1.heap.size v2 (l.take n ++ [⟨k, x⟩]) (l.drop (n)) h2' (atAddr a 5 (n) c) (l.length - (n)) (c - (n)) (by rw [List.length_drop]) (src_drop HH.out (fun g j hg _ => hcell3 g j hg) (n)) (by rw [List.length_append, List.length_drop, List.length_take, List.length_singleton]; omega) (by omega)
    have hsl3 := HRS.out W3 (n) hml
    have HR1 := Lib.hid hr1; have HR2 := Lib.hid hr2; have HR3 := Lib.hid hr3
    have HE : Hid (Own W4 w.heap.size v3 (put l k x) ∧ Below w.heap.size w W4) := Lib.hid (by
      refine ⟨?_, ?_⟩
      · rw [HPUT.out]
        exact World.ownsRow.mono h3 (by omega)
      · exact below_then HW1.out ⟨(b4.os.trans b3.os).trans b2.os, (b4.tape.trans b3.tape).trans b2.tape, (b4.output.trans b3.output).trans b2.output, Nat.le_trans b2.size (Nat.le_trans b3.size b4.size), fun q hq => (b4.block q hq).trans ((b3.block q hq).trans (b2.block q hq))⟩)
    have hsl1 := HT.out W1
    clear hr1 hr2 hr3 h1' h2' h3 b2 b3 b4 hput hcell3 hn hb hXs
    go_wp2_with (at_builtin; first | refine walk_run rfl _ _ _ _ rfl _ _ rfl rfl HR1.out ?_ | refine walk_run rfl _ _ _ _ rfl _ _ rfl rfl HR2.out ?_ | refine walk_run rfl _ _ _ _ rfl _ _ rfl rfl HR3.out ?_)
    go_ret2
    exact ⟨_, rfl, HE.out⟩
end Go.Proofs.Ytighjiiaplihjaa.Tab
