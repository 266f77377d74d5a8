/- The document's Delete. -/
import Derived.Test.YtighjiiaplihjaaTabB
namespace Go.Proofs.Ytighjiiaplihjaa.Tab
open Go.RowKit Go.Lib

set_option maxRecDepth 100000 in
set_option maxHeartbeats 4000000 in
theorem del_no (lv : Value) (l : List Pair) (k : Key) (w : World) (h : Pairs w lv l) (hl : l.length ≤ 1048576) (hb : has l k = false) :
    Calls Try.prog 28 #[lv, kV k] w fun e w' => e = .returned (.tuple #[lv, .bool false]) ∧ Below w.heap.size w w' := by
  have hX := (Below.refl _ w).alloc (Nat.le_refl _) (.cells k.cells 38)
  have HPL := Lib.hid (place_any lv l k _ (own_next h hX) hl)
  rw [show placeV l k = .tuple #[.int .i64 (place l k : Nat), .bool false] by unfold placeV; rw [hb]] at HPL
  obtain ⟨n, hn⟩ : ∃ n, place l k = n := ⟨_, rfl⟩
  rw [hn] at HPL
  have HX := Lib.hid hX
  clear h hX hn hb
  go_enter Try.func28, Try.ntmps28
  go_wp2_with fail
  refine HPL.out.mono ?_
  rintro e W1 ⟨rfl, hb1⟩
  have HB := Lib.hid (below_then HX.out hb1)
  clear hb1
  go_wp2_with fail
  go_ret2
  exact ⟨rfl, HB.out⟩
set_option maxRecDepth 100000 in
set_option maxHeartbeats 4000000 in
theorem del_yes (lv : Value) (l : List Pair) (k : Key) (w : World) (h : Pairs w lv l) (hl : l.length ≤ 1048576) (hb : has l k = true) :
    Calls Try.prog 28 #[lv, kV k] w fun e w' => ∃ v', e = .returned (.tuple #[v', .bool true]) ∧ Own w' w.heap.size v' (del l k) ∧ Below w.heap.size w w' := by
  obtain ⟨i0, hi, hz0, hz1, hz2⟩ := info_parts info_pair
  obtain ⟨a, c, rfl, hcap, ha, _⟩ := pairs_slice h
  obtain ⟨n, hn⟩ : ∃ n, place l k = n := ⟨_, rfl⟩
  have hnl : n + 1 ≤ l.length := place_lt hn hb
  have hX := (Below.refl _ w).alloc (Nat.le_refl _) (.cells k.cells 38)
  have hXs : (w.alloc (.cells k.cells 38)).heap.size = w.heap.size + 1 := by simp
  have HPL := Lib.hid (place_any (.slice a l.length c) l k _ (own_next h hX) hl)
  have HT := Lib.hid (fun (W : World) => run_take (P := Try.prog) W elem_pair under_pairs hi a l.length c n ha (by omega))
  have HRS := Lib.hid (fun (W : World) => run_rest (P := Try.prog) W elem_pair under_pairs hi hz1 a l.length c (n + 1) hnl)
  rw [show placeV l k = .tuple #[.int .i64 (n : Nat), .bool true] by unfold placeV; rw [hn, hb]] at HPL
  have hdel : del l k = l.take n ++ l.drop (n + 1) := by
    unfold del
    rw [hb, hn]
    rfl
  have HH := Lib.hid h; have HX := Lib.hid hX; have HDEL := Lib.hid hdel
  clear h hX hn hb hdel
  go_enter Try.func28, Try.ntmps28
  go_wp2_with fail
  refine HPL.out.mono ?_
  rintro e W1 ⟨rfl, hb1⟩
  have hw1 := below_then HX.out hb1
  have hs1 := hb1.size
  have hcell1 : ∀ g j, g < w.heap.size → W1.cell? ⟨g, j, none⟩ = w.cell? ⟨g, j, none⟩ := fun g j hg => (bcell hw1).1 g j hg
  obtain ⟨v1, W2, hr1, h1', b2⟩ := app_pairs W1 W1.heap.size (.slice none 0 0) [] (l.take n) (World.ownsRow_nil _ _ _ _) a n c (by rw [List.length_take]; omega) (src_take HH.out (fun g j hg _ => hcell1 g j hg) n) (by rw [List.length_take, List.length_nil]; omega) (Nat.le_refl _)
  rw [List.nil_append] at h1'
  have hs2 := b2.size
  have hcell2 : ∀ g j, g < w.heap.size → W2.cell? ⟨g, j, none⟩ = w.cell? ⟨g, j, none⟩ := fun g j hg => by
    rw [World.cell?_of_block (w := W1) (w' := W2) (a := ⟨g, j, none⟩) (b2.block g (by omega)), hcell1 g j hg]
  obtain ⟨v2, W3, hr2, h2', b3⟩ := app_pairs W2 W1.heap.size v1 (l.take n) (l.drop (n + 1)) h1' (atAddr a 5 (n + 1) c) (l.length - (n + 1)) (c - (n + 1)) (by rw [List.length_drop]) (src_drop HH.out (fun g j hg _ => hcell2 g j hg) (n + 1)) (by rw [List.length_drop, List.length_take]; omega) (by omega)
  have hsl1 := HT.out W1
  have hsl2 := HRS.out W2
  rw [show ((n + 1 : Nat) : Int) = (n : Int) + 1 by omega] at hsl2
  have HR1 := Lib.hid hr1; have HR2 := Lib.hid hr2
  have HE : Hid (Own W3 w.heap.size v2 (del l k) ∧ Below w.heap.size w W3) := Lib.hid (by
    refine ⟨?_, ?_⟩
    · rw [HDEL.out]
      exact World.ownsRow.mono h2' (by omega)
    · exact below_then hw1 ⟨b3.os.trans b2.os, b3.tape.trans b2.tape, b3.output.trans b2.output, Nat.le_trans b2.size b3.size, fun q hq => (b3.block q hq).trans (b2.block q hq)⟩)
  clear hr1 hr2 h1' h2' b2 b3 hcell1 hcell2 hw1 hb1 hXs
  go_wp2_with (at_builtin; first | refine walk_run rfl _ _ _ _ rfl _ _ rfl rfl HR1.out ?_ | refine walk_run rfl _ _ _ _ rfl _ _ rfl rfl HR2.out ?_)
  go_ret2
  exact ⟨_, rfl, HE.out⟩
theorem del_any (lv : Value) (l : List Pair) (k : Key) (w : World) (h : Pairs w lv l) (hl : l.length ≤ 1048576) :
    Calls Try.prog 28 #[lv, kV k] w fun e w' => ∃ v', e = .returned (.tuple #[v', .bool (has l k)]) ∧ Pairs w' v' (del l k) ∧ Below w.heap.size w w' ∧ ∀ q, v'.ownBlock = some q → lv.ownBlock = some q ∨ w.heap.size ≤ q := by
  cases hb : has l k with
  | false =>
    refine (del_no lv l k w h hl hb).mono ?_
    rintro e w' ⟨rfl, hbl⟩
    have : del l k = l := by unfold del; rw [hb]; rfl
    rw [this]
    exact ⟨lv, rfl, own_next h hbl, hbl, fun q hq => .inl hq⟩
  | true =>
    refine (del_yes lv l k w h hl hb).mono ?_
    rintro e w' ⟨v', rfl, ho, hbl⟩
    exact ⟨v', rfl, World.ownsRow.mono ho (Nat.zero_le _), hbl, fun q hq => .inr (ho.lt q hq).1⟩
end Go.Proofs.Ytighjiiaplihjaa.Tab
