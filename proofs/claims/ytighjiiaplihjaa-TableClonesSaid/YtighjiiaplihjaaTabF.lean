/- The document's Range. -/
import Derived.Test.YtighjiiaplihjaaTabE
import Derived.Deep.RegionWith
namespace Go.Proofs.Ytighjiiaplihjaa.Tab
open Go.RowKit Go.Lib

theorem ranged_end {l : List Pair} {x y : Key} {most : Int} {i : Nat} (h : ((l.take i).filter (within x y)).length ≤ most.toNat) (he : l.length ≤ i ∨ most ≤ ((l.take i).filter (within x y)).length) : (l.take i).filter (within x y) = ranged l x y most := by
  unfold ranged
  rcases he with he | he
  · rw [List.take_of_length_le (l := l) he] at h ⊢
    rw [List.take_of_length_le h]
  · have h1 : l.filter (within x y) = (l.take i).filter (within x y) ++ (l.drop i).filter (within x y) := by rw [← List.filter_append, List.take_append_drop]
    rw [h1, List.take_left' (by omega)]
set_option maxRecDepth 100000 in
set_option maxHeartbeats 8000000 in
theorem range_any (lv : Value) (l : List Pair) (x y : Key) (most : Int) (w : World) (h : Pairs w lv l) (hl : l.length ≤ 1048576) (hmost : -9223372036854775808 ≤ most ∧ most ≤ 9223372036854775807) :
    Calls Try.prog 17 #[lv, kV x, kV y, .int .i64 most] w fun e w' => ∃ o, e = .returned o ∧ Own w' w.heap.size o (ranged l x y most) ∧ Below w.heap.size w w' := by
  obtain ⟨a, c, rfl, hcap, hat⟩ := pairs_at h
  obtain ⟨n, hn⟩ : ∃ n, l.length = n := ⟨_, rfl⟩
  rw [hn] at hcap hl ⊢
  have hbl := ((Below.refl _ w).alloc (Nat.le_refl _) (.cells x.cells 38)).alloc (by simp) (.cells y.cells 38)
  have hbx : ((w.alloc (.cells x.cells 38)).alloc (.cells y.cells 38)).heap[w.heap.size]? = some (.cells x.cells 38 (0, 0)) := by
    rw [heap_alloc_old _ _ (by simp)]
    exact heap_alloc_new w _
  have hby : ((w.alloc (.cells x.cells 38)).alloc (.cells y.cells 38)).heap[w.heap.size + 1]? = some (.cells y.cells 38 (0, 0)) := by
    have := heap_alloc_new (w.alloc (.cells x.cells 38)) (.cells y.cells 38)
    simpa using this
  have HAT := Lib.hid hat; have HN := Lib.hid hn; have HBL := Lib.hid hbl; have HBX := Lib.hid hbx; have HBY := Lib.hid hby
  clear h hat hn hbl hbx hby
  go_enter Try.func17, Try.ntmps17
  go_wp2_with fail
  go_loopw [9, 10] (fun o t wr => ∃ (i : Nat) (oa : Option Addr) (m oc : Nat), i ≤ n ∧ t = .int .i64 i ∧ o = .slice oa m oc ∧ m ≤ i ∧ (m : Int) ≤ max 0 most ∧ Hid (Own wr (w.heap.size + 2) o ((l.take i).filter (within x y)) ∧ ((l.take i).filter (within x y)).length = m) ∧ Hid (Below w.heap.size w wr ∧ w.heap.size + 2 ≤ wr.heap.size) ∧ Hid (wr.heap[w.heap.size]? = some (.cells x.cells 38 (0, 0)) ∧ wr.heap[w.heap.size + 1]? = some (.cells y.cells 38 (0, 0)))) (fun _ t _ => n - (RowKit.intOf t).toNat)
  case atStart => exact ⟨0, none, 0, 0, by omega, rfl, rfl, by omega, by omega, Lib.hid ⟨World.ownsRow_nil _ _ _ _, rfl⟩, Lib.hid ⟨HBL.out, by simp⟩, Lib.hid ⟨HBX.out, HBY.out⟩⟩
  case round =>
    obtain ⟨i, oa, m, oc, hi, rfl, rfl, hmi, hmm, HO, HB, HK⟩ := hrel
    have HEND : Hid (n ≤ i ∨ most ≤ (m : Int) → ∀ W, Below wr.heap.size wr W → Own W w.heap.size (.slice oa m oc) (ranged l x y most) ∧ Below w.heap.size w W) := Lib.hid (fun he W hW => by
      have h1 := HO.out.2
      have := ranged_end (l := l) (x := x) (y := y) (most := most) (i := i) (by omega) (by have := HN.out; omega)
      rw [← this]
      exact ⟨World.ownsRow.mono (own_next HO.out.1 hW) (by omega), below_then HB.out.1 hW⟩)
    by_cases hlt : i < n
    · by_cases hfull : (m : Int) < most
      · obtain ⟨p, hp⟩ : ∃ p, l[i]? = some p := ⟨l[i]'(by have := HN.out; omega), List.getElem?_eq_getElem (by have := HN.out; omega)⟩
        obtain ⟨g, rfl, hg, c0, c1, c2, c3, c4⟩ := HAT.out i p hp
        have hsz := HB.out.1.size
        have hsz2 := HB.out.2
        have HS : Hid (∀ W, Below wr.heap.size wr W → (W.cell? ⟨g, i * 5, none⟩ = some (.int .i64 p.k.a) ∧ W.cell? ⟨g, i * 5 + 1, none⟩ = some (.int .i64 p.k.b) ∧ W.cell? ⟨g, i * 5 + 2, none⟩ = some (.int .i64 p.k.c) ∧ W.cell? ⟨g, i * 5 + 3, none⟩ = some (.int .i64 p.k.d)) ∧
          (W.cell? ⟨w.heap.size, 0, none⟩ = some (.int .i64 x.a) ∧ W.cell? ⟨w.heap.size, 1, none⟩ = some (.int .i64 x.b) ∧ W.cell? ⟨w.heap.size, 2, none⟩ = some (.int .i64 x.c) ∧ W.cell? ⟨w.heap.size, 3, none⟩ = some (.int .i64 x.d)) ∧
          W.cell? ⟨w.heap.size + 1, 0, none⟩ = some (.int .i64 y.a) ∧ W.cell? ⟨w.heap.size + 1, 1, none⟩ = some (.int .i64 y.b) ∧ W.cell? ⟨w.heap.size + 1, 2, none⟩ = some (.int .i64 y.c) ∧ W.cell? ⟨w.heap.size + 1, 3, none⟩ = some (.int .i64 y.d)) := Lib.hid (fun W hW => by
          have hbW := below_then HB.out.1 hW
          have hKx := (hW.block _ (by omega)).trans HK.out.1
          have hKy := (hW.block _ (by omega)).trans HK.out.2
          exact ⟨⟨((bcell hbW).1 g _ hg).trans c0, ((bcell hbW).1 g _ hg).trans c1, ((bcell hbW).1 g _ hg).trans c2, ((bcell hbW).1 g _ hg).trans c3⟩, ⟨key_at hKx 0 (by omega), key_at hKx 1 (by omega), key_at hKx 2 (by omega), key_at hKx 3 (by omega)⟩, key_at hKy 0 (by omega), key_at hKy 1 (by omega), key_at hKy 2 (by omega), key_at hKy 3 (by omega)⟩)
        have HV : Hid (∀ W, Below wr.heap.size wr W → W.cell? ⟨g, i * 5 + 4, none⟩ = some (.int .i64 p.v)) := Lib.hid (fun W hW => ((bcell (below_then HB.out.1 hW)).1 g _ hg).trans c4)
        obtain ⟨⟨e0, e1, e2, e3⟩, ⟨k0, k1, k2, k3⟩, j0, j1, j2, j3⟩ := HS.out wr (Below.refl _ _)
        obtain ⟨r1, hr1⟩ : ∃ r, cmp p.k x = r := ⟨_, rfl⟩
        obtain ⟨r2, hr2⟩ : ∃ r, cmp p.k y = r := ⟨_, rfl⟩
        have HRI : Hid (r1 = -1 ∨ r1 = 0 ∨ r1 = 1) := Lib.hid (hr1 ▸ cmp_in p.k x)
        have HC1 : Hid (∀ W, Below wr.heap.size wr W → Calls Try.prog 19 #[kV p.k, kV x] W fun e w' => e = .returned (.int .i64 r1) ∧ Below wr.heap.size wr w') := Lib.hid (fun W hW => by
          rw [← hr1]
          exact (compare_any p.k x W).mono (fun e w' ⟨h1, h2⟩ => ⟨h1, below_then hW h2⟩))
        have HC2 : Hid (∀ W, Below wr.heap.size wr W → Calls Try.prog 19 #[kV p.k, kV y] W fun e w' => e = .returned (.int .i64 r2) ∧ Below wr.heap.size wr w') := Lib.hid (fun W hW => by
          rw [← hr2]
          exact (compare_any p.k y W).mono (fun e w' ⟨h1, h2⟩ => ⟨h1, below_then hW h2⟩))
        have hi0 : (0 : Int) ≤ (i : Int) := by omega
        have hlt2 : (i : Int) < (n : Int) := by omega
        have HT := Lib.hid (take_snoc hp)
        have HW : Hid (within x y p = (decide (0 ≤ r1) && decide (r2 < 0))) := Lib.hid (by unfold within; rw [hr1, hr2])
        have HLT := Lib.hid hlt
        clear c0 c1 c2 c3 c4 hr1 hr2
        have HNO : Hid (within x y p = false → ∀ W, Below wr.heap.size wr W → Hid (Own W (w.heap.size + 2) (.slice oa m oc) ((l.take (i + 1)).filter (within x y)) ∧ ((l.take (i + 1)).filter (within x y)).length = m) ∧ Hid (Below w.heap.size w W ∧ w.heap.size + 2 ≤ W.heap.size) ∧ Hid (W.heap[w.heap.size]? = some (.cells x.cells 38 (0, 0)) ∧ W.heap[w.heap.size + 1]? = some (.cells y.cells 38 (0, 0)))) := Lib.hid (fun hno W hW => by
          have hf : (l.take (i + 1)).filter (within x y) = (l.take i).filter (within x y) := by rw [HT.out, List.filter_append]; simp [hno]
          rw [hf]
          exact ⟨⟨own_next HO.out.1 hW, HO.out.2⟩, ⟨below_then HB.out.1 hW, Nat.le_trans hsz2 hW.size⟩, (hW.block _ (by omega)).trans HK.out.1, (hW.block _ (by omega)).trans HK.out.2⟩)
        by_cases h1 : 0 ≤ r1
        · have hd1 : decide (0 ≤ r1) = true := decide_eq_true h1
          by_cases h2 : r2 < 0
          · have hd2 : decide (r2 < 0) = true := decide_eq_true h2
            have hyes : within x y p = true := by rw [HW.out, hd1, hd2]; rfl
            have HY := Lib.hid hyes
            clear hyes
            go_wp2_with fail
            go_region_held3 (fun W => (W.cell? ⟨g, i * 5, none⟩ = some (.int .i64 p.k.a) ∧ W.cell? ⟨g, i * 5 + 1, none⟩ = some (.int .i64 p.k.b) ∧ W.cell? ⟨g, i * 5 + 2, none⟩ = some (.int .i64 p.k.c) ∧ W.cell? ⟨g, i * 5 + 3, none⟩ = some (.int .i64 p.k.d)) ∧
                      (W.cell? ⟨w.heap.size, 0, none⟩ = some (.int .i64 x.a) ∧ W.cell? ⟨w.heap.size, 1, none⟩ = some (.int .i64 x.b) ∧ W.cell? ⟨w.heap.size, 2, none⟩ = some (.int .i64 x.c) ∧ W.cell? ⟨w.heap.size, 3, none⟩ = some (.int .i64 x.d)) ∧
                      W.cell? ⟨w.heap.size + 1, 0, none⟩ = some (.int .i64 y.a) ∧ W.cell? ⟨w.heap.size + 1, 1, none⟩ = some (.int .i64 y.b) ∧ W.cell? ⟨w.heap.size + 1, 2, none⟩ = some (.int .i64 y.c) ∧ W.cell? ⟨w.heap.size + 1, 3, none⟩ = some (.int .i64 y.d))
              (first | exact HS.out _ ((Below.refl _ wr).drew) | exact HS.out _ hb3 | exact HS.out _ hb4)
              (first | (go_at_call 19; (first | (with_reducible (refine (HC1.out _ ((Below.refl _ wr).drew)).mono ?_); rintro e w3 ⟨rfl, hb3⟩) | (refine (HC2.out _ hb3).mono ?_; rintro e w4 ⟨rfl, hb4⟩))))
            all_goals
              have HAPP : Hid (∃ v' w5, (Builtin.append_ #[29, 29] 29 #[.slice oa m oc, .slice (some ⟨w4.heap.size, 0, none⟩) 1 1]).run Try.prog (w4.alloc (.cells #[.int .i64 p.k.a, .int .i64 p.k.b, .int .i64 p.k.c, .int .i64 p.k.d, .int .i64 p.v] 42)) = .ok v' w5 ∧
                  (∃ oa' oc', v' = .slice oa' (m + 1) oc') ∧ Own w5 (w.heap.size + 2) v' ((l.take (i + 1)).filter (within x y)) ∧ ((l.take (i + 1)).filter (within x y)).length = m + 1 ∧ (Below w.heap.size w w5 ∧ w.heap.size + 2 ≤ w5.heap.size) ∧ (w5.heap[w.heap.size]? = some (.cells x.cells 38 (0, 0)) ∧ w5.heap[w.heap.size + 1]? = some (.cells y.cells 38 (0, 0)))) := Lib.hid (by
                obtain ⟨v', w5, hr5, ho5, b5⟩ := app_pairs (w4.alloc (.cells #[.int .i64 p.k.a, .int .i64 p.k.b, .int .i64 p.k.c, .int .i64 p.k.d, .int .i64 p.v] 42)) (w.heap.size + 2) (.slice oa m oc) ((l.take i).filter (within x y)) [p] ((own_next HO.out.1 hb4).alloc _) (some ⟨w4.heap.size, 0, none⟩) 1 1 rfl (fun j u hj => ⟨_, rfl, by
                  have hblk := heap_alloc_new w4 (.cells #[.int .i64 p.k.a, .int .i64 p.k.b, .int .i64 p.k.c, .int .i64 p.k.d, .int .i64 p.v] 42)
                  rw [addr_add, Nat.zero_add]
                  refine cell_block (j := j) hblk ?_
                  rw [← Array.getElem?_toList]
                  exact hj⟩) (by rw [HO.out.2, List.length_singleton]; omega) (by have := hb4.size; simp; omega)
                have hfy : (l.take (i + 1)).filter (within x y) = (l.take i).filter (within x y) ++ [p] := by
                  rw [HT.out, List.filter_append]
                  simp [HY.out]
                rw [← hfy] at ho5
                have hlen : ((l.take (i + 1)).filter (within x y)).length = m + 1 := by rw [hfy, List.length_append, HO.out.2]; rfl
                obtain ⟨oa', oc', hv', _⟩ := pairs_slice ho5
                have hz := hb4.alloc hb4.size (.cells #[.int .i64 p.k.a, .int .i64 p.k.b, .int .i64 p.k.c, .int .i64 p.k.d, .int .i64 p.v] 42)
                have hw4 : Below (w.heap.size + 2) wr w5 := below_cat ⟨hz.os, hz.tape, hz.output, hz.size, fun q hq => hz.block q (by omega)⟩ b5
                refine ⟨v', w5, hr5, ⟨oa', oc', by rw [hv', hlen]⟩, ho5, hlen, ⟨⟨hw4.os.trans HB.out.1.os, hw4.tape.trans HB.out.1.tape, hw4.output.trans HB.out.1.output, Nat.le_trans HB.out.1.size hw4.size, fun q hq => (hw4.block q (by omega)).trans (HB.out.1.block q hq)⟩, Nat.le_trans hsz2 hw4.size⟩, (hw4.block _ (by omega)).trans HK.out.1, (hw4.block _ (by omega)).trans HK.out.2⟩)
              obtain ⟨v', w5, hr5, ⟨oa', oc', rfl⟩, ho5, hl5, hb5, hk5⟩ := HAPP.out
              have hh := HS.out w4 hb4
              have f0 := hh.1.1; have f1 := hh.1.2.1; have f2 := hh.1.2.2.1; have f3 := hh.1.2.2.2
              have f4 := HV.out w4 hb4
              have HR5 := Lib.hid hr5; have HO5 := Lib.hid (And.intro ho5 hl5); have HB5 := Lib.hid hb5; have HK5 := Lib.hid hk5
              clear hr5 ho5 hl5 hb5 hk5 hh
              go_wp2_with (at_builtin; refine walk_run rfl _ _ _ _ rfl _ _ rfl rfl HR5.out ?_)
              go_roundw
              case rel => exact ⟨i + 1, oa', m + 1, oc', by omega, by go_num, rfl, by omega, by omega, HO5, HB5, HK5⟩
              case measure => simp [RowKit.intOf]; omega
          · have hd2 : decide (r2 < 0) = false := decide_eq_false h2
            have hno : within x y p = false := by rw [HW.out, hd1, hd2]; rfl
            have HNX := Lib.hid (HNO.out hno)
            clear hno
            go_wp2_with fail
            go_region_held3 (fun W => (W.cell? ⟨g, i * 5, none⟩ = some (.int .i64 p.k.a) ∧ W.cell? ⟨g, i * 5 + 1, none⟩ = some (.int .i64 p.k.b) ∧ W.cell? ⟨g, i * 5 + 2, none⟩ = some (.int .i64 p.k.c) ∧ W.cell? ⟨g, i * 5 + 3, none⟩ = some (.int .i64 p.k.d)) ∧
                      (W.cell? ⟨w.heap.size, 0, none⟩ = some (.int .i64 x.a) ∧ W.cell? ⟨w.heap.size, 1, none⟩ = some (.int .i64 x.b) ∧ W.cell? ⟨w.heap.size, 2, none⟩ = some (.int .i64 x.c) ∧ W.cell? ⟨w.heap.size, 3, none⟩ = some (.int .i64 x.d)) ∧
                      W.cell? ⟨w.heap.size + 1, 0, none⟩ = some (.int .i64 y.a) ∧ W.cell? ⟨w.heap.size + 1, 1, none⟩ = some (.int .i64 y.b) ∧ W.cell? ⟨w.heap.size + 1, 2, none⟩ = some (.int .i64 y.c) ∧ W.cell? ⟨w.heap.size + 1, 3, none⟩ = some (.int .i64 y.d))
              (first | exact HS.out _ ((Below.refl _ wr).drew) | exact HS.out _ hb3 | exact HS.out _ hb4)
              (first | (go_at_call 19; (first | (with_reducible (refine (HC1.out _ ((Below.refl _ wr).drew)).mono ?_); rintro e w3 ⟨rfl, hb3⟩) | (refine (HC2.out _ hb3).mono ?_; rintro e w4 ⟨rfl, hb4⟩))))
            all_goals
              go_wp2_with fail
              go_roundw
              case rel =>
                obtain ⟨q1, q2, q3⟩ := HNX.out w4 hb4
                exact ⟨i + 1, oa, m, oc, by omega, by go_num, rfl, by omega, by omega, q1, q2, q3⟩
              case measure => simp [RowKit.intOf]; omega
        · have hno : within x y p = false := by rw [HW.out, decide_eq_false h1]; rfl
          obtain rfl : r1 = -1 := by have := HRI.out; omega
          clear h1
          have HNX := Lib.hid (HNO.out hno)
          clear hno
          go_wp2_with fail
          first
            | (go_region_with (go_at_call 19; with_reducible (refine (HC1.out _ ((Below.refl _ wr).drew)).mono ?_); rintro e w3 ⟨rfl, hb3⟩; obtain ⟨⟨e0, e1, e2, e3⟩, ⟨k0, k1, k2, k3⟩, j0, j1, j2, j3⟩ := HS.out w3 hb3))
            | fail
          all_goals
            go_wp2_with fail
            go_roundw
            case rel =>
              obtain ⟨q1, q2, q3⟩ := HNX.out w3 hb3
              exact ⟨i + 1, oa, m, oc, by omega, by go_num, rfl, by omega, by omega, q1, q2, q3⟩
            case measure => simp [RowKit.intOf]; omega
      · have he := HEND.out (.inr (by omega)) wr (Below.refl _ _)
        have HE := Lib.hid he
        clear he
        go_wp2_with fail
        go_ret
        exact ⟨_, rfl, HE.out⟩
    · have he := HEND.out (.inl (by omega)) wr (Below.refl _ _)
      have HE := Lib.hid he
      clear he
      go_wp2_with fail
      go_ret
      exact ⟨_, rfl, HE.out⟩
end Go.Proofs.Ytighjiiaplihjaa.Tab
