/- Lists of keys: one with an item more, or another item. -/
import Derived.Test.YtfebaiefoonncaaTbE
namespace Go.Proofs.Ytfebaiefoonncaa.Tb
open Go.RowKit Go.Lib

set_option maxRecDepth 100000 in
set_option maxHeartbeats 4000000 in
theorem with_key (v : Value) (l : List Key) (fm en : Nat) (x : Key) (w : World) (h : OwnK w 0 v l) (h1 : fm ≤ en) (h2 : en ≤ l.length) (hl : l.length ≤ 1000) :
    Calls Try.prog 43 #[v, .int .i64 (fm : Nat), .int .i64 (en : Nat), kV x] w fun e w' => ∃ v', e = .returned v' ∧ OwnK w' w.heap.size v' (l.take fm ++ x :: l.drop en) ∧ Below w.heap.size w w' := by
  obtain ⟨i0, hi, hz0, hz1, hz2⟩ := info_parts info_key
  obtain ⟨X, hX⟩ : ∃ X, w.alloc (.cells #[.int .i64 x.a, .int .i64 x.b, .int .i64 x.c, .int .i64 x.d] 65) = X := ⟨_, rfl⟩
  have hbX : Below w.heap.size w X := by rw [← hX]; exact (Below.refl _ w).alloc (Nat.le_refl _) _
  have hkX : X.heap[w.heap.size]? = some (.cells x.cells 65 (0, 0)) := by rw [← hX]; exact heap_alloc_new w _
  have HKX := Lib.hid hkX
  clear hkX
  have hX0 := own_under h hbX
  obtain ⟨a, c, rfl, hlc, hcm, ha, _⟩ := rowK hX0
  obtain ⟨n, hn⟩ : ∃ n, l.length = n := ⟨_, rfl⟩
  have hT : (l.take fm).length = fm := by rw [List.length_take]; omega
  have hN : ∃ N : Nat, N = 1 + n - en := ⟨_, rfl⟩
  obtain ⟨N, hN⟩ := hN
  have HG := Lib.hid (grow_key a (l.take fm) N X ha (src_take_key hX0 fm) (.inl (by omega)) (by omega))
  rw [hT] at HG
  have hNi : (1 : Int) + (n : Int) - (en : Int) = (N : Int) := by omega
  have hN2 : (N : Int) ≤ 1048576 := by omega
  have hn2 : (n : Int) ≤ 1048576 := by omega
  have HS1 := Lib.hid (fun (W : World) => run_take_bound (P := Try.prog) W elem_key under_key hi a n c fm ha (by omega))
  have HS2 := Lib.hid (fun (W : World) => run_rest (P := Try.prog) W elem_key under_key hi hz1 a n c en (by omega))
  have HW := Lib.hid h; have HX := Lib.hid hX0; have HB := Lib.hid hbX; have HNN := Lib.hid hn; have HTL := Lib.hid hT
  have s1 := HS1.out X
  have hfe : (fm : Int) ≤ (en : Int) := by omega
  have hen : (en : Int) ≤ (n : Int) := by omega
  have HLL := Lib.hid hl; have HE2 := Lib.hid h2; have HF2 := Lib.hid h1
  rw [hn]
  clear h hX0 hbX hn hT hl hlc hcm hN h1 h2
  go_enter Try.func43, Try.ntmps43
  go_wp2_with fail
  clear hX
  refine HG.out.mono ?_
  rintro e w1 ⟨rv, rfl, ho1, hb1⟩
  have kw := (hb1.block _ (Array.getElem?_eq_some_iff.1 HKX.out).1).trans HKX.out
  have k0 := key_at kw 0 (by omega); have k1 := key_at kw 1 (by omega); have k2 := key_at kw 2 (by omega); have k3 := key_at kw 3 (by omega)
  simp only [Key.at] at k0 k1 k2 k3
  clear kw
  have HAPP : Hid (∃ v1 w2 v2 w3, (Builtin.append_ #[41, 41] 41 #[rv, .slice (some ⟨w1.heap.size, 0, none⟩) 1 1]).run Try.prog (w1.drew.alloc (.cells #[.int .i64 x.a, .int .i64 x.b, .int .i64 x.c, .int .i64 x.d] 65)) = .ok v1 w2 ∧
      (Builtin.append_ #[41, 41] 41 #[v1, .slice (atAddr a 4 en c) (n - en) (c - en)]).run Try.prog w2 = .ok v2 w3 ∧ OwnK w3 w.heap.size v2 (l.take fm ++ x :: l.drop en) ∧ Below w.heap.size w w3) := Lib.hid (by
    have hl := HLL.out; have hn := HNN.out
    have hbw := below_then HB.out hb1
    have hdw := hbw.drew
    have hza := hdw.alloc hdw.size (.cells #[.int .i64 x.a, .int .i64 x.b, .int .i64 x.c, .int .i64 x.d] 65)
    obtain ⟨v1, w2, hr1, ho2, b2⟩ := app_key (w1.drew.alloc (.cells #[.int .i64 x.a, .int .i64 x.b, .int .i64 x.c, .int .i64 x.d] 65)) w.heap.size rv (l.take fm) [x] ((World.ownsRow.mono ho1 HB.out.size).drew.alloc _) (some ⟨w1.heap.size, 0, none⟩) 1 1 rfl (fun j u hj => ⟨_, rfl, by
      have hblk := heap_alloc_new w1.drew (.cells #[.int .i64 x.a, .int .i64 x.b, .int .i64 x.c, .int .i64 x.d] 65)
      rw [addr_add, Nat.zero_add]
      refine cell_block (j := j) hblk ?_
      rw [← Array.getElem?_toList]
      exact hj⟩) (by rw [HTL.out, List.length_singleton]; omega) (by have := hbw.size; simp; omega)
    have hc2 := below_cat hza b2
    have hX2 : OwnK w2 0 (.slice a l.length c) l := own_same HX.out (fun q hq => by
      have hq1 := (HX.out.lt q hq).2
      have hz2 := (hb1.drew.alloc hb1.drew.size (.cells #[.int .i64 x.a, .int .i64 x.b, .int .i64 x.c, .int .i64 x.d] 65)).block q hq1
      have hq0 := (HW.out.lt q hq).2
      exact (b2.block q hq0).trans hz2)
    obtain ⟨v2, w3, hr2, ho3, b3⟩ := app_key w2 w.heap.size v1 (l.take fm ++ [x]) (l.drop en) ho2 (atAddr a 4 en c) (n - en) (c - en) (by rw [List.length_drop, hn]) (src_drop_key hX2 en) (by simp only [List.length_append, List.length_drop, HTL.out, List.length_singleton]; omega) (Nat.le_trans hza.size b2.size)
    rw [List.append_assoc, List.singleton_append] at ho3
    exact ⟨v1, w2, v2, w3, hr1, hr2, ho3, below_cat hc2 b3⟩)
  obtain ⟨v1, w2, v2, w3, hr1, hr2, ho3, hb3⟩ := HAPP.out
  have HR1 := Lib.hid hr1; have HR2 := Lib.hid hr2; have HO3 := Lib.hid ho3; have HB3 := Lib.hid hb3
  have s2 := HS2.out w1.drew
  have hsl : ∀ W, (Instr.slice 41 (.slice a n c) (some (.int .i64 (en : Nat))) none none).run Try.prog W = .ok (.slice (atAddr a 4 en c) (n - en) (c - en)) W := fun W => HS2.out W
  clear hr1 hr2 ho3 hb3 ho1 hb1
  go_wp2_with fail
  go_region_law (first | (refine step_run (by rfl) _ _ _ _ (by rfl) _ _ (by rfl) (by rfl) HR1.out ?_) | (refine step_run (by rfl) _ _ _ _ (by rfl) _ _ (by rfl) (by rfl) HR2.out ?_))
  all_goals go_wp2_with fail
  all_goals go_ret
  all_goals exact ⟨_, rfl, HO3.out, HB3.out⟩
end Go.Proofs.Ytfebaiefoonncaa.Tb
