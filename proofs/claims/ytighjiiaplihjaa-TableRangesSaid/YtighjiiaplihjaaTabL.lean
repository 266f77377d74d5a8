/- The pairs of a range, at most so many. -/
import Derived.Test.YtighjiiaplihjaaTabK
namespace Go.Proofs.Ytighjiiaplihjaa.Tab
open Go.RowKit Go.Lib Go.Shelf
attribute [local go_sem] Oper.semAt_some
set_option maxRecDepth 100000 in
set_option maxHeartbeats 4000000 in
theorem some_go (t : Option Addr) (R : Nat → Prop) (l : List Pair) (x y : Key) (most : Int) (w : World) (hR : ∀ k, R k → k < w.heap.size) (hRange : ∀ W, Below w.heap.size w W → Calls Try.prog 33 #[.pointer t, kV x, kV y] W fun e w' => ∃ gf lb, e = .returned (.func (.func gf) #[] lb) ∧ Hid (Below W.heap.size W w' ∧ GoesF w' R gf lb (l.filter (within x y)))) (hl : l.length ≤ 1000) :
    Calls Try.prog 16 #[.pointer t, kV x, kV y, .int .i64 most] w fun e w' => ∃ v, e = .returned v ∧ Own w' w.heap.size v (ranged l x y most) ∧ Below w.heap.size w w' := by
  obtain ⟨i0, hi, hz0, hz1, hz2⟩ := info_parts info_pair
  obtain ⟨L, hL⟩ : ∃ L, l.filter (within x y) = L := ⟨_, rfl⟩
  have hLl : L.length ≤ 1000 := by rw [← hL]; exact Nat.le_trans (List.length_filter_le _ _) hl
  obtain ⟨w0, hw0⟩ : ∃ w0, (((w.alloc (.cells #[.int .i64 x.a, .int .i64 x.b, .int .i64 x.c, .int .i64 x.d] 38)).alloc (.cells #[.int .i64 y.a, .int .i64 y.b, .int .i64 y.c, .int .i64 y.d] 38)).alloc (.cells #[.int .i64 most] 3)).alloc (.cells #[.slice none 0 0] 29) = w0 := ⟨_, rfl⟩
  have hw1 : (((w.alloc (.cells x.cells 38)).alloc (.cells y.cells 38)).alloc (.cells #[.int .i64 most] 3)).alloc (.cells #[.slice none 0 0] 29) = w0 := hw0
  have hs0 : w0.heap.size = w.heap.size + 4 := by rw [← hw1]; simp
  have hB0 : Below w.heap.size w w0 := by rw [← hw1]; exact ((((Below.refl _ w).alloc (Nat.le_refl _) _).alloc (by simp) _).alloc (by simp; omega) _).alloc (by simp; omega) _
  have hx0 : w0.heap[w.heap.size]? = some (.cells x.cells 38 (0, 0)) := by
    rw [← hw1, Below.heap_alloc _ _ _ (by simp; omega), Below.heap_alloc _ _ _ (by simp; omega), Below.heap_alloc _ _ _ (by simp)]
    exact heap_alloc_new w _
  have hy0 : w0.heap[w.heap.size + 1]? = some (.cells y.cells 38 (0, 0)) := by
    rw [← hw1, Below.heap_alloc _ _ _ (by simp), Below.heap_alloc _ _ _ (by simp)]
    have := heap_alloc_new (w.alloc (.cells x.cells 38)) (.cells y.cells 38)
    simpa using this
  have hm0 : Boxed w0 (w.heap.size + 1 + 1) 3 (.int .i64 most) := by
    unfold Boxed
    rw [← hw1, Below.heap_alloc _ _ _ (by simp)]
    have := heap_alloc_new ((w.alloc (.cells x.cells 38)).alloc (.cells y.cells 38)) (.cells #[.int .i64 most] 3)
    simpa using this
  have bO : Boxed w0 (w.heap.size + 1 + 1 + 1) 29 (.slice none 0 0) := by
    unfold Boxed
    rw [← hw1]
    have := heap_alloc_new (((w.alloc (.cells x.cells 38)).alloc (.cells y.cells 38)).alloc (.cells #[.int .i64 most] 3)) (.cells #[.slice none 0 0] 29)
    simpa using this
  have HC := Lib.hid (hRange w0 hB0)
  have HRR := Lib.hid hR
  rw [hL] at HC
  have k0 : w0.cell? ⟨w.heap.size, 0, none⟩ = some (.int .i64 x.a) := key_at hx0 0 (by omega)
  have k1 : w0.cell? ⟨w.heap.size, 1, none⟩ = some (.int .i64 x.b) := key_at hx0 1 (by omega)
  have k2 : w0.cell? ⟨w.heap.size, 2, none⟩ = some (.int .i64 x.c) := key_at hx0 2 (by omega)
  have k3 : w0.cell? ⟨w.heap.size, 3, none⟩ = some (.int .i64 x.d) := key_at hx0 3 (by omega)
  have j0 : w0.cell? ⟨w.heap.size + 1, 0, none⟩ = some (.int .i64 y.a) := key_at hy0 0 (by omega)
  have j1 : w0.cell? ⟨w.heap.size + 1, 1, none⟩ = some (.int .i64 y.b) := key_at hy0 1 (by omega)
  have j2 : w0.cell? ⟨w.heap.size + 1, 2, none⟩ = some (.int .i64 y.c) := key_at hy0 2 (by omega)
  have j3 : w0.cell? ⟨w.heap.size + 1, 3, none⟩ = some (.int .i64 y.d) := key_at hy0 3 (by omega)
  have HB0 := Lib.hid hB0; have HBO := Lib.hid bO; have HBM := Lib.hid hm0; have HS0 := Lib.hid hs0
  have HW : Hid (ranged l x y most = L.take most.toNat) := Lib.hid (by unfold ranged; rw [hL])
  clear hR hRange hB0 bO hm0 hs0 hx0 hy0
  refine (callsIn_wide (n := 6)).1 ?_
  refine callsIn_of_wp_marks Try.func16 rfl trivial ?_ rfl
  simp only [Try.ntmps16, List.size_toArray, List.length_cons, List.length_nil, Nat.reduceAdd, Nat.reduceSub, Array.replicate_succ, Array.replicate_zero, List.push_toArray, List.append_toArray, List.nil_append, List.cons_append]
  gi_wp2_with (refine ⟨trivial, ?_⟩; gi_at_call 33; refine (callsIn_wide.2 HC.out).mono ?_; rintro e w1 ⟨gf, lb, rfl, H1⟩; have hnil := seq_nil gf lb w1)
  obtain ⟨hb1, eg, hgo⟩ := H1.out
  have hB1 : Below w.heap.size w w1 := HB0.out.trans (hb1.mono HB0.out.size)
  have hs0 := HS0.out
  have bO : Boxed w1 (w.heap.size + 1 + 1 + 1) 29 (.slice none 0 0) := (hb1.block _ HBO.out.lt).trans HBO.out
  have bM : Boxed w1 (w.heap.size + 1 + 1) 3 (.int .i64 most) := (hb1.block _ HBM.out.lt).trans HBM.out
  have hlt1 : w.heap.size + 1 + 1 + 1 < w1.heap.size := bO.lt
  clear hnil k0 k1 k2 k3 j0 j1 j2 j3
  refine wpIn_rangeFunc_fwd rfl (by omega) (gf := gf) (lb := lb) rfl trivial eg
    (hgo (6 - 1) (by omega)) (Below.refl _ _) (fun _ => rfl) (TOut (w.heap.size + 1 + 1 + 1)) (fun k hk ht => by
      have h1 := HRR.out k hk
      rcases ht with ht | ⟨v, h2, h3⟩
      · omega
      · have h4 : w1.heap[w.heap.size + 1 + 1 + 1]? = _ := bO
        rw [show w1.heap[w.heap.size + 1 + 1 + 1]? = _ from h2] at h4
        cases h4
        cases h3)
    (fun pre W => (((∃ v, Boxed W (w.heap.size + 1 + 1 + 1) 29 v ∧ W.ownsRow w.heap.size 42 5 v pre.length (cells pre) ∧ True) ∧ Boxed W (w.heap.size + 1 + 1) 3 (.int .i64 most)) ∧ pre.length ≤ most.toNat) ∧ Below w.heap.size w W)
    (fun c pre W => c = .exit 0 ∧ ∃ q z, pre = q ++ [z] ∧ most ≤ q.length ∧ q.length ≤ most.toNat ∧ (∃ v, Boxed W (w.heap.size + 1 + 1 + 1) 29 v ∧ W.ownsRow w.heap.size 42 5 v q.length (cells q) ∧ True) ∧ Below w.heap.size w W)
    (OwnFrom.and (OwnFrom.and (OwnFrom.and (Own.from (holdsRow_own w.heap.size (w.heap.size + 1 + 1 + 1) 29 42 5 (fun pre => pre.length) (fun pre => cells pre) (fun _ _ => True)) _) (Own.from (boxed_own (w.heap.size + 1 + 1) 3 (fun _ => .int .i64 most)) _)) (ownFrom_pure _ _)) (ownFrom_below (Nat.le_refl _) (by omega)))
    (fun c s A B row hs hg hr => by
      obtain ⟨hc, q, z, h1, h2, h3, h4, h5⟩ := hs
      exact ⟨hc, q, z, h1, h2, h3, holdsRow_own w.heap.size (w.heap.size + 1 + 1 + 1) 29 42 5 (fun pre => pre.length) (fun pre => cells pre) (fun _ _ => True) q A B row h4 hg (fun r e => (hr r e).2), ownFrom_below (β := Unit) (B := w1.heap.size) (Nat.le_refl _) (by omega) () A B row h5 hg hr⟩)
    (fun pre A hA => by
      obtain ⟨⟨⟨⟨v, hv, hrow, _⟩, _⟩, _⟩, _⟩ := hA
      exact tout_steady hv (fun k hk => (hrow.lt k hk).2))
    ⟨⟨⟨⟨_, bO, World.ownsRow_nil _ _ _ _, trivial⟩, bM⟩, by simp⟩, hB1⟩
    (fun p a' W => ∃ Bx, w.heap.size < Bx ∧ W.heap[Bx]? = some (.cells p.k.cells 38 (0, 0)) ∧ a' = { tmps := #[.pointer t, kV x, kV y, .int .i64 most, undef, .pointer (some ⟨w.heap.size, 0, none⟩), .pointer (some ⟨w.heap.size + 1, 0, none⟩), .pointer (some ⟨w.heap.size + 1 + 1, 0, none⟩), .slice none 0 0, .pointer (some ⟨w.heap.size + 1 + 1 + 1, 0, none⟩), .func (.func gf) #[] lb, .pointer (some ⟨Bx, 0, none⟩), .int .i64 p.v, .pointer t, kV x, kV y, .func (.func gf) #[] lb, .func (.func gf) #[] lb, .bool false, .func (.func gf) #[] lb, kV p.k, .int .i64 p.v, undef, undef, undef, undef, undef, undef, undef, undef, undef, undef, undef], defers := [] })
    (fun x a' _ X Y row hs hg hr => by
      obtain ⟨Bx, h1, h2, h3⟩ := hs
      exact ⟨Bx, h1, (hg.block Bx (Array.getElem?_eq_some_iff.1 h2).1 (fun e => by
        obtain ⟨_, o, ho, hc⟩ := hr Bx e.symm
        rw [h2] at ho
        cases ho
        cases hc)).trans h2, h3⟩)
    ?assign ?body ?done ?stop
  case assign =>
    rintro lo pre p W K ⟨⟨⟨⟨v, hv, hrow, _⟩, hM⟩, hpm⟩, hB⟩ hK
    have hlv := hv.lt
    gi_wp2
    exact hK _ _ ((KeepsOthers.alloc _ _).from _) (leaves_alloc hv.lt _) ⟨⟨⟨⟨v, hv.alloc _, hrow.alloc _, trivial⟩, hM.alloc _⟩, hpm⟩, hB.alloc hB.size _⟩ ⟨W.heap.size, by omega, heap_alloc_new W _, rfl⟩
  case body =>
    rintro lo pre p a' W hlo ⟨r, hr⟩ ⟨⟨⟨⟨v, hv, hrow, _⟩, hM⟩, hpm⟩, hB⟩ ⟨Bx, hBx, hbx, rfl⟩ hlt
    obtain ⟨va, vc, rfl, _⟩ := pairs_slice hrow
    have hc := hv.cell
    have hm := hM.cell
    have k0 : W.cell? ⟨Bx, 0, none⟩ = some (.int .i64 p.k.a) := key_at hbx 0 (by omega)
    have k1 : W.cell? ⟨Bx, 1, none⟩ = some (.int .i64 p.k.b) := key_at hbx 1 (by omega)
    have k2 : W.cell? ⟨Bx, 2, none⟩ = some (.int .i64 p.k.c) := key_at hbx 2 (by omega)
    have k3 : W.cell? ⟨Bx, 3, none⟩ = some (.int .i64 p.k.d) := key_at hbx 3 (by omega)
    by_cases hfull : most ≤ (pre.length : Int)
    · gi_wp2
      exact ⟨KeepsFrom.refl _ _, rfl, pre, p, rfl, hfull, hpm, ⟨_, hv, hrow, trivial⟩, hB⟩
    · gi_wp2_with (gi_at_builtin; refine wpListIn_append_own_at _ rfl _ _ 29 rfl w.heap.size 42 i0 zeroPair 5 40 Try.underlying29 hi hz0 hz1 hz2 rfl (by decide) _ _ _ rfl (hrow.alloc _) ⟨W.heap.size, 0, none⟩ 1 1 (pairCells p) rfl rfl (src_one W p _) (pair_one p) (by unfold maxLen; omega) (by omega) (by have := hB.size; simp; omega) ?_; intro v' w2 hown' hgrow _ hat; obtain ⟨g', cap', rfl⟩ := ownsRow_succ hown'; obtain ⟨hv1, hv2, hr2, hk2, hb2⟩ := hv.appended (by decide) hrow hB.size (by omega) hown' hgrow; have hc1 := hv1.cell; have hf1 := hv1.frozen)
      have hr3 : (w2.setCell ⟨w.heap.size + 1 + 1 + 1, 0, none⟩ (.slice (some ⟨g', 0, none⟩) (pre.length + 1) cap')).ownsRow w.heap.size 42 5 (.slice (some ⟨g', 0, none⟩) (pre.length + 1) cap') (pre ++ [p]).length (cells (pre ++ [p])) := by rw [cells_snoc]; simpa using hr2
      exact ⟨hk2.from _, leaves_out hv hv2 hgrow hat, ⟨⟨⟨_, hv2, by first | exact hr3 | exact ⟨hr3, trivial⟩⟩, ((hM.alloc _).kept hgrow (hM.not_row (by decide) hrow)).other (by omega) _⟩, by rw [List.length_append, List.length_singleton]; omega⟩, hB.trans hb2⟩
  case done =>
    rintro D ys W hD rfl ⟨⟨⟨⟨v, hv, hrow, _⟩, hM⟩, hpm⟩, hB⟩ hK
    have hc := hv.cell
    have hE : ranged l x y most = ys := by rw [HW.out, List.take_of_length_le hpm]
    gi_wp2
    rw [hE]
    refine ⟨by simp, .inl ⟨_, _, rfl, run_takeDeferred hK, ?_⟩⟩
    exact ⟨_, results_tmp rfl _ _ _, v, rfl, ownsRow_putObj hrow _ hK rfl, hB.trans (belowK_b (w := w) (Nat.le_refl _) W D _ _ (by omega) hK rfl rfl)⟩
  case stop =>
    rintro D c pre W hD hsp ⟨rfl, q, z, rfl, h1, h2, ⟨v, hv, hrow, _⟩, hB⟩ hK
    have hc := hv.cell
    have hE : ranged l x y most = q := by
      obtain ⟨t, ht⟩ := hsp
      rw [HW.out, ← ht, List.append_assoc, List.take_left' (by omega)]
    gi_wp2
    rw [hE]
    refine ⟨by simp, .inl ⟨_, _, rfl, run_takeDeferred hK, ?_⟩⟩
    exact ⟨_, results_tmp rfl _ _ _, v, rfl, ownsRow_putObj hrow _ hK rfl, hB.trans (belowK_b (w := w) (Nat.le_refl _) W D _ _ (by omega) hK rfl rfl)⟩
variable {I : Impl}
theorem some_any (J : Iters I) (Q : Nat) (F : Nat → Prop) (l : List Pair) (x y : Key) (most : Int) (w : World) (hp : I.PT w Q F l) (hr : Rising l) (hl : l.length ≤ 1000) :
    Calls Try.prog 16 #[ptr Q, kV x, kV y, .int .i64 most] w fun e w' => ∃ v, e = .returned v ∧ Own w' w.heap.size v (ranged l x y most) ∧ Below w.heap.size w w' :=
  some_go (some ⟨Q, 0, none⟩) F l x y most w (I.lt hp) (fun W hW => J.range Q F l x y W (I.keep hp hW.size (fun k hk => hW.block k (I.lt hp k hk))) hr hl) hl
end Go.Proofs.Ytighjiiaplihjaa.Tab
