/- The program's List: its drafts, as it goes over its table. -/
import Derived.Test.YtfebaiefoonncaaDraImB
import Derived.Test.YtfebaiefoonncaaTdrN
namespace Go.Proofs.Ytfebaiefoonncaa.Draft
open Go.RowKit Go.Lib Go.Shelf
attribute [local go_sem] Oper.semAt_some

def pcells (l : List Tb.Dr.Pr) : List Value := vcells (l.map Tb.Pair.v)
theorem pcells_snoc (pre : List Tb.Dr.Pr) (x : Tb.Dr.Pr) : pcells (pre ++ [x]) = pcells pre ++ [.int .i64 x.v.id, .int .i64 x.v.owner, .int .i64 x.v.div, .int .i64 x.v.place, .int .i64 x.v.blue, .int .i64 x.v.me, .int .i64 x.v.te, .int .i64 x.v.runs, .int .i64 x.v.busy] := by
  unfold pcells
  rw [List.map_append, vcells_append]
  simp [vcells, elCells]
theorem pcells_prs (l : List Dr) : pcells (prs l) = vcells l := by
  unfold pcells
  rw [prs_vals]
theorem src_el (W : World) (x : Tb.Dr.Pr) (t : TypeId) (j : Nat) (u : Value) (h : [Value.int .i64 x.v.id, .int .i64 x.v.owner, .int .i64 x.v.div, .int .i64 x.v.place, .int .i64 x.v.blue, .int .i64 x.v.me, .int .i64 x.v.te, .int .i64 x.v.runs, .int .i64 x.v.busy][j]? = some u) : (W.alloc (.cells #[.int .i64 x.v.id, .int .i64 x.v.owner, .int .i64 x.v.div, .int .i64 x.v.place, .int .i64 x.v.blue, .int .i64 x.v.me, .int .i64 x.v.te, .int .i64 x.v.runs, .int .i64 x.v.busy] t)).cell? ((⟨W.heap.size, 0, none⟩ : Addr).add j) = some u := by
  have hblk := heap_alloc_new W (.cells #[.int .i64 x.v.id, .int .i64 x.v.owner, .int .i64 x.v.div, .int .i64 x.v.place, .int .i64 x.v.blue, .int .i64 x.v.me, .int .i64 x.v.te, .int .i64 x.v.runs, .int .i64 x.v.busy] t)
  rw [Tb.addr_add, Nat.zero_add]
  refine cell_block (j := j) hblk ?_
  rw [← Array.getElem?_toList]
  exact h
theorem one_el (x : Tb.Dr.Pr) : ∀ u ∈ [Value.int .i64 x.v.id, .int .i64 x.v.owner, .int .i64 x.v.div, .int .i64 x.v.place, .int .i64 x.v.blue, .int .i64 x.v.me, .int .i64 x.v.te, .int .i64 x.v.runs, .int .i64 x.v.busy], u.oneCell' = true := by
  intro u h
  simp at h
  rcases h with rfl | rfl | rfl | rfl | rfl | rfl | rfl | rfl | rfl <;> rfl
set_option maxRecDepth 100000 in
set_option maxHeartbeats 4000000 in
theorem list_im {Q : Nat} {R : Nat → Prop} {l : List Dr} {z : Int} (w : World) (h : DP w Q R l z) (hl : l.length ≤ 1000) :
    Calls Try.prog 9 #[ptr Q] w fun e w' => ∃ v, e = .returned v ∧ OwnV w' w.heap.size v l ∧ Below w.heap.size w w' := by
  obtain ⟨i0, hi, hz0, hz1, hz2⟩ := info_parts info_el
  have HRR : Hid (∀ k, (k < w.heap.size ∧ R k) → k < w.heap.size) := Lib.hid fun k hk => hk.1
  have hB0 : Below w.heap.size w (w.alloc (.cells #[.slice none 0 0] 22)) := (Below.refl _ w).alloc (Nat.le_refl _) _
  have HC := Lib.hid (Tb.Dr.PT.lists h (by rw [prs_length]; exact hl) (w.alloc (.cells #[.slice none 0 0] 22)) hB0)
  have bO := Boxed.new w 22 (.slice none 0 0)
  have HB0 := Lib.hid hB0; have HBO := Lib.hid bO
  have hpl : (prs l).length ≤ 1000 := by rw [prs_length]; exact hl
  clear hB0 bO h
  refine (callsIn_wide (n := 6)).1 ?_
  refine callsIn_of_wp_marks Try.func9 rfl trivial ?_ rfl
  simp only [Try.ntmps9, List.size_toArray, List.length_cons, List.length_nil, Nat.reduceAdd, Nat.reduceSub, Array.replicate_succ, Array.replicate_zero, List.push_toArray, List.append_toArray, List.nil_append, List.cons_append]
  gi_wp2_with (refine ⟨trivial, ?_⟩; gi_at_call 24; refine (callsIn_wide.2 HC.out).mono ?_; rintro e w1 ⟨gf, lb, rfl, H1⟩)
  obtain ⟨hb1, eg, hgo⟩ := H1.out
  have hB1 : Below w.heap.size w w1 := HB0.out.trans (hb1.mono HB0.out.size)
  have bO : Boxed w1 w.heap.size 22 (.slice none 0 0) := (hb1.block w.heap.size HBO.out.lt).trans HBO.out
  have hlt1 : w.heap.size < w1.heap.size := bO.lt
  refine wpIn_rangeFunc_ownH rfl (by omega) (gf := gf) (lb := lb) rfl trivial eg
    (hgo (6 - 1) (by omega)) Keep.trans (keep_b (fun k hk => by have := HRR.out k hk; omega)) (Below.refl _ _) (fun _ => rfl)
    (fun pre W => (∃ v, Boxed W w.heap.size 22 v ∧ W.ownsRow w.heap.size 36 9 v pre.length (pcells pre) ∧ True) ∧ Below w.heap.size w W)
    (fun _ _ _ => False)
    (OwnFrom.and (Own.from (holdsRow_own w.heap.size w.heap.size 22 36 9 (fun pre => pre.length) (fun pre => pcells pre) (fun _ _ => True)) _) (ownFrom_below (Nat.le_refl _) (by omega)))
    (fun _ _ _ _ _ hs _ _ => hs)
    ⟨⟨_, bO, World.ownsRow_nil _ _ _ _, trivial⟩, hB1⟩
    (fun x a' W => ∃ Bx, w.heap.size < Bx ∧ W.heap[Bx]? = some (.cells x.v.cells 36 (0, 0)) ∧ a' = { tmps := #[.pointer (some ⟨Q, 0, none⟩), undef, .slice none 0 0, .pointer (some ⟨w.heap.size, 0, none⟩), undef, .pointer (some ⟨Bx, 0, none⟩), .pointer (some ⟨Q, 0, none⟩), .bool false, .pointer (some ⟨Q, 0, none⟩), .pointer (some ⟨Q, 0, none⟩), .pointer (some ⟨Q, 0, none⟩), .pointer (some ⟨Q, 0, none⟩), .func (.func gf) #[] lb, Tb.kV x.k, elV x.v, undef, undef, undef, undef, undef], defers := [] })
    (fun x a' _ X Y row hs hg hr => by
      obtain ⟨Bx, h1, h2, h3⟩ := hs
      exact ⟨Bx, h1, (hg.block Bx (Array.getElem?_eq_some_iff.1 h2).1 (fun e => by
        obtain ⟨_, o, ho, hc⟩ := hr Bx e.symm
        rw [h2] at ho
        cases ho
        cases hc)).trans h2, h3⟩)
    ?assign ?body ?done ?stop
  case assign =>
    rintro lo pre x W K ⟨⟨v, hv, hrow, _⟩, hB⟩ hK
    gi_wp2
    exact hK _ _ ((KeepsOthers.alloc _ _).from _) (keep_below HRR.out ((Below.refl _ W).alloc hB.size _)) ⟨⟨v, hv.alloc _, hrow.alloc _, trivial⟩, hB.alloc hB.size _⟩ ⟨W.heap.size, hv.lt, heap_alloc_new W _, rfl⟩
  case body =>
    rintro lo pre x a' W hlo ⟨r, hr⟩ ⟨⟨v, hv, hrow, _⟩, hB⟩ ⟨Bx, hBx, hbx, rfl⟩ hlt
    have hc := hv.cell
    obtain ⟨k0, k1, k2, k3, k4, k5, k6, k7, k8⟩ := el_at hbx
    gi_wp2_with (gi_at_builtin; go_loud (refine wpListIn_append_own_at _ rfl _ _ 22 rfl w.heap.size 36 i0 elZ 9 72 Try.underlying22 hi hz0 hz1 hz2 rfl (by decide) _ _ _ rfl (hrow.alloc _) ⟨W.heap.size, 0, none⟩ 1 1 [.int .i64 x.v.id, .int .i64 x.v.owner, .int .i64 x.v.div, .int .i64 x.v.place, .int .i64 x.v.blue, .int .i64 x.v.me, .int .i64 x.v.te, .int .i64 x.v.runs, .int .i64 x.v.busy] rfl rfl (src_el W x _) (one_el x) (by unfold maxLen; omega) (by omega) (by have := hB.size; simp; omega) ?_); intro v' w2 hown' hgrow _ hat; obtain ⟨g', cap', rfl⟩ := ownsRow_succ hown'; obtain ⟨hv1, hv2, hr2, hk2, hb2⟩ := hv.appended (by decide) hrow hB.size (Nat.le_refl _) hown' hgrow; have hc1 := hv1.cell; have hf1 := hv1.frozen)
    exact ⟨hk2.from _, keep_below HRR.out hb2, ⟨_, hv2, by rw [pcells_snoc, List.length_append]; exact hr2, trivial⟩, hB.trans hb2⟩
  case done =>
    rintro D ys W hD rfl ⟨⟨v, hv, hrow, _⟩, hB⟩ hK
    have hc := hv.cell
    gi_wp2
    refine ⟨by simp, .inl ⟨_, _, rfl, run_takeDeferred hK, ?_⟩⟩
    have hrow2 : OwnV W w.heap.size v l := by
      have h2 := hrow
      rw [pcells_prs, prs_length] at h2
      exact h2
    exact ⟨_, results_tmp rfl _ _ _, v, rfl, ownsRow_putObj hrow2 _ hK rfl, hB.trans (belowK_b (w := w) (Nat.le_refl _) W D _ _ (by omega) hK rfl rfl)⟩
  case stop =>
    rintro D c pre W _ _ h _
    exact h.elim
end Go.Proofs.Ytfebaiefoonncaa.Draft
