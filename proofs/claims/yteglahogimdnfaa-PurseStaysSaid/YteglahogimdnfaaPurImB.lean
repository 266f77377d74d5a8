/- The program's Total: what all have, as it goes over its table. -/
import Derived.Test.YteglahogimdnfaaPurImA
import Derived.Test.YteglahogimdnfaaTinImN
namespace Go.Proofs.Yteglahogimdnfaa.Purse
open Go.RowKit Go.Lib Go.Shelf
attribute [local go_sem] Oper.semAt_some

/-- The numbers of pairs, together. -/
def tv : List Tab.Pair → Int
  | [] => 0
  | p :: l => p.v + tv l
theorem tv_snoc (l : List Tab.Pair) (p : Tab.Pair) : tv (l ++ [p]) = tv l + p.v := by
  induction l with
  | nil => simp [tv]
  | cons a l ih =>
    show a.v + tv (l ++ [p]) = a.v + tv l + p.v
    rw [ih]
    omega
theorem wrap_more (a b : Int) : wrap64 (wrap64 a + b) = wrap64 (a + b) := by unfold wrap64; omega
theorem tv_prs : ∀ l : List Ac, tv (prs l) = tot l
  | [] => rfl
  | a :: l => by
    show a.mon + tv (prs l) = a.mon + tot l
    rw [tv_prs l]
theorem PT.lists {w : World} {Q : Nat} {R : Nat → Prop} {l : List Ac} (h : PT w Q R l) (hl : l.length ≤ 1000) : ∀ W, Below w.heap.size w W → Calls Try.prog 34 #[ptr Q] W fun e w' => ∃ gf lb, e = .returned (.func (.func gf) #[] lb) ∧ Hid (Below W.heap.size W w' ∧ Tab.Im.Goes w' (fun k => k < w.heap.size ∧ R k) gf lb (prs l)) := fun W hW => by
  obtain ⟨ks, vs, h⟩ := h
  have h2 := h.under hW
  refine (Tab.Im.all_goes W (R := fun k => k < w.heap.size ∧ R k) (fun k hk => Nat.lt_of_lt_of_le hk.1 hW.size) ?_ (by rw [prs_length]; exact hl) h2.tl.lists)
  obtain ⟨a, c, b, d, e1, e2, g1, g2, hat⟩ := h2.reads
  refine ⟨a, c, b, d, e1, e2, g1, g2, fun i p hp => ?_⟩
  obtain ⟨g, o, f, u, e3, e4, r1, r2, q⟩ := hat i p hp
  exact ⟨g, o, f, u, e3, e4, ⟨h.lt g r1.1, r1.1⟩, ⟨h.lt f r2.1, r2.1⟩, q⟩
set_option maxRecDepth 100000 in
set_option maxHeartbeats 4000000 in
theorem total_im {Q : Nat} {R : Nat → Prop} {l : List Ac} (w : World) (h : PT w Q R l) (hg : Good l) (hl : l.length ≤ 1000) :
    Calls Try.prog 14 #[ptr Q] w fun e w' => e = .returned (.int .i64 (tot l)) ∧ Below w.heap.size w w' := by
  have HRR : Hid (∀ k, (k < w.heap.size ∧ R k) → k < w.heap.size) := Lib.hid fun k hk => hk.1
  have hB0 : Below w.heap.size w (w.alloc (.cells #[.int .i64 0] 3)) := (Below.refl _ w).alloc (Nat.le_refl _) _
  have HC := Lib.hid (h.lists hl (w.alloc (.cells #[.int .i64 0] 3)) hB0)
  have bO := Boxed.new w 3 (.int .i64 0)
  have HB0 := Lib.hid hB0; have HBO := Lib.hid bO; have HM := Lib.hid hg.mon; have HT := Lib.hid hg.tot
  clear hB0 bO h hg
  refine (callsIn_wide (n := 6)).1 ?_
  refine callsIn_of_wp_marks Try.func14 rfl trivial ?_ rfl
  simp only [Try.ntmps14, List.size_toArray, List.length_cons, List.length_nil, Nat.reduceAdd, Nat.reduceSub, Array.replicate_succ, Array.replicate_zero, List.push_toArray, List.append_toArray, List.nil_append, List.cons_append]
  gi_wp2_with (refine ⟨trivial, ?_⟩; gi_at_call 34; refine (callsIn_wide.2 HC.out).mono ?_; rintro e w1 ⟨gf, lb, rfl, H1⟩)
  obtain ⟨hb1, eg, hgo⟩ := H1.out
  have hB1 : Below w.heap.size w w1 := HB0.out.trans (hb1.mono HB0.out.size)
  have bO : Boxed w1 w.heap.size 3 (.int .i64 0) := (hb1.block w.heap.size HBO.out.lt).trans HBO.out
  have hlt1 : w.heap.size < w1.heap.size := bO.lt
  refine wpIn_rangeFunc_ownH rfl (by omega) (gf := gf) (lb := lb) rfl trivial eg
    (hgo (6 - 1) (by omega)) Keep.trans (keep_b (fun k hk => by have := HRR.out k hk; omega)) (Below.refl _ _) (fun _ => rfl)
    (fun pre W => Boxed W w.heap.size 3 (.int .i64 (wrap64 (tv pre))) ∧ Below w.heap.size w W)
    (fun _ _ _ => False)
    (OwnFrom.and (Own.from (boxed_own w.heap.size 3 (fun pre => .int .i64 (wrap64 (tv pre)))) _) (ownFrom_below (Nat.le_refl _) (by omega)))
    (fun _ _ _ _ _ hs _ _ => hs)
    ⟨by have h0 : wrap64 (tv []) = 0 := IntWalk.wrap64_in 0 (by omega)
        rw [h0]; exact bO, hB1⟩
    (fun x a' W => a' = { tmps := #[.pointer (some ⟨Q, 0, none⟩), undef, .int .i64 0, .pointer (some ⟨w.heap.size, 0, none⟩), undef, .int .i64 x.v, .pointer (some ⟨Q, 0, none⟩), .bool false, .pointer (some ⟨Q, 0, none⟩), .pointer (some ⟨Q, 0, none⟩), .pointer (some ⟨Q, 0, none⟩), .pointer (some ⟨Q, 0, none⟩), .func (.func gf) #[] lb, Tab.kV x.k, .int .i64 x.v, undef, undef, undef, undef], defers := [] })
    (fun x a' _ X Y row hs hg hr => hs)
    ?assign ?body ?done ?stop
  case assign =>
    rintro lo pre x W K ⟨hv, hB⟩ hK
    gi_wp2
    exact hK _ _ (KeepsFrom.refl _ _) (keep_below HRR.out (Below.refl _ W)) ⟨hv, hB⟩ rfl
  case body =>
    rintro lo pre x a' W hlo ⟨r, hr⟩ ⟨hv, hB⟩ rfl hlt
    have hc := hv.cell
    have hf := hv.frozen
    gi_wp2
    have hv2 := hv.set (.int .i64 (wrap64 (wrap64 (tv pre) + x.v)))
    rw [wrap_more, ← tv_snoc] at hv2
    rw [wrap_more, ← tv_snoc]
    have hb2 : Below w.heap.size W (W.setCell ⟨w.heap.size, 0, none⟩ (.int .i64 (wrap64 (tv (pre ++ [x]))))) := (Below.refl _ W).setCell (p := ⟨w.heap.size, 0, none⟩) (Nat.le_refl _) _
    exact ⟨(KeepsOthers.setCell _ _ _).from _, keep_below HRR.out hb2, hv2, hB.trans hb2⟩
  case done =>
    rintro D ys W hD rfl ⟨hv, hB⟩ hK
    have hc := hv.cell
    gi_wp2
    refine ⟨by simp, .inl ⟨_, _, rfl, run_takeDeferred hK, ?_⟩⟩
    have ht : wrap64 (tv (prs l)) = tot l := by
      rw [tv_prs]
      have h1 := tot_nonneg HM.out
      have h2 := HT.out
      unfold mm at h2
      exact IntWalk.wrap64_in _ (by omega)
    rw [ht]
    exact ⟨_, results_tmp rfl _ _ _, rfl, hB.trans (belowK_b (w := w) (Nat.le_refl _) W D _ _ (by omega) hK rfl rfl)⟩
  case stop =>
    rintro D c pre W _ _ h _
    exact h.elim
/-! List -/
def acs (l : List Tab.Pair) : List Ac := l.map fun p => ⟨p.k.a, p.v⟩
theorem acs_prs (l : List Ac) : acs (prs l) = l := by
  unfold acs prs
  rw [List.map_map]
  exact List.map_id'' (fun _ => rfl) l
def pcells (l : List Tab.Pair) : List Value := acells (acs l)
theorem pcells_snoc (pre : List Tab.Pair) (x : Tab.Pair) : pcells (pre ++ [x]) = pcells pre ++ [.int .i64 x.k.a, .int .i64 x.v] := by
  unfold pcells acs
  rw [List.map_append, acells_append]
  rfl
theorem src_ac (W : World) (x : Tab.Pair) (t : TypeId) (j : Nat) (u : Value) (h : [Value.int .i64 x.k.a, .int .i64 x.v][j]? = some u) : (W.alloc (.cells #[.int .i64 x.k.a, .int .i64 x.v] t)).cell? ((⟨W.heap.size, 0, none⟩ : Addr).add j) = some u := by
  have hblk := heap_alloc_new W (.cells #[.int .i64 x.k.a, .int .i64 x.v] t)
  rw [addr_add, Nat.zero_add]
  refine cell_block (j := j) hblk ?_
  rw [← Array.getElem?_toList]
  exact h
theorem one_ac (x : Tab.Pair) : ∀ u ∈ [Value.int .i64 x.k.a, .int .i64 x.v], u.oneCell' = true := by
  intro u h
  simp at h
  rcases h with rfl | rfl <;> rfl
set_option maxRecDepth 100000 in
set_option maxHeartbeats 4000000 in
theorem list_im {Q : Nat} {R : Nat → Prop} {l : List Ac} (w : World) (h : PT w Q R l) (hl : l.length ≤ 1000) :
    Calls Try.prog 13 #[ptr Q] w fun e w' => ∃ v, e = .returned v ∧ OwnA w' w.heap.size v l ∧ Below w.heap.size w w' := by
  obtain ⟨i0, hi, hz0, hz1, hz2⟩ := info_parts info_ac
  have HRR : Hid (∀ k, (k < w.heap.size ∧ R k) → k < w.heap.size) := Lib.hid fun k hk => hk.1
  have hB0 : Below w.heap.size w (w.alloc (.cells #[.slice none 0 0] 22)) := (Below.refl _ w).alloc (Nat.le_refl _) _
  have HC := Lib.hid (h.lists hl (w.alloc (.cells #[.slice none 0 0] 22)) hB0)
  have bO := Boxed.new w 22 (.slice none 0 0)
  have HB0 := Lib.hid hB0; have HBO := Lib.hid bO
  have hpl : (prs l).length ≤ 1000 := by rw [prs_length]; exact hl
  clear hB0 bO h
  refine (callsIn_wide (n := 6)).1 ?_
  refine callsIn_of_wp_marks Try.func13 rfl trivial ?_ rfl
  simp only [Try.ntmps13, List.size_toArray, List.length_cons, List.length_nil, Nat.reduceAdd, Nat.reduceSub, Array.replicate_succ, Array.replicate_zero, List.push_toArray, List.append_toArray, List.nil_append, List.cons_append]
  gi_wp2_with (refine ⟨trivial, ?_⟩; gi_at_call 34; refine (callsIn_wide.2 HC.out).mono ?_; rintro e w1 ⟨gf, lb, rfl, H1⟩)
  obtain ⟨hb1, eg, hgo⟩ := H1.out
  have hB1 : Below w.heap.size w w1 := HB0.out.trans (hb1.mono HB0.out.size)
  have bO : Boxed w1 w.heap.size 22 (.slice none 0 0) := (hb1.block w.heap.size HBO.out.lt).trans HBO.out
  have hlt1 : w.heap.size < w1.heap.size := bO.lt
  refine wpIn_rangeFunc_ownH rfl (by omega) (gf := gf) (lb := lb) rfl trivial eg
    (hgo (6 - 1) (by omega)) Keep.trans (keep_b (fun k hk => by have := HRR.out k hk; omega)) (Below.refl _ _) (fun _ => rfl)
    (fun pre W => (∃ v, Boxed W w.heap.size 22 v ∧ W.ownsRow w.heap.size 63 2 v pre.length (pcells pre) ∧ True) ∧ Below w.heap.size w W)
    (fun _ _ _ => False)
    (OwnFrom.and (Own.from (holdsRow_own w.heap.size w.heap.size 22 63 2 (fun pre => pre.length) (fun pre => pcells pre) (fun _ _ => True)) _) (ownFrom_below (Nat.le_refl _) (by omega)))
    (fun _ _ _ _ _ hs _ _ => hs)
    ⟨⟨_, bO, World.ownsRow_nil _ _ _ _, trivial⟩, hB1⟩
    (fun x a' W => ∃ Bx, w.heap.size < Bx ∧ W.heap[Bx]? = some (.cells x.k.cells 76 (0, 0)) ∧ a' = { tmps := #[.pointer (some ⟨Q, 0, none⟩), undef, .slice none 0 0, .pointer (some ⟨w.heap.size, 0, none⟩), .pointer (some ⟨Bx, 0, none⟩), .int .i64 x.v, .pointer (some ⟨Q, 0, none⟩), .bool false, .pointer (some ⟨Q, 0, none⟩), .pointer (some ⟨Q, 0, none⟩), .pointer (some ⟨Q, 0, none⟩), .pointer (some ⟨Q, 0, none⟩), .func (.func gf) #[] lb, Tab.kV x.k, .int .i64 x.v, undef, undef, undef, undef, undef, undef, undef, undef], defers := [] })
    (fun x a' _ X Y row hs hg hr => by
      obtain ⟨Bx, h1, h2, h3⟩ := hs
      exact ⟨Bx, h1, (hg.block Bx (Array.getElem?_eq_some_iff.1 h2).1 (fun e => by
        obtain ⟨_, o, ho, hc⟩ := hr Bx e.symm
        rw [h2] at ho
        cases ho
        cases hc)).trans h2, h3⟩)
    ?assign ?body ?done ?stop
  case assign =>
    rintro lo pre x W K ⟨⟨v, hv, hrow, _⟩, hB⟩ hK
    gi_wp2
    exact hK _ _ ((KeepsOthers.alloc _ _).from _) (keep_below HRR.out ((Below.refl _ W).alloc hB.size _)) ⟨⟨v, hv.alloc _, hrow.alloc _, trivial⟩, hB.alloc hB.size _⟩ ⟨W.heap.size, hv.lt, heap_alloc_new W _, rfl⟩
  case body =>
    rintro lo pre x a' W hlo ⟨r, hr⟩ ⟨⟨v, hv, hrow, _⟩, hB⟩ ⟨Bx, hBx, hbx, rfl⟩ hlt
    have hc := hv.cell
    have k0 : W.cell? ⟨Bx, 0, none⟩ = some (.int .i64 x.k.a) := Tab.key_at hbx 0 (by omega)
    gi_wp2_with (gi_at_builtin; go_loud (refine wpListIn_append_own_at _ rfl _ _ 22 rfl w.heap.size 63 i0 zeroAcV 2 16 Try.underlying22 hi hz0 hz1 hz2 rfl (by decide) _ _ _ rfl (hrow.alloc _) ⟨W.heap.size, 0, none⟩ 1 1 [.int .i64 x.k.a, .int .i64 x.v] rfl rfl (src_ac W x _) (one_ac x) (by unfold maxLen; omega) (by omega) (by have := hB.size; simp; omega) ?_); intro v' w2 hown' hgrow _ hat; obtain ⟨g', cap', rfl⟩ := ownsRow_succ hown'; obtain ⟨hv1, hv2, hr2, hk2, hb2⟩ := hv.appended (by decide) hrow hB.size (Nat.le_refl _) hown' hgrow; have hc1 := hv1.cell; have hf1 := hv1.frozen)
    exact ⟨hk2.from _, keep_below HRR.out hb2, ⟨_, hv2, by rw [pcells_snoc, List.length_append]; exact hr2, trivial⟩, hB.trans hb2⟩
  case done =>
    rintro D ys W hD rfl ⟨⟨v, hv, hrow, _⟩, hB⟩ hK
    have hc := hv.cell
    gi_wp2
    refine ⟨by simp, .inl ⟨_, _, rfl, run_takeDeferred hK, ?_⟩⟩
    have hrow2 : OwnA W w.heap.size v l := by
      have h2 := hrow
      unfold pcells at h2
      rw [acs_prs, prs_length] at h2
      exact h2
    exact ⟨_, results_tmp rfl _ _ _, v, rfl, ownsRow_putObj hrow2 _ hK rfl, hB.trans (belowK_b (w := w) (Nat.le_refl _) W D _ _ (by omega) hK rfl rfl)⟩
  case stop =>
    rintro D c pre W _ _ h _
    exact h.elim
end Go.Proofs.Yteglahogimdnfaa.Purse
