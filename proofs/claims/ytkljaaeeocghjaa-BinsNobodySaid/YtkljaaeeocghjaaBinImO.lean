/- The program's Of: the stacks of a division, as it goes over a range of its table. -/
import Derived.Test.YtkljaaeeocghjaaBinImA
import Derived.Test.YtkljaaeeocghjaaBinG
import Derived.Test.YtkljaaeeocghjaaTinRange
namespace Go.Proofs.Ytkljaaeeocghjaa.Bins
open Go.RowKit Go.Lib Go.Shelf
open Tab (ptr)
open Goods (St OwnS scells stCells scells_append zeroStV info_st)
attribute [local go_sem] Oper.semAt_some

def sts (l : List Tab.Pair) : List St := l.map fun p => ⟨p.k.d, p.v⟩
def qcells (l : List Tab.Pair) : List Value := scells (sts l)
theorem qcells_snoc (pre : List Tab.Pair) (x : Tab.Pair) : qcells (pre ++ [x]) = qcells pre ++ [.int .i64 x.k.d, .int .i64 x.v] := by
  unfold qcells sts
  rw [List.map_append, scells_append]
  rfl
theorem within_div {l : List Lt} (h : Good l) (x : Bn) : (prs l).filter (Tab.within (kB (withB x 1)) (kB (withB x 33))) = prs (l.filter fun a => decide (inDiv x a)) := by
  unfold prs
  rw [List.filter_map]
  congr 1
  refine List.filter_congr fun a ha => ?_
  have hm := h.may a ha
  have h1 : (0 ≤ Tab.cmp (kB a.b) (kB (withB x 1))) ↔ ¬ bl a.b (withB x 1) := by rw [← kB_less]; omega
  have h2 : Tab.cmp (kB a.b) (kB (withB x 33)) < 0 ↔ bl a.b (withB x 33) := kB_less
  show (decide (0 ≤ Tab.cmp (kB a.b) (kB (withB x 1))) && decide (Tab.cmp (kB a.b) (kB (withB x 33)) < 0)) = decide (inDiv x a)
  rw [← Bool.decide_and, decide_eq_decide, h1, h2]
  unfold MayB at hm
  unfold inDiv bl withB
  dsimp only
  omega
theorem sts_of {l : List Lt} (h : Good l) (x : Bn) : sts ((prs l).filter (Tab.within (kB (withB x 1)) (kB (withB x 33)))) = ofL l x := by
  rw [within_div h, ofL_filter h]
  unfold sts prs
  rw [List.map_map]
  rfl
/-! what a body that collects into a box touches -/
def TBox (T : TypeId) (Bo : Nat) (W : World) (k : Nat) : Prop := k = Bo ∨ ∃ v, Boxed W Bo T v ∧ v.ownBlock = some k
theorem tbox_steady {T : TypeId} {A : World} {Bo B0 : Nat} {v : Value} (hv : Boxed A Bo T v) (hlt : ∀ k, v.ownBlock = some k → k < A.heap.size) :
    (∀ k, TBox T Bo A k → k < A.heap.size) ∧ ∀ B row, A.grownBy B row → (∀ r, row = some r → B0 ≤ r ∧ ∃ o : Obj, A.heap[r]? = some o ∧ o.isCells = false) → ∀ k, TBox T Bo B k → TBox T Bo A k := by
  refine ⟨fun k hk => ?_, fun B row hg hr k hk => ?_⟩
  · rcases hk with rfl | ⟨u, h1, h2⟩
    · exact hv.lt
    · have h3 : A.heap[Bo]? = _ := hv
      rw [show A.heap[Bo]? = _ from h1] at h3
      cases h3
      exact hlt k h2
  · rcases hk with hk | ⟨u, h1, h2⟩
    · exact .inl hk
    · refine .inr ⟨u, ?_, h2⟩
      have h3 := hg.block Bo hv.lt (fun e => by
        obtain ⟨_, o, ho, hc⟩ := hr Bo e.symm
        rw [show A.heap[Bo]? = _ from hv] at ho
        cases ho
        cases hc)
      exact h3.symm.trans h1
theorem leaves_new {T : TypeId} {W V : World} {Bo : Nat} (hb : Below W.heap.size W V) (hBo : Bo < W.heap.size) : Leaves (TBox T Bo) W V := by
  refine ⟨hb.size, fun k o1 hk h1 ht => ⟨(hb.block k (Array.getElem?_eq_some_iff.1 hk).1).trans hk, fun h2 => ht ?_⟩⟩
  rcases h2 with h2 | ⟨v, h2, h3⟩
  · exact .inl h2
  · exact .inr ⟨v, (hb.block Bo hBo).symm.trans h2, h3⟩
theorem leaves_box {T : TypeId} {W w1 : World} {Bo : Nat} {v v' : Value} {tmp : Obj} (hv : Boxed W Bo T v) (hv2 : Boxed (w1.setCell ⟨Bo, 0, none⟩ v') Bo T v') (hg : (W.alloc tmp).grownBy w1 v.ownBlock) (hat : v'.ownBlock = v.ownBlock ∨ v'.ownBlock = some (W.alloc tmp).heap.size) : Leaves (TBox T Bo) W (w1.setCell ⟨Bo, 0, none⟩ v') := by
  have hs := grownBy_setCell' w1 Bo v'
  have h1 : W.heap.size ≤ (W.alloc tmp).heap.size := by simp
  refine ⟨Nat.le_trans h1 (Nat.le_trans hg.size hs.size), fun k o hk hc ht => ?_⟩
  have hlt := (Array.getElem?_eq_some_iff.1 hk).1
  have n1 : k ≠ Bo := fun e => ht (.inl e)
  have n2 : v.ownBlock ≠ some k := fun e => ht (.inr ⟨v, hv, e⟩)
  refine ⟨?_, fun h2 => ?_⟩
  · have q1 := hs.block k (by have := hg.size; omega) (fun e => n1 (by cases e; rfl))
    have q2 := hg.block k (by omega) (fun e => n2 e.symm)
    exact q1.trans (q2.trans ((Below.heap_alloc W tmp k hlt).trans hk))
  · rcases h2 with h2 | ⟨u, h2, h3⟩
    · exact n1 h2
    · have h6 : some (Obj.cells #[v'] T (0, 0)) = some (Obj.cells #[u] T (0, 0)) := Eq.trans (Eq.symm hv2) h2
      cases h6
      rcases hat with h4 | h4
      · exact n2 (h4 ▸ h3)
      · rw [h3] at h4
        have h5 : k = (W.alloc tmp).heap.size := by simpa using h4
        simp at h5
        omega
theorem src_two (W : World) (a b : Int) (t : TypeId) (j : Nat) (u : Value) (h : [Value.int .i64 a, .int .i64 b][j]? = some u) : (W.alloc (.cells #[.int .i64 a, .int .i64 b] t)).cell? ((⟨W.heap.size, 0, none⟩ : Addr).add j) = some u := by
  have hblk := heap_alloc_new W (.cells #[.int .i64 a, .int .i64 b] t)
  rw [addr_add, Nat.zero_add]
  refine cell_block (j := j) hblk ?_
  rw [← Array.getElem?_toList]
  exact h
theorem one_two (a b : Int) : ∀ u ∈ [Value.int .i64 a, .int .i64 b], u.oneCell' = true := by
  intro u h
  simp at h
  rcases h with rfl | rfl <;> rfl
set_option maxRecDepth 100000 in
set_option maxHeartbeats 8000000 in
theorem of_im {Q : Nat} {R : Nat → Prop} {l : List Lt} (x : Bn) (w : World) (h : PT w Q R l) (hg : Good l) (hl : l.length ≤ 1000) :
    Calls Try.prog 20 #[ptr Q, bV x] w fun e w' => ∃ v, e = .returned v ∧ OwnS w' w.heap.size v (ofL l x) ∧ Below w.heap.size w w' := by
  obtain ⟨i0, hi, hz0, hz1, hz2⟩ := info_parts info_st
  obtain ⟨L, hL⟩ : ∃ L, (prs l).filter (Tab.within (kB (withB x 1)) (kB (withB x 33))) = L := ⟨_, rfl⟩
  have hLl : L.length ≤ 1000 := by rw [← hL]; exact Nat.le_trans (List.length_filter_le _ _) (by rw [prs_length]; exact hl)
  have HSO : Hid (sts L = ofL l x) := Lib.hid (by rw [← hL]; exact sts_of hg x)
  obtain ⟨ks, vs, hv⟩ := h
  obtain ⟨V, Y, hV, hY, HP0⟩ := box_bin w x
  obtain ⟨X, hX⟩ : ∃ X, Y.alloc (.cells #[.slice none 0 0] 35) = X := ⟨_, rfl⟩
  have hYB : Below w.heap.size w Y := by rw [← hY]; exact (Below.refl _ w).alloc (Nat.le_refl _) _
  have hYX : Below Y.heap.size Y X := by rw [← hX]; exact (Below.refl _ Y).alloc (Nat.le_refl _) _
  have hXB : Below w.heap.size w X := below_then hYB hYX
  obtain ⟨Bo, hBo⟩ : ∃ Bo, Y.heap.size = Bo := ⟨_, rfl⟩
  have hsY : Bo = w.heap.size + 1 := by rw [← hBo, ← hY]; simp
  have bO : Boxed X Bo 35 (.slice none 0 0) := by rw [← hX, ← hBo]; exact Boxed.new Y _ _
  have HP : Hid (∀ W, Below X.heap.size X W → CellsB W V x) := Lib.hid (fun W hW => (HP0.out W (below_then hYX hW)).1)
  obtain ⟨y1, hy1⟩ : ∃ y, withB x 1 = y := ⟨_, rfl⟩
  obtain ⟨y3, hy3⟩ : ∃ y, withB x 33 = y := ⟨_, rfl⟩
  obtain ⟨k1, hk1⟩ : ∃ k, kB y1 = k := ⟨_, rfl⟩
  obtain ⟨k3, hk3⟩ : ∃ k, kB y3 = k := ⟨_, rfl⟩
  have HT1 : Hid (∀ W, Below X.heap.size X W → Calls Try.prog 43 #[bV x, .int .i64 1] W fun e w' => e = .returned (bV y1) ∧ Hid (Below X.heap.size X w')) := Lib.hid (fun W hW => by rw [← hy1]; exact (typed_any x 1 W).mono fun _ _ ⟨e, h⟩ => ⟨e, Lib.hid (below_then hW h)⟩)
  have HT3 : Hid (∀ W, Below X.heap.size X W → Calls Try.prog 43 #[bV x, .int .i64 33] W fun e w' => e = .returned (bV y3) ∧ Hid (Below X.heap.size X w')) := Lib.hid (fun W hW => by rw [← hy3]; exact (typed_any x 33 W).mono fun _ _ ⟨e, h⟩ => ⟨e, Lib.hid (below_then hW h)⟩)
  have HK1 : Hid (∀ W, Below X.heap.size X W → Calls Try.prog 42 #[bV y1] W fun e w' => e = .returned (Tab.kV k1) ∧ Hid (Below X.heap.size X w')) := Lib.hid (fun W hW => by rw [← hk1]; exact (key_any y1 W).mono fun _ _ ⟨e, h⟩ => ⟨e, Lib.hid (below_then hW h)⟩)
  have HK3 : Hid (∀ W, Below X.heap.size X W → Calls Try.prog 42 #[bV y3] W fun e w' => e = .returned (Tab.kV k3) ∧ Hid (Below X.heap.size X w')) := Lib.hid (fun W hW => by rw [← hk3]; exact (key_any y3 W).mono fun _ _ ⟨e, h⟩ => ⟨e, Lib.hid (below_then hW h)⟩)
  have HC : Hid (∀ W, Below X.heap.size X W → Calls Try.prog 41 #[ptr Q, Tab.kV k1, Tab.kV k3] W fun e w' => ∃ gf lb, e = .returned (.func (.func gf) #[] lb) ∧ Hid (Below X.heap.size X w' ∧ Tab.Im.GoesF w' (Tab.Im.Two ks vs) gf lb L)) := Lib.hid (fun W hW => by
    have h1 := Tab.Im.range_tl k1 k3 W (hv.tl.under (below_then hXB hW)) (prs_rising hg.rise) (by rw [prs_length]; exact hl)
    rw [← hk1, ← hk3, ← hy1, ← hy3, hL] at h1
    rw [← hk1, ← hk3, ← hy1, ← hy3]
    exact h1.mono fun _ _ ⟨gf, lb, e, h⟩ => ⟨gf, lb, e, Lib.hid ⟨below_then hW h.out.1, h.out.2⟩⟩)
  have HTW : Hid (∀ k, Tab.Im.Two ks vs k → k < w.heap.size) := Lib.hid hv.tl.two_lt
  have HXB := Lib.hid hXB; have HBO := Lib.hid bO
  have HXD : Hid (Below X.heap.size X X.drew) := Lib.hid (Below.refl _ X).drew
  have HSB : Hid (Bo = w.heap.size + 1) := Lib.hid hsY
  obtain ⟨b0, b1, b2, b3⟩ := HP.out X (Below.refl _ _)
  clear hv hg hl hL hy1 hy3 hk1 hk3 hYB hYX hXB bO hsY
  refine (callsIn_wide (n := 6)).1 ?_
  refine callsIn_of_wp_marks Try.func20 rfl trivial ?_ rfl
  simp only [Try.ntmps20, List.size_toArray, List.length_cons, List.length_nil, Nat.reduceAdd, Nat.reduceSub, Array.replicate_succ, Array.replicate_zero, List.push_toArray, List.append_toArray, List.nil_append, List.cons_append]
  gi_wp2
  clear hX hY hV hBo
  refine wpIn_wide.2 ?_
  go_region_held3 (fun W => W.cell? ⟨V, 0, none⟩ = some (.int .i64 x.o) ∧ W.cell? ⟨V, 1, none⟩ = some (.int .i64 x.d) ∧ W.cell? ⟨V, 2, none⟩ = some (.int .i64 x.p) ∧ W.cell? ⟨V, 3, none⟩ = some (.int .i64 x.t))
    (first | exact HP.out _ HXD.out | exact HP.out _ H1.out | exact HP.out _ H2.out | exact HP.out _ H3.out | exact HP.out _ H4.out | exact HP.out _ H5.out.1)
    (first
      | (go_at_call 43; with_reducible (refine (HT1.out _ HXD.out).mono ?_); rintro e w1 ⟨rfl, H1⟩)
      | (go_at_call 43; with_reducible (refine (HT3.out _ H2.out).mono ?_); rintro e w3 ⟨rfl, H3⟩)
      | (go_at_call 42; with_reducible (refine (HK1.out _ H1.out).mono ?_); rintro e w2 ⟨rfl, H2⟩)
      | (go_at_call 42; with_reducible (refine (HK3.out _ H3.out).mono ?_); rintro e w4 ⟨rfl, H4⟩)
      | (go_at_call 41; with_reducible (refine (HC.out _ H4.out).mono ?_); rintro e w5 ⟨gf, lb, rfl, H5⟩))
  gi_wp2
  obtain ⟨hb5, eg, hgo⟩ := H5.out
  have hB5 : Below w.heap.size w w5 := below_then HXB.out hb5
  have bO : Boxed w5 Bo 35 (.slice none 0 0) := (hb5.block _ HBO.out.lt).trans HBO.out
  have hlt5 : Bo < w5.heap.size := bO.lt
  have hwB : w.heap.size < Bo := by have := HSB.out; omega
  clear b0 b1 b2 b3
  refine wpIn_rangeFunc_fwd rfl (by omega) (gf := gf) (lb := lb) rfl trivial eg
    (hgo (6 - 1) (by omega)) (Below.refl _ _) (fun _ => rfl) (TBox 35 Bo) (fun k hk ht => by
      have h1 := HTW.out k hk
      rcases ht with ht | ⟨v, h2, h3⟩
      · omega
      · have h4 : w5.heap[Bo]? = _ := bO
        rw [show w5.heap[Bo]? = _ from h2] at h4
        cases h4
        cases h3)
    (fun pre W => (∃ v, Boxed W Bo 35 v ∧ W.ownsRow w.heap.size 54 2 v pre.length (qcells pre) ∧ True) ∧ Below w.heap.size w W)
    (fun _ _ _ => False)
    (OwnFrom.and (Own.from (holdsRow_own w.heap.size Bo 35 54 2 (fun pre => pre.length) (fun pre => qcells pre) (fun _ _ => True)) _) (ownFrom_below (Nat.le_refl _) (by omega)))
    (fun _ _ _ _ _ hs _ _ => hs)
    (fun pre A hA => by
      obtain ⟨⟨v, hv, hrow, _⟩, _⟩ := hA
      exact tbox_steady hv (fun k hk => (hrow.lt k hk).2))
    ⟨⟨_, bO, World.ownsRow_nil _ _ _ _, trivial⟩, hB5⟩
    (fun p a' W => ∃ Bx, Bo < Bx ∧ W.heap[Bx]? = some (.cells p.k.cells 81 (0, 0)) ∧ a' = { tmps := #[ptr Q, bV x, undef, .pointer (some ⟨V, 0, none⟩), .slice none 0 0, .pointer (some ⟨Bo, 0, none⟩), .pointer (some ⟨Bx, 0, none⟩), .int .i64 p.v, ptr Q, .bool false, ptr Q, .pointer (some ⟨Q, 0, none⟩), .pointer (some ⟨Q, 0, none⟩), .pointer (some ⟨Q, 0, none⟩), .agg #[.int .i64 x.o, .int .i64 x.d, .int .i64 x.p, .int .i64 x.t], bV y1, Tab.kV k1, .agg #[.int .i64 x.o, .int .i64 x.d, .int .i64 x.p, .int .i64 x.t], bV y3, Tab.kV k3, .func (.func gf) #[] lb, Tab.kV p.k, .int .i64 p.v, undef, undef, undef, undef, undef, undef, undef, undef, undef], defers := [] })
    (fun x a' _ X Y row hs hg hr => by
      obtain ⟨Bx, h1, h2, h3⟩ := hs
      exact ⟨Bx, h1, (hg.block Bx (Array.getElem?_eq_some_iff.1 h2).1 (fun e => by
        obtain ⟨_, o, ho, hc⟩ := hr Bx e.symm
        rw [h2] at ho
        cases ho
        cases hc)).trans h2, h3⟩)
    ?assign ?body ?done ?stop
  case assign =>
    rintro lo pre p W K ⟨⟨v, hv, hrow, _⟩, hB⟩ hK
    gi_wp2
    exact hK _ _ ((KeepsOthers.alloc _ _).from _) (leaves_new ((Below.refl _ W).alloc (Nat.le_refl _) _) hv.lt) ⟨⟨v, hv.alloc _, hrow.alloc _, trivial⟩, hB.alloc hB.size _⟩ ⟨W.heap.size, hv.lt, heap_alloc_new W _, rfl⟩
  case body =>
    rintro lo pre ⟨⟨ka, kb, kc, kd⟩, xv⟩ a' W hlo ⟨r, hr⟩ ⟨⟨v, hv, hrow, _⟩, hB⟩ ⟨Bx, hBx, hbx, rfl⟩ hlt
    dsimp only
    have hc := hv.cell
    obtain ⟨va, vn, vc, rfl⟩ : ∃ a n c, v = .slice a n c := by
      rcases hrow.2 with ⟨h1, _⟩ | ⟨g, cap, cur, h1, _⟩
      · exact ⟨_, _, _, h1⟩
      · exact ⟨_, _, _, h1⟩
    have hfd := field_type ka kb kc kd
    have HBI : Hid (Calls Try.prog 40 #[.agg #[.int .i64 ka, .int .i64 kb, .int .i64 kc, .int .i64 kd]] W.drew fun e w' => e = .returned (.agg #[.int .i64 ka, .int .i64 kb, .int .i64 kc, .int .i64 kd]) ∧ Hid (Below W.heap.size W w')) := Lib.hid ((bin_any ⟨ka, kb, kc, kd⟩ W.drew).mono fun _ _ ⟨e, h⟩ => ⟨e, Lib.hid (below_then (Below.refl _ W).drew h)⟩)
    have four : ∀ V : World, V.heap[Bx]? = some (.cells #[.int .i64 ka, .int .i64 kb, .int .i64 kc, .int .i64 kd] 81 (0, 0)) → (V.cell? ⟨Bx, 0, none⟩ = some (.int .i64 ka) ∧ V.cell? ⟨Bx, 1, none⟩ = some (.int .i64 kb) ∧ V.cell? ⟨Bx, 2, none⟩ = some (.int .i64 kc) ∧ V.cell? ⟨Bx, 3, none⟩ = some (.int .i64 kd)) := fun V h => ⟨cell_block (j := 0) h rfl, cell_block (j := 1) h rfl, cell_block (j := 2) h rfl, cell_block (j := 3) h rfl⟩
    have hlx := (Array.getElem?_eq_some_iff.1 hbx).1
    have HST : Hid (∀ V, Below W.heap.size W V → (Boxed V Bo 35 (.slice va vn vc) ∧ V.ownsRow w.heap.size 54 2 (.slice va vn vc) pre.length (qcells pre)) ∧ Below w.heap.size w V ∧ KeepsOthers W V ∧ (V.cell? ⟨Bx, 0, none⟩ = some (.int .i64 ka) ∧ V.cell? ⟨Bx, 1, none⟩ = some (.int .i64 kb) ∧ V.cell? ⟨Bx, 2, none⟩ = some (.int .i64 kc) ∧ V.cell? ⟨Bx, 3, none⟩ = some (.int .i64 kd))) := Lib.hid (fun V hV => ⟨⟨(hV.block _ hv.lt).trans hv, own_under hrow hV⟩, hB.trans (hV.mono hB.size), ⟨hV.size, fun k o h1 _ => (hV.block k (Array.getElem?_eq_some_iff.1 h1).1).trans h1⟩, four V ((hV.block _ hlx).trans hbx)⟩)
    have HSA : Hid (∀ V, Below W.heap.size W V → ∀ o, ((V.alloc o).cell? ⟨Bx, 0, none⟩ = some (.int .i64 ka) ∧ (V.alloc o).cell? ⟨Bx, 1, none⟩ = some (.int .i64 kb) ∧ (V.alloc o).cell? ⟨Bx, 2, none⟩ = some (.int .i64 kc) ∧ (V.alloc o).cell? ⟨Bx, 3, none⟩ = some (.int .i64 kd))) := Lib.hid (fun V hV o => (HST.out _ (hV.alloc hV.size o)).2.2.2)
    have HS3 : Hid (∀ (V : World) (o : Obj) (w3 : World), Below W.heap.size W V → (V.alloc o).grownBy w3 (Value.slice va vn vc).ownBlock → (w3.cell? ⟨Bx, 0, none⟩ = some (.int .i64 ka) ∧ w3.cell? ⟨Bx, 1, none⟩ = some (.int .i64 kb) ∧ w3.cell? ⟨Bx, 2, none⟩ = some (.int .i64 kc) ∧ w3.cell? ⟨Bx, 3, none⟩ = some (.int .i64 kd)) ∧ ∀ u, ((w3.setCell ⟨Bo, 0, none⟩ u).cell? ⟨Bx, 0, none⟩ = some (.int .i64 ka) ∧ (w3.setCell ⟨Bo, 0, none⟩ u).cell? ⟨Bx, 1, none⟩ = some (.int .i64 kb) ∧ (w3.setCell ⟨Bo, 0, none⟩ u).cell? ⟨Bx, 2, none⟩ = some (.int .i64 kc) ∧ (w3.setCell ⟨Bo, 0, none⟩ u).cell? ⟨Bx, 3, none⟩ = some (.int .i64 kd))) := Lib.hid (fun V o w3 hV hg => by
      have hne : some Bx ≠ (Value.slice va vn vc).ownBlock := fun e => by
        rcases hrow.2 with ⟨h1, _⟩ | ⟨g, cap, cur, h1, _, h2, _⟩
        · rw [h1] at e
          cases e
        · rw [h1] at e
          cases e
          rw [hbx] at h2
          cases h2
      have h3 : w3.heap[Bx]? = some (.cells #[.int .i64 ka, .int .i64 kb, .int .i64 kc, .int .i64 kd] 81 (0, 0)) := ((hg.block Bx (by have := hV.size; simp; omega) hne).trans (Below.heap_alloc V o Bx (Nat.lt_of_lt_of_le hlx hV.size))).trans ((hV.block Bx hlx).trans hbx)
      exact ⟨four w3 h3, fun u => four _ ((Below.heap_setCell w3 ⟨Bo, 0, none⟩ u Bx (by show Bx ≠ Bo; omega)).trans h3)⟩)
    have HLV : Hid (∀ V, Below W.heap.size W V → Leaves (TBox 35 Bo) W V) := Lib.hid (fun V hV => leaves_new hV hv.lt)
    have hSD := (HST.out W.drew (Below.refl _ W).drew).2.2.2
    clear hbx four hlx
    gi_wp2
    refine wpIn_round_held (fun V => (V.cell? ⟨Bx, 0, none⟩ = some (.int .i64 ka) ∧ V.cell? ⟨Bx, 1, none⟩ = some (.int .i64 kb) ∧ V.cell? ⟨Bx, 2, none⟩ = some (.int .i64 kc) ∧ V.cell? ⟨Bx, 3, none⟩ = some (.int .i64 kd))) (by kernel_rfl) (by kernel_rfl) hSD (fun hHeld => ?_)
    refine wpAnyH_take (i := 4) (v := .int .i64 xv) rfl (by kernel_rfl) (by kernel_rfl) (by kernel_rfl) (fun _ _ _ h => h) (Or.inl ⟨by rfl, fun V hSV => ?_⟩) (by assumption) ?_
    · obtain ⟨y0, y1, y2, y3⟩ := hSV
      go_simp
    (try simp only [Act.put, List.setIfInBounds_toArray])
    refine wpAnyH_take (i := 1) (v := .agg #[.int .i64 ka, .int .i64 kb, .int .i64 kc, .int .i64 kd]) rfl (by kernel_rfl) (by kernel_rfl) (by kernel_rfl) (fun _ _ _ h => h) (Or.inl ⟨by rfl, fun V hSV => ?_⟩) (by assumption) ?_
    · obtain ⟨y0, y1, y2, y3⟩ := hSV
      go_simp
    (try simp only [Act.put])
    refine wpAnyH_ready (rs := [0,2]) (by kernel_rfl) (by simp) ?_
    refine AllReadyH.cons (o := _) rfl (fun K hK => ?_) (AllReadyH.cons (o := _) rfl (fun K hK => ?_) AllReadyH.nil)
    · have hcD : W.drew.cell? ⟨Bo, 0, none⟩ = some (.slice va vn vc) := hc
      go_simp
      refine hK.out _ _ hHeld (fun hHeld => ?_)
      clear hK K
      (try simp only [Act.put, List.setIfInBounds_toArray, List.set_cons_zero, List.set_cons_succ])
      refine wpAnyH_ready (rs := [2]) (by kernel_rfl) (by simp) ?_
      refine AllReadyH.cons (o := _) rfl (fun K hK => ?_) AllReadyH.nil
      go_simp
      refine HBI.out.mono ?_
      rintro e w2 ⟨rfl, H2⟩
      obtain ⟨⟨hv2, hrow2⟩, hB2, hko, hS2⟩ := HST.out w2 H2.out
      have hc2 := hv2.cell
      (try dsimp only)
      refine hK.out _ _ hS2 (fun hHeld => ?_)
      clear hK K
      (try simp only [Act.put, List.setIfInBounds_toArray, List.set_cons_zero, List.set_cons_succ])
      refine wpAnyH_take (i := 3) (v := .int .i64 kd) rfl (by kernel_rfl) (by kernel_rfl) (by kernel_rfl) (fun _ _ _ h => h) (Or.inl ⟨by rfl, fun V hSV => ?_⟩) (by assumption) ?_
      · obtain ⟨y0, y1, y2, y3⟩ := hSV
        go_simp
      (try simp only [Act.put, List.setIfInBounds_toArray])
      refine wpAnyH_take (i := 5) (v := .agg #[.int .i64 kd, .int .i64 xv]) rfl (by kernel_rfl) (by kernel_rfl) (by kernel_rfl) (fun _ _ _ h => h) (Or.inl ⟨by rfl, fun V hSV => ?_⟩) (by assumption) ?_
      · obtain ⟨y0, y1, y2, y3⟩ := hSV
        go_simp
      (try simp only [Act.put])
      refine wpAnyH_ready (rs := [6]) (by kernel_rfl) (by simp) ?_
      refine AllReadyH.cons (o := _) rfl (fun K hK => ?_) AllReadyH.nil
      go_simp
      refine hK.out _ _ (HSA.out w2 H2.out _) (fun hHeld => ?_)
      clear hK K
      (try simp only [Act.put, List.setIfInBounds_toArray, List.set_cons_zero, List.set_cons_succ])
      refine wpAnyH_ready (rs := [7]) (by kernel_rfl) (by simp) ?_
      refine AllReadyH.cons (o := _) rfl (fun K hK => ?_) AllReadyH.nil
      refine step_append_lies _ (by rfl) _ _ 35 (by rfl) w.heap.size 54 i0 zeroStV 2 16 Try.underlying35 hi hz0 hz1 hz2 rfl (by decide) _ _ _ rfl (hrow2.alloc _) ⟨w2.heap.size, 0, none⟩ 1 1 [.int .i64 kd, .int .i64 xv] rfl rfl (src_two w2 _ _ _) (one_two _ _) (by decide) (by unfold maxLen; omega) (by omega) (by have := hB2.size; simp; omega) _ rfl ?_
      intro g cap w3 hown hgrow hat _
      obtain ⟨hv3, hv4, hr4, hk4, hb4⟩ := hv2.appended (by decide) hrow2 hB2.size (by omega) hown hgrow
      obtain ⟨hS3, hS4⟩ := HS3.out w2 _ w3 H2.out hgrow
      have hlv := (HLV.out w2 H2.out).trans (leaves_box hv2 hv4 hgrow (hat.imp (fun e => e.symm) (fun e => congrArg some e)))
      have hc3 := hv3.cell
      have hf3 := hv3.frozen
      refine hK.out _ _ hS3 (fun hHeld => ?_)
      clear hK K
      (try simp only [Act.put, List.setIfInBounds_toArray])
      refine wpAnyH_ready (rs := [8]) (by kernel_rfl) (by simp) ?_
      refine AllReadyH.cons (o := _) rfl (fun K hK => ?_) AllReadyH.nil
      go_simp
      refine hK.out _ _ (hS4 _) (fun hHeld => ?_)
      clear hK K
      refine wpAnyH_done (by kernel_rfl) ⟨rfl, ?_⟩ _
      refine And.intro ((hko.trans hk4).from _) (And.intro hlv (And.intro ⟨_, hv4, ?_, trivial⟩ (hB2.trans hb4)))
      rw [qcells_snoc, List.length_append]
      exact hr4
    · go_simp
      refine HBI.out.mono ?_
      rintro e w2 ⟨rfl, H2⟩
      obtain ⟨⟨hv2, hrow2⟩, hB2, hko, hS2⟩ := HST.out w2 H2.out
      have hc2 := hv2.cell
      (try dsimp only)
      refine hK.out _ _ hS2 (fun hHeld => ?_)
      clear hK K
      (try simp only [Act.put, List.setIfInBounds_toArray, List.set_cons_zero, List.set_cons_succ])
      refine wpAnyH_take (i := 3) (v := .int .i64 kd) rfl (by kernel_rfl) (by kernel_rfl) (by kernel_rfl) (fun _ _ _ h => h) (Or.inl ⟨by rfl, fun V hSV => ?_⟩) (by assumption) ?_
      · obtain ⟨y0, y1, y2, y3⟩ := hSV
        go_simp
      (try simp only [Act.put, List.setIfInBounds_toArray])
      refine wpAnyH_take (i := 5) (v := .agg #[.int .i64 kd, .int .i64 xv]) rfl (by kernel_rfl) (by kernel_rfl) (by kernel_rfl) (fun _ _ _ h => h) (Or.inl ⟨by rfl, fun V hSV => ?_⟩) (by assumption) ?_
      · obtain ⟨y0, y1, y2, y3⟩ := hSV
        go_simp
      (try simp only [Act.put])
      refine wpAnyH_ready (rs := [0,6]) (by kernel_rfl) (by simp) ?_
      refine AllReadyH.cons (o := _) rfl (fun K hK => ?_) (AllReadyH.cons (o := _) rfl (fun K hK => ?_) AllReadyH.nil)
      · go_simp
        refine hK.out _ _ hHeld (fun hHeld => ?_)
        clear hK K
        (try simp only [Act.put, List.setIfInBounds_toArray, List.set_cons_zero, List.set_cons_succ])
        refine wpAnyH_ready (rs := [6]) (by kernel_rfl) (by simp) ?_
        refine AllReadyH.cons (o := _) rfl (fun K hK => ?_) AllReadyH.nil
        go_simp
        refine hK.out _ _ (HSA.out w2 H2.out _) (fun hHeld => ?_)
        clear hK K
        (try simp only [Act.put, List.setIfInBounds_toArray, List.set_cons_zero, List.set_cons_succ])
        refine wpAnyH_ready (rs := [7]) (by kernel_rfl) (by simp) ?_
        refine AllReadyH.cons (o := _) rfl (fun K hK => ?_) AllReadyH.nil
        refine step_append_lies _ (by rfl) _ _ 35 (by rfl) w.heap.size 54 i0 zeroStV 2 16 Try.underlying35 hi hz0 hz1 hz2 rfl (by decide) _ _ _ rfl (hrow2.alloc _) ⟨w2.heap.size, 0, none⟩ 1 1 [.int .i64 kd, .int .i64 xv] rfl rfl (src_two w2 _ _ _) (one_two _ _) (by decide) (by unfold maxLen; omega) (by omega) (by have := hB2.size; simp; omega) _ rfl ?_
        intro g cap w3 hown hgrow hat _
        obtain ⟨hv3, hv4, hr4, hk4, hb4⟩ := hv2.appended (by decide) hrow2 hB2.size (by omega) hown hgrow
        obtain ⟨hS3, hS4⟩ := HS3.out w2 _ w3 H2.out hgrow
        have hlv := (HLV.out w2 H2.out).trans (leaves_box hv2 hv4 hgrow (hat.imp (fun e => e.symm) (fun e => congrArg some e)))
        have hc3 := hv3.cell
        have hf3 := hv3.frozen
        refine hK.out _ _ hS3 (fun hHeld => ?_)
        clear hK K
        (try simp only [Act.put, List.setIfInBounds_toArray])
        refine wpAnyH_ready (rs := [8]) (by kernel_rfl) (by simp) ?_
        refine AllReadyH.cons (o := _) rfl (fun K hK => ?_) AllReadyH.nil
        go_simp
        refine hK.out _ _ (hS4 _) (fun hHeld => ?_)
        clear hK K
        refine wpAnyH_done (by kernel_rfl) ⟨rfl, ?_⟩ _
        refine And.intro ((hko.trans hk4).from _) (And.intro hlv (And.intro ⟨_, hv4, ?_, trivial⟩ (hB2.trans hb4)))
        rw [qcells_snoc, List.length_append]
        exact hr4
      · go_simp
        refine hK.out _ _ (HSA.out w2 H2.out _) (fun hHeld => ?_)
        clear hK K
        (try simp only [Act.put, List.setIfInBounds_toArray, List.set_cons_zero, List.set_cons_succ])
        have hcA : (w2.alloc (.cells #[.int .i64 kd, .int .i64 xv] 54)).cell? ⟨Bo, 0, none⟩ = some (.slice va vn vc) := (hv2.alloc _).cell
        refine wpAnyH_ready (rs := [0]) (by kernel_rfl) (by simp) ?_
        refine AllReadyH.cons (o := _) rfl (fun K hK => ?_) AllReadyH.nil
        go_simp
        refine hK.out _ _ hHeld (fun hHeld => ?_)
        clear hK K
        (try simp only [Act.put, List.setIfInBounds_toArray, List.set_cons_zero, List.set_cons_succ])
        refine wpAnyH_ready (rs := [7]) (by kernel_rfl) (by simp) ?_
        refine AllReadyH.cons (o := _) rfl (fun K hK => ?_) AllReadyH.nil
        refine step_append_lies _ (by rfl) _ _ 35 (by rfl) w.heap.size 54 i0 zeroStV 2 16 Try.underlying35 hi hz0 hz1 hz2 rfl (by decide) _ _ _ rfl (hrow2.alloc _) ⟨w2.heap.size, 0, none⟩ 1 1 [.int .i64 kd, .int .i64 xv] rfl rfl (src_two w2 _ _ _) (one_two _ _) (by decide) (by unfold maxLen; omega) (by omega) (by have := hB2.size; simp; omega) _ rfl ?_
        intro g cap w3 hown hgrow hat _
        obtain ⟨hv3, hv4, hr4, hk4, hb4⟩ := hv2.appended (by decide) hrow2 hB2.size (by omega) hown hgrow
        obtain ⟨hS3, hS4⟩ := HS3.out w2 _ w3 H2.out hgrow
        have hlv := (HLV.out w2 H2.out).trans (leaves_box hv2 hv4 hgrow (hat.imp (fun e => e.symm) (fun e => congrArg some e)))
        have hc3 := hv3.cell
        have hf3 := hv3.frozen
        refine hK.out _ _ hS3 (fun hHeld => ?_)
        clear hK K
        (try simp only [Act.put, List.setIfInBounds_toArray])
        refine wpAnyH_ready (rs := [8]) (by kernel_rfl) (by simp) ?_
        refine AllReadyH.cons (o := _) rfl (fun K hK => ?_) AllReadyH.nil
        go_simp
        refine hK.out _ _ (hS4 _) (fun hHeld => ?_)
        clear hK K
        refine wpAnyH_done (by kernel_rfl) ⟨rfl, ?_⟩ _
        refine And.intro ((hko.trans hk4).from _) (And.intro hlv (And.intro ⟨_, hv4, ?_, trivial⟩ (hB2.trans hb4)))
        rw [qcells_snoc, List.length_append]
        exact hr4
  case done =>
    rintro D ys W hD rfl ⟨⟨v, hv, hrow, _⟩, hB⟩ hK
    have hc := hv.cell
    gi_wp2
    refine ⟨by simp, .inl ⟨_, _, rfl, run_takeDeferred hK, ?_⟩⟩
    have hrow2 : OwnS W w.heap.size v (ofL l x) := by
      have h2 := hrow
      unfold qcells at h2
      have hlen : ys.length = (sts ys).length := by unfold sts; rw [List.length_map]
      rw [hlen, HSO.out] at h2
      exact h2
    exact ⟨_, results_tmp rfl _ _ _, v, rfl, ownsRow_putObj hrow2 _ hK rfl, hB.trans (belowK_b (w := w) (Nat.le_refl _) W D _ _ (by omega) hK rfl rfl)⟩
  case stop =>
    rintro D c pre W _ _ h _
    exact h.elim
end Go.Proofs.Ytkljaaeeocghjaa.Bins
