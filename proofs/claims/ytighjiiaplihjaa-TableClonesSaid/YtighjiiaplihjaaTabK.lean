/- A range over a table: what the program's iterators owe; the pairs of all. -/
import Derived.RangeFuncNested
import Derived.RangeFuncBox
import Derived.RangeFuncBound
import Derived.RangeFuncCalls
import Derived.RangeFuncLeaves
import Derived.Shelf.Abstract
import Derived.Shelf.RegionOpen
import Derived.WalkKit
import Derived.OwnWalkIn
import Derived.TacticsInMore
import Derived.LoopNIn
import Derived.LoopIn
import Derived.Maps.OwnIn
import Derived.Maps.AppendAt
import Derived.Test.YtighjiiaplihjaaTabI
import Derived.Test.YtighjiiaplihjaaForward
namespace Go.Proofs.Ytighjiiaplihjaa.Tab
open Go.RowKit Go.Lib Go.Shelf
attribute [local go_sem] Oper.semAt_some

/-- A value that goes over the pairs l, whatever a round does that keeps the blocks R. -/
def Goes (w : World) (R : Nat → Prop) (gf : Nat) (lb : Array Value) (l : List Pair) : Prop :=
  (∀ args w, (callFunc gf args).run Try.prog w = .ok (.enter gf args) w) ∧
  ∀ n : Nat, 4 ≤ n → SeqStopsK Fence.wide n Try.prog gf lb (fun p : Pair => #[kV p.k, .int .i64 p.v]) (Keep R) (fun xs => xs = l) (fun pre => pre <+: l) l.length w
theorem Goes.mono {w : World} {R R' : Nat → Prop} {gf : Nat} {lb : Array Value} {l : List Pair} (h : Goes w R gf lb l) (hr : ∀ k, R k → R' k) : Goes w R' gf lb l :=
  ⟨h.1, fun n hn lp J Jx W hW hJ hJx hY h0 => h.2 n hn lp J Jx W hW hJ hJx (fun pre x W1 hj hl => (hY pre x W1 hj hl).mono (fun e W' hp => by
    rcases hp with ⟨h1, h2, h3⟩ | h1
    · exact .inl ⟨h1, h2, h3.1, fun k hk => h3.2 k (hr k hk)⟩
    · exact .inr h1)) h0⟩
/-- The same of a function that hands on what another one goes over. -/
def GoesF (w : World) (R : Nat → Prop) (gf : Nat) (lb : Array Value) (l : List Pair) : Prop :=
  (∀ args w, (callFunc gf args).run Try.prog w = .ok (.enter gf args) w) ∧
  ∀ n : Nat, 4 ≤ n → SeqF Fence.wide n Try.prog gf lb (fun p : Pair => #[kV p.k, .int .i64 p.v]) R (fun xs => xs = l) (fun pre => pre <+: l) l.length w
theorem GoesF.mono {w : World} {R R' : Nat → Prop} {gf : Nat} {lb : Array Value} {l : List Pair} (h : GoesF w R gf lb l) (hr : ∀ k, R k → R' k) : GoesF w R' gf lb l :=
  ⟨h.1, fun n hn lp T J Jx W hW hlp hJ hJx hT hRT hY h0 => h.2 n hn lp T J Jx W hW hlp hJ hJx hT (fun k hk => hRT k (hr k hk)) hY h0⟩
structure Iters (I : Impl) where
  all : ∀ (Q : Nat) (F : Nat → Prop) (l : List Pair) (w : World), I.PT w Q F l → Rising l → l.length ≤ 1000 →
    Calls Try.prog 30 #[ptr Q] w fun e w' => ∃ gf lb, e = .returned (.func (.func gf) #[] lb) ∧ Hid (Below w.heap.size w w' ∧ Goes w' F gf lb l)
  range : ∀ (Q : Nat) (F : Nat → Prop) (l : List Pair) (x y : Key) (w : World), I.PT w Q F l → Rising l → l.length ≤ 1000 →
    Calls Try.prog 33 #[ptr Q, kV x, kV y] w fun e w' => ∃ gf lb, e = .returned (.func (.func gf) #[] lb) ∧ Hid (Below w.heap.size w w' ∧ GoesF w' F gf lb (l.filter (within x y)))
/-- What a body that collects into the box Bo touches. -/
def TOut (Bo : Nat) (W : World) (k : Nat) : Prop := k = Bo ∨ ∃ v, Boxed W Bo 29 v ∧ v.ownBlock = some k
/-- It hangs on the box, and on the row in it. -/
theorem tout_steady {A : World} {Bo B0 : Nat} {v : Value} (hv : Boxed A Bo 29 v) (hlt : ∀ k, v.ownBlock = some k → k < A.heap.size) :
    (∀ k, TOut Bo A k → k < A.heap.size) ∧ ∀ B row, A.grownBy B row → (∀ r, row = some r → B0 ≤ r ∧ ∃ o : Obj, A.heap[r]? = some o ∧ o.isCells = false) → ∀ k, TOut Bo B k → TOut Bo A k := by
  refine ⟨fun k hk => ?_, fun B row hg hr k hk => ?_⟩
  · rcases hk with rfl | ⟨u, h1, h2⟩
    · exact hv.lt
    · have h3 : A.heap[Bo]? = _ := hv
      rw [show A.heap[Bo]? = _ from h1] at h3
      cases h3
      exact hlt k h2
  · rcases hk with hk | ⟨u, h1, h2⟩
    · exact .inl hk
    · refine .inr ⟨u, ?_, h2⟩
      have h3 := hg.block Bo hv.lt (fun e => by
        obtain ⟨_, o, ho, hc⟩ := hr Bo e.symm
        rw [show A.heap[Bo]? = _ from hv] at ho
        cases ho
        cases hc)
      exact h3.symm.trans h1
/-- The body has collected. -/
theorem leaves_out {W w1 : World} {Bo : Nat} {v v' : Value} {tmp : Obj} (hv : Boxed W Bo 29 v) (hv2 : Boxed (w1.setCell ⟨Bo, 0, none⟩ v') Bo 29 v') (hg : (W.alloc tmp).grownBy w1 v.ownBlock) (hat : v'.ownBlock = v.ownBlock ∨ v'.ownBlock = some (W.alloc tmp).heap.size) : Leaves (TOut Bo) W (w1.setCell ⟨Bo, 0, none⟩ v') := by
  have hs := grownBy_setCell' w1 Bo v'
  have h1 : W.heap.size ≤ (W.alloc tmp).heap.size := by simp
  refine ⟨Nat.le_trans h1 (Nat.le_trans hg.size hs.size), fun k o hk hc ht => ?_⟩
  have hlt := (Array.getElem?_eq_some_iff.1 hk).1
  have n1 : k ≠ Bo := fun e => ht (.inl e)
  have n2 : v.ownBlock ≠ some k := fun e => ht (.inr ⟨v, hv, e⟩)
  refine ⟨?_, fun h2 => ?_⟩
  · have q1 := hs.block k (by have := hg.size; omega) (fun e => n1 (by cases e; rfl))
    have q2 := hg.block k (by omega) (fun e => n2 e.symm)
    exact q1.trans (q2.trans ((Below.heap_alloc W tmp k hlt).trans hk))
  · rcases h2 with h2 | ⟨u, h2, h3⟩
    · exact n1 h2
    · have h6 : some (Obj.cells #[v'] 29 (0, 0)) = some (Obj.cells #[u] 29 (0, 0)) := Eq.trans (Eq.symm hv2) h2
      cases h6
      rcases hat with h4 | h4
      · exact n2 (h4 ▸ h3)
      · rw [h3] at h4
        have h5 : k = (W.alloc tmp).heap.size := by simpa using h4
        simp at h5
        omega
theorem leaves_alloc {W : World} {Bo : Nat} (hBo : Bo < W.heap.size) (o : Obj) : Leaves (TOut Bo) W (W.alloc o) := by
  refine ⟨by simp, fun k o1 hk h1 ht => ⟨(Below.heap_alloc W o k (Array.getElem?_eq_some_iff.1 hk).1).trans hk, fun h2 => ht ?_⟩⟩
  rcases h2 with h2 | ⟨v, h2, h3⟩
  · exact .inl h2
  · exact .inr ⟨v, (Below.heap_alloc W o Bo hBo).symm.trans h2, h3⟩
/-- A pair in new memory, as a source. -/
theorem src_one (W : World) (x : Pair) (t : TypeId) (j : Nat) (u : Value) (h : (pairCells x)[j]? = some u) : (W.alloc (.cells #[.int .i64 x.k.a, .int .i64 x.k.b, .int .i64 x.k.c, .int .i64 x.k.d, .int .i64 x.v] t)).cell? ((⟨W.heap.size, 0, none⟩ : Addr).add j) = some u := by
  have hblk := heap_alloc_new W (.cells #[.int .i64 x.k.a, .int .i64 x.k.b, .int .i64 x.k.c, .int .i64 x.k.d, .int .i64 x.v] t)
  rw [addr_add, Nat.zero_add]
  refine cell_block (j := j) hblk ?_
  rw [← Array.getElem?_toList]
  exact h
theorem pair_one (x : Pair) : ∀ u ∈ pairCells x, u.oneCell' = true := fun u h => cells_one [x] u (by simpa [cells] using h)
theorem cells_snoc (pre : List Pair) (x : Pair) : cells (pre ++ [x]) = cells pre ++ pairCells x := by rw [cells_append]; simp [cells]
/-- A function's value is not nil. -/
theorem seq_is : (Try.prog.underlying 64).map (fun d => match d with | .func .. => true | _ => false) = some true := by kernel_rfl
theorem seq_nil (gf : Nat) (lb : Array Value) (w : World) : (binOp .eql 64 (.func (.func gf) #[] lb) .nilFunc).run Try.prog w = .ok (.bool false) w := by
  have hu : ∃ a b c, Try.prog.underlying 64 = some (.func a b c) := by
    have h := seq_is
    cases hh : Try.prog.underlying 64 with
    | none => rw [hh] at h; cases h
    | some d =>
      rw [hh] at h
      cases d with
      | func a b c => exact ⟨a, b, c, rfl⟩
      | _ => cases h
  obtain ⟨a, b, c, hu⟩ := hu
  have h1 : ∀ d, (Op.equalIn (d + 1) 64 (.func (.func gf) #[] lb) .nilFunc).run Try.prog w = .ok false w := fun d => by
    simp [Op.equalIn, go_sem, hu]
  have h2 := h1 9999
  simp [binOp, Op.equal, go_sem]
  rw [show Op.maxDepth = 9999 + 1 from rfl, h2]
  rfl
set_option maxRecDepth 100000 in
set_option maxHeartbeats 4000000 in
theorem all_go (q : Option Addr) (R : Nat → Prop) (l : List Pair) (w : World) (hR : ∀ k, R k → k < w.heap.size) (hAll : ∀ W, Below w.heap.size w W → Calls Try.prog 30 #[.pointer q] W fun e w' => ∃ gf lb, e = .returned (.func (.func gf) #[] lb) ∧ Hid (Below W.heap.size W w' ∧ Goes w' R gf lb l)) (hl : l.length ≤ 1000) :
    Calls Try.prog 11 #[.pointer q] w fun e w' => ∃ v, e = .returned v ∧ Own w' w.heap.size v l ∧ Below w.heap.size w w' := by
  obtain ⟨i0, hi, hz0, hz1, hz2⟩ := info_parts info_pair
  have HRR := Lib.hid hR
  have hB0 : Below w.heap.size w (w.alloc (.cells #[.slice none 0 0] 29)) := (Below.refl _ w).alloc (Nat.le_refl _) _
  have HC := Lib.hid (hAll (w.alloc (.cells #[.slice none 0 0] 29)) hB0)
  have bO := Boxed.new w 29 (.slice none 0 0)
  have HB0 := Lib.hid hB0; have HBO := Lib.hid bO
  clear hR hAll hB0 bO
  refine (callsIn_wide (n := 6)).1 ?_
  refine callsIn_of_wp_marks Try.func11 rfl trivial ?_ rfl
  simp only [Try.ntmps11, List.size_toArray, List.length_cons, List.length_nil, Nat.reduceAdd, Nat.reduceSub, Array.replicate_succ, Array.replicate_zero, List.push_toArray, List.append_toArray, List.nil_append, List.cons_append]
  gi_wp2_with (refine ⟨trivial, ?_⟩; gi_at_call 30; refine (callsIn_wide.2 HC.out).mono ?_; rintro e w1 ⟨gf, lb, rfl, H1⟩; have hnil := seq_nil gf lb w1)
  obtain ⟨hb1, eg, hgo⟩ := H1.out
  have hB1 : Below w.heap.size w w1 := HB0.out.trans (hb1.mono HB0.out.size)
  have bO : Boxed w1 w.heap.size 29 (.slice none 0 0) := (hb1.block w.heap.size HBO.out.lt).trans HBO.out
  have hlt1 : w.heap.size < w1.heap.size := bO.lt
  clear hnil
  refine wpIn_rangeFunc_ownH rfl (by omega) (gf := gf) (lb := lb) rfl trivial eg
    (hgo (6 - 1) (by omega)) Keep.trans (keep_b (fun k hk => by have := HRR.out k hk; omega)) (Below.refl _ _) (fun _ => rfl)
    (fun pre W => (∃ v, Boxed W w.heap.size 29 v ∧ W.ownsRow w.heap.size 42 5 v pre.length (cells pre) ∧ True) ∧ Below w.heap.size w W)
    (fun _ _ _ => False)
    (OwnFrom.and (Own.from (holdsRow_own w.heap.size w.heap.size 29 42 5 (fun pre => pre.length) (fun pre => cells pre) (fun _ _ => True)) _) (ownFrom_below (Nat.le_refl _) (by omega)))
    (fun _ _ _ _ _ hs _ _ => hs)
    ⟨⟨_, bO, World.ownsRow_nil _ _ _ _, trivial⟩, hB1⟩
    (fun x a' W => ∃ Bx, w.heap.size < Bx ∧ W.heap[Bx]? = some (.cells x.k.cells 38 (0, 0)) ∧ a' = { tmps := #[.pointer q, undef, .slice none 0 0, .pointer (some ⟨w.heap.size, 0, none⟩), .func (.func gf) #[] lb, .pointer (some ⟨Bx, 0, none⟩), .int .i64 x.v, .pointer q, .func (.func gf) #[] lb, .func (.func gf) #[] lb, .bool false, .func (.func gf) #[] lb, kV x.k, .int .i64 x.v, undef, undef, undef, undef, undef, undef, undef], defers := [] })
    (fun x a' _ X Y row hs hg hr => by
      obtain ⟨Bx, h1, h2, h3⟩ := hs
      exact ⟨Bx, h1, (hg.block Bx (Array.getElem?_eq_some_iff.1 h2).1 (fun e => by
        obtain ⟨_, o, ho, hc⟩ := hr Bx e.symm
        rw [h2] at ho
        cases ho
        cases hc)).trans h2, h3⟩)
    ?assign ?body ?done ?stop
  case assign =>
    rintro lo pre x W K ⟨⟨v, hv, hrow, _⟩, hB⟩ hK
    gi_wp2
    exact hK _ _ ((KeepsOthers.alloc _ _).from _) (keep_below HRR.out ((Below.refl _ W).alloc hB.size _)) ⟨⟨v, hv.alloc _, hrow.alloc _, trivial⟩, hB.alloc hB.size _⟩ ⟨W.heap.size, hv.lt, heap_alloc_new W _, rfl⟩
  case body =>
    rintro lo pre x a' W hlo ⟨r, hr⟩ ⟨⟨v, hv, hrow, _⟩, hB⟩ ⟨Bx, hBx, hbx, rfl⟩ hlt
    have hc := hv.cell
    have k0 : W.cell? ⟨Bx, 0, none⟩ = some (.int .i64 x.k.a) := key_at hbx 0 (by omega)
    have k1 : W.cell? ⟨Bx, 1, none⟩ = some (.int .i64 x.k.b) := key_at hbx 1 (by omega)
    have k2 : W.cell? ⟨Bx, 2, none⟩ = some (.int .i64 x.k.c) := key_at hbx 2 (by omega)
    have k3 : W.cell? ⟨Bx, 3, none⟩ = some (.int .i64 x.k.d) := key_at hbx 3 (by omega)
    gi_wp2_with (gi_at_builtin; go_loud (refine wpListIn_append_own_at _ rfl _ _ 29 rfl w.heap.size 42 i0 zeroPair 5 40 Try.underlying29 hi hz0 hz1 hz2 rfl (by decide) _ _ _ rfl (hrow.alloc _) ⟨W.heap.size, 0, none⟩ 1 1 (pairCells x) rfl rfl (src_one W x _) (pair_one x) (by unfold maxLen; omega) (by omega) (by have := hB.size; simp; omega) ?_); intro v' w2 hown' hgrow _ hat; obtain ⟨g', cap', rfl⟩ := ownsRow_succ hown'; obtain ⟨hv1, hv2, hr2, hk2, hb2⟩ := hv.appended (by decide) hrow hB.size (Nat.le_refl _) hown' hgrow; have hc1 := hv1.cell; have hf1 := hv1.frozen)
    exact ⟨hk2.from _, keep_below HRR.out hb2, ⟨_, hv2, by rw [cells_snoc, List.length_append]; exact hr2, trivial⟩, hB.trans hb2⟩
  case done =>
    rintro D ys W hD rfl ⟨⟨v, hv, hrow, _⟩, hB⟩ hK
    have hc := hv.cell
    gi_wp2
    refine ⟨by simp, .inl ⟨_, _, rfl, run_takeDeferred hK, ?_⟩⟩
    exact ⟨_, results_tmp rfl _ _ _, v, rfl, ownsRow_putObj hrow _ hK rfl, hB.trans (belowK_b (w := w) (Nat.le_refl _) W D _ _ (by omega) hK rfl rfl)⟩
  case stop =>
    rintro D c pre W _ _ h _
    exact h.elim
variable {I : Impl}
theorem all_any (J : Iters I) (Q : Nat) (F : Nat → Prop) (l : List Pair) (w : World) (hp : I.PT w Q F l) (hr : Rising l) (hl : l.length ≤ 1000) :
    Calls Try.prog 11 #[ptr Q] w fun e w' => ∃ v, e = .returned v ∧ Own w' w.heap.size v l ∧ Below w.heap.size w w' :=
  all_go (some ⟨Q, 0, none⟩) F l w (I.lt hp) (fun W hW => J.all Q F l W (I.keep hp hW.size (fun k hk => hW.block k (I.lt hp k hk))) hr hl) hl
end Go.Proofs.Ytighjiiaplihjaa.Tab
