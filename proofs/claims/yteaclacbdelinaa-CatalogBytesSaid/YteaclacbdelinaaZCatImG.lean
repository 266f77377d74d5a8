/- The program's reader of a catalogue: numbers, stacks, bays. The program's lists of stacks and of bays, as a reader reads them. -/
import Derived.Test.YteaclacbdelinaaZCatImQ
import Derived.Test.YteaclacbdelinaaZCatImC
import Derived.Test.YteaclacbdelinaaZCatH
import Derived.Test.YteaclacbdelinaaZPqA
import Derived.Deep.RegionHeld3
import Derived.Deep.RegionWith
namespace Go.Proofs.Yteaclacbdelinaa.Cat.Im
open Go.RowKit Go.Lib
open Goods (St Sts OwnS)
open Recipe (Bl BlIn blV)
open Pen (uiN uiS tmN tmS)

abbrev rdV (R : Nat) : Value := .agg #[.pointer (some ⟨R, 0, none⟩)]
/-- A reader that went on, and nothing else that there was is turned. -/
structure Went (w w' : World) (R : Nat) (st : RS) : Prop where
  rd : Pen.Rd w' R st
  fit : Pen.Fit st
  grown : w.grownBy w' (some R)
theorem Went.then {w w1 w2 : World} {R : Nat} {st st' : RS} (h : Went w w1 R st) (k : Went w1 w2 R st') : Went w w2 R st' := ⟨k.rd, k.fit, only_trans h.grown k.grown⟩
theorem Went.begin {w : World} {R : Nat} {st : RS} (h : Pen.Rd w R st) (hf : Pen.Fit st) : Went w w R st := ⟨h, hf, only_refl _ _⟩
theorem Went.under {w w1 w2 : World} {R : Nat} {st : RS} (h : Went w w1 R st) (hb : Below w1.heap.size w1 w2) : Went w w2 R st := ⟨h.rd.of_below hb, h.fit, grown_below h.grown hb h.grown.size⟩
/-- .. and a row of one's own grew. -/
theorem Went.grew {w w1 w2 : World} {R : Nat} {st : RS} {row : Option Nat} (h : Went w w1 R st) (hg : w1.grownBy w2 row) (hr : ∀ g, row = some g → w.heap.size ≤ g) (hR : R < w.heap.size) : Went w w2 R st := ⟨h.rd.of_grown hg (fun e => by have := hr R e.symm; omega), h.fit, grown_over h.grown hg fun g e => .inr (hr g e)⟩
/-- While a result is put together: the reader, its box, the result's block. -/
structure RQ (W0 w : World) (R B G : Nat) (st : RS) (cs : Array Value) (T : TypeId) : Prop where
  went : Went W0 w R st
  box : w.heap[B]? = some (.cells #[.pointer (some ⟨R, 0, none⟩)] 82 (0, 0))
  blk : w.heap[G]? = some (.cells cs T (0, 0))
  new : W0.heap.size ≤ B ∧ W0.heap.size ≤ G
  far : B ≠ R ∧ G ≠ R ∧ G ≠ B
theorem RQ.step {W0 w w' : World} {R B G : Nat} {st st' : RS} {cs : Array Value} {T : TypeId} (h : RQ W0 w R B G st cs T) (k : Went w w' R st') : RQ W0 w' R B G st' cs T :=
  ⟨h.went.then k, grown_block k.grown h.box (fun e => h.far.1 (Option.some.inj e).symm), grown_block k.grown h.blk (fun e => h.far.2.1 (Option.some.inj e).symm), h.new, h.far⟩
theorem RQ.drew {W0 w : World} {R B G : Nat} {st : RS} {cs : Array Value} {T : TypeId} (h : RQ W0 w R B G st cs T) : RQ W0 w.drew R B G st cs T := ⟨⟨h.went.rd, h.went.fit, only_drewN h.went.grown 1⟩, h.box, h.blk, h.new, h.far⟩
theorem RQ.cell {W0 w : World} {R B G : Nat} {st : RS} {cs : Array Value} {T : TypeId} (h : RQ W0 w R B G st cs T) : w.cell? ⟨B, 0, none⟩ = some (.pointer (some ⟨R, 0, none⟩)) := cell_block (j := 0) h.box rfl
theorem RQ.kept {W0 w w' : World} {R B G : Nat} {st : RS} {cs : Array Value} {T : TypeId} (h : RQ W0 w R B G st cs T) (hg : w.grownBy w' (some G)) : w'.cell? ⟨B, 0, none⟩ = some (.pointer (some ⟨R, 0, none⟩)) := cell_block (j := 0) (grown_block hg h.box (fun e => h.far.2.2 (Option.some.inj e))) rfl
theorem RQ.done {W0 w w' : World} {R B G : Nat} {st : RS} {cs : Array Value} {T : TypeId} (h : RQ W0 w R B G st cs T) (hg : w.grownBy w' (some G)) : Went W0 w' R st := ⟨h.went.rd.of_grown hg (fun e => h.far.2.1 (Option.some.inj e).symm), h.went.fit, grown_over h.went.grown hg fun g e => by
  injection e with e
  subst e
  exact .inr h.new.2⟩
/-- A box of the reader, and a block for the result. -/
theorem begin_rq (w : World) (R : Nat) (st : RS) (cs : Array Value) (T : TypeId) (h : Pen.Rd w R st) (hf : Pen.Fit st) : ∃ B X G Z, w.heap.size = B ∧ w.alloc (.cells #[.pointer (some ⟨R, 0, none⟩)] 82) = X ∧ X.heap.size = G ∧ X.alloc (.cells cs T) = Z ∧ Hid (RQ w Z R B G st cs T) := by
  obtain ⟨X, hX⟩ : ∃ X, w.alloc (.cells #[.pointer (some ⟨R, 0, none⟩)] 82) = X := ⟨_, rfl⟩
  obtain ⟨Z, hZ⟩ : ∃ Z, X.alloc (.cells cs T) = Z := ⟨_, rfl⟩
  have hb1 : Below w.heap.size w X := by rw [← hX]; exact (Below.refl _ w).alloc (Nat.le_refl _) _
  have hb2 : Below X.heap.size X Z := by rw [← hZ]; exact (Below.refl _ X).alloc (Nat.le_refl _) _
  have k1 : X.heap[w.heap.size]? = some (.cells #[.pointer (some ⟨R, 0, none⟩)] 82 (0, 0)) := by rw [← hX]; exact heap_alloc_new w _
  have k2 : Z.heap[X.heap.size]? = some (.cells cs T (0, 0)) := by rw [← hZ]; exact heap_alloc_new X _
  have hs := hb1.size
  have hR := h.lt
  exact ⟨_, X, _, Z, rfl, hX, rfl, hZ, Lib.hid ⟨(Went.begin h hf).under (below_then hb1 hb2), block_at k1 hb2, k2, ⟨Nat.le_refl _, hs⟩, by omega, by omega, by have := (Array.getElem?_eq_some_iff.1 k1).1; omega⟩⟩
theorem blk2 {w : World} {k : Nat} {a b : Value} {T : TypeId} (h : w.heap[k]? = some (.cells #[a, b] T (0, 0))) : (w.cell? ⟨k, 0, none⟩ = some a ∧ w.cell? ⟨k, 1, none⟩ = some b) ∧ w.frozen? ⟨k, 0, none⟩ = false ∧ w.frozen? ⟨k, 1, none⟩ = false :=
  ⟨⟨cell_block (j := 0) h rfl, cell_block (j := 1) h rfl⟩, free_block 0 h, free_block 1 h⟩
set_option maxRecDepth 100000 in
set_option maxHeartbeats 2000000 in
theorem number_im (R : Nat) (st : RS) (w : World) (h : Pen.Rd w R st) (hf : Pen.Fit st) :
    Calls Try.prog 60 #[rdV R] w fun e w' => e = .returned (.int .i64 ((uiN st MX : Nat) : Int)) ∧ Hid (Went w w' R (uiS st MX)) := by
  obtain ⟨B, hB⟩ : ∃ B, w.heap.size = B := ⟨_, rfl⟩
  obtain ⟨X, hX⟩ : ∃ X, w.alloc (.cells #[.pointer (some ⟨R, 0, none⟩)] 82) = X := ⟨_, rfl⟩
  have hb1 : Below w.heap.size w X := by rw [← hX]; exact (Below.refl _ w).alloc (Nat.le_refl _) _
  have k1 : X.cell? ⟨B, 0, none⟩ = some (.pointer (some ⟨R, 0, none⟩)) := by rw [← hX, ← hB]; exact cell_block (j := 0) (heap_alloc_new w _) rfl
  have HX := Lib.hid ((Went.begin h hf).under hb1)
  have HC := Lib.hid (Pen.uint_any R st MX X HX.out.rd hf (Int.le_refl _))
  have HF := Lib.hid (hf.ui MX)
  clear h hf hb1
  go_enter Try.func60, Try.ntmps60
  go_wp2_with fail
  clear hX hB k1
  refine HC.out.mono ?_
  rintro e w1 ⟨rfl, h1, h2⟩
  have H1 : Hid (Went w w1 R (uiS st MX)) := Lib.hid (HX.out.then ⟨h1, HF.out, h2⟩)
  clear h1 h2
  go_wp2_with fail
  go_ret
  exact ⟨rfl, H1⟩
theorem st_set {w : World} {g : Nat} {a b x0 x1 : Value} {T : TypeId} (hb : w.heap[g]? = some (.cells #[a, b] T (0, 0))) : ((w.setCell ⟨g, 0, none⟩ x0).setCell ⟨g, 1, none⟩ x1).heap[g]? = some (.cells #[x0, x1] T (0, 0)) :=
  heap_setCell_same _ g 1 _ _ x1 (heap_setCell_same w g 0 _ _ x0 hb)
/-- .. as walks want it. -/
theorem number_at (W0 : World) (R B G : Nat) (cs : Array Value) (T : TypeId) : Hid (∀ W st n st', uiN st MX = n → uiS st MX = st' → RQ W0 W R B G st cs T → Calls Try.prog 60 #[.agg #[.pointer (some ⟨R, 0, none⟩)]] W fun e w' => e = .returned (.int .i64 ((n : Nat) : Int)) ∧ Hid (RQ W0 w' R B G st' cs T ∧ W.grownBy w' (some R))) := Lib.hid fun W st n st' h1 h2 h3 => by
  subst h1 h2
  exact (number_im R st W h3.went.rd h3.went.fit).mono fun _ _ ⟨e, h⟩ => ⟨e, Lib.hid ⟨h3.step h.out, h.out.grown⟩⟩
/-- stack. -/
theorem ret_st {fn : Func} {R : Ending → World → Prop} {a : Act} {w : World} {p : Tmp} {g : Nat} {c0 c1 : Value} {T : TypeId} (h : fn.results = #[.cell p 54]) (hd : a.defers = [])
    (ht : a.tmps.getD p undef = .pointer (some ⟨g, 0, none⟩)) (hb : w.heap[g]? = some (.cells #[c0, c1] T (0, 0))) (hR : R (.returned (.agg #[c0, c1])) w) : bodyPost Try.prog fn R .ret a w :=
  bodyPost_ret (v := .agg #[c0, c1]) (results_cell_row h _ w g T #[c0, c1] (0, 0) _ ht hb Try.underlying54 rfl (by kernel_rfl)) hd hR
set_option maxRecDepth 100000 in
set_option maxHeartbeats 4000000 in
theorem rstack_im (R : Nat) (st : RS) (w : World) (h : Pen.Rd w R st) (hf : Pen.Fit st) (x : St) (st' : RS) (hx : stq st = (x, st')) :
    Calls Try.prog 80 #[rdV R] w fun e w' => e = .returned (.agg #[.int .i64 x.kind, .int .i64 x.qty]) ∧ Hid (Went w w' R st') := by
  obtain ⟨n1, hn⟩ : ∃ n : Nat, uiN st MX = n := ⟨_, rfl⟩
  obtain ⟨s1, hs⟩ : ∃ s : RS, uiS st MX = s := ⟨_, rfl⟩
  have N1 := Lib.hid hn
  have S1 := Lib.hid hs
  clear hn hs
  obtain ⟨n2, hn⟩ : ∃ n : Nat, uiN s1 MX = n := ⟨_, rfl⟩
  obtain ⟨s2, hs⟩ : ∃ s : RS, uiS s1 MX = s := ⟨_, rfl⟩
  have N2 := Lib.hid hn
  have S2 := Lib.hid hs
  clear hn hs
  have HE : Hid ((⟨(n1 : Int), (n2 : Int)⟩, s2) = (x, st')) := Lib.hid (by
    rw [← hx]
    unfold stq
    rw [S1.out, S2.out, N1.out, N2.out])
  have HXE := HE.out
  injection HXE with hx1 hx2
  subst hx1 hx2
  obtain ⟨B, X, G, Z, hB, hX, hG, hZ, HZ⟩ := begin_rq w R st #[.int .i64 0, .int .i64 0] 54 h hf
  have HN := number_at w R B G #[.int .i64 0, .int .i64 0] 54
  clear h hf hx HE
  go_enter Try.func80, Try.ntmps80
  go_wp2_with fail
  clear hB hX hG hZ
  go_region_held3 (fun W => W.cell? ⟨B, 0, none⟩ = some (.pointer (some ⟨R, 0, none⟩)))
    (first | exact G2.out.1.kept (only_setCell (only_setCell (only_refl _ _) _ _) _ _) | exact G2.out.1.cell | exact G1.out.1.cell | exact HZ.out.drew.cell)
    (first
      | (go_at_call 60; (with_reducible refine (HN.out _ _ n2 s2 N2.out S2.out G1.out.1).mono ?_); rintro e w2 ⟨rfl, G2⟩; obtain ⟨⟨d0, d1⟩, f0, f1⟩ := blk2 G2.out.1.blk)
      | (go_at_call 60; (with_reducible refine (HN.out _ _ n1 s1 N1.out S1.out HZ.out.drew).mono ?_); rintro e w1 ⟨rfl, G1⟩)
    )
  all_goals
    go_wp2_with fail
    exact ret_st rfl rfl rfl (st_set G2.out.1.blk) ⟨rfl, Lib.hid (G2.out.1.done (only_setCell (only_setCell (only_refl _ _) _ _) _ _))⟩
/-- bay. -/
theorem ret_ba {fn : Func} {R : Ending → World → Prop} {a : Act} {w : World} {p : Tmp} {g : Nat} {c0 c1 c2 c3 : Value} {T : TypeId} (h : fn.results = #[.cell p 40]) (hd : a.defers = [])
    (ht : a.tmps.getD p undef = .pointer (some ⟨g, 0, none⟩)) (hb : w.heap[g]? = some (.cells #[c0, c1, c2, c3] T (0, 0))) (hR : R (.returned (.agg #[c0, c1, c2, c3])) w) : bodyPost Try.prog fn R .ret a w :=
  bodyPost_ret (v := .agg #[c0, c1, c2, c3]) (results_cell_row h _ w g T #[c0, c1, c2, c3] (0, 0) _ ht hb Try.underlying40 rfl (by kernel_rfl)) hd hR
set_option maxRecDepth 100000 in
set_option maxHeartbeats 4000000 in
theorem rbay_im (R : Nat) (st : RS) (w : World) (h : Pen.Rd w R st) (hf : Pen.Fit st) (x : Ba) (st' : RS) (hx : bayP st = (x, st')) :
    Calls Try.prog 64 #[rdV R] w fun e w' => e = .returned (.agg #[.int .i64 x.pl, .int .i64 x.mf, .int .i64 x.lb, .int .i64 x.rt]) ∧ Hid (Went w w' R st') := by
  obtain ⟨n1, hn⟩ : ∃ n : Nat, uiN st MX = n := ⟨_, rfl⟩
  obtain ⟨s1, hs⟩ : ∃ s : RS, uiS st MX = s := ⟨_, rfl⟩
  have N1 := Lib.hid hn
  have S1 := Lib.hid hs
  clear hn hs
  obtain ⟨n2, hn⟩ : ∃ n : Nat, uiN s1 MX = n := ⟨_, rfl⟩
  obtain ⟨s2, hs⟩ : ∃ s : RS, uiS s1 MX = s := ⟨_, rfl⟩
  have N2 := Lib.hid hn
  have S2 := Lib.hid hs
  clear hn hs
  obtain ⟨n3, hn⟩ : ∃ n : Nat, uiN s2 MX = n := ⟨_, rfl⟩
  obtain ⟨s3, hs⟩ : ∃ s : RS, uiS s2 MX = s := ⟨_, rfl⟩
  have N3 := Lib.hid hn
  have S3 := Lib.hid hs
  clear hn hs
  obtain ⟨n4, hn⟩ : ∃ n : Nat, uiN s3 MX = n := ⟨_, rfl⟩
  obtain ⟨s4, hs⟩ : ∃ s : RS, uiS s3 MX = s := ⟨_, rfl⟩
  have N4 := Lib.hid hn
  have S4 := Lib.hid hs
  clear hn hs
  have HE : Hid ((⟨(n1 : Int), (n2 : Int), (n3 : Int), (n4 : Int)⟩, s4) = (x, st')) := Lib.hid (by
    rw [← hx]
    unfold bayP
    rw [S1.out, S2.out, S3.out, S4.out, N1.out, N2.out, N3.out, N4.out])
  have HXE := HE.out
  injection HXE with hx1 hx2
  subst hx1 hx2
  obtain ⟨B, X, G, Z, hB, hX, hG, hZ, HZ⟩ := begin_rq w R st #[.int .i64 0, .int .i64 0, .int .i64 0, .int .i64 0] 40 h hf
  have HN := number_at w R B G #[.int .i64 0, .int .i64 0, .int .i64 0, .int .i64 0] 40
  clear h hf hx HE
  go_enter Try.func64, Try.ntmps64
  go_wp2_with fail
  clear hB hX hG hZ
  go_region_held3 (fun W => W.cell? ⟨B, 0, none⟩ = some (.pointer (some ⟨R, 0, none⟩)))
    (first | exact G4.out.1.kept (only_setCell (only_setCell (only_setCell (only_setCell (only_refl _ _) _ _) _ _) _ _) _ _) | exact G4.out.1.cell | exact G3.out.1.cell | exact G2.out.1.cell | exact G1.out.1.cell | exact HZ.out.drew.cell)
    (first
      | (go_at_call 60; (with_reducible refine (HN.out _ _ n4 s4 N4.out S4.out G3.out.1).mono ?_); rintro e w4 ⟨rfl, G4⟩; obtain ⟨⟨d0, d1, d2, d3⟩, f0, f1, f2, f3⟩ := blk4 G4.out.1.blk)
      | (go_at_call 60; (with_reducible refine (HN.out _ _ n3 s3 N3.out S3.out G2.out.1).mono ?_); rintro e w3 ⟨rfl, G3⟩)
      | (go_at_call 60; (with_reducible refine (HN.out _ _ n2 s2 N2.out S2.out G1.out.1).mono ?_); rintro e w2 ⟨rfl, G2⟩)
      | (go_at_call 60; (with_reducible refine (HN.out _ _ n1 s1 N1.out S1.out HZ.out.drew).mono ?_); rintro e w1 ⟨rfl, G1⟩)
    )
  all_goals
    go_wp2_with fail
    exact ret_ba rfl rfl rfl (ba_set G4.out.1.blk) ⟨rfl, Lib.hid (G4.out.1.done (only_setCell (only_setCell (only_setCell (only_setCell (only_refl _ _) _ _) _ _) _ _) _ _))⟩
end Go.Proofs.Yteaclacbdelinaa.Cat.Im
namespace Go.Proofs.Yteaclacbdelinaa.Cat.Im
open Go.RowKit Go.Lib
open Goods (St Sts OwnS)
open Recipe (Bl BlIn blV)
open Pen (uiN uiS tmN tmS)

theorem tm_le {st : RS} {most : Int} (h : 0 ≤ most) : (tmN st most : Int) ≤ most := by
  unfold tmN
  split
  · omega
  · unfold uiN
    rw [if_neg (by omega)]
    have := (Pen.tkN_le st most.toNat).1
    omega
/-- One stack more at a row's end. -/
theorem app_s (W : World) {B : Nat} {a : Option Addr} {m c : Nat} {o : List St} (t : St) (h : OwnS W B (.slice a m c) o) (hm : m ≤ 1048576) (hB : B ≤ W.heap.size) :
    ∃ a' c' W', Hid ((Builtin.append_ #[33, 33] 33 #[.slice a m c, .slice (some ⟨W.heap.size, 0, none⟩) 1 1]).run Try.prog (W.alloc (.cells #[.int .i64 t.kind, .int .i64 t.qty] 54)) = .ok (.slice a' (m + 1) c') W') ∧ OwnS W' B (.slice a' (m + 1) c') (o ++ [t]) ∧ W.grownBy W' (Value.slice a m c).ownBlock := by
  have hl : o.length = m := by
    obtain ⟨a', c', e, _⟩ := Goods.sts_own h
    injection e with _ e2 _
    exact e2.symm
  obtain ⟨i0, hi, hz0, hz1, hz2⟩ := info_parts Goods.info_st
  have hA : (OwnS (W.alloc (.cells #[.int .i64 t.kind, .int .i64 t.qty] 54)) B (.slice a m c) o) := h.alloc _
  have hb := (Below.refl W.heap.size W).alloc (Nat.le_refl _) (.cells #[.int .i64 t.kind, .int .i64 t.qty] 54)
  obtain ⟨v2, W3, r2, o2, b2⟩ := app_any (P := Try.prog) (t := 33) (e := 54) (i := i0) (W.alloc (.cells #[.int .i64 t.kind, .int .i64 t.qty] 54)) B 33 Goods.zeroStV 2 16 Try.underlying33 hi hz0 hz1 hz2 rfl (by omega) _ o.length (Goods.scells o) hA (some ⟨W.heap.size, 0, none⟩) 1 1 (Goods.scells [t]) rfl (fun j u hj => ⟨_, rfl, by
    have hblk := heap_alloc_new W (.cells #[.int .i64 t.kind, .int .i64 t.qty] 54)
    rw [Goods.addr_add, Nat.zero_add]
    refine cell_block (j := j) hblk ?_
    rw [← Array.getElem?_toList]
    exact hj⟩) (Goods.scells_one _) (by unfold maxLen; omega) (by omega) (Nat.le_trans hB hb.size)
  have e3 : Goods.scells o ++ Goods.scells [t] = Goods.scells (o ++ [t]) := (Goods.scells_append o [t]).symm
  have e4 : o.length + 1 = (o ++ [t]).length := by simp
  rw [e3, e4] at o2
  obtain ⟨a2, c2, rfl, _⟩ := Goods.rowS o2
  have e : (o ++ [t]).length = m + 1 := by simp [hl]
  have hg : W.grownBy W3 (Value.slice a m c).ownBlock :=
    ⟨b2.os.trans hb.os, b2.tape.trans hb.tape, b2.output.trans hb.output, Nat.le_trans hb.size b2.size, fun k hk hr => (b2.block k (Nat.lt_of_lt_of_le hk hb.size) hr).trans (hb.block k hk)⟩
  rw [e] at r2 o2
  exact ⟨a2, c2, W3, Lib.hid r2, by show World.ownsRow _ _ _ _ _ _ _; rw [e]; exact o2, hg⟩
/-- A reader's box of its own, ahead of a list. -/
theorem begin_list (w : World) (R : Nat) (st : RS) (h : Pen.Rd w R st) (hf : Pen.Fit st) : ∃ B X, w.heap.size = B ∧ w.alloc (.cells #[.pointer (some ⟨R, 0, none⟩)] 82) = X ∧ X.cell? ⟨B, 0, none⟩ = some (.pointer (some ⟨R, 0, none⟩)) ∧ Hid (Went w X R st ∧ w.heap.size ≤ X.heap.size) :=
  ⟨_, _, rfl, rfl, cell_block (j := 0) (heap_alloc_new w _) rfl, Lib.hid ⟨(Went.begin h hf).under ((Below.refl _ w).alloc (Nat.le_refl _) _), ((Below.refl _ w).alloc (Nat.le_refl _) _).size⟩⟩
theorem times_at {w X : World} {R : Nat} {st : RS} (most : Int) (h : Went w X R st) (hm : most ≤ 9223372036854775807) : Calls Try.prog 78 #[.pointer (some ⟨R, 0, none⟩), .int .i64 most] X fun e w' => e = .returned (.int .i64 ((tmN st most : Nat) : Int)) ∧ Hid (Went w w' R (tmS st most)) := by
  refine (Pen.times_any R st most X h.rd h.fit hm).mono ?_
  rintro e w' ⟨rfl, h1, h2⟩
  exact ⟨rfl, Lib.hid (h.then ⟨h1, h.fit.tm most, h2⟩)⟩
set_option maxRecDepth 100000 in
set_option maxHeartbeats 4000000 in
theorem list_st (R : Nat) (st : RS) (w : World) (h : Pen.Rd w R st) (hf : Pen.Fit st) (l : List St) (st' : RS) (hl : ltq stq 8 st = (l, st')) :
    Calls Try.prog 79 #[rdV R, .int .i64 8, .func (.func 80) #[rdV R] #[]] w fun e w' => ∃ a n c, e = .returned (.slice a n c) ∧ Hid (l.length = n ∧ n ≤ 8 ∧ OwnS w' w.heap.size (.slice a n c) l ∧ Went w w' R st') := by
  obtain ⟨n, hn⟩ : ∃ n : Nat, tmN st 8 = n := ⟨_, rfl⟩
  obtain ⟨s0, hs⟩ : ∃ s : RS, tmS st 8 = s := ⟨_, rfl⟩
  obtain ⟨B, X, hB, hX, k0, HX⟩ := begin_list w R st h hf
  have hR := h.lt
  have HR : Hid (R < w.heap.size) := Lib.hid hR
  have HT := times_at 8 HX.out.1 (by omega)
  have hn8 : (n : Int) ≤ 8 := by rw [← hn]; exact tm_le (by omega)
  have HQ : Hid (lsq stq n s0 = (l, st')) := Lib.hid (by rw [← hl, ← hn, ← hs]; rfl)
  rw [hn, hs] at HT
  have HT := Lib.hid HT
  clear h hf hl hn hs hR
  go_enter Try.func79, Try.ntmps79
  go_wp2_with fail
  clear hB hX k0
  refine HT.out.mono ?_
  rintro e w1 ⟨rfl, H1⟩
  go_wp2_with fail
  go_loopw [7, 12] (fun v t wr => ∃ (i : Nat) (a : Option Addr) (c : Nat) (o : List St) (s1 : RS), v = .slice a i c ∧ t = .int .i64 (i : Int) ∧ i ≤ n ∧ Hid (OwnS wr w.heap.size (.slice a i c) o ∧ o.length = i) ∧ Hid (Went w wr R s1) ∧ Hid (lsq stq n s0 = (o ++ (lsq stq (n - i) s1).1, (lsq stq (n - i) s1).2))) (fun _ t _ => n - (RowKit.intOf t).toNat)
  case atStart => exact ⟨0, none, 0, [], s0, rfl, rfl, by omega, Lib.hid ⟨World.ownsRow_nil _ _ _ _, rfl⟩, H1, Lib.hid rfl⟩
  case round =>
    clear H1 HT
    obtain ⟨i, a, c, o, s1, rfl, rfl, hi, HO, HW, HI⟩ := hrel
    obtain ⟨W0, rfl⟩ : ∃ W0, W0 = wr := ⟨_, rfl⟩
    have hi0 : (0 : Int) ≤ (i : Int) := by omega
    by_cases hlt : i < n
    · have hlt2 : (i : Int) < (n : Int) := by omega
      have wi : IntKind.i64.wrap ((i : Int) + 1) = (i : Int) + 1 := IntWalk.i64_in _ (by omega)
      obtain ⟨x, s2, hx⟩ : ∃ x s2, stq s1 = (x, s2) := ⟨_, _, rfl⟩
      have HC := Lib.hid (rstack_im R s1 W0 HW.out.rd HW.out.fit x s2 hx)
      have HI2 := Lib.hid (lsq_more HI.out hlt (x := x) (st' := s2) (by rw [hx]) (by rw [hx]))
      clear hx HI
      go_wp2_with fail
      refine HC.out.mono ?_
      rintro e w2 ⟨rfl, H2⟩
      have HW2 := Lib.hid (HW.out.then H2.out)
      have ho2 := own_past HO.out.1 H2.out.grown HR.out
      have hbz : w.heap.size ≤ w2.heap.size := HW2.out.grown.size
      obtain ⟨a3, c3, w3, hr3, ho3, hg3⟩ := app_s w2 x ho2 (by omega) hbz
      have HR3 := hr3
      have HO3 : Hid (OwnS w3 w.heap.size (.slice a3 (i + 1) c3) (o ++ [x]) ∧ (o ++ [x]).length = i + 1) := Lib.hid ⟨ho3, by have := HO.out.2; simp [this]⟩
      have HW3 : Hid (Went w w3 R s2) := Lib.hid (HW2.out.grew hg3 (fun g e => (own_type ho2 e).1) HR.out)
      clear hr3 ho3 hg3 ho2 hbz
      go_wp2_with (at_builtin; refine walk_run (v' := .slice a3 (i + 1) c3) (w' := w3) rfl _ _ _ _ rfl _ _ rfl rfl ?_ ?_; exact HR3.out)
      go_roundw
      case rel => exact ⟨i + 1, a3, c3, o ++ [x], s2, rfl, by go_num, by omega, HO3, HW3, HI2⟩
      case measure => simp [RowKit.intOf]; omega
    · obtain rfl : i = n := by omega
      have HF : Hid (o = l ∧ s1 = st') := Lib.hid (by
        have h1 := lsq_end HI.out
        rw [HQ.out] at h1
        injection h1 with h1 h2
        exact ⟨h1.symm, h2.symm⟩)
      have HE : Hid (l.length = i ∧ i ≤ 8 ∧ OwnS W0 w.heap.size (.slice a i c) l ∧ Went w W0 R st') := Lib.hid (by
        rw [← HF.out.1, ← HF.out.2]
        exact ⟨HO.out.2, by omega, HO.out.1, HW.out⟩)
      go_wp2_with fail
      go_ret
      exact ⟨a, i, c, rfl, HE⟩
set_option maxRecDepth 100000 in
set_option maxHeartbeats 4000000 in
theorem list_ba (R : Nat) (st : RS) (w : World) (h : Pen.Rd w R st) (hf : Pen.Fit st) (l : List Ba) (st' : RS) (hl : ltq bayP 8 st = (l, st')) :
    Calls Try.prog 63 #[rdV R, .int .i64 8, .func (.func 64) #[rdV R] #[]] w fun e w' => ∃ a n c, e = .returned (.slice a n c) ∧ Hid (l.length = n ∧ n ≤ 8 ∧ OwnY w' w.heap.size (.slice a n c) l ∧ Went w w' R st') := by
  obtain ⟨n, hn⟩ : ∃ n : Nat, tmN st 8 = n := ⟨_, rfl⟩
  obtain ⟨s0, hs⟩ : ∃ s : RS, tmS st 8 = s := ⟨_, rfl⟩
  obtain ⟨B, X, hB, hX, k0, HX⟩ := begin_list w R st h hf
  have hR := h.lt
  have HR : Hid (R < w.heap.size) := Lib.hid hR
  have HT := times_at 8 HX.out.1 (by omega)
  have hn8 : (n : Int) ≤ 8 := by rw [← hn]; exact tm_le (by omega)
  have HQ : Hid (lsq bayP n s0 = (l, st')) := Lib.hid (by rw [← hl, ← hn, ← hs]; rfl)
  rw [hn, hs] at HT
  have HT := Lib.hid HT
  clear h hf hl hn hs hR
  go_enter Try.func63, Try.ntmps63
  go_wp2_with fail
  clear hB hX k0
  refine HT.out.mono ?_
  rintro e w1 ⟨rfl, H1⟩
  go_wp2_with fail
  go_loopw [7, 12] (fun v t wr => ∃ (i : Nat) (a : Option Addr) (c : Nat) (o : List Ba) (s1 : RS), v = .slice a i c ∧ t = .int .i64 (i : Int) ∧ i ≤ n ∧ Hid (OwnY wr w.heap.size (.slice a i c) o ∧ o.length = i) ∧ Hid (Went w wr R s1) ∧ Hid (lsq bayP n s0 = (o ++ (lsq bayP (n - i) s1).1, (lsq bayP (n - i) s1).2))) (fun _ t _ => n - (RowKit.intOf t).toNat)
  case atStart => exact ⟨0, none, 0, [], s0, rfl, rfl, by omega, Lib.hid ⟨World.ownsRow_nil _ _ _ _, rfl⟩, H1, Lib.hid rfl⟩
  case round =>
    clear H1 HT
    obtain ⟨i, a, c, o, s1, rfl, rfl, hi, HO, HW, HI⟩ := hrel
    obtain ⟨W0, rfl⟩ : ∃ W0, W0 = wr := ⟨_, rfl⟩
    have hi0 : (0 : Int) ≤ (i : Int) := by omega
    by_cases hlt : i < n
    · have hlt2 : (i : Int) < (n : Int) := by omega
      have wi : IntKind.i64.wrap ((i : Int) + 1) = (i : Int) + 1 := IntWalk.i64_in _ (by omega)
      obtain ⟨x, s2, hx⟩ : ∃ x s2, bayP s1 = (x, s2) := ⟨_, _, rfl⟩
      have HC := Lib.hid (rbay_im R s1 W0 HW.out.rd HW.out.fit x s2 hx)
      have HI2 := Lib.hid (lsq_more HI.out hlt (x := x) (st' := s2) (by rw [hx]) (by rw [hx]))
      clear hx HI
      go_wp2_with fail
      refine HC.out.mono ?_
      rintro e w2 ⟨rfl, H2⟩
      have HW2 := Lib.hid (HW.out.then H2.out)
      have ho2 := own_past HO.out.1 H2.out.grown HR.out
      have hbz : w.heap.size ≤ w2.heap.size := HW2.out.grown.size
      obtain ⟨a3, c3, w3, hr3, ho3, hg3⟩ := app_y w2 x ho2 (by omega) hbz
      have HR3 := hr3
      have HO3 : Hid (OwnY w3 w.heap.size (.slice a3 (i + 1) c3) (o ++ [x]) ∧ (o ++ [x]).length = i + 1) := Lib.hid ⟨ho3, by have := HO.out.2; simp [this]⟩
      have HW3 : Hid (Went w w3 R s2) := Lib.hid (HW2.out.grew hg3 (fun g e => (own_type ho2 e).1) HR.out)
      clear hr3 ho3 hg3 ho2 hbz
      go_wp2_with (at_builtin; refine walk_run (v' := .slice a3 (i + 1) c3) (w' := w3) rfl _ _ _ _ rfl _ _ rfl rfl ?_ ?_; exact HR3.out)
      go_roundw
      case rel => exact ⟨i + 1, a3, c3, o ++ [x], s2, rfl, by go_num, by omega, HO3, HW3, HI2⟩
      case measure => simp [RowKit.intOf]; omega
    · obtain rfl : i = n := by omega
      have HF : Hid (o = l ∧ s1 = st') := Lib.hid (by
        have h1 := lsq_end HI.out
        rw [HQ.out] at h1
        injection h1 with h1 h2
        exact ⟨h1.symm, h2.symm⟩)
      have HE : Hid (l.length = i ∧ i ≤ 8 ∧ OwnY W0 w.heap.size (.slice a i c) l ∧ Went w W0 R st') := Lib.hid (by
        rw [← HF.out.1, ← HF.out.2]
        exact ⟨HO.out.2, by omega, HO.out.1, HW.out⟩)
      go_wp2_with fail
      go_ret
      exact ⟨a, i, c, rfl, HE⟩
end Go.Proofs.Yteaclacbdelinaa.Cat.Im
