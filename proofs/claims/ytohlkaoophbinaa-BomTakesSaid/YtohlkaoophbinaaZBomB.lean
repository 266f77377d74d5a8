/- What lies in memory while the document expands: what is wanted, the runs told, the bill's own cells, what must be there, what is left over. The document's Expand, where it tells why not. -/
import Derived.Test.YtohlkaoophbinaaZBomA
namespace Go.Proofs.Ytohlkaoophbinaa.Bom
open Go.RowKit Go.Lib IRows
open Goods (St Sts OwnS cnt scells)

theorem addr_ne {A B i j : Nat} (h : A ≠ B ∨ i ≠ j) : (⟨A, i, none⟩ : Addr) ≠ ⟨B, j, none⟩ := fun e => by
  injection e with e1 e2
  rcases h with h | h
  · exact h e1
  · exact h e2
/-- One more stack at a row's end; all that it does not hold stays. -/
theorem app1k (W : World) {B : Nat} {a : Option Addr} {m c : Nat} {o : List St} (t : St) (h : OwnS W B (.slice a m c) o) (hm : m ≤ 1048576) (hB : B ≤ W.heap.size) :
    ∃ a' c' W', Hid ((Builtin.append_ #[30, 30] 30 #[.slice a m c, .slice (some ⟨W.heap.size, 0, none⟩) 1 1]).run Try.prog (W.alloc (.cells #[.int .i64 t.kind, .int .i64 t.qty] 51)) = .ok (.slice a' (m + 1) c') W') ∧ OwnS W' B (.slice a' (m + 1) c') (o ++ [t]) ∧ Below B W W' ∧
      (∀ q, q < W.heap.size → (Value.slice a m c).ownBlock ≠ some q → W'.heap[q]? = W.heap[q]?) ∧ ∀ q, (Value.slice a' (m + 1) c').ownBlock = some q → (Value.slice a m c).ownBlock = some q ∨ W.heap.size ≤ q := by
  have hl : o.length = m := by
    obtain ⟨a', c', e, _⟩ := Goods.rowS h
    injection e with _ e2 _
    exact e2.symm
  subst hl
  have hA : Below B W (W.alloc (.cells #[.int .i64 t.kind, .int .i64 t.qty] 51)) := (Below.refl B W).alloc hB _
  obtain ⟨i0, hi, hz0, hz1, hz2⟩ := info_parts Goods.info_st
  have hblk := heap_alloc_new W (.cells #[.int .i64 t.kind, .int .i64 t.qty] 51)
  obtain ⟨g, cap, W3, r2, o2, g2, p2, q2⟩ := run_append_lies (P := Try.prog) (W.alloc (.cells #[.int .i64 t.kind, .int .i64 t.qty] 51)) 30 30 B 51 i0 Goods.zeroStV 2 16 Try.underlying30 hi hz0 hz1 hz2 rfl (by omega) (.slice a o.length c) o.length (scells o) (h.alloc _) ⟨W.heap.size, 0, none⟩ 1 1 (scells [t]) rfl (fun j u hj => by
    rw [Goods.addr_add, Nat.zero_add]
    refine cell_block (j := j) hblk ?_
    rw [← Array.getElem?_toList]
    exact hj) (Goods.scells_one [t]) (by omega) (by unfold maxLen; omega) (by omega) (Nat.le_trans hB hA.size) _ rfl
  refine ⟨some ⟨g, 0, none⟩, cap, W3, Lib.hid r2, ?_, hA.grown g2 (Nat.le_trans hB hA.size) (fun q hq => (h.lt q hq).1), fun q hq hne => ?_, fun q hq => ?_⟩
  · show W3.ownsRow B 51 2 _ (o ++ [t]).length (scells (o ++ [t]))
    rw [List.length_append, Goods.scells_append]
    exact o2
  · exact (g2.block q (by simp; omega) (fun e => hne e.symm)).trans (heap_alloc_old _ _ hq)
  · have e : g = q := by simpa [Value.ownBlock] using hq
    subst e
    rcases p2 with p2 | p2
    · exact .inl p2
    · right
      rw [p2]
      simp
/-- What lies there. -/
structure Ex (W X : World) (N bn A G O B : Nat) (f : Int → Int) (rs : List Int) (v1 : Value) (raw : List St) (v2 : Value) (left : List St) : Prop where
  base : Below X.heap.size X W
  lo : X.heap.size ≤ A
  ag : A < G
  go : G < O
  ob : O < B
  size : B ≤ W.heap.size
  want : ∀ i : Nat, i ≤ N → W.cell? ⟨A, i, none⟩ = some (.int .i64 (f (i : Int))) ∧ W.frozen? ⟨A, i, none⟩ = false
  len : rs.length = bn
  runs : ∀ (i : Nat) (r : Int), rs[i]? = some r → W.cell? ⟨G, i, none⟩ = some (.int .i64 r) ∧ W.frozen? ⟨G, i, none⟩ = false
  out : W.cell? ⟨O, 0, none⟩ = some (.slice none 0 0) ∧ W.cell? ⟨O, 1, none⟩ = some (.slice (some ⟨G, 0, none⟩) bn bn) ∧ W.cell? ⟨O, 2, none⟩ = some (.slice none 0 0)
  outf : ∀ j, W.frozen? ⟨O, j, none⟩ = false
  one : OwnS W B v1 raw
  two : OwnS W B v2 left
  far : ∀ g, v1.ownBlock = some g → v2.ownBlock ≠ some g
theorem Ex.under {W W' X : World} {N bn A G O B : Nat} {f : Int → Int} {rs : List Int} {v1 v2 : Value} {raw left : List St} (h : Ex W X N bn A G O B f rs v1 raw v2 left) (hb : Below W.heap.size W W') : Ex W' X N bn A G O B f rs v1 raw v2 left := by
  obtain ⟨hc, hf⟩ := bcell hb
  have s1 := h.size; have s2 := h.ob; have s3 := h.go; have s4 := h.ag
  refine ⟨below_then h.base hb, h.lo, h.ag, h.go, h.ob, Nat.le_trans h.size hb.size, fun i hi => ?_, h.len, fun i r hi => ?_, ?_, fun j => ?_, Goods.own_under h.one hb, Goods.own_under h.two hb, h.far⟩
  · rw [hc A i (by omega), hf A i (by omega)]
    exact h.want i hi
  · rw [hc G i (by omega), hf G i (by omega)]
    exact h.runs i r hi
  · rw [hc O 0 (by omega), hc O 1 (by omega), hc O 2 (by omega)]
    exact h.out
  · rw [hf O j (by omega)]
    exact h.outf j
theorem Ex.drew {W X : World} {N bn A G O B : Nat} {f : Int → Int} {rs : List Int} {v1 v2 : Value} {raw left : List St} (h : Ex W X N bn A G O B f rs v1 raw v2 left) : Ex W.drew X N bn A G O B f rs v1 raw v2 left := h.under (Below.refl _ W).drew
/-- More is wanted of a type. -/
theorem Ex.setW {W X : World} {N bn A G O B : Nat} {f : Int → Int} {rs : List Int} {v1 v2 : Value} {raw left : List St} (h : Ex W X N bn A G O B f rs v1 raw v2 left) (k : Nat) (hk : k ≤ N) (v : Int) : Ex (W.setCell ⟨A, k, none⟩ (.int .i64 v)) X N bn A G O B (upd f (k : Int) v) rs v1 raw v2 left := by
  have s1 := h.size; have s2 := h.ob; have s3 := h.go; have s4 := h.ag
  have hq : ∀ q, q ≠ A → (W.setCell ⟨A, k, none⟩ (.int .i64 v)).heap[q]? = W.heap[q]? := fun q hq => heap_setCell_other W ⟨A, k, none⟩ q _ hq
  refine ⟨h.base.setCell (p := ⟨A, k, none⟩) h.lo _, h.lo, h.ag, h.go, h.ob, by simpa using h.size, fun i hi => ?_, h.len, fun i r hi => ?_, ?_, fun j => ?_, Goods.own_same h.one fun q e => hq q ?_, Goods.own_same h.two fun q e => hq q ?_, h.far⟩
  · rw [World.frozen?_setCell]
    refine ⟨?_, (h.want i hi).2⟩
    by_cases e : i = k
    · subst e
      rw [upd_same, World.cell?_setCell_same (h := (h.want i hi).1)]
    · rw [upd_other f v (by omega), World.cell?_setCell_other (h := addr_ne (.inr fun x => e x.symm))]
      exact (h.want i hi).1
  · rw [World.frozen?_setCell, World.cell?_setCell_other (h := addr_ne (.inl (by omega)))]
    exact h.runs i r hi
  · rw [World.cell?_setCell_other (h := addr_ne (.inl (by omega))), World.cell?_setCell_other (h := addr_ne (.inl (by omega))), World.cell?_setCell_other (h := addr_ne (.inl (by omega)))]
    exact h.out
  · rw [World.frozen?_setCell]
    exact h.outf j
  · have := (h.one.lt q e).1
    omega
  · have := (h.two.lt q e).1
    omega
/-- Runs are told. -/
theorem Ex.setR {W X : World} {N bn A G O B : Nat} {f : Int → Int} {rs : List Int} {v1 v2 : Value} {raw left : List St} (h : Ex W X N bn A G O B f rs v1 raw v2 left) (k : Nat) (hk : k < bn) (v : Int) : Ex (W.setCell ⟨G, k, none⟩ (.int .i64 v)) X N bn A G O B f (rs.set k v) v1 raw v2 left := by
  have s1 := h.size; have s2 := h.ob; have s3 := h.go; have s4 := h.ag; have s5 := h.lo
  have hq : ∀ q, q ≠ G → (W.setCell ⟨G, k, none⟩ (.int .i64 v)).heap[q]? = W.heap[q]? := fun q hq => heap_setCell_other W ⟨G, k, none⟩ q _ hq
  refine ⟨h.base.setCell (p := ⟨G, k, none⟩) (by show X.heap.size ≤ G; omega) _, h.lo, h.ag, h.go, h.ob, by simpa using h.size, fun i hi => ?_, by rw [List.length_set]; exact h.len, fun i r hi => ?_, ?_, fun j => ?_, Goods.own_same h.one fun q e => hq q ?_, Goods.own_same h.two fun q e => hq q ?_, h.far⟩
  · rw [World.frozen?_setCell, World.cell?_setCell_other (h := addr_ne (.inl (by omega)))]
    exact h.want i hi
  · rw [World.frozen?_setCell]
    by_cases e : k = i
    · subst e
      obtain ⟨r0, hr0⟩ : ∃ r0, rs[k]? = some r0 := ⟨rs[k]'(by rw [h.len]; exact hk), List.getElem?_eq_getElem _⟩
      rw [List.getElem?_set_self (by rw [h.len]; exact hk)] at hi
      injection hi with hi
      subst hi
      exact ⟨World.cell?_setCell_same _ _ _ (h.runs k r0 hr0).1, (h.runs k r0 hr0).2⟩
    · rw [List.getElem?_set_ne e] at hi
      rw [World.cell?_setCell_other (h := addr_ne (.inr e))]
      exact h.runs i r hi
  · rw [World.cell?_setCell_other (h := addr_ne (.inl (by omega))), World.cell?_setCell_other (h := addr_ne (.inl (by omega))), World.cell?_setCell_other (h := addr_ne (.inl (by omega)))]
    exact h.out
  · rw [World.frozen?_setCell]
    exact h.outf j
  · have := (h.one.lt q e).1
    omega
  · have := (h.two.lt q e).1
    omega
theorem below_low {B A : Nat} {w w' : World} (h : Below B w w') (hA : A ≤ B) : Below A w w' := ⟨h.os, h.tape, h.output, h.size, fun q hq => h.block q (by omega)⟩
/-- A world where only what lies at B and behind has turned. -/
theorem Ex.only {W W' X : World} {N bn A G O B : Nat} {f : Int → Int} {rs : List Int} {v1 v2 : Value} {raw left : List St} (h : Ex W X N bn A G O B f rs v1 raw v2 left) (hb : Below B W W') {u1 u2 : Value} {raw' left' : List St} (h1 : OwnS W' B u1 raw') (h2 : OwnS W' B u2 left') (hf : ∀ g, u1.ownBlock = some g → u2.ownBlock ≠ some g) : Ex W' X N bn A G O B f rs u1 raw' u2 left' := by
  have s1 := h.size; have s2 := h.ob; have s3 := h.go; have s4 := h.ag; have s5 := h.lo
  have hc : ∀ b o, b < B → W'.cell? ⟨b, o, none⟩ = W.cell? ⟨b, o, none⟩ := fun b o hb2 => hb.cell (p := ⟨b, o, none⟩) hb2
  have hz : ∀ b o, b < B → W'.frozen? ⟨b, o, none⟩ = W.frozen? ⟨b, o, none⟩ := fun b o hb2 => hb.frozen (p := ⟨b, o, none⟩) hb2
  refine ⟨h.base.trans (below_low hb (by omega)), h.lo, h.ag, h.go, h.ob, Nat.le_trans h.size hb.size, fun i hi => ?_, h.len, fun i r hi => ?_, ?_, fun j => ?_, h1, h2, hf⟩
  · rw [hc A i (by omega), hz A i (by omega)]
    exact h.want i hi
  · rw [hc G i (by omega), hz G i (by omega)]
    exact h.runs i r hi
  · rw [hc O 0 (by omega), hc O 1 (by omega), hc O 2 (by omega)]
    exact h.out
  · rw [hz O j (by omega)]
    exact h.outf j
/-- One more that must be there. -/
theorem Ex.app1 {W X : World} {N bn A G O B : Nat} {f : Int → Int} {rs : List Int} {a : Option Addr} {m c : Nat} {v2 : Value} {raw left : List St} (h : Ex W X N bn A G O B f rs (.slice a m c) raw v2 left) (t : St) (hm : m ≤ 1048576) :
    ∃ a' c' W', Hid ((Builtin.append_ #[30, 30] 30 #[.slice a m c, .slice (some ⟨W.heap.size, 0, none⟩) 1 1]).run Try.prog (W.alloc (.cells #[.int .i64 t.kind, .int .i64 t.qty] 51)) = .ok (.slice a' (m + 1) c') W') ∧ Ex W' X N bn A G O B f rs (.slice a' (m + 1) c') (raw ++ [t]) v2 left ∧ Below B W W' := by
  obtain ⟨a', c', W', hr, h1, h2, h3, h4⟩ := app1k W t h.one hm h.size
  refine ⟨a', c', W', hr, h.only h2 h1 (Goods.own_same h.two fun q e => h3 q (h.two.lt q e).2 fun e2 => h.far q e2 e) (fun q e e2 => ?_), h2⟩
  rcases h4 q e with h5 | h5
  · exact h.far q h5 e2
  · have := (h.two.lt q e2).2
    omega
/-- One more that is left over. -/
theorem Ex.app2 {W X : World} {N bn A G O B : Nat} {f : Int → Int} {rs : List Int} {a : Option Addr} {m c : Nat} {v1 : Value} {raw left : List St} (h : Ex W X N bn A G O B f rs v1 raw (.slice a m c) left) (t : St) (hm : m ≤ 1048576) :
    ∃ a' c' W', Hid ((Builtin.append_ #[30, 30] 30 #[.slice a m c, .slice (some ⟨W.heap.size, 0, none⟩) 1 1]).run Try.prog (W.alloc (.cells #[.int .i64 t.kind, .int .i64 t.qty] 51)) = .ok (.slice a' (m + 1) c') W') ∧ Ex W' X N bn A G O B f rs v1 raw (.slice a' (m + 1) c') (left ++ [t]) ∧ Below B W W' := by
  obtain ⟨a', c', W', hr, h1, h2, h3, h4⟩ := app1k W t h.two hm h.size
  refine ⟨a', c', W', hr, h.only h2 (Goods.own_same h.one fun q e => h3 q (h.one.lt q e).2 fun e2 => h.far q e e2) h1 (fun q e e2 => ?_), h2⟩
  rcases h4 q e2 with h5 | h5
  · exact h.far q e h5
  · have := (h.one.lt q e).2
    omega
end Go.Proofs.Ytohlkaoophbinaa.Bom
namespace Go.Proofs.Ytohlkaoophbinaa.Bom
open Go.RowKit Go.Lib IRows
open Goods (St Sts OwnS cnt)
open Cat (Cat PB CM CatAt Lim box_cat pOf)

/-- What is told, or why not. -/
noncomputable def s0 (C : Cat) (kind n : Int) : Sx := ⟨upd (fun _ => 0) kind n, List.replicate C.bs.length 0, [], []⟩
noncomputable def runE (C : Cat) (kind n lv : Int) (hv : List St) : Option Sx := rn C.bs lv hv (topV C) (s0 C kind n)
noncomputable def expE (C : Cat) (kind n lv : Int) (hv : List St) : Int := if mayE C kind lv hv = 0 then (if 1 ≤ n ∧ n ≤ Recipe.mq then (match runE C kind n lv hv with
  | none => 5
  | some _ => 0) else 1) else mayE C kind lv hv
theorem exp_may {C : Cat} {kind n lv : Int} {hv : List St} (h : mayE C kind lv hv ≠ 0) : expE C kind n lv hv = mayE C kind lv hv := by
  unfold expE
  rw [if_neg h]
theorem exp_num {C : Cat} {kind n lv : Int} {hv : List St} (h : mayE C kind lv hv = 0) (hn : ¬ (1 ≤ n ∧ n ≤ Recipe.mq)) : expE C kind n lv hv = 1 := by
  unfold expE
  rw [if_pos h, if_neg hn]
theorem ret_bm2 {fn : Func} {R : Ending → World → Prop} {a : Act} {w : World} {p u : Tmp} {g : Nat} {c0 c1 c2 x : Value} {T : TypeId} (h : fn.results = #[.cell p 35, .tmp u]) (hd : a.defers = [])
    (ht : a.tmps.getD p undef = .pointer (some ⟨g, 0, none⟩)) (hu : a.tmps.getD u undef = x) (hb : w.heap[g]? = some (.cells #[c0, c1, c2] T (0, 0))) (hR : R (.returned (.tuple #[.agg #[c0, c1, c2], x])) w) : bodyPost Try.prog fn R .ret a w := by
  refine bodyPost_ret (v := .tuple #[.agg #[c0, c1, c2], x]) ?_ hd hR
  rw [results_cell_tmp h, ht, hu]
  simp [asAddr, run_loadVar_row (P := Try.prog) w g T 35 #[c0, c1, c2] (0, 0) _ hb Try.underlying35 rfl (by kernel_rfl), Result.andThen]
theorem bm_set {w : World} {g : Nat} {a b c x y z : Value} {T : TypeId} (h : w.heap[g]? = some (.cells #[a, b, c] T (0, 0))) : (((w.setCell ⟨g, 0, none⟩ x).setCell ⟨g, 1, none⟩ y).setCell ⟨g, 2, none⟩ z).heap[g]? = some (.cells #[x, y, z] T (0, 0)) := by
  have h0 := heap_setCell_same w g 0 _ _ x h
  have h1 := heap_setCell_same _ g 1 _ _ y h0
  have h2 := heap_setCell_same _ g 2 _ _ z h1
  exact h2
/-- The catalogue's box, and the result's. -/
theorem two_boxes (w : World) (C : CM) : ∃ V X G Z, w.heap.size = V ∧ w.alloc (.cells #[.int .i64 C.ty, .slice C.ba C.bn C.bc, .int .i64 C.pl, .slice C.ya C.yn C.yc, .int .i64 C.ch, .int .i64 C.f.broker, .int .i64 C.f.least, .int .i64 C.f.sales] 27) = X ∧ X.heap.size = G ∧ X.alloc (.cells #[.slice none 0 0, .slice none 0 0, .slice none 0 0] 35) = Z ∧ Hid (Below w.heap.size w Z) ∧ Hid (w.heap.size ≤ G ∧ G < Z.heap.size) ∧
    Hid (∀ W, Below Z.heap.size Z W → W.cell? ⟨V, 0, none⟩ = some (.int .i64 C.ty) ∧ W.cell? ⟨V, 1, none⟩ = some (.slice C.ba C.bn C.bc) ∧ W.cell? ⟨V, 2, none⟩ = some (.int .i64 C.pl) ∧ W.cell? ⟨V, 3, none⟩ = some (.slice C.ya C.yn C.yc) ∧ W.cell? ⟨V, 4, none⟩ = some (.int .i64 C.ch) ∧ W.cell? ⟨V, 5, none⟩ = some (.int .i64 C.f.broker) ∧ W.cell? ⟨V, 6, none⟩ = some (.int .i64 C.f.least) ∧ W.cell? ⟨V, 7, none⟩ = some (.int .i64 C.f.sales)) ∧
    Hid (∀ W, Below Z.heap.size Z W → W.heap[G]? = some (.cells #[.slice none 0 0, .slice none 0 0, .slice none 0 0] 35 (0, 0))) := by
  obtain ⟨V, X, hV, hX, HXB, HP⟩ := box_cat w C
  have HZB : Below X.heap.size X (X.alloc (.cells #[.slice none 0 0, .slice none 0 0, .slice none 0 0] 35)) := (Below.refl _ X).alloc (Nat.le_refl _) _
  have hG := heap_alloc_new X (.cells #[.slice none 0 0, .slice none 0 0, .slice none 0 0] 35)
  refine ⟨V, X, X.heap.size, _, hV, hX, rfl, rfl, Lib.hid (below_then HXB.out HZB), Lib.hid ⟨HXB.out.size, by simp⟩, Lib.hid fun W hW => HP.out W (below_then HZB hW), Lib.hid fun W hW => ?_⟩
  exact (hW.block _ (Array.getElem?_eq_some_iff.1 hG).1).trans hG
set_option maxRecDepth 100000 in
set_option maxHeartbeats 8000000 in
theorem dexp_not (C : CM) (kind n lv : Int) (a : Option Addr) (m c : Nat) (hv : List St) (w : World) (h : CatAt w C) (hl : Lim C) (hm : hv.length = m) (hs : Sts w a hv) (h4 : m ≤ 4096) (hno : ¬ (mayE C.p kind lv hv = 0 ∧ 1 ≤ n ∧ n ≤ Recipe.mq)) :
    Calls Try.prog 10 #[C.v, .int .i64 kind, .int .i64 n, .int .i64 lv, .slice a m c] w fun e w' => e = .returned (.tuple #[.agg #[.slice none 0 0, .slice none 0 0, .slice none 0 0], .int .i64 (expE C.p kind n lv hv)]) ∧ Below w.heap.size w w' := by
  obtain ⟨V, X, G, Z, hV, hX, hG, hZ, HWZ, HGW, HP, HK⟩ := two_boxes w C
  obtain ⟨er, her⟩ : ∃ er, mayE C.p kind lv hv = er := ⟨_, rfl⟩
  have HM : Hid (Calls Try.prog 28 #[.agg #[.int .i64 C.ty, .slice C.ba C.bn C.bc, .int .i64 C.pl, .slice C.ya C.yn C.yc, .int .i64 C.ch, .int .i64 C.f.broker, .int .i64 C.f.least, .int .i64 C.f.sales], .int .i64 kind, .int .i64 lv, .slice a m c] Z fun e w' => e = .returned (.int .i64 er) ∧ Hid (Below Z.heap.size Z w')) := Lib.hid (by
    rw [← her]
    exact (dmay C kind lv a m c hv Z (h.under HWZ.out) hl hm (hs.under HWZ.out) h4).mono fun _ _ ⟨e, h⟩ => ⟨e, Lib.hid h⟩)
  have HNO : Hid (∀ W x y z, Below Z.heap.size Z W → Below w.heap.size w (((W.setCell ⟨G, 0, none⟩ x).setCell ⟨G, 1, none⟩ y).setCell ⟨G, 2, none⟩ z)) := Lib.hid (fun W x y z hW => below_of_only (below_then HWZ.out hW) HGW.out.1 (only_setCell (only_setCell (only_setCell (only_refl W (some G)) 0 x) 1 y) 2 z))
  have HGC : Hid (∀ W, Below Z.heap.size Z W → W.cell? ⟨G, 0, none⟩ = some (.slice none 0 0) ∧ W.cell? ⟨G, 1, none⟩ = some (.slice none 0 0) ∧ W.cell? ⟨G, 2, none⟩ = some (.slice none 0 0) ∧ W.frozen? ⟨G, 0, none⟩ = false ∧ W.frozen? ⟨G, 1, none⟩ = false ∧ W.frozen? ⟨G, 2, none⟩ = false) := Lib.hid (fun W hW => by
    have h1 := HK.out W hW
    exact ⟨cell_block (j := 0) h1 rfl, cell_block (j := 1) h1 rfl, cell_block (j := 2) h1 rfl, free_block 0 h1, free_block 1 h1, free_block 2 h1⟩)
  obtain ⟨k0, k1, k2, k3, k4, k5, k6, k7⟩ := HP.out Z (Below.refl _ _)
  clear h hl hm hs h4
  by_cases he : er = 0
  case neg =>
    have n1 : (er == 0) = false := by simpa using he
    have n2 : (er != 0) = true := by simpa using he
    have e1 : expE C.p kind n lv hv = er := by rw [exp_may (by rw [her]; exact he), her]
    rw [e1]
    clear e1 her hno
    go_enter Try.func10, Try.ntmps10
    go_wp2_with fail
    clear hX hV hZ hG
    refine HM.out.mono ?_
    rintro e w1 ⟨rfl, H1⟩
    obtain ⟨c0, c1, c2, f0, f1, f2⟩ := HGC.out w1 H1.out
    clear k0 k1 k2 k3 k4 k5 k6 k7
    go_wp2_with fail
    exact ret_bm2 rfl rfl rfl rfl (bm_set (HK.out w1 H1.out)) ⟨rfl, HNO.out w1 _ _ _ H1.out⟩
  subst he
  have e1 : expE C.p kind n lv hv = 1 := exp_num her fun h => hno ⟨her, h⟩
  have hn : n < 1 ∨ 1 ≤ n ∧ 1125899906842624 < n := by
    have : ¬ (1 ≤ n ∧ n ≤ Recipe.mq) := fun h => hno ⟨her, h⟩
    unfold Recipe.mq at this
    omega
  rw [e1]
  clear e1 her hno
  rcases hn with hn | ⟨hn0, hn⟩
  · have d1 : decide (n < 1) = true := decide_eq_true hn
    go_enter Try.func10, Try.ntmps10
    go_wp2_with fail
    clear hX hV hZ hG
    refine HM.out.mono ?_
    rintro e w1 ⟨rfl, H1⟩
    obtain ⟨c0, c1, c2, f0, f1, f2⟩ := HGC.out w1 H1.out
    clear k0 k1 k2 k3 k4 k5 k6 k7
    go_wp2_with fail
    exact ret_bm2 rfl rfl rfl rfl (bm_set (HK.out w1 H1.out)) ⟨rfl, HNO.out w1 _ _ _ H1.out⟩
  · have d1 : decide (n < 1) = false := decide_eq_false (by omega)
    have d2 : decide (1125899906842624 < n) = true := decide_eq_true hn
    go_enter Try.func10, Try.ntmps10
    go_wp2_with fail
    clear hX hV hZ hG
    refine HM.out.mono ?_
    rintro e w1 ⟨rfl, H1⟩
    obtain ⟨c0, c1, c2, f0, f1, f2⟩ := HGC.out w1 H1.out
    clear k0 k1 k2 k3 k4 k5 k6 k7
    go_wp2_with fail
    exact ret_bm2 rfl rfl rfl rfl (bm_set (HK.out w1 H1.out)) ⟨rfl, HNO.out w1 _ _ _ H1.out⟩
end Go.Proofs.Ytohlkaoophbinaa.Bom
