/- The program's Expand: what it lays, and what lies there at its end. -/
import Derived.Test.YtohlkaoophbinaaZBomImM
namespace Go.Proofs.Ytohlkaoophbinaa.Bom.Im
open Go.RowKit Go.Lib Go.Shelf IRows
open Goods (St Sts OwnS cnt)
open Cat (Cat PB CM CatAt Lim I64 pOf box_cat)
open Recipe (needsE needsL needL up nd BlIn)
open Graph.Im (Gr gr_below gr_setP gr_setQ gr_drew)
attribute [local go_sem] Oper.semAt_some

theorem infoB : (Try.prog.info? 65).map (fun i => (i.zero, i.size)) = some (some (.agg ((Array.replicate 99 (.int .i64 0)).push (.slice none 0 0))), 100) := by kernel_rfl
/-- A new bill, as a value. -/
def billV (G bn : Nat) : Array Value := (Array.replicate 99 (.int .i64 0)).push (.slice (some ⟨G, 0, none⟩) bn bn)
theorem billV_size (G bn : Nat) : (billV G bn).size = 100 := by simp [billV]
theorem billV_low (G bn : Nat) {i : Nat} (h : i < 99) : (billV G bn)[i]? = some (.int .i64 0) := by
  unfold billV
  rw [Array.getElem?_push, if_neg (by simp; omega), Array.getElem?_replicate, if_pos h]
theorem billV_top (G bn : Nat) : (billV G bn)[99]? = some (.slice (some ⟨G, 0, none⟩) bn bn) := by
  unfold billV
  rw [Array.getElem?_push, if_pos (by simp)]
theorem billV_one (G bn : Nat) : (billV G bn).all (·.oneCell') = true := by
  refine Array.all_eq_true_iff_forall_mem.2 fun v hv => ?_
  obtain ⟨i, hi⟩ := Array.getElem?_of_mem hv
  by_cases h : i < 99
  · rw [billV_low G bn h] at hi
    injection hi with hi
    rw [← hi]
    rfl
  · have h2 : i = 99 := by
      have := (Array.getElem?_eq_some_iff.1 hi).1
      rw [billV_size] at this
      omega
    subst h2
    rw [billV_top] at hi
    injection hi with hi
    rw [← hi]
    rfl
theorem keeps_gr {W W' : World} {A G bn : Nat} {P : Px} (h : BB W A G bn P) (g : Gr W W' A G) : KeepsOthers W W' := ⟨g.size, fun k o hk ho => by
  have hl := (Array.getElem?_eq_some_iff.1 hk).1
  refine (g.block k hl ?_ ?_).trans hk
  · rintro rfl
    obtain ⟨o2, h1, h2⟩ := cells_of_cell (h.w 0 (by omega)).1
    have h1 : W.heap[k]? = some o2 := h1
    rw [hk] at h1
    cases h1
    rw [ho] at h2
    cases h2
  · rintro rfl
    obtain ⟨cs, t, e⟩ := h.gc
    rw [hk] at e
    cases e
    cases ho⟩
theorem built_bill (G bn : Nat) : Program.built Try.prog 65 [(3, .slice (some ⟨G, 0, none⟩) bn bn)] = some (billV G bn) := by kernel_rfl
theorem wpList_build_bill {ops : Array Oper} {rest : List Oper} {o : Oper} {x : Tmp} {a : Act} {w : World} {Q : Exit → Act → World → Prop} (hg : o.guard = none) (ho : o.op = .build 65 #[(3, .tmp x)]) (G bn : Nat) (hx : a.eval (.tmp x) = .slice (some ⟨G, 0, none⟩) bn bn) (Vb : Array Value) (hV : billV G bn = Vb)
    (h : wpList Try.prog ops Q rest (a.put o.dst (.agg Vb)) w) : wpList Try.prog ops Q (o :: rest) a w := by
  have e : Program.built Try.prog 65 ((#[(3, Operand.tmp x)] : Array (Nat × Operand)).map fun (i, y) => (i, a.eval y)).toList = some Vb := by
    have e0 : ((#[(3, Operand.tmp x)] : Array (Nat × Operand)).map fun (i, y) => (i, a.eval y)).toList = [(3, a.eval (.tmp x))] := by simp
    rw [e0, hx, built_bill, hV]
  refine wpList_build hg 65 _ ho (by rw [e]; rfl) ?_
  rw [e]
  exact h
/-- A new bill, in memory. -/
theorem bb_new (W4 : World) (bn : Nat) (bs : List PB) (hb : bs.length = bn) : ∃ G W5 A W6, W4.heap.size = G ∧ W4.alloc (.cells (madeCells #[(Value.int .i64 0)] bn) 3) = W5 ∧ W5.heap.size = A ∧ W5.alloc (.cells (billV G bn) 65) = W6 ∧ Hid (W6.heap.size = G + 2 ∧ A = G + 1 ∧ Below W4.heap.size W4 W5 ∧ Below W4.heap.size W4 W6 ∧ BB W6 A G bn ⟨fun _ => 0, fun _ => 0, fun _ => 0, List.replicate bs.length 0⟩) := by
  have g0 := heap_alloc_new W4 (.cells (madeCells #[(Value.int .i64 0)] bn) 3)
  generalize hW5 : W4.alloc (.cells (madeCells #[(Value.int .i64 0)] bn) 3) = W5 at g0
  have s5 : W5.heap.size = W4.heap.size + 1 := by rw [← hW5]; simp
  have b5 : Below W4.heap.size W4 W5 := by rw [← hW5]; exact (Below.refl _ _).alloc (Nat.le_refl _) _
  have a0 := heap_alloc_new W5 (.cells (billV W4.heap.size bn) 65)
  generalize hW6 : W5.alloc (.cells (billV W4.heap.size bn) 65) = W6 at a0
  have s6 : W6.heap.size = W5.heap.size + 1 := by rw [← hW6]; simp
  have b6 : Below W5.heap.size W5 W6 := by rw [← hW6]; exact (Below.refl _ _).alloc (Nat.le_refl _) _
  have g6 := (b6.block _ (Array.getElem?_eq_some_iff.1 g0).1).trans g0
  refine ⟨_, W5, _, W6, rfl, rfl, rfl, hW6, Lib.hid ⟨by omega, by omega, b5, below_then b5 b6, ?_, ?_, ?_, ?_, ?_, ?_, ?_, ?_, ?_, ⟨_, _, g6⟩⟩⟩
  · intro i hi
    exact ⟨cell_block a0 (billV_low _ _ (by omega)), free_block _ a0⟩
  · intro i hi
    exact ⟨cell_block a0 (billV_low _ _ (by omega)), free_block _ a0⟩
  · intro i hi
    exact ⟨cell_block a0 (billV_low _ _ (by omega)), free_block _ a0⟩
  · exact cell_block a0 (billV_top _ _)
  · simp [hb]
  · intro i x hx
    have hlt := (List.getElem?_eq_some_iff.1 hx).1
    have hlt : i < bn := by simpa [hb] using hlt
    have hx0 : x = 0 := List.eq_of_mem_replicate (List.mem_of_getElem? hx)
    subst hx0
    exact ⟨cell_block g6 (by simp [madeCells, hlt, Nat.mod_one]), free_block _ g6⟩
  · omega
  · omega
  · omega
/-- What has turned but a bill keeps what lay there ahead of it. -/
theorem below_gr2 {X W W' : World} {A G : Nat} (h : Below X.heap.size X W) (g : Gr W W' A G) (hA : X.heap.size ≤ A) (hG : X.heap.size ≤ G) : Below X.heap.size X W' :=
  ⟨g.os.trans h.os, g.tape.trans h.tape, g.output.trans h.output, Nat.le_trans h.size g.size, fun k hk => (g.block k (Nat.lt_of_lt_of_le hk h.size) (by omega) (by omega)).trans (h.block k hk)⟩
/-- The cells of what is told. -/
theorem told_cells {W : World} {R E : Nat} (hn : R ≠ E) {a b c e a0 b0 c0 e0 : Value} (r0 : W.cell? ⟨R, 0, none⟩ = some a0) (r1 : W.cell? ⟨R, 1, none⟩ = some b0) (r2 : W.cell? ⟨R, 2, none⟩ = some c0) (h0 : W.cell? ⟨E, 0, none⟩ = some e0) :
    ((((W.setCell ⟨R, 0, none⟩ a).setCell ⟨R, 1, none⟩ b).setCell ⟨R, 2, none⟩ c).setCell ⟨E, 0, none⟩ e).cell? ⟨R, 0, none⟩ = some a ∧ ((((W.setCell ⟨R, 0, none⟩ a).setCell ⟨R, 1, none⟩ b).setCell ⟨R, 2, none⟩ c).setCell ⟨E, 0, none⟩ e).cell? ⟨R, 1, none⟩ = some b ∧ ((((W.setCell ⟨R, 0, none⟩ a).setCell ⟨R, 1, none⟩ b).setCell ⟨R, 2, none⟩ c).setCell ⟨E, 0, none⟩ e).cell? ⟨R, 2, none⟩ = some c ∧ ((((W.setCell ⟨R, 0, none⟩ a).setCell ⟨R, 1, none⟩ b).setCell ⟨R, 2, none⟩ c).setCell ⟨E, 0, none⟩ e).cell? ⟨E, 0, none⟩ = some e := by
  have key : ∀ (Z : World) (j k : Nat) (v x : Value), j ≠ k → Z.cell? ⟨R, k, none⟩ = some x → (Z.setCell ⟨R, j, none⟩ v).cell? ⟨R, k, none⟩ = some x := fun Z j k v x hjk hx => by
    rw [World.cell?_setCell_other (h := addr_ne (.inr hjk))]
    exact hx
  have keyE : ∀ (Z : World) (k : Nat) (v x : Value), Z.cell? ⟨R, k, none⟩ = some x → (Z.setCell ⟨E, 0, none⟩ v).cell? ⟨R, k, none⟩ = some x := fun Z k v x hx => by
    rw [World.cell?_setCell_other (h := addr_ne (.inl hn.symm))]
    exact hx
  have keyR : ∀ (Z : World) (j : Nat) (v x : Value), Z.cell? ⟨E, 0, none⟩ = some x → (Z.setCell ⟨R, j, none⟩ v).cell? ⟨E, 0, none⟩ = some x := fun Z j v x hx => by
    rw [World.cell?_setCell_other (h := addr_ne (.inl hn))]
    exact hx
  exact ⟨keyE _ _ _ _ (key _ _ _ _ _ (by decide) (key _ _ _ _ _ (by decide) (World.cell?_setCell_same _ _ _ r0))), keyE _ _ _ _ (key _ _ _ _ _ (by decide) (World.cell?_setCell_same _ _ _ (key _ _ _ _ _ (by decide) r1))), keyE _ _ _ _ (World.cell?_setCell_same _ _ _ (key _ _ _ _ _ (by decide) (key _ _ _ _ _ (by decide) r2))), World.cell?_setCell_same _ _ _ (keyR _ _ _ _ (keyR _ _ _ _ (keyR _ _ _ _ h0)))⟩
theorem told_below {B : Nat} {w W : World} {R E : Nat} (h : Below B w W) (hR : B ≤ R) (hE : B ≤ E) (a b c e : Value) : Below B w ((((W.setCell ⟨R, 0, none⟩ a).setCell ⟨R, 1, none⟩ b).setCell ⟨R, 2, none⟩ c).setCell ⟨E, 0, none⟩ e) :=
  (((h.setCell (p := ⟨R, 0, none⟩) hR a).setCell (p := ⟨R, 1, none⟩) hR b).setCell (p := ⟨R, 2, none⟩) hR c).setCell (p := ⟨E, 0, none⟩) hE e
/-- What lies there when all is told. -/
theorem exp_fin {w V Wf : World} {B R E D G bn : Nat} {a1 a2 : Option Addr} {n1 c1 n2 c2 : Nat} {l1 l2 : List St} {rs : List Int} {x0 x1 x2 x3 : Value} (hWf : ((((V.setCell ⟨R, 0, none⟩ (.slice a1 n1 c1)).setCell ⟨R, 1, none⟩ (.slice (some ⟨G, 0, none⟩) bn bn)).setCell ⟨R, 2, none⟩ (.slice a2 n2 c2)).setCell ⟨E, 0, none⟩ (.int .i64 0)) = Wf) (h1 : OwnS V B (.slice a1 n1 c1) l1) (h2 : OwnS V B (.slice a2 n2 c2) l2) (hB : R < B ∧ E < B ∧ D < B)
    (hG : ∀ (i : Nat) (x : Int), rs[i]? = some x → V.cell? ⟨G, i, none⟩ = some (.int .i64 x)) (hGl : G < V.heap.size) (hlen : rs.length = bn) (hne : G ≠ R ∧ G ≠ E ∧ G ≠ D ∧ R ≠ E ∧ D ≠ R ∧ D ≠ E) (hD : V.heap[D]? = some (.deferred (some [])))
    (r0 : V.cell? ⟨R, 0, none⟩ = some x0) (r1 : V.cell? ⟨R, 1, none⟩ = some x1) (r2 : V.cell? ⟨R, 2, none⟩ = some x2) (e0 : V.cell? ⟨E, 0, none⟩ = some x3) (hn : n1 ≤ 1048576 ∧ n2 ≤ 1048576 ∧ bn ≤ 1048576) (hw : Below w.heap.size w V) (hlow : w.heap.size ≤ R ∧ w.heap.size ≤ E ∧ w.heap.size ≤ D) :
    Wf.heap[D]? = some (.deferred (some [])) ∧ ((Wf.putObj D (.deferred none)).cell? ⟨R, 0, none⟩ = some (.slice a1 n1 c1) ∧ (Wf.putObj D (.deferred none)).cell? ⟨R, 1, none⟩ = some (.slice (some ⟨G, 0, none⟩) bn bn) ∧ (Wf.putObj D (.deferred none)).cell? ⟨R, 2, none⟩ = some (.slice a2 n2 c2) ∧ (Wf.putObj D (.deferred none)).cell? ⟨E, 0, none⟩ = some (.int .i64 0)) ∧
      BomAt (Wf.putObj D (.deferred none)) ⟨a1, n1, c1, l1, some ⟨G, 0, none⟩, bn, bn, rs, a2, n2, c2, l2⟩ ∧ Below w.heap.size w (Wf.putObj D (.deferred none)) := by
  have hq : ∀ b, b ≠ E → b ≠ R → Wf.heap[b]? = V.heap[b]? := fun b h1 h2 => by
    rw [← hWf, heap_setCell_other _ ⟨E, 0, none⟩ b _ h1, heap_setCell_other _ ⟨R, 2, none⟩ b _ h2, heap_setCell_other _ ⟨R, 1, none⟩ b _ h2, heap_setCell_other _ ⟨R, 0, none⟩ b _ h2]
  have hsz : V.heap.size = Wf.heap.size := by rw [← hWf]; simp [World.setCell]
  have hDf := (hq D hne.2.2.2.2.2 hne.2.2.2.2.1).trans hD
  obtain ⟨t0, t1, t2, t3⟩ := told_cells (a := .slice a1 n1 c1) (b := .slice (some ⟨G, 0, none⟩) bn bn) (c := .slice a2 n2 c2) (e := .int .i64 0) hne.2.2.2.1 r0 r1 r2 e0
  have hbw : Below w.heap.size w Wf := by rw [← hWf]; exact told_below hw hlow.1 hlow.2.1 _ _ _ _
  rw [hWf] at t0 t1 t2 t3
  clear hWf
  have hgr := grownBy_putObj' Wf D (.deferred none)
  have hcl : ∀ r, some D = some r → ∃ o : Obj, Wf.heap[r]? = some o ∧ o.isCells = false := fun r e => by cases e; exact ⟨_, hDf, rfl⟩
  have s1 : OwnS Wf B (.slice a1 n1 c1) l1 := Goods.own_same h1 fun q hq2 => hq q (by have := (h1.lt q hq2).1; omega) (by have := (h1.lt q hq2).1; omega)
  have s2 : OwnS Wf B (.slice a2 n2 c2) l2 := Goods.own_same h2 fun q hq2 => hq q (by have := (h2.lt q hq2).1; omega) (by have := (h2.lt q hq2).1; omega)
  have z1 : OwnS (Wf.putObj D (.deferred none)) B (.slice a1 n1 c1) l1 := ownsRow_putObj s1 _ hDf rfl
  have z2 : OwnS (Wf.putObj D (.deferred none)) B (.slice a2 n2 c2) l2 := ownsRow_putObj s2 _ hDf rfl
  obtain ⟨a1', c1', q1, y1⟩ := Goods.sts_own z1
  obtain ⟨a2', c2', q2, y2⟩ := Goods.sts_own z2
  injection q1 with q11 q12 _
  injection q2 with q21 q22 _
  subst q11 q21
  have hcG : ∀ (i : Nat) (x : Int), rs[i]? = some x → (Wf.putObj D (.deferred none)).cell? ⟨G, i, none⟩ = some (.int .i64 x) := fun i x hx =>
    cell_kept ((World.cell?_of_block (hq G hne.2.1 hne.1)).trans (hG i x hx)) hgr hcl
  have hgs : Wf.heap.size ≤ (Wf.putObj D (.deferred none)).heap.size := hgr.size
  refine ⟨hDf, ⟨cell_kept t0 hgr hcl, cell_kept t1 hgr hcl, cell_kept t2 hgr hcl, cell_kept t3 hgr hcl⟩, ⟨⟨q12.symm, y1, hn.1⟩, ⟨hlen, fun i x hx => ⟨G, 0, rfl, by omega, by rw [Nat.zero_add]; exact hcG i x hx⟩, hn.2.2⟩, q22.symm, y2, hn.2.1⟩, hbw.trans (belowK_b (w := w) (Nat.le_refl _) Wf D _ _ hlow.2.2 hDf rfl rfl)⟩
end Go.Proofs.Ytohlkaoophbinaa.Bom.Im
