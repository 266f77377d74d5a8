/- The document's Load while it goes on: its jobs so far, its lines so far. -/
import Derived.Test.YtokkefokodcphaaBayDi
namespace Go.Proofs.Ytokkefokodcphaa.Bay
open Go.RowKit Go.Lib IRows

structure LD (w W : World) (G V : Nat) (la : Option Addr) (ln lc : Nat) (aa : Option Addr) (m cc : Nat) (all : List Int) (da : Option Addr) (k dc : Nat) (ds : List Dn) : Prop where
  below : Below w.heap.size w W
  hG : W.heap[G]? = some (.cells #[.slice none 0 0, .slice none 0 0] 32 (0, 0))
  hV : W.heap[V]? = some (.cells #[.slice la ln lc, .slice da k dc] 32 (0, 0))
  ka : KS W (V + 1) (.slice aa m cc) all
  kd : OwnD W (V + 1) (.slice da k dc) ds
  ap : ∀ g, (Value.slice aa m cc).ownBlock = some g → (Value.slice da k dc).ownBlock ≠ some g
  gv : w.heap.size ≤ G ∧ G < V
section
variable {w W W' : World} {G V : Nat} {la : Option Addr} {ln lc : Nat} {aa : Option Addr} {m cc : Nat} {all : List Int} {da : Option Addr} {k dc : Nat} {ds : List Dn}
theorem LD.ltV (h : LD w W G V la ln lc aa m cc all da k dc ds) : V < W.heap.size := (Array.getElem?_eq_some_iff.1 h.hV).1
theorem LD.ltG (h : LD w W G V la ln lc aa m cc all da k dc ds) : G < W.heap.size := (Array.getElem?_eq_some_iff.1 h.hG).1
theorem LD.under (h : LD w W G V la ln lc aa m cc all da k dc ds) (hb : Below W.heap.size W W') : LD w W' G V la ln lc aa m cc all da k dc ds :=
  ⟨below_then h.below hb, (hb.block G h.ltG).trans h.hG, (hb.block V h.ltV).trans h.hV, own_keep h.ka fun g hg => hb.block g (h.ka.lt g hg).2, own_keep h.kd fun g hg => hb.block g (h.kd.lt g hg).2, h.ap, h.gv⟩
theorem LD.drewN (h : LD w W G V la ln lc aa m cc all da k dc ds) (t : Nat) : LD w (W.drewN t) G V la ln lc aa m cc all da k dc ds := h.under (below_drewN (Below.refl _ W) t)
/-- One more job. -/
theorem LD.job (h : LD w W G V la ln lc aa m cc all da k dc ds) (x : Int) (hm : m ≤ 1000) :
    ∃ aa' cc' W', (Builtin.append_ #[52, 52] 52 #[.slice aa m cc, .slice (some ⟨W.heap.size, 0, none⟩) 1 1]).run Try.prog (W.alloc (.cells #[.int .i64 x] 3)) = .ok (.slice aa' (m + 1) cc') W' ∧ LD w W' G V la ln lc aa' (m + 1) cc' (all ++ [x]) da k dc ds := by
  have hml : all.length = m := by
    obtain ⟨a', c', e, _⟩ := h.ka.at
    injection e with _ e _
    exact e.symm
  have hV := h.ltV
  obtain ⟨g, cap, W', hr, h2, h3, h4, h5, _⟩ := app_int W (V + 1) (.slice aa m cc) all x h.ka (by omega) hV
  rw [hml] at hr h2
  have hkd : ∀ q, (Value.slice da k dc).ownBlock = some q → W'.heap[q]? = W.heap[q]? := fun q hq => h4 q (h.kd.lt q hq).2 (fun e => h.ap q e hq)
  refine ⟨some ⟨g, 0, none⟩, cap, W', hr, ⟨h.below.trans (h3.mono ?_), (h4 G h.ltG (fun e => ?_)).trans h.hG, (h4 V hV (fun e => ?_)).trans h.hV, h2, own_keep h.kd hkd, fun q hq hq2 => ?_, h.gv⟩⟩
  · have := h.gv
    omega
  · have := (h.ka.lt G e).1
    have := h.gv
    omega
  · have := (h.ka.lt V e).1
    omega
  · have e : g = q := by simpa [Value.ownBlock] using hq
    subst e
    rcases h5 with h5 | h5
    · exact h.ap g h5 hq2
    · have := (h.kd.lt g hq2).2
      omega
/-- One more line. -/
theorem LD.line (h : LD w W G V la ln lc aa m cc all da k dc ds) (y : Dn) (hk : k ≤ 100) :
    ∃ da' dc' W', (Builtin.append_ #[23, 23] 23 #[.slice da k dc, .slice (some ⟨W.heap.size, 0, none⟩) 1 1]).run Try.prog (W.drew.alloc (.cells #[.slice y.ra y.r.length y.rc, .slice y.qa y.q.length y.qc] 54)) = .ok (.slice da' (k + 1) dc') W' ∧
      (W'.cell? ⟨V, 1, none⟩ = some (.slice da k dc) ∧ W'.frozen? ⟨V, 1, none⟩ = false) ∧ LD w (W'.setCell ⟨V, 1, none⟩ (.slice da' (k + 1) dc')) G V la ln lc aa m cc all da' (k + 1) dc' (ds ++ [y]) := by
  have hdl : ds.length = k := by
    obtain ⟨a', c', e, _⟩ := row_d h.kd
    injection e with _ e _
    exact e.symm
  have hal : Below W.heap.size W (W.drew.alloc (.cells #[.slice y.ra y.r.length y.rc, .slice y.qa y.q.length y.qc] 54)) := (Below.refl _ W).drew.alloc (Nat.le_refl _) _
  have h1 := h.under hal
  obtain ⟨a', c', W', hr, o2, b2, g2, n2⟩ := app_d1 _ (V + 1) (.slice da k dc) ds y h1.kd W.heap.size 54 (heap_alloc_new W.drew _) (by omega) h1.ltV
  rw [hdl] at hr o2 n2
  have hG2 : W'.heap[G]? = _ := (b2.block G (by have := h.gv; omega)).trans h1.hG
  have hV2 : W'.heap[V]? = _ := (b2.block V (by omega)).trans h1.hV
  have hka : KS W' (V + 1) (.slice aa m cc) all := own_keep h1.ka fun q hq => g2.block q (h1.ka.lt q hq).2 (fun e => h1.ap q hq e.symm)
  have hoth : ∀ q, q ≠ V → (W'.setCell ⟨V, 1, none⟩ (.slice a' (k + 1) c')).heap[q]? = W'.heap[q]? := fun q hq => heap_setCell_other W' ⟨V, 1, none⟩ q _ (fun e => hq e)
  refine ⟨a', c', W', hr, ⟨cell_block (j := 1) hV2 rfl, free_block 1 hV2⟩, ⟨?_, (hoth G (by have := h.gv; omega)).trans hG2, heap_setCell_same W' V 1 _ _ _ hV2, own_keep hka fun q hq => hoth q (by have := (hka.lt q hq).1; omega), own_keep o2 fun q hq => hoth q (by have := (o2.lt q hq).1; omega), fun q hq hq2 => ?_, h.gv⟩⟩
  · have hgv := h.gv
    exact (h1.below.trans (b2.mono (by omega))).setCell (p := ⟨V, 1, none⟩) (by show w.heap.size ≤ V; omega) _
  · rcases n2 q hq2 with h5 | h5
    · exact h1.ap q hq h5
    · have h6 := (h.ka.lt q hq).2
      simp at h5
      omega
end
theorem ret_bays2 {fn : Func} {R : Ending → World → Prop} {a : Act} {w : World} {p u : Tmp} {g : Nat} {a1 a2 : Option Addr} {n1 c1 n2 c2 : Nat} {x : Value} {T : TypeId} (h : fn.results = #[.cell p 32, .tmp u]) (hd : a.defers = [])
    (ht : a.tmps.getD p undef = .pointer (some ⟨g, 0, none⟩)) (hu : a.tmps.getD u undef = x) (hb : w.heap[g]? = some (.cells #[.slice a1 n1 c1, .slice a2 n2 c2] T (0, 0))) (hR : R (.returned (.tuple #[.agg #[.slice a1 n1 c1, .slice a2 n2 c2], x])) w) : bodyPost Try.prog fn R .ret a w := by
  refine bodyPost_ret (v := .tuple #[.agg #[.slice a1 n1 c1, .slice a2 n2 c2], x]) ?_ hd hR
  rw [results_cell_tmp h, ht, hu]
  simp [asAddr, run_loadVar_row (P := Try.prog) w g T 32 #[.slice a1 n1 c1, .slice a2 n2 c2] (0, 0) _ hb Try.underlying32 rfl (by kernel_rfl), Result.andThen]
  try rfl
/-- The bays stored as a result. -/
def LEnd (w W : World) (G : Nat) (a1 : Option Addr) (n1 c1 : Nat) (a2 : Option Addr) (n2 c2 : Nat) : Prop :=
  ((W.setCell ⟨G, 0, none⟩ (.slice a1 n1 c1)).setCell ⟨G, 1, none⟩ (.slice a2 n2 c2)).heap[G]? = some (.cells #[.slice a1 n1 c1, .slice a2 n2 c2] 32 (0, 0)) ∧ Below w.heap.size w ((W.setCell ⟨G, 0, none⟩ (.slice a1 n1 c1)).setCell ⟨G, 1, none⟩ (.slice a2 n2 c2))
theorem lend {w W : World} {G : Nat} (hG : W.heap[G]? = some (.cells #[.slice none 0 0, .slice none 0 0] 32 (0, 0))) (hb : Below w.heap.size w W) (hw : w.heap.size ≤ G) (a1 : Option Addr) (n1 c1 : Nat) (a2 : Option Addr) (n2 c2 : Nat) : LEnd w W G a1 n1 c1 a2 n2 c2 :=
  ⟨heap_setCell_same _ G 1 _ _ _ (heap_setCell_same W G 0 _ _ _ hG), (hb.setCell (p := ⟨G, 0, none⟩) hw _).setCell (p := ⟨G, 1, none⟩) hw _⟩
theorem allOf_snoc {ls : List Pr} {k : Nat} {x : Pr} (h : ls[k]? = some x) : allOf (ls.take (k + 1)) = allOf (ls.take k) ++ x.1 ++ x.2 := by
  rw [List.take_add_one, h]
  simp [allOf]
end Go.Proofs.Ytokkefokodcphaa.Bay
