/- Lines as the document has them, in memory: two rows each; rows of them of one's own, and that lie somewhere, in certain blocks alone. -/
import Derived.Test.YtokkefokodcphaaBayRow
import Derived.Test.YtokkefokodcphaaBayMath
import Derived.Laws.Rows
namespace Go.Proofs.Ytokkefokodcphaa.Bay
open Go.RowKit Go.Lib IRows

/-- Numbers that lie somewhere, in blocks of which N is true. -/
def NRow (w : World) (N : Nat → Prop) (a : Option Addr) (l : List Int) : Prop := ∀ (i : Nat) (x : Int), l[i]? = some x → ∃ g off, a = some ⟨g, off, none⟩ ∧ N g ∧ g < w.heap.size ∧ w.cell? ⟨g, off + i, none⟩ = some (.int .i64 x)
theorem NRow.irow {w : World} {N : Nat → Prop} {a : Option Addr} {l : List Int} (h : NRow w N a l) : IRow w a l := fun i x hi => by
  obtain ⟨g, off, e, _, h1, h2⟩ := h i x hi
  exact ⟨g, off, e, h1, h2⟩
theorem NRow.keep {w w' : World} {N : Nat → Prop} {a : Option Addr} {l : List Int} (h : NRow w N a l) (hs : w.heap.size ≤ w'.heap.size) (hk : ∀ g, N g → g < w.heap.size → w'.heap[g]? = w.heap[g]?) : NRow w' N a l := fun i x hi => by
  obtain ⟨g, off, e, hN, h1, h2⟩ := h i x hi
  exact ⟨g, off, e, hN, Nat.lt_of_lt_of_le h1 hs, (World.cell?_of_block (a := ⟨g, off + i, none⟩) (hk g hN h1)).trans h2⟩
theorem NRow.mono {w : World} {N N' : Nat → Prop} {a : Option Addr} {l : List Int} (h : NRow w N a l) (hk : ∀ g, N g → g < w.heap.size → N' g) : NRow w N' a l := fun i x hi => by
  obtain ⟨g, off, e, hN, h1, h2⟩ := h i x hi
  exact ⟨g, off, e, hk g hN h1, h1, h2⟩
theorem nrow_nil (w : World) (N : Nat → Prop) (a : Option Addr) : NRow w N a [] := fun i x hi => by simp at hi
theorem NRow.of_irow {w : World} {a : Option Addr} {l : List Int} (h : IRow w a l) : NRow w (fun g => g < w.heap.size) a l := fun i x hi => by
  obtain ⟨g, off, e, h1, h2⟩ := h i x hi
  exact ⟨g, off, e, h1, h1, h2⟩
theorem RowAt.nrow {w : World} {m : Rm} {l : List Int} (h : RowAt w m l) {N : Nat → Prop} (hN : ∀ g, ownB m = Option.some g → N g) : NRow w N m.a l := by
  rcases h with ⟨_, rfl⟩ | ⟨g, off, cur, ha, hc, hl, hm, hb, hs, hat⟩
  · exact nrow_nil _ _ _
  · intro i x hi
    exact ⟨g, off, ha, hN g (own_some hc ha), (Array.getElem?_eq_some_iff.1 hb).1, cell_block hb (hat i x hi)⟩
theorem nrow_ks {w : World} {B : Nat} {v : Value} {l : List Int} (h : KS w B v l) {N : Nat → Prop} (hN : ∀ g, B ≤ g → N g) : ∃ a c, v = .slice a l.length c ∧ NRow w N a l := by
  obtain ⟨a, c, hv, h0, hat⟩ := h.at
  refine ⟨a, c, hv, fun i x hx => ?_⟩
  obtain ⟨g, e, hg, k0, _⟩ := hat i x hx
  obtain ⟨g2, e2, hB, _⟩ := h0 (by have := (List.getElem?_eq_some_iff.1 hx).1; omega)
  rw [e] at e2
  cases e2
  exact ⟨g, 0, e, hN g hB, hg, by simpa using k0⟩
structure Dn where
  r : List Int
  ra : Option Addr
  rc : Nat
  q : List Int
  qa : Option Addr
  qc : Nat
def Dn.p (x : Dn) : List Int × List Int := (x.r, x.q)
def Ln.p (x : Ln) : List Int × List Int := (x.r, x.q)
abbrev dV (x : Dn) : Value := .agg #[.slice x.ra x.r.length x.rc, .slice x.qa x.q.length x.qc]
def dCells (x : Dn) : List Value := [.slice x.ra x.r.length x.rc, .slice x.qa x.q.length x.qc]
def dcells (l : List Dn) : List Value := l.flatMap dCells
theorem dcells_cons (t : Dn) (l : List Dn) : dcells (t :: l) = dCells t ++ dcells l := by simp [dcells]
theorem dcells_append (l m : List Dn) : dcells (l ++ m) = dcells l ++ dcells m := by simp [dcells]
theorem dcells_length : ∀ l : List Dn, (dcells l).length = l.length * 2
  | [] => rfl
  | p :: l => by rw [dcells_cons, List.length_append, dcells_length l]; simp [dCells]; omega
theorem dcells_at : ∀ (l : List Dn) (i : Nat) (p : Dn), l[i]? = some p → ∀ (j : Nat) (v : Value), (dCells p)[j]? = some v → (dcells l)[i * 2 + j]? = some v
  | [], i, p, h => by simp at h
  | q :: l, 0, p, h => by
    intro j v hj
    have : q = p := by simpa using h
    subst this
    have hlt : j < (dCells q).length := (List.getElem?_eq_some_iff.1 hj).1
    rw [dcells_cons, List.getElem?_append_left (by simpa using hlt)]
    simpa using hj
  | q :: l, i + 1, p, h => by
    intro j v hj
    have ih := dcells_at l i p (by simpa using h) j v hj
    rw [dcells_cons, show (i + 1) * 2 + j = 2 + (i * 2 + j) by omega, List.getElem?_append_right (by simp [dCells])]
    simpa [dCells] using ih
theorem dcells_one : ∀ (l : List Dn), ∀ u ∈ dcells l, u.oneCell' = true
  | [], u, h => by cases h
  | p :: l, u, h => by
    rw [dcells_cons] at h
    rcases List.mem_append.1 h with h | h
    · simp [dCells] at h
      rcases h with rfl | rfl <;> rfl
    · exact dcells_one l u h
theorem dcells_inv : ∀ (l : List Dn) (j : Nat) (u : Value), (dcells l)[j]? = some u → ∃ i p, l[i]? = some p ∧ ((j = i * 2 ∧ u = .slice p.ra p.r.length p.rc) ∨ (j = i * 2 + 1 ∧ u = .slice p.qa p.q.length p.qc))
  | [], j, u, h => by simp [dcells] at h
  | q :: l, 0, u, h => ⟨0, q, rfl, .inl ⟨rfl, by rw [dcells_cons] at h; simpa [dCells] using h.symm⟩⟩
  | q :: l, 1, u, h => ⟨0, q, rfl, .inr ⟨rfl, by rw [dcells_cons] at h; simpa [dCells] using h.symm⟩⟩
  | q :: l, j + 2, u, h => by
    have h2 : (dcells l)[j]? = some u := by
      rw [dcells_cons, List.getElem?_append_right (by simp [dCells])] at h
      simpa [dCells] using h
    obtain ⟨i, p, hp, hc⟩ := dcells_inv l j u h2
    refine ⟨i + 1, p, by simpa using hp, ?_⟩
    rcases hc with ⟨e, hu⟩ | ⟨e, hu⟩
    · exact .inl ⟨by omega, hu⟩
    · exact .inr ⟨by omega, hu⟩
abbrev OwnD (w : World) (B : Nat) (v : Value) (l : List Dn) : Prop := w.ownsRow B 54 2 v l.length (dcells l)
set_option maxRecDepth 100000 in
theorem info_d : (Try.prog.info? 54).map (fun i => (i.zero, i.size, i.bytes)) = some (some (.agg #[.slice none 0 0, .slice none 0 0]), 2, 48) := by kernel_rfl
theorem app_ds (w : World) (B : Nat) (v : Value) (xs ys : List Dn) (h : OwnD w B v xs) (xa : Option Addr) (m xc : Nat) (hm : m = ys.length) (hsrc : ∀ j u, (dcells ys)[j]? = some u → ∃ ad, xa = some ad ∧ w.cell? (ad.add j) = some u) (hl : xs.length + ys.length ≤ 1000) (hB : B ≤ w.heap.size) :
    ∃ v' w', (Builtin.append_ #[23, 23] 23 #[v, .slice xa m xc]).run Try.prog w = .ok v' w' ∧ OwnD w' B v' (xs ++ ys) ∧ Below B w w' ∧ w.grownBy w' v.ownBlock := by
  obtain ⟨i0, hi, hz0, hz1, hz2⟩ := info_parts info_d
  subst hm
  obtain ⟨v', w', hr, h2, h3⟩ := app_any (P := Try.prog) (t := 23) (e := 54) (i := i0) w B 23 _ 2 48 Try.underlying23 hi hz0 hz1 hz2 rfl (by omega) v xs.length (dcells xs) h xa ys.length xc (dcells ys) (dcells_length ys) hsrc (dcells_one ys) (by unfold maxLen; omega) (by omega) hB
  rw [← dcells_append, ← List.length_append] at h2
  exact ⟨v', w', hr, h2, (Below.refl B w).grown h3 hB (fun k hk => (h.lt k hk).1), h3⟩
/-- One more, out of a block; where the row lies then. -/
theorem app_d1 (w : World) (B : Nat) (v : Value) (xs : List Dn) (y : Dn) (h : OwnD w B v xs) (g0 : Nat) (T : TypeId) (hsrc : w.heap[g0]? = some (.cells #[.slice y.ra y.r.length y.rc, .slice y.qa y.q.length y.qc] T (0, 0))) (hl : xs.length ≤ 1000) (hB : B ≤ w.heap.size) :
    ∃ a c w', (Builtin.append_ #[23, 23] 23 #[v, .slice (some ⟨g0, 0, none⟩) 1 1]).run Try.prog w = .ok (.slice a (xs.length + 1) c) w' ∧ OwnD w' B (.slice a (xs.length + 1) c) (xs ++ [y]) ∧ Below B w w' ∧ w.grownBy w' v.ownBlock ∧ ∀ g, (Value.slice a (xs.length + 1) c).ownBlock = some g → v.ownBlock = some g ∨ w.heap.size ≤ g := by
  obtain ⟨i0, hi, hz0, hz1, hz2⟩ := info_parts info_d
  obtain ⟨v', w', hr, h2, h3, _, h5⟩ := run_append_own_at (P := Try.prog) w B 23 23 54 i0 _ 2 48 Try.underlying23 hi hz0 hz1 hz2 rfl (by omega) v xs.length (dcells xs) h ⟨g0, 0, none⟩ 1 1 (dcells [y]) rfl (fun j u hj => by
    rw [addr_add, Nat.zero_add]
    exact cell_block hsrc (by rw [← Array.getElem?_toList]; simpa [dcells, dCells] using hj)) (dcells_one [y]) (by unfold maxLen; omega) (by omega) hB
  have e1 : xs.length + 1 = (xs ++ [y]).length := by simp
  rw [← dcells_append, e1] at h2
  have hv : ∃ a c, v' = .slice a (xs ++ [y]).length c := by
    rcases h2.2 with ⟨hv, h0⟩ | ⟨g, cap, cur, hv, _⟩
    · exact ⟨none, 0, by rw [hv, h0]⟩
    · exact ⟨_, _, hv⟩
  obtain ⟨a, c, rfl⟩ := hv
  rw [← e1] at h5 hr
  refine ⟨a, c, w', hr, by rw [← e1] at h2; show World.ownsRow _ _ _ _ _ _ _; rw [← e1]; exact h2, (Below.refl B w).grown h3 hB (fun k hk => (h.lt k hk).1), h3, fun g hg => ?_⟩
  rcases h5 with h5 | h5
  · exact .inl (by rw [← h5]; exact hg)
  · rw [h5] at hg
    exact .inr (by have := Option.some.inj hg; omega)
theorem row_d {w : World} {B : Nat} {v : Value} {l : List Dn} (h : OwnD w B v l) : ∃ a c, v = .slice a l.length c ∧ ∀ (i : Nat) (p : Dn), l[i]? = some p → ∃ g, a = some ⟨g, 0, none⟩ ∧ B ≤ g ∧ g < w.heap.size ∧
    w.cell? ⟨g, i * 2, none⟩ = some (.slice p.ra p.r.length p.rc) ∧ w.cell? ⟨g, i * 2 + 1, none⟩ = some (.slice p.qa p.q.length p.qc) := by
  rcases h.2 with ⟨hv, h0⟩ | ⟨g, cap, cur, hv, hb, hg, hn, hm, _⟩
  · refine ⟨none, 0, by rw [hv, h0], fun i p hi => ?_⟩
    have := (List.getElem?_eq_some_iff.1 hi).1
    omega
  · refine ⟨some ⟨g, 0, none⟩, cap, hv, fun i p hi => ⟨g, rfl, hb, (Array.getElem?_eq_some_iff.1 hg).1, ?_⟩⟩
    have hh : ∀ j u, (dCells p)[j]? = some u → w.cell? ⟨g, i * 2 + j, none⟩ = some u := fun j u hj => by
      have := h.cells (g := g) (by rw [hv]; rfl) _ u (dcells_at l i p hi j u hj)
      rw [addr_add, Nat.zero_add] at this
      exact this
    exact ⟨hh 0 _ rfl, hh 1 _ rfl⟩
def DnAt (w : World) (N : Nat → Prop) (x : Dn) : Prop := NRow w N x.ra x.r ∧ NRow w N x.qa x.q
/-- Lines that lie somewhere, in blocks of which N is true. -/
structure LsAt (w : World) (N : Nat → Prop) (a : Option Addr) (ds : List Dn) : Prop where
  cells : ∀ (i : Nat) (x : Dn), ds[i]? = some x → ∃ g off, a = some ⟨g, off, none⟩ ∧ N g ∧ g < w.heap.size ∧ w.cell? ⟨g, off + i * 2, none⟩ = some (.slice x.ra x.r.length x.rc) ∧ w.cell? ⟨g, off + i * 2 + 1, none⟩ = some (.slice x.qa x.q.length x.qc)
  rows : ∀ (i : Nat) (x : Dn), ds[i]? = some x → DnAt w N x
theorem LsAt.keep {w w' : World} {N : Nat → Prop} {a : Option Addr} {ds : List Dn} (h : LsAt w N a ds) (hs : w.heap.size ≤ w'.heap.size) (hk : ∀ g, N g → g < w.heap.size → w'.heap[g]? = w.heap[g]?) : LsAt w' N a ds :=
  ⟨fun i x hx => by
    obtain ⟨g, off, e, hN, h1, h2, h3⟩ := h.cells i x hx
    exact ⟨g, off, e, hN, Nat.lt_of_lt_of_le h1 hs, (World.cell?_of_block (a := ⟨g, off + i * 2, none⟩) (hk g hN h1)).trans h2, (World.cell?_of_block (a := ⟨g, off + i * 2 + 1, none⟩) (hk g hN h1)).trans h3⟩,
    fun i x hx => ⟨(h.rows i x hx).1.keep hs hk, (h.rows i x hx).2.keep hs hk⟩⟩
theorem LsAt.under {w w' : World} {N : Nat → Prop} {a : Option Addr} {ds : List Dn} (h : LsAt w N a ds) (hb : Below w.heap.size w w') : LsAt w' N a ds := h.keep hb.size fun g _ hg => hb.block g hg
theorem NRow.under {w w' : World} {N : Nat → Prop} {a : Option Addr} {l : List Int} (h : NRow w N a l) (hb : Below w.heap.size w w') : NRow w' N a l := h.keep hb.size fun g _ hg => hb.block g hg
theorem LsAt.mono {w : World} {N N' : Nat → Prop} {a : Option Addr} {ds : List Dn} (h : LsAt w N a ds) (hk : ∀ g, N g → g < w.heap.size → N' g) : LsAt w N' a ds :=
  ⟨fun i x hx => by
    obtain ⟨g, off, e, hN, h1, h2⟩ := h.cells i x hx
    exact ⟨g, off, e, hk g hN h1, h1, h2⟩, fun i x hx => ⟨(h.rows i x hx).1.mono hk, (h.rows i x hx).2.mono hk⟩⟩
theorem ls_nil (w : World) (N : Nat → Prop) (a : Option Addr) : LsAt w N a [] := ⟨fun i x hx => by simp at hx, fun i x hx => by simp at hx⟩
theorem ls_own {w : World} {B : Nat} {N : Nat → Prop} {v : Value} {ds : List Dn} (h : OwnD w B v ds) (hN : ∀ g, B ≤ g → N g) (hr : ∀ (i : Nat) (x : Dn), ds[i]? = some x → DnAt w N x) : ∃ a c, v = .slice a ds.length c ∧ LsAt w N a ds := by
  obtain ⟨a, c, hv, hat⟩ := row_d h
  refine ⟨a, c, hv, fun i x hx => ?_, hr⟩
  obtain ⟨g, e, hB, hg, h1, h2⟩ := hat i x hx
  exact ⟨g, 0, e, hN g hB, hg, by rw [Nat.zero_add]; exact h1, by rw [Nat.zero_add]; exact h2⟩
end Go.Proofs.Ytokkefokodcphaa.Bay
