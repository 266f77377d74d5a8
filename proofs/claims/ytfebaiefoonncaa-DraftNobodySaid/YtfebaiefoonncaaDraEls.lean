/- Drafts that lie somewhere; a row of one's own is such. -/
import Derived.Test.YtfebaiefoonncaaDraDr
namespace Go.Proofs.Ytfebaiefoonncaa.Draft
open Go.RowKit Go.Lib

/-- Drafts that lie somewhere. -/
def Els (w : World) (a : Option Addr) (l : List Dr) : Prop := ∀ (i : Nat) (t : Dr), l[i]? = some t → ∃ g off, a = some ⟨g, off, none⟩ ∧ g < w.heap.size ∧ w.cell? ⟨g, off + i * 9, none⟩ = some (.int .i64 t.id) ∧ w.cell? ⟨g, off + i * 9 + 1, none⟩ = some (.int .i64 t.owner) ∧ w.cell? ⟨g, off + i * 9 + 2, none⟩ = some (.int .i64 t.div) ∧ w.cell? ⟨g, off + i * 9 + 3, none⟩ = some (.int .i64 t.place) ∧ w.cell? ⟨g, off + i * 9 + 4, none⟩ = some (.int .i64 t.blue) ∧ w.cell? ⟨g, off + i * 9 + 5, none⟩ = some (.int .i64 t.me) ∧ w.cell? ⟨g, off + i * 9 + 6, none⟩ = some (.int .i64 t.te) ∧ w.cell? ⟨g, off + i * 9 + 7, none⟩ = some (.int .i64 t.runs) ∧ w.cell? ⟨g, off + i * 9 + 8, none⟩ = some (.int .i64 t.busy)
theorem Els.under {w w' : World} {a : Option Addr} {l : List Dr} (h : Els w a l) (hb : Below w.heap.size w w') : Els w' a l := fun i t hi => by
  obtain ⟨g, off, e, hg, k0, k1, k2, k3, k4, k5, k6, k7, k8⟩ := h i t hi
  exact ⟨g, off, e, Nat.lt_of_lt_of_le hg hb.size, ((bcell hb).1 g _ hg).trans k0, ((bcell hb).1 g _ hg).trans k1, ((bcell hb).1 g _ hg).trans k2, ((bcell hb).1 g _ hg).trans k3, ((bcell hb).1 g _ hg).trans k4, ((bcell hb).1 g _ hg).trans k5, ((bcell hb).1 g _ hg).trans k6, ((bcell hb).1 g _ hg).trans k7, ((bcell hb).1 g _ hg).trans k8⟩
theorem Els.at {w : World} {a : Option Addr} {l : List Dr} (h : Els w a l) {wr : World} (hb : Below w.heap.size w wr) {i : Nat} {t : Dr} (ht : l[i]? = some t) : ∃ g off, a = some ⟨g, off, none⟩ ∧ wr.cell? ⟨g, off + i * 9, none⟩ = some (.int .i64 t.id) ∧ wr.cell? ⟨g, off + i * 9 + 1, none⟩ = some (.int .i64 t.owner) ∧ wr.cell? ⟨g, off + i * 9 + 2, none⟩ = some (.int .i64 t.div) ∧ wr.cell? ⟨g, off + i * 9 + 3, none⟩ = some (.int .i64 t.place) ∧ wr.cell? ⟨g, off + i * 9 + 4, none⟩ = some (.int .i64 t.blue) ∧ wr.cell? ⟨g, off + i * 9 + 5, none⟩ = some (.int .i64 t.me) ∧ wr.cell? ⟨g, off + i * 9 + 6, none⟩ = some (.int .i64 t.te) ∧ wr.cell? ⟨g, off + i * 9 + 7, none⟩ = some (.int .i64 t.runs) ∧ wr.cell? ⟨g, off + i * 9 + 8, none⟩ = some (.int .i64 t.busy) := by
  obtain ⟨g, off, e, _, k⟩ := (h.under hb) i t ht
  exact ⟨g, off, e, k⟩
theorem els_own {w : World} {B : Nat} {v : Value} {l : List Dr} (h : OwnV w B v l) : ∃ a c, v = .slice a l.length c ∧ Els w a l := by
  obtain ⟨a, c, hv, _, hat⟩ := row_val h
  refine ⟨a, c, hv, fun i t hi => ?_⟩
  obtain ⟨g, e, hg, k⟩ := hat i t hi
  exact ⟨g, 0, e, hg, by simpa using k⟩
end Go.Proofs.Ytfebaiefoonncaa.Draft
