/- The program's take. -/
import Derived.Test.YtfbdkafpfminlaaHeapImD
import Derived.Test.YtfbdkafpfminlaaHeapImE
import Derived.Test.YtfbdkafpfminlaaHeapRes
namespace Go.Proofs.Ytfbdkafpfminlaa.Heap.Im
open Go.RowKit Go.Lib

theorem elem_ptr : Program.elem Try.prog 50 = 68 := by kernel_rfl
theorem under_ptr : Try.prog.underlying 50 = some (.slice (Program.elem Try.prog 50)) := by
  rw [elem_ptr]
  exact Try.underlying50
theorem info_ptr2 : (Try.prog.info? 68).map (fun i => (i.zero, i.size, i.bytes)) = some (some (.pointer none), 1, 8) := by kernel_rfl
/-- The last pointer is gone, and the row is one shorter. -/
theorem trunc_ptr {w : World} {g n c : Nat} {ps : List Nat} (h : w.ownsRow 0 68 1 (.slice (some ⟨g, 0, none⟩) (n + 1) c) (n + 1) (ps.map ptr)) :
    (w.setCell ⟨g, n, none⟩ (.pointer none)).ownsRow 0 68 1 (.slice (some ⟨g, 0, none⟩) n c) n ((ps.take n).map ptr) := by
  obtain ⟨h1, _⟩ := h.stored n (.pointer none)
  have hl : ps.length = n + 1 := by simpa using h.1
  rcases h1.2 with ⟨e, _⟩ | ⟨g', cap, cur, e, hb, hg, hn, hm, hs, ht⟩
  · cases e
  · injection e with e1 _ e3
    injection e1 with e1
    injection e1 with e1
    subst e1; subst e3
    refine ⟨by simp [hl], .inr ⟨g, c, cur, rfl, hb, hg, by omega, hm, hs, ?_⟩⟩
    have h2 : cur.toList.take (n * 1) = (cur.toList.take ((n + 1) * 1)).take (n * 1) := by rw [List.take_take]; congr 1; omega
    rw [h2, ht, List.map_take, Nat.mul_one, List.take_set_of_le (Nat.le_refl _)]
theorem MV.cut {w W : World} {Q : Nat} {l : List Tm} {most next : Int} {g c n : Nat} {ps : List Nat} {b : Nat} (h : MV w Q l most next (.slice (some ⟨g, 0, none⟩) l.length c) ps b) (hn : l.length = n + 1)
    (hb : ∀ j, j < w.heap.size → j ≠ Q → j ≠ b → j ≠ g → W.heap[j]? = w.heap[j]?)
    (hQ : W.heap[Q]? = some (.cells #[.int .i64 most, .int .i64 next, .slice (some ⟨g, 0, none⟩) n c, .map (some b)] 53 (0, 0)))
    (hrow : W.ownsRow 0 68 1 (.slice (some ⟨g, 0, none⟩) n c) n ((ps.take n).map ptr)) (hM : ∃ M, Ints.MapIs Try.prog 3 W b n M ∧ Places M (l.take n)) :
    MV W Q (l.take n) most next (.slice (some ⟨g, 0, none⟩) n c) (ps.take n) b := by
  have hl := h.len
  have hlen : (l.take n).length = n := by rw [List.length_take]; omega
  refine ⟨hQ, by rw [hlen]; exact hrow, fun i p u hp hu => ?_, by rw [hlen]; exact hM, fun u hu => h.ids u (List.mem_of_mem_take hu), h.qb, h.lq, h.lb, fun p hp => h.ap p (List.mem_of_mem_take hp)⟩
  have h1 : i < n := by
    have := (List.getElem?_eq_some_iff.1 hu).1
    omega
  rw [List.getElem?_take_of_lt h1] at hp hu
  have hm := List.mem_of_getElem? hp
  have ha := h.ap p hm
  exact (hb p (h.lt p (.inr (.inr (.inr hm)))) ha.1 ha.2.1 (fun e => ha.2.2 (by rw [e]; rfl))).trans (h.tms i p u hp hu)
end Go.Proofs.Ytfbdkafpfminlaa.Heap.Im
