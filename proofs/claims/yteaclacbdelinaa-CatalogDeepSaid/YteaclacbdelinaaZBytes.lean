/- Slices of bytes of the call's own, and the texts made of them (for a seat that has []uint8). -/
import Derived.Test.YteaclacbdelinaaRows
import Derived.Test.YteaclacbdelinaaZCommon
import Derived.Laws.IdiomStrings
namespace Go.Proofs.Yteaclacbdelinaa
open Go.RowKit Go.Lib

def byteCells (l : List UInt8) : List Value := l.map fun b => .int .u8 (b.toNat : Int)
theorem info_u8 : (Try.prog.info? 5).map (fun i => (i.zero, i.size, i.bytes)) = some (some (.int .u8 0), 1, 1) := by kernel_rfl
theorem conv_back (w : World) (g cap : Nat) (l : List UInt8) (base n : Nat) (h : w.ownsRow base 5 1 (.slice (some ⟨g, 0, none⟩) n cap) n (byteCells l)) :
    (convert 68 9 (.slice (some ⟨g, 0, none⟩) n cap)).run Try.prog w = .ok (.string ⟨l.toArray⟩) w := by
  have hn : n = l.length := by have := h.1; simp [byteCells] at this; omega
  subst hn
  refine run_convert_bytes_back w 68 9 5 ⟨g, 0, none⟩ cap l Try.underlying68 Try.underlying5 Try.underlying9 (fun j hj => ?_)
  exact h.cells rfl j _ (by simp [byteCells, hj])
theorem grown_below {w wr w1 : World} {e : TypeId} {size n : Nat} {v : Value} {xs : List Value} {o : Obj} (hb : Below w.heap.size w wr) (hown : wr.ownsRow w.heap.size e size v n xs) (hg : (wr.alloc o).grownBy w1 v.ownBlock) : Below w.heap.size w w1 := by
  have hs := hb.size
  have h1 : Below w.heap.size w (wr.alloc o) := hb.alloc hs o
  have hs1 := h1.size
  refine ⟨hg.os.trans h1.os, hg.tape.trans h1.tape, hg.output.trans h1.output, Nat.le_trans h1.size hg.size, fun k hk => ?_⟩
  rw [hg.block k (by omega) (fun e => by have := (hown.lt k e.symm).1; omega)]
  exact h1.block k hk
theorem below_grown {w X w1 : World} {e : TypeId} {size n : Nat} {v : Value} {xs : List Value} (hb : Below w.heap.size w X) (hown : X.ownsRow w.heap.size e size v n xs) (hg : X.grownBy w1 v.ownBlock) : Below w.heap.size w w1 := by
  have hs := hb.size
  refine ⟨hg.os.trans hb.os, hg.tape.trans hb.tape, hg.output.trans hb.output, Nat.le_trans hb.size hg.size, fun k hk => ?_⟩
  rw [hg.block k (by omega) (fun e => by have := (hown.lt k e.symm).1; omega)]
  exact hb.block k hk
/-- A block of the call's own begins with these bytes, and they may be written. -/
def Bl (w : World) (B : Nat) (l : List UInt8) : Prop := B < w.heap.size ∧ ∀ j (hj : j < l.length), w.cell? ⟨B, j, none⟩ = some (.int .u8 (l[j].toNat : Int)) ∧ w.frozen? ⟨B, j, none⟩ = false
theorem made_bytes (w : World) (s : ByteArray) :
    ∃ cap W, (convert 9 68 (.string s)).run Try.prog w = .ok (.slice (some ⟨w.heap.size, 0, none⟩) s.size cap) W ∧ Bl W w.heap.size s.data.toList ∧ Below w.heap.size w W := by
  refine ⟨_, _, run_bytes_of_string w 9 68 5 s Try.underlying9 Try.underlying68 Try.underlying5, ⟨by simp, fun j hj => ?_⟩, ((Below.refl _ w).drew).alloc (by simp) _⟩
  have hj' : j < s.data.size := by simpa using hj
  have hr := bytesRow_at s (grownCap w s.size 0 5) j hj'
  have hb : (w.drew.alloc (.cells (bytesRow s (grownCap w s.size 0 5)) 5 ((bytesRow s (grownCap w s.size 0 5)).size, (bytesRow s (grownCap w s.size 0 5)).size + 1))).heap[w.heap.size]? = some (.cells (bytesRow s (grownCap w s.size 0 5)) 5 ((bytesRow s (grownCap w s.size 0 5)).size, (bytesRow s (grownCap w s.size 0 5)).size + 1)) := heap_alloc_new w.drew _
  have hlt : j < (bytesRow s (grownCap w s.size 0 5)).size := by
    rcases Nat.lt_or_ge j (bytesRow s (grownCap w s.size 0 5)).size with h | h
    · exact h
    · rw [Array.getElem?_eq_none h] at hr; cases hr
  refine ⟨?_, ?_⟩
  · rw [cell_of_row _ w.heap.size j _ _ _ hb, hr]
    simp
  · simp only [World.frozen?, hb]
    simp
    omega
theorem Bl.set {w : World} {B : Nat} {l : List UInt8} (h : Bl w B l) (j : Nat) (hj : j < l.length) (c : UInt8) : Bl (w.setCell ⟨B, j, none⟩ (.int .u8 (c.toNat : Int))) B (l.set j c) := by
  refine ⟨by simpa [World.setCell] using h.1, fun k hk => ⟨?_, ?_⟩⟩
  · have hk' : k < l.length := by simpa using hk
    by_cases e : j = k
    · subst e
      rw [World.cell?_setCell_same (w := w) (h := (h.2 j hj).1)]
      simp
    · rw [World.cell?_setCell_other (w := w) (h := show (⟨B, j, none⟩ : Addr) ≠ ⟨B, k, none⟩ by intro h'; injection h' with _ h2 _; exact e h2), (h.2 k hk').1, List.getElem_set_ne e]
  · have hk' : k < l.length := by simpa using hk
    rw [World.frozen?_setCell]
    exact (h.2 k hk').2
theorem Bl.drew {w : World} {B : Nat} {l : List UInt8} (h : Bl w B l) : Bl w.drew B l := h
theorem Bl.back {w : World} {B : Nat} {l : List UInt8} (h : Bl w B l) (n cap : Nat) (hn : l.length = n) : (convert 68 9 (.slice (some ⟨B, 0, none⟩) n cap)).run Try.prog w = .ok (.string ⟨l.toArray⟩) w := by
  subst hn
  refine run_convert_bytes_back w 68 9 5 ⟨B, 0, none⟩ cap l Try.underlying68 Try.underlying5 Try.underlying9 (fun j hj => ?_)
  have hadd : (⟨B, 0, none⟩ : Addr).add j = ⟨B, j, none⟩ := by unfold Addr.add; split <;> simp_all
  rw [hadd]
  exact (h.2 j hj).1
theorem conv_one (c : Nat) (hc : c < 256) (w : World) (b cap : Nat) (h : w.cell? ⟨b, 0, none⟩ = some (.int .u8 c)) :
    (convert 68 9 (.slice (some ⟨b, 0, none⟩) 1 cap)).run Try.prog w = .ok (.string ⟨#[UInt8.ofNat c]⟩) w := by
  refine run_convert_bytes_back w 68 9 5 ⟨b, 0, none⟩ cap [UInt8.ofNat c] Try.underlying68 Try.underlying5 Try.underlying9 (fun j hj => ?_)
  obtain rfl : j = 0 := by simp at hj; omega
  have e : (UInt8.ofNat c).toNat = c := by simp; omega
  simpa [Addr.add, e] using h
end Go.Proofs.Yteaclacbdelinaa
