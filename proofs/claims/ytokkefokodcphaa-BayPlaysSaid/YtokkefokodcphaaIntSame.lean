/- The document's Same of rows of ints (layer 1); ints that a composite literal lays. -/
import Derived.Test.YtokkefokodcphaaIntRows
import Derived.BigQuiet
import Derived.Deep.QuietTactic
namespace Go.Proofs.Ytokkefokodcphaa.IRows
open Go.RowKit Go.Lib

theorem below_drewN {B : Nat} {a w : World} (h : Below B a w) (n : Nat) : Below B a (w.drewN n) := ⟨h.os, h.tape, h.output, h.size, h.block⟩
theorem take_ne {l k : List Int} {i : Nat} {t u : Int} (h1 : l[i]? = some t) (h2 : k[i]? = some u) (h : t ≠ u) : l ≠ k := fun e => h (by rw [e, h2] at h1; injection h1 with h1; exact h1.symm)
theorem take_both {l k : List Int} {i : Nat} {t : Int} (h1 : l[i]? = some t) (h2 : k[i]? = some t) (h : l.take i = k.take i) : l.take (i + 1) = k.take (i + 1) := by
  rw [List.take_add_one, List.take_add_one, h1, h2, h]
open Classical in
set_option maxRecDepth 100000 in
set_option maxHeartbeats 2000000 in
theorem dsame (a : Option Addr) (n c : Nat) (l : List Int) (b : Option Addr) (m d : Nat) (k : List Int) (w : World) (hl : l.length = n) (hs : IRow w a l) (hn : n ≤ 1048576) (hk : k.length = m) (ht : IRow w b k) (hm : m ≤ 1048576) :
    Calls Try.prog 31 #[.slice a n c, .slice b m d] w fun e w' => e = .returned (.bool (decide (l = k))) ∧ Below w.heap.size w w' := by
  by_cases hnm : n = m
  · subst hnm
    have HL := Lib.hid hl; have HK := Lib.hid hk
    have H1 := irow_at hs; have H2 := irow_at ht
    have hn1 : (n : Int) ≤ 1048576 := by omega
    have hee : ((n : Int) == (n : Int)) = true := by simp
    clear hl hs hn hk ht hm
    go_enter Try.func31, Try.ntmps31
    go_wp2_with fail
    go_loopw [5] (fun s wr => ∃ i : Nat, s = .int .i64 i ∧ i ≤ n ∧ Hid (Below w.heap.size w wr) ∧ Hid (l.take i = k.take i)) (fun s _ => n - (RowKit.intOf s).toNat)
    case atStart => exact ⟨0, rfl, by omega, Lib.hid (Below.refl _ _), Lib.hid rfl⟩
    case round =>
      obtain ⟨i, rfl, hi, HB, HI⟩ := hrel
      have hi0 : (0 : Int) ≤ (i : Int) := by omega
      by_cases hlt : i < n
      · have hlt2 : (i : Int) < (n : Int) := by omega
        have dlt : decide ((i : Int) < (n : Int)) = true := decide_eq_true hlt2
        obtain ⟨g, off, t, rfl, hti, q0⟩ := H1.out _ i HB.out (by rw [HL.out]; exact hlt)
        obtain ⟨g', off', u, rfl, hui, r0⟩ := H2.out _ i HB.out (by rw [HK.out]; exact hlt)
        by_cases c1 : t = u
        · obtain rfl := c1
          have HI2 : Hid (l.take (i + 1) = k.take (i + 1)) := Lib.hid (take_both hti.out hui.out HI.out)
          go_wp2_with fail
          go_quiet (fail)
          go_wp2_with fail
          go_roundw
          case rel => exact ⟨i + 1, by go_num, by omega, Lib.hid (below_drewN HB.out _), HI2⟩
          case measure => simp [RowKit.intOf]; omega
        · have HF : Hid (l ≠ k) := Lib.hid (take_ne hti.out hui.out c1)
          have c1b : (t == u) = false := by simpa using c1
          go_wp2_with fail
          go_quiet (fail)
          go_wp2_with fail
          go_ret
          exact ⟨by rw [decide_eq_false HF.out]; rfl, below_drewN HB.out _⟩
      · obtain rfl : i = n := by omega
        have HF : Hid (l = k) := Lib.hid (by
          have := HI.out
          rw [List.take_of_length_le (by rw [HL.out]; exact Nat.le_refl _), List.take_of_length_le (by rw [HK.out]; exact Nat.le_refl _)] at this
          exact this)
        go_wp2_with fail
        go_ret
        exact ⟨by rw [decide_eq_true HF.out]; rfl, HB.out⟩
  · have hf : decide (l = k) = false := decide_eq_false fun e => hnm (by rw [← hl, ← hk, e])
    rw [hf]
    have hne : ((n : Int) == (m : Int)) = false := by simp; omega
    have hn2 : ¬ (n : Int) = (m : Int) := by omega
    clear hl hs hn hk ht hm hf
    go_enter Try.func31, Try.ntmps31
    go_wp2_with fail
    go_ret
    exact ⟨rfl, Below.refl _ _⟩
/-- Ints that a composite literal lays. -/
theorem irow_lit {w : World} {g : Nat} {cs : Array Value} {T : TypeId} (l : List Int) (h : w.heap[g]? = some (.cells cs T (0, 0))) (hc : cs.toList = l.map (Value.int .i64)) : IRow w (some ⟨g, 0, none⟩) l := fun i x hi => by
  refine ⟨g, 0, rfl, (Array.getElem?_eq_some_iff.1 h).1, ?_⟩
  rw [Nat.zero_add]
  refine cell_block (j := i) h ?_
  rw [← Array.getElem?_toList, hc, List.getElem?_map, hi]
  rfl
end Go.Proofs.Ytokkefokodcphaa.IRows
