/- Needs in memory; the document's may, in. -/
import Derived.Test.YtghjcefigdkhnaaGraphMath
import Derived.Test.YtghjcefigdkhnaaIntRows
import Derived.BigQuiet
namespace Go.Proofs.Ytghjcefigdkhnaa.Graph
open Go.RowKit Go.Lib IRows

/-- Needs that lie somewhere. -/
def Nds (w : World) (a : Option Addr) (l : List Nd) : Prop := ∀ (i : Nat) (t : Nd), l[i]? = some t → ∃ g off, a = some ⟨g, off, none⟩ ∧ g < w.heap.size ∧ w.cell? ⟨g, off + i * 2, none⟩ = some (.int .i64 t.a) ∧ w.cell? ⟨g, off + i * 2 + 1, none⟩ = some (.int .i64 t.b)
theorem Nds.under {w w' : World} {a : Option Addr} {l : List Nd} (h : Nds w a l) (hb : Below w.heap.size w w') : Nds w' a l := fun i t hi => by
  obtain ⟨g, off, e, hg, k0, k1⟩ := h i t hi
  exact ⟨g, off, e, Nat.lt_of_lt_of_le hg hb.size, ((bcell hb).1 g _ hg).trans k0, ((bcell hb).1 g _ hg).trans k1⟩
theorem nds_at {w : World} {a : Option Addr} {l : List Nd} (h : Nds w a l) : Hid (∀ W i, Below w.heap.size w W → i < l.length → ∃ g off t, a = some ⟨g, off, none⟩ ∧ Hid (l[i]? = some t) ∧ W.cell? ⟨g, off + i * 2, none⟩ = some (.int .i64 t.a) ∧ W.cell? ⟨g, off + i * 2 + 1, none⟩ = some (.int .i64 t.b)) := Lib.hid (fun W i hW hi => by
  obtain ⟨g, off, e, _, k0, k1⟩ := (h.under hW) i l[i] (List.getElem?_eq_getElem hi)
  exact ⟨g, off, _, e, Lib.hid (List.getElem?_eq_getElem hi), k0, k1⟩)
theorem below_drewN {B : Nat} {a w : World} (h : Below B a w) (n : Nat) : Below B a (w.drewN n) := ⟨h.os, h.tape, h.output, h.size, h.block⟩
theorem mem_take_succ {α : Type} {l : List α} {i : Nat} {t x : α} (h : l[i]? = some t) : x ∈ l.take (i + 1) ↔ x ∈ l.take i ∨ x = t := by
  rw [List.take_add_one, h]
  simp
open Classical in
set_option maxRecDepth 100000 in
set_option maxHeartbeats 2000000 in
theorem din (a : Option Addr) (n c : Nat) (l : List Int) (k : Int) (w : World) (hl : l.length = n) (hs : IRow w a l) (hn : n ≤ 1048576) :
    Calls Try.prog 20 #[.slice a n c, .int .i64 k] w fun e w' => e = .returned (.bool (decide (k ∈ l))) ∧ w = w' := by
  have HL := Lib.hid hl
  have HT := irow_at hs
  have hn1 : (n : Int) ≤ 1048576 := by omega
  clear hl hs hn
  go_enter Try.func20, Try.ntmps20
  go_wp2_with fail
  go_loopw [5] (fun s wr => ∃ i : Nat, s = .int .i64 i ∧ i ≤ n ∧ w = wr ∧ Hid (k ∉ l.take i)) (fun s _ => n - (RowKit.intOf s).toNat)
  case atStart => exact ⟨0, rfl, by omega, rfl, Lib.hid (by simp)⟩
  case round =>
    obtain ⟨i, rfl, hi, rfl, HI⟩ := hrel
    have hi0 : (0 : Int) ≤ (i : Int) := by omega
    by_cases hlt : i < n
    · have hlt2 : (i : Int) < (n : Int) := by omega
      obtain ⟨g, off, t, rfl, ht, q0⟩ := HT.out w i (Below.refl _ _) (by rw [HL.out]; exact hlt)
      by_cases c1 : t = k
      · have HF : Hid (k ∈ l) := Lib.hid (by rw [← c1]; exact List.mem_of_getElem? ht.out)
        have c1b : (t == k) = true := by simpa using c1
        clear c1
        go_wp2_with fail
        go_ret
        exact ⟨by rw [decide_eq_true HF.out]; rfl, rfl⟩
      · have HF : Hid (k ∉ l.take (i + 1)) := Lib.hid (fun h => by
          rcases (mem_take_succ ht.out).1 h with h | h
          · exact HI.out h
          · exact c1 h.symm)
        have c1b : (t == k) = false := by simpa using c1
        clear c1
        go_wp2_with fail
        go_roundw
        case rel => exact ⟨i + 1, by go_num, by omega, by first | rfl | trivial, HF⟩
        case measure => simp [RowKit.intOf]; omega
    · obtain rfl : i = n := by omega
      have HF : Hid (k ∉ l) := Lib.hid (by
        have := HI.out
        rw [List.take_of_length_le (by rw [HL.out]; exact Nat.le_refl _)] at this
        exact this)
      go_wp2_with fail
      go_ret
      exact ⟨by rw [decide_eq_false HF.out]; rfl, rfl⟩
/-- As walks want it: what it tells is named ahead. -/
theorem in_at {w : World} {a : Option Addr} {n c : Nat} {l : List Int} (k : Int) (hl : l.length = n) (hs : IRow w a l) (hn : n ≤ 1048576) : ∃ t : Bool, Hid (Calls Try.prog 20 #[.slice a n c, .int .i64 k] w fun e w' => e = .returned (.bool t) ∧ w = w') ∧ Hid (t = true ↔ k ∈ l) := by
  classical
  exact ⟨decide (k ∈ l), Lib.hid (by
    have := din a n c l k w hl hs hn
    refine this.mono ?_
    rintro e w' ⟨rfl, h⟩
    exact ⟨by congr, h⟩), Lib.hid (by simp)⟩
open Classical in
set_option maxRecDepth 100000 in
set_option maxHeartbeats 2000000 in
theorem dmay (n : Int) (a : Option Addr) (m c : Nat) (l : List Nd) (w : World) (hl : l.length = m) (hs : Nds w a l) (hm : m ≤ 1048576) :
    Calls Try.prog 19 #[.int .i64 n, .slice a m c] w fun e w' => e = .returned (.bool (decide (May n l))) ∧ w = w' := by
  by_cases h1 : 0 ≤ n
  case neg =>
    have d1 : decide (n < 0) = true := decide_eq_true (by omega)
    rw [decide_eq_false (fun h : May n l => h1 h.1.1)]
    clear hl hs hm h1
    go_enter Try.func19, Try.ntmps19
    go_wp2_with fail
    go_ret
    exact ⟨rfl, rfl⟩
  have d1 : decide (n < 0) = false := decide_eq_false (by omega)
  by_cases h2 : n ≤ 64
  case neg =>
    have d2 : decide (64 < n) = true := decide_eq_true (by omega)
    rw [decide_eq_false (fun h : May n l => h2 h.1.2)]
    clear hl hs hm h1 h2
    go_enter Try.func19, Try.ntmps19
    go_wp2_with fail
    go_ret
    exact ⟨rfl, rfl⟩
  have d2 : decide (64 < n) = false := decide_eq_false (by omega)
  by_cases h3 : m ≤ 256
  case neg =>
    have d3 : decide (256 < (m : Int)) = true := decide_eq_true (by omega)
    rw [decide_eq_false (fun h : May n l => h3 (by rw [← hl]; exact h.2.1))]
    clear hl hs hm h1 h2 h3
    go_enter Try.func19, Try.ntmps19
    go_wp2_with fail
    go_ret
    exact ⟨rfl, rfl⟩
  have d3 : decide (256 < (m : Int)) = false := decide_eq_false (by omega)
  have HL := Lib.hid hl
  have HT := nds_at hs
  have HM : Hid ((∀ t ∈ l, OkNd n t) → decide (May n l) = true) := Lib.hid (fun h => decide_eq_true ⟨⟨h1, h2⟩, by rw [hl]; exact h3, h⟩)
  have HN : Hid (∀ t ∈ l, ¬ OkNd n t → decide (May n l) = false) := Lib.hid (fun t ht h => decide_eq_false (fun k => h (k.2.2 t ht)))
  have hn1 : (m : Int) ≤ 256 := by omega
  clear hl hs hm h1 h2 h3
  go_enter Try.func19, Try.ntmps19
  go_wp2_with fail
  go_loopw [5] (fun s wr => ∃ i : Nat, s = .int .i64 i ∧ i ≤ m ∧ w = wr ∧ Hid (∀ t ∈ l.take i, OkNd n t)) (fun s _ => m - (RowKit.intOf s).toNat)
  case atStart => exact ⟨0, rfl, by omega, rfl, Lib.hid (fun t h => by simp at h)⟩
  case round =>
    obtain ⟨i, rfl, hi, rfl, HI⟩ := hrel
    have hi0 : (0 : Int) ≤ (i : Int) := by omega
    by_cases hlt : i < m
    · have hlt2 : (i : Int) < (m : Int) := by omega
      obtain ⟨g, off, t, rfl, ht, q0, q1⟩ := HT.out w i (Below.refl _ _) (by rw [HL.out]; exact hlt)
      by_cases c1 : t.a < 1
      · have HF := Lib.hid (HN.out t (List.mem_of_getElem? ht.out) (fun h => by have := h.1.1; omega))
        have e1 : decide (t.a < 1) = true := decide_eq_true c1
        clear c1
        go_wp2_with fail
        go_ret
        exact ⟨by rw [HF.out]; rfl, rfl⟩
      have e1 : decide (t.a < 1) = false := decide_eq_false c1
      by_cases c2 : n < t.a
      · have HF := Lib.hid (HN.out t (List.mem_of_getElem? ht.out) (fun h => by have := h.1.2; omega))
        have e2 : decide (n < t.a) = true := decide_eq_true c2
        clear c1 c2
        go_wp2_with fail
        go_ret
        exact ⟨by rw [HF.out]; rfl, rfl⟩
      have e2 : decide (n < t.a) = false := decide_eq_false c2
      by_cases c3 : t.b < 1
      · have HF := Lib.hid (HN.out t (List.mem_of_getElem? ht.out) (fun h => by have := h.2.1; omega))
        have e3 : decide (t.b < 1) = true := decide_eq_true c3
        clear c1 c2 c3
        go_wp2_with fail
        go_ret
        exact ⟨by rw [HF.out]; rfl, rfl⟩
      have e3 : decide (t.b < 1) = false := decide_eq_false c3
      by_cases c4 : n < t.b
      · have HF := Lib.hid (HN.out t (List.mem_of_getElem? ht.out) (fun h => by have := h.2.2; omega))
        have e4 : decide (n < t.b) = true := decide_eq_true c4
        clear c1 c2 c3 c4
        go_wp2_with fail
        go_ret
        exact ⟨by rw [HF.out]; rfl, rfl⟩
      have e4 : decide (n < t.b) = false := decide_eq_false c4
      have HF : Hid (∀ x ∈ l.take (i + 1), OkNd n x) := Lib.hid (fun x hx => by
        rcases (mem_take_succ ht.out).1 hx with hx | rfl
        · exact HI.out x hx
        · exact ⟨⟨by omega, by omega⟩, by omega, by omega⟩)
      clear c1 c2 c3 c4
      go_wp2_with fail
      go_roundw
      case rel => exact ⟨i + 1, by go_num, by omega, by first | rfl | trivial, HF⟩
      case measure => simp [RowKit.intOf]; omega
    · obtain rfl : i = m := by omega
      have HF := Lib.hid (HM.out (by
        have := HI.out
        rw [List.take_of_length_le (by rw [HL.out]; exact Nat.le_refl _)] at this
        exact this))
      go_wp2_with fail
      go_ret
      exact ⟨by rw [HF.out]; rfl, rfl⟩
end Go.Proofs.Ytghjcefigdkhnaa.Graph
