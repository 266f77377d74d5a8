/- The program's in, and what it asks of rows of numbers: is one there, where; do they rise; where belongs one. -/
import Derived.Test.YtokkefokodcphaaBayRow
import Derived.Test.YtokkefokodcphaaBayMath
import Derived.Deep.LoopGhost
namespace Go.Proofs.Ytokkefokodcphaa.Bay
open Go.RowKit Go.Lib IRows

set_option maxRecDepth 100000 in
theorem in_im (x a b : Int) (w : World) : Calls Try.prog 26 #[.int .i64 x, .int .i64 a, .int .i64 b] w fun e w' => e = .returned (.bool (decide (a ≤ x ∧ x ≤ b))) ∧ w = w' := by
  by_cases h1 : a ≤ x
  · have e1 : decide (a ≤ x) = true := decide_eq_true h1
    by_cases h2 : x ≤ b
    · have e2 : decide (x ≤ b) = true := decide_eq_true h2
      rw [decide_eq_true (⟨h1, h2⟩ : a ≤ x ∧ x ≤ b)]
      clear h1 h2
      go_enter Try.func26, Try.ntmps26
      go_wp2_with fail
      go_ret
      exact ⟨rfl, rfl⟩
    · have e2 : decide (x ≤ b) = false := decide_eq_false h2
      rw [decide_eq_false (fun h : a ≤ x ∧ x ≤ b => h2 h.2)]
      clear h1 h2
      go_enter Try.func26, Try.ntmps26
      go_wp2_with fail
      go_ret
      exact ⟨rfl, rfl⟩
  · have e1 : decide (a ≤ x) = false := decide_eq_false h1
    rw [decide_eq_false (fun h : a ≤ x ∧ x ≤ b => h1 h.1)]
    clear h1
    go_enter Try.func26, Try.ntmps26
    go_wp2_with fail
    go_ret
    exact ⟨rfl, rfl⟩
theorem in_yes (x a b : Int) (w : World) (h : a ≤ x ∧ x ≤ b) : Calls Try.prog 26 #[.int .i64 x, .int .i64 a, .int .i64 b] w fun e w' => e = .returned (.bool true) ∧ w = w' := by
  have := in_im x a b w
  rw [decide_eq_true h] at this
  exact this
theorem in_no (x a b : Int) (w : World) (h : ¬ (a ≤ x ∧ x ≤ b)) : Calls Try.prog 26 #[.int .i64 x, .int .i64 a, .int .i64 b] w fun e w' => e = .returned (.bool false) ∧ w = w' := by
  have := in_im x a b w
  rw [decide_eq_false h] at this
  exact this
theorem nan_im (x : Int) (w : World) : Calls Try.prog 53 #[.int .i64 x] w fun e w' => e = .returned (.bool false) ∧ w = w' := by
  have e1 : (x != x) = false := by simp
  go_enter Try.func53, Try.ntmps53
  go_wp2_with fail
  go_ret
  exact ⟨by simp, rfl⟩
theorem nan_sl (x : Int) (w : World) : Calls Try.prog 54 #[.int .i64 x] w fun e w' => e = .returned (.bool false) ∧ w = w' := by
  have e1 : (x != x) = false := by simp
  go_enter Try.func54, Try.ntmps54
  go_wp2_with fail
  go_ret
  exact ⟨by simp, rfl⟩
theorem less_im (x y : Int) (w : World) : Calls Try.prog 39 #[.int .i64 x, .int .i64 y] w fun e w' => e = .returned (.bool (decide (x < y))) ∧ w = w' := by
  have H := Lib.hid (nan_im x w)
  go_enter Try.func39, Try.ntmps39
  go_wp2_with fail
  refine H.out.mono ?_
  rintro e w' ⟨rfl, rfl⟩
  go_wp2_with fail
  go_ret
  exact ⟨rfl, rfl⟩
theorem idx_at' {l : List Int} {x : Int} {k : Nat} (h : l[k]? = some x) (hn : x ∉ l.take k) : idx l x = k := idx_at h (fun i y hi hy e => hn (by rw [← e]; exact List.mem_take_iff_getElem.2 ⟨i, by have := (List.getElem?_eq_some_iff.1 hy).1; omega, (List.getElem?_eq_some_iff.1 hy).2⟩))
theorem not_take {l : List Int} {x y : Int} {k : Nat} (h : l[k]? = some y) (hn : x ∉ l.take k) (hne : ¬ x = y) : x ∉ l.take (k + 1) := by
  rw [List.take_add_one, h]
  intro hm
  rcases List.mem_append.1 hm with hm | hm
  · exact hn hm
  · exact hne (by simpa using hm)
set_option maxRecDepth 100000 in
theorem index_im (a : Option Addr) (n c : Nat) (l : List Int) (x : Int) (w : World) (hl : l.length = n) (hs : IRow w a l) (hn : n ≤ 1048576) :
    Calls Try.prog 38 #[.slice a n c, .int .i64 x] w fun e w' => e = .returned (.int .i64 (idx l x)) ∧ w = w' := by
  have HC := irow_all hs
  have HL := Lib.hid hl
  obtain ⟨p, hp⟩ : ∃ p, idx l x = p := ⟨_, rfl⟩
  have HP := Lib.hid hp
  have hn1 : (n : Int) ≤ 1048576 := by omega
  rw [hp]
  clear hs hn hl hp
  go_enter Try.func38, Try.ntmps38
  go_wp2_with fail
  go_loopw [8] (fun s wr => ∃ i : Nat, s = .int .i64 i ∧ i ≤ n ∧ w = wr ∧ Hid (x ∉ l.take i)) (fun s _ => n - (RowKit.intOf s).toNat)
  case atStart => exact ⟨0, rfl, by omega, rfl, Lib.hid (by simp)⟩
  case round =>
    obtain ⟨i, rfl, hi, rfl, HI⟩ := hrel
    have hi0 : (0 : Int) ≤ (i : Int) := by omega
    by_cases hlt : i < n
    · have hlt2 : (i : Int) < (n : Int) := by omega
      obtain ⟨g, off, v, rfl, hv, HQ⟩ := HC.out i (by rw [HL.out]; exact hlt)
      have q0 := HQ.out w (Below.refl _ _)
      by_cases c1 : x = v
      · have HF : Hid (p = (i : Int)) := Lib.hid (HP.out.symm.trans (idx_at' (by rw [c1]; exact hv.out) HI.out))
        have c1b : (x == v) = true := by simpa using c1
        clear c1
        go_wp2_with fail
        go_ret
        exact ⟨by rw [HF.out]; rfl, rfl⟩
      · have HF : Hid (x ∉ l.take (i + 1)) := Lib.hid (not_take hv.out HI.out c1)
        have c1b : (x == v) = false := by simpa using c1
        clear c1
        go_wp2_with fail
        go_roundw
        case rel => exact ⟨i + 1, by go_num, by omega, by first | rfl | trivial, HF⟩
        case measure => simp [RowKit.intOf]; omega
    · obtain rfl : i = n := by omega
      have HF : Hid (p = -1) := Lib.hid (HP.out.symm.trans (idx_not (by
        have := HI.out
        rwa [List.take_of_length_le (by rw [HL.out]; exact Nat.le_refl _)] at this)))
      go_wp2_with fail
      go_ret
      exact ⟨by rw [HF.out]; rfl, rfl⟩
theorem idx_mem {l : List Int} {x : Int} : 0 ≤ idx l x ↔ x ∈ l := by
  constructor
  · intro h
    by_cases hm : x ∈ l
    · exact hm
    · rw [idx_not hm] at h
      omega
  · intro h
    induction l with
    | nil => cases h
    | cons y l ih =>
      unfold idx
      split
      · exact Int.le_refl _
      · rename_i hne
        have := ih (by
          rcases List.mem_cons.1 h with h | h
          · exact absurd h.symm hne
          · exact h)
        rw [if_neg (by omega)]
        omega
theorem contains_im (a : Option Addr) (n c : Nat) (l : List Int) (x : Int) (w : World) (hl : l.length = n) (hs : IRow w a l) (hn : n ≤ 1048576) :
    Calls Try.prog 48 #[.slice a n c, .int .i64 x] w fun e w' => e = .returned (.bool (decide (x ∈ l))) ∧ w = w' := by
  have H := Lib.hid (index_im a n c l x w hl hs hn)
  have HM : Hid (decide (0 ≤ idx l x) = decide (x ∈ l)) := Lib.hid (by rw [decide_eq_decide]; exact idx_mem)
  clear hl hs hn
  go_enter Try.func48, Try.ntmps48
  go_wp2_with fail
  refine H.out.mono ?_
  rintro e w' ⟨rfl, rfl⟩
  go_wp2_with fail
  go_ret
  exact ⟨by rw [← HM.out]; rfl, rfl⟩
/-- Numbers of which none is less than the one ahead. -/
def Up1 (l : List Int) : Prop := ∀ (i : Nat) (x y : Int), l[i]? = some x → l[i + 1]? = some y → x ≤ y
open Classical in
set_option maxRecDepth 100000 in
set_option maxHeartbeats 1000000 in
theorem sorted_im (a : Option Addr) (n c : Nat) (l : List Int) (w : World) (hl : l.length = n) (hs : IRow w a l) (hn : n ≤ 1048576) :
    Calls Try.prog 21 #[.slice a n c] w fun e w' => e = .returned (.bool (decide (Up1 l))) ∧ Below w.heap.size w w' := by
  have HC := irow_at hs
  have HL := Lib.hid hl
  have hn1 : (n : Int) ≤ 1048576 := by omega
  clear hs hn hl
  go_enter Try.func21, Try.ntmps21
  go_wp2_with fail
  go_loopw [3] (fun s wr => ∃ i : Int, s = .int .i64 i ∧ i ≤ (n : Int) - 1 ∧ -1 ≤ i ∧ Hid (Below w.heap.size w wr) ∧ Hid (∀ (k : Nat) (x y : Int), i ≤ k → l[k]? = some x → l[k + 1]? = some y → x ≤ y)) (fun s _ => (RowKit.intOf s).toNat)
  case atStart =>
    refine ⟨(n : Int) - 1, by go_num, by omega, by omega, Lib.hid (Below.refl _ _), Lib.hid (fun k x y hk _ hy => ?_)⟩
    have := (List.getElem?_eq_some_iff.1 hy).1
    have := HL.out
    omega
  case round =>
    obtain ⟨i, rfl, hi, hi1, HB, HI⟩ := hrel
    by_cases hpos : 0 < i
    · obtain ⟨k, rfl⟩ : ∃ k : Nat, i = (k : Int) + 1 := ⟨(i - 1).toNat, by omega⟩
      obtain ⟨g, off, u, rfl, hu, q0⟩ := HC.out wr k HB.out (by rw [HL.out]; omega)
      obtain ⟨g', off', v, e', hv, q1⟩ := HC.out wr (k + 1) HB.out (by rw [HL.out]; omega)
      cases e'
      have w1 : IntKind.i64.wrap ((k : Int) + 1 - 1) = (k : Int) := by rw [show (k : Int) + 1 - 1 = (k : Int) by omega]; exact IntWalk.i64_in _ (by omega)
      have dlt : decide ((0 : Int) < (k : Int) + 1) = true := decide_eq_true hpos
      have i0 : ((k : Int) + 1).toNat = k + 1 := by omega
      by_cases c1 : v < u
      · have Q1 := Lib.hid (fun m => quiet_same (less_im v u (wr.drewN m)))
        have HF : Hid (¬ Up1 l) := Lib.hid (fun h => by have := h k u v hu.out hv.out; omega)
        have d1 : decide (v < u) = true := decide_eq_true c1
        rw [d1] at Q1
        clear c1 d1
        go_wp2_with fail
        go_quiet (first | (go_at_call 39; exact Q1.out _) | fail)
        go_wp2_with fail
        go_ret
        exact ⟨by rw [decide_eq_false HF.out]; rfl, below_drewN HB.out _⟩
      · have Q1 := Lib.hid (fun m => quiet_same (less_im v u (wr.drewN m)))
        have HF : Hid (∀ (j : Nat) (x y : Int), (k : Int) ≤ j → l[j]? = some x → l[j + 1]? = some y → x ≤ y) := Lib.hid (fun j x y hj hx hy => by
          by_cases e : j = k
          · subst e
            have e1 := Option.some.inj (hx.symm.trans hu.out)
            have e2 := Option.some.inj (hy.symm.trans hv.out)
            omega
          · exact HI.out j x y (by omega) hx hy)
        have d1 : decide (v < u) = false := decide_eq_false c1
        rw [d1] at Q1
        clear c1 d1
        go_wp2_with fail
        go_quiet (first | (go_at_call 39; exact Q1.out _) | fail)
        go_wp2_with fail
        go_roundw
        case rel => exact ⟨k, by go_num, by omega, by omega, Lib.hid (below_drewN HB.out _), HF⟩
        case measure => simp [RowKit.intOf]
    · have HF : Hid (Up1 l) := Lib.hid (fun k x y hx hy => HI.out k x y (by omega) hx hy)
      go_wp2_with fail
      go_ret
      exact ⟨by rw [decide_eq_true HF.out]; rfl, HB.out⟩
end Go.Proofs.Ytokkefokodcphaa.Bay
