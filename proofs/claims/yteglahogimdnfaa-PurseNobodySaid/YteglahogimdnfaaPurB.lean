/- The document's find, Total, Money. -/
import Derived.Test.YteglahogimdnfaaPurA
namespace Go.Proofs.Yteglahogimdnfaa.Purse
open Go.RowKit Go.Lib

theorem nth_at {l : List Ac} {i : Nat} (h : i < l.length) : ∃ t, l[i]? = some t := ⟨l[i], List.getElem?_eq_getElem h⟩
theorem mem_take_succ {l : List Ac} {i : Nat} {t : Ac} (h : l[i]? = some t) {s : Ac} : s ∈ l.take (i + 1) ↔ s ∈ l.take i ∨ s = t := by
  rw [List.take_add_one, h]
  simp
theorem below_cat {B : Nat} {a b c : World} (h : Below B a b) (k : Below B b c) : Below B a c := ⟨k.os.trans h.os, k.tape.trans h.tape, k.output.trans h.output, Nat.le_trans h.size k.size, fun q hq => (k.block q hq).trans (h.block q hq)⟩
/-- The accounts of a row, wherever it lies. -/
theorem accs_at {w : World} {a : Option Addr} {l : List Ac} (h : Accs w a l) : Hid (∀ W i, Below w.heap.size w W → i < l.length → ∃ g off t, a = some ⟨g, off, none⟩ ∧ Hid (l[i]? = some t) ∧ W.cell? ⟨g, off + i * 2, none⟩ = some (.int .i64 t.own) ∧ W.cell? ⟨g, off + i * 2 + 1, none⟩ = some (.int .i64 t.mon)) := Lib.hid (fun W i hW hi => by
  obtain ⟨t, ht⟩ := nth_at hi
  obtain ⟨g, off, e, _, k0, k1⟩ := (h.under hW) i t ht
  exact ⟨g, off, t, e, Lib.hid ht, k0, k1⟩)
/-- What a row of one's own is. -/
theorem own_form {w : World} {B : Nat} {a : Option Addr} {n c : Nat} {l : List Ac} (h : OwnA w B (.slice a n c) l) : l.length = n ∧ n ≤ c ∧ c ≤ maxLen ∧ (a = none ∨ ∃ g, a = some ⟨g, 0, none⟩) ∧ Accs w a l := by
  obtain ⟨a', c', e, h1, h2, h3, _⟩ := rowA h
  injection e with e1 e2 e3
  subst e1; subst e2; subst e3
  obtain ⟨a2, c2, e, h4⟩ := accs_own h
  injection e with e1 _ _
  subst e1
  exact ⟨rfl, h1, h2, h3, h4⟩
def fnd (l : List Ac) (o : Int) : Int := if pos l o < l.length then (pos l o : Nat) else -1
theorem fnd_yes {l : List Ac} {o : Int} (h : pos l o < l.length) : fnd l o = (pos l o : Nat) := by unfold fnd; rw [if_pos h]
theorem fnd_no {l : List Ac} {o : Int} (h : ¬ pos l o < l.length) : fnd l o = -1 := by unfold fnd; rw [if_neg h]
set_option maxRecDepth 100000 in
set_option maxHeartbeats 2000000 in
theorem dfind {a : Option Addr} {n c : Nat} {l : List Ac} (o : Int) (w : World) (h : Accs w a l) (hl : l.length = n) (hn : n ≤ 4096) :
    Calls Try.prog 26 #[.slice a n c, .int .i64 o] w fun e w' => e = .returned (.int .i64 (fnd l o)) ∧ w = w' := by
  have HT := accs_at h
  have HL := Lib.hid hl
  have hn1 : (n : Int) ≤ 1048576 := by omega
  clear h hl hn
  go_enter Try.func26, Try.ntmps26
  go_wp2_with fail
  go_loopw [5] (fun t wr => ∃ i : Nat, t = .int .i64 i ∧ i ≤ n ∧ w = wr ∧ Hid (∀ j x, j < i → l[j]? = some x → x.own ≠ o)) (fun t _ => n - (RowKit.intOf t).toNat)
  case atStart => exact ⟨0, rfl, by omega, rfl, Lib.hid (fun j x hj => by omega)⟩
  case round =>
    obtain ⟨i, rfl, hi, rfl, HI⟩ := hrel
    have hi0 : (0 : Int) ≤ (i : Int) := by omega
    by_cases hlt : i < n
    · have hlt2 : (i : Int) < (n : Int) := by omega
      obtain ⟨g, off, t, rfl, ht, k0, k1⟩ := HT.out w i (Below.refl _ _) (by rw [HL.out]; exact hlt)
      by_cases c1 : t.own = o
      · have e1 : (t.own == o) = true := by simpa using c1
        have HE : Hid (fnd l o = (i : Int)) := Lib.hid (by
          have hp := pos_of HI.out ht.out c1
          rw [fnd_yes (by rw [hp, HL.out]; exact hlt), hp])
        clear c1
        go_wp2_with fail
        go_ret
        exact ⟨by rw [HE.out]; rfl, by first | rfl | trivial⟩
      · have e1 : (t.own == o) = false := by simpa using c1
        have HI2 : Hid (∀ j x, j < i + 1 → l[j]? = some x → x.own ≠ o) := Lib.hid (fun j x hj hx => by
          rcases Nat.lt_or_ge j i with h1 | h1
          · exact HI.out j x h1 hx
          · obtain rfl : j = i := by omega
            rw [ht.out] at hx
            cases hx
            exact c1)
        clear c1
        go_wp2_with fail
        go_roundw
        case rel => exact ⟨i + 1, by go_num, by omega, by first | rfl | trivial, HI2⟩
        case measure => simp [RowKit.intOf]; omega
    · obtain rfl : i = n := by omega
      have HE : Hid (fnd l o = -1) := Lib.hid (fnd_no (by
        rw [pos_none fun x hx => by
          obtain ⟨j, hj, e⟩ := List.mem_iff_getElem.1 hx
          exact HI.out j x (by have := HL.out; omega) (by rw [List.getElem?_eq_getElem hj, e])]
        omega))
      go_wp2_with fail
      go_ret
      exact ⟨by rw [HE.out]; rfl, by first | rfl | trivial⟩
set_option maxRecDepth 100000 in
set_option maxHeartbeats 2000000 in
theorem dtotal {a : Option Addr} {n c : Nat} {l : List Ac} (w : World) (h : Accs w a l) (hl : l.length = n) (hn : n ≤ 4096) (hg : Good l) :
    Calls Try.prog 15 #[.slice a n c] w fun e w' => e = .returned (.int .i64 (tot l)) ∧ w = w' := by
  have HT := accs_at h
  have HL := Lib.hid hl
  have hn1 : (n : Int) ≤ 1048576 := by omega
  have HB : Hid (∀ i, 0 ≤ tot (l.take i) ∧ tot (l.take i) ≤ 1152921504606846976) := Lib.hid (fun i => by
    have h1 := tot_take_le hg.mon i
    have h2 := hg.tot
    unfold mm at h2
    omega)
  clear h hl hn hg
  go_enter Try.func15, Try.ntmps15
  go_wp2_with fail
  go_loopw [3, 4] (fun s t wr => ∃ (z : Int) (i : Nat), s = .int .i64 z ∧ t = .int .i64 i ∧ i ≤ n ∧ w = wr ∧ Hid (tot (l.take i) = z)) (fun _ t _ => n - (RowKit.intOf t).toNat)
  case atStart => exact ⟨0, 0, rfl, rfl, by omega, rfl, Lib.hid rfl⟩
  case round =>
    obtain ⟨z, i, rfl, rfl, hi, rfl, HZ⟩ := hrel
    have hi0 : (0 : Int) ≤ (i : Int) := by omega
    by_cases hlt : i < n
    · have hlt2 : (i : Int) < (n : Int) := by omega
      obtain ⟨g, off, t, rfl, ht, k0, k1⟩ := HT.out w i (Below.refl _ _) (by rw [HL.out]; exact hlt)
      have HZ2 : Hid (tot (l.take (i + 1)) = z + t.mon) := Lib.hid (by rw [tot_take_succ ht.out, HZ.out])
      have h1 := HB.out (i + 1)
      have h2 := HB.out i
      rw [HZ2.out] at h1
      rw [HZ.out] at h2
      obtain ⟨h3, h4⟩ := h1
      obtain ⟨h5, h6⟩ := h2
      go_wp2_with fail
      go_roundw
      case rel => exact ⟨z + t.mon, i + 1, by go_num, by go_num, by omega, by first | rfl | trivial, HZ2⟩
      case measure => simp [RowKit.intOf]; omega
    · obtain rfl : i = n := by omega
      have HE : Hid (tot l = z) := Lib.hid (by
        have := HZ.out
        rw [List.take_of_length_le (by rw [HL.out]; exact Nat.le_refl _)] at this
        exact this)
      go_wp2_with fail
      go_ret
      exact ⟨by rw [HE.out]; rfl, by first | rfl | trivial⟩
set_option maxRecDepth 100000 in
theorem dmoney {a : Option Addr} {n c : Nat} {l : List Ac} (o : Int) (w : World) (h : Accs w a l) (hl : l.length = n) (hn : n ≤ 4096) :
    Calls Try.prog 32 #[.slice a n c, .int .i64 o] w fun e w' => e = .returned (.tuple #[.int .i64 (monV l o), .int .i64 (monE l o)]) ∧ w = w' := by
  have HF := Lib.hid (dfind (c := c) o w h hl hn)
  have HT := accs_at h
  by_cases hp : pos l o < l.length
  · have e1 : monV l o = monAt l (pos l o) := by unfold monV; rw [if_pos hp]
    have e2 : monE l o = 0 := by unfold monE; rw [if_pos hp]
    rw [fnd_yes hp] at HF
    rw [e1, e2]
    obtain ⟨g, off, t, rfl, ht, k0, k1⟩ := HT.out w _ (Below.refl _ _) hp
    rw [monAt_of ht.out]
    obtain ⟨p, hpp⟩ : ∃ p, pos l o = p := ⟨_, rfl⟩
    rw [hpp] at HF hp k0 k1
    have hpn : (p : Int) < (n : Int) := by omega
    have hp0 : (0 : Int) ≤ (p : Int) := by omega
    clear h hl hn HT hp hpp e1 e2
    go_enter Try.func32, Try.ntmps32
    go_wp2_with fail
    refine HF.out.mono ?_
    rintro e w1 ⟨rfl, rfl⟩
    go_wp2_with fail
    go_ret2
    exact ⟨rfl, by first | rfl | trivial⟩
  · have e1 : monV l o = 0 := by unfold monV; rw [if_neg hp]
    have e2 : monE l o = 3 := by unfold monE; rw [if_neg hp]
    rw [fnd_no hp] at HF
    rw [e1, e2]
    clear h hl hn HT hp e1 e2
    go_enter Try.func32, Try.ntmps32
    go_wp2_with fail
    refine HF.out.mono ?_
    rintro e w1 ⟨rfl, rfl⟩
    go_wp2_with fail
    go_ret2
    exact ⟨rfl, by first | rfl | trivial⟩
end Go.Proofs.Yteglahogimdnfaa.Purse
