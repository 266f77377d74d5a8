/- The document's Same, of any two rows. -/
import Derived.Test.YtghlgmlelipjfaaGoodsC
import Derived.Laws.StructEq
namespace Go.Proofs.Ytghlgmlelipjfaa.Goods
open Go.RowKit Go.Lib

theorem St.ext' {t u : St} (h1 : t.kind = u.kind) (h2 : t.qty = u.qty) : t = u := by cases t; cases u; simp at h1 h2; rw [h1, h2]
theorem take_ne {l k : List St} {i : Nat} {t u : St} (h1 : l[i]? = some t) (h2 : k[i]? = some u) (h : t ≠ u) : l ≠ k := fun e => h (by rw [e, h2] at h1; injection h1 with h1; exact h1.symm)
theorem take_both {l k : List St} {i : Nat} {t : St} (h1 : l[i]? = some t) (h2 : k[i]? = some t) (h : l.take i = k.take i) : l.take (i + 1) = k.take (i + 1) := by
  rw [List.take_add_one, List.take_add_one, h1, h2, h]
open Classical in
set_option maxRecDepth 100000 in
set_option maxHeartbeats 2000000 in
theorem dsame (a : Option Addr) (n c : Nat) (l : List St) (b : Option Addr) (m d : Nat) (k : List St) (w : World) (hl : l.length = n) (hs : Sts w a l) (hn : n ≤ 1048576) (hk : k.length = m) (ht : Sts w b k) (hm : m ≤ 1048576) :
    Calls Try.prog 28 #[.slice a n c, .slice b m d] w fun e w' => e = .returned (.bool (decide (l = k))) ∧ Below w.heap.size w w' := by
  by_cases hnm : n = m
  · subst hnm
    have HL := Lib.hid hl; have HK := Lib.hid hk
    have H1 := sts_at hs; have H2 := sts_at ht
    have hn1 : (n : Int) ≤ 1048576 := by omega
    have hee : ((n : Int) == (n : Int)) = true := by simp
    clear hl hs hn hk ht hm
    go_enter Try.func28, Try.ntmps28
    go_wp2_with fail
    go_loopw [5] (fun s wr => ∃ i : Nat, s = .int .i64 i ∧ i ≤ n ∧ Hid (Below w.heap.size w wr) ∧ Hid (l.take i = k.take i)) (fun s _ => n - (RowKit.intOf s).toNat)
    case atStart => exact ⟨0, rfl, by omega, Lib.hid (Below.refl _ _), Lib.hid rfl⟩
    case round =>
      obtain ⟨i, rfl, hi, HB, HI⟩ := hrel
      have hi0 : (0 : Int) ≤ (i : Int) := by omega
      by_cases hlt : i < n
      · have hlt2 : (i : Int) < (n : Int) := by omega
        obtain ⟨g, off, t, rfl, hti, q0, q1⟩ := H1.out _ i HB.out (by rw [HL.out]; exact hlt)
        obtain ⟨g', off', u, rfl, hui, r0, r1⟩ := H2.out _ i HB.out (by rw [HK.out]; exact hlt)
        by_cases c1 : t.kind = u.kind
        · by_cases c2 : t.qty = u.qty
          · obtain rfl := St.ext' c1 c2
            have HI2 : Hid (l.take (i + 1) = k.take (i + 1)) := Lib.hid (take_both hti.out hui.out HI.out)
            clear c1 c2
            go_wp2_with fail
            go_quiet (fail)
            go_wp2_with fail
            go_roundw
            case rel => exact ⟨i + 1, by go_num, by omega, Lib.hid (below_drewN HB.out _), HI2⟩
            case measure => simp [RowKit.intOf]; omega
          · have HF : Hid (l ≠ k) := Lib.hid (take_ne hti.out hui.out fun e => c2 (by rw [e]))
            have c1b : (t.kind == u.kind) = true := by simpa using c1
            have c2b : (t.qty == u.qty) = false := by simpa using c2
            go_wp2_with fail
            go_quiet (fail)
            go_wp2_with fail
            go_ret
            exact ⟨by rw [decide_eq_false HF.out]; rfl, below_drewN HB.out _⟩
        · have HF : Hid (l ≠ k) := Lib.hid (take_ne hti.out hui.out fun e => c1 (by rw [e]))
          have c1b : (t.kind == u.kind) = false := by simpa using c1
          go_wp2_with fail
          go_quiet (fail)
          go_wp2_with fail
          go_ret
          exact ⟨by rw [decide_eq_false HF.out]; rfl, below_drewN HB.out _⟩
      · obtain rfl : i = n := by omega
        have HF : Hid (l = k) := Lib.hid (by
          have := HI.out
          rw [List.take_of_length_le (by rw [HL.out]; exact Nat.le_refl _), List.take_of_length_le (by rw [HK.out]; exact Nat.le_refl _)] at this
          exact this)
        go_wp2_with fail
        go_ret
        exact ⟨by rw [decide_eq_true HF.out]; rfl, HB.out⟩
  · have hf : decide (l = k) = false := decide_eq_false fun e => hnm (by rw [← hl, ← hk, e])
    rw [hf]
    have hne : ((n : Int) == (m : Int)) = false := by simp; omega
    have hn2 : ¬ (n : Int) = (m : Int) := by omega
    clear hl hs hn hk ht hm hf
    go_enter Try.func28, Try.ntmps28
    go_wp2_with fail
    go_ret
    exact ⟨rfl, Below.refl _ _⟩
end Go.Proofs.Ytghlgmlelipjfaa.Goods
