/- The program's bytes of a word. The program's bytes of a number that is not below 0. -/
import Derived.Test.YtghlgmlelipjfaaZJobMath
import Derived.Test.YtghlgmlelipjfaaZJobTk
import Derived.OneCell
import Derived.Laws.IdiomStrings
import Derived.Deep.RegionWith
namespace Go.Proofs.Ytghlgmlelipjfaa.Pen
open Go.RowKit Go.Lib

set_option maxRecDepth 100000 in
set_option maxHeartbeats 1000000 in
theorem written_any (n : Nat) (w : World) (hn : n < 18446744073709551616) :
    Calls Try.prog 58 #[.int .u64 n] w fun e w' => e = .returned (.string (wordB n)) ∧ Below w.heap.size w w' := by
  obtain ⟨i0, hi, hz0, hz1, hz2⟩ := info_parts info_u8
  go_enter Try.func58, Try.ntmps58
  go_wp2
  go_loopw [0, 3] (fun t v wr => ∃ (m : Nat) (acc : List UInt8), t = .int .u64 m ∧ wr.ownsRow w.heap.size 5 1 v acc.length (byteCells acc) ∧ acc.length ≤ 9 ∧ acc ++ wb (9 - acc.length) m = wb 9 n ∧ m < 2 * 128 ^ (9 - acc.length) ∧ Below w.heap.size w wr) (fun t _ _ => (intOf t).toNat)
  case atStart => exact ⟨n, [], rfl, World.ownsRow_nil _ _ _ _, by simp, rfl, by simp; omega, Below.refl _ _⟩
  case round =>
    obtain ⟨m, acc, rfl, hown, hacc, hwb, hm, hbel⟩ := hrel
    by_cases hlt : m < 128
    · have hcell : (UInt8.ofNat m).toNat = m := by simp; omega
      have HC := Lib.hid hcell; clear hcell
      have HW := Lib.hid hwb; clear hwb
      go_wp2_with (at_builtin; refine wpList_append_own _ rfl _ _ 49 rfl w.heap.size 5 i0 (.int .u8 0) 1 1 Try.underlying49 hi hz0 hz1 hz2 rfl (by decide) _ _ _ rfl (hown.alloc _) ⟨wr.heap.size, 0, none⟩ 1 1 [.int .u8 m] rfl rfl ?c1 ?c2 ?c3 ?c4 ?c5 ?_)
      case c1 =>
        intro j u hj
        match j, hj with
        | 0, hj => simp at hj; subst hj; simp [Addr.add]
      case c2 => intro u hu; simp at hu; subst hu; rfl
      case c3 => unfold maxLen; omega
      case c4 => omega
      case c5 => have := hbel.size; simp; omega
      intro v' w1 hown' hgrow _
      obtain ⟨g, cap, rfl, hge, hlt'⟩ := hown'.form (by omega)
      have hconv := conv_back w1 g cap (acc ++ [UInt8.ofNat m]) w.heap.size _ (by simpa [byteCells, HC.out] using hown')
      have hbel1 : Below w.heap.size w w1 := grown_below hbel hown hgrow
      go_wp2_with fail
      go_ret
      exact ⟨ret_str (by rw [wordB, ← HW.out, wb_small hlt]), hbel1⟩
    · obtain ⟨d, hd⟩ : ∃ d, 9 - acc.length = d + 1 := ⟨8 - acc.length, by
        rcases Nat.lt_or_ge acc.length 9 with h | h
        · omega
        · rw [show 9 - acc.length = 0 by omega] at hm; simp at hm; omega⟩
      obtain ⟨c, hc⟩ : ∃ c, 128 + m % 128 = c := ⟨_, rfl⟩
      have hc256 : c < 256 := by omega
      have hcell : (UInt8.ofNat c).toNat = c := by simp; omega
      have hmore : bits .or .u8 ((m : Int) % 256) 128 = (c : Int) := by have := u8_more m; rw [hc] at this; exact_mod_cast this
      have hm1 : m / 128 < 2 * 128 ^ d := by
        rw [hd, Nat.pow_succ] at hm
        exact Nat.div_lt_of_lt_mul (by omega)
      have hwb1 : (acc ++ [UInt8.ofNat c]) ++ wb d (m / 128) = wb 9 n := by
        rw [← hwb, hd, wb_big hlt, hc]; simp
      have hge : (128 : Int) ≤ (m : Int) := by omega
      have HC := Lib.hid hcell; clear hcell
      have HW := Lib.hid hwb1; clear hwb hwb1
      have HD := Lib.hid hd; clear hd hc
      have HM := Lib.hid hm1; clear hm1 hm
      go_wp2_with (at_builtin; refine wpList_append_own _ rfl _ _ 49 rfl w.heap.size 5 i0 (.int .u8 0) 1 1 Try.underlying49 hi hz0 hz1 hz2 rfl (by decide) _ _ _ rfl (hown.alloc _) ⟨wr.heap.size, 0, none⟩ 1 1 [.int .u8 c] rfl rfl ?c1 ?c2 ?c3 ?c4 ?c5 ?_)
      case c1 =>
        intro j u hj
        match j, hj with
        | 0, hj => simp at hj; subst hj; simp [Addr.add]
      case c2 => intro u hu; simp at hu; subst hu; rfl
      case c3 => unfold maxLen; omega
      case c4 => omega
      case c5 => have := hbel.size; simp; omega
      intro v' w1 hown' hgrow _
      have hbel1 : Below w.heap.size w w1 := grown_below hbel hown hgrow
      clear hgrow hown hbel
      go_wp2_with fail
      go_roundw
      case rel =>
        refine ⟨m / 128, acc ++ [UInt8.ofNat c], by simp, ?_, ?_, ?_, ?_, hbel1⟩
        · simpa [byteCells, HC.out] using hown'
        · have := HD.out; simp; omega
        · have := HD.out
          rw [show 9 - (acc ++ [UInt8.ofNat c]).length = d by simp; omega]; exact HW.out
        · have := HD.out
          rw [show 9 - (acc ++ [UInt8.ofNat c]).length = d by simp; omega]; exact HM.out
      case measure => simp [intOf]; omega
end Go.Proofs.Ytghlgmlelipjfaa.Pen
namespace Go.Proofs.Ytghlgmlelipjfaa.Pen
open Go.RowKit Go.Lib

theorem puint_any (n : Int) (w : World) (hn : n ≤ 9223372036854775807) :
    Calls Try.prog 36 #[.int .i64 n] w fun e w' => e = .returned (.string (uintB n)) ∧ Below w.heap.size w w' := by
  by_cases hneg : n < 0
  · have HN := Lib.hid (uintB_neg hneg)
    go_enter Try.func36, Try.ntmps36
    go_wp2_with fail
    go_ret
    exact ⟨ret_str (by rw [HN.out]), Below.refl _ _⟩
  · obtain ⟨m, rfl⟩ : ∃ m : Nat, n = m := ⟨n.toNat, by omega⟩
    have hd : decide ((m : Int) < 0) = false := by simp
    have HN := Lib.hid (uintB_nat m)
    clear hneg
    go_enter Try.func36, Try.ntmps36
    go_wp2_with fail
    refine (written_any m _ (by omega)).mono ?_
    rintro e w' ⟨rfl, hb⟩
    go_wp2_with fail
    go_ret
    exact ⟨ret_str (by rw [HN.out]), hb⟩
end Go.Proofs.Ytghlgmlelipjfaa.Pen
