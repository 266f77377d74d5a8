/- The document's bytes of a word. The document's bytes of a number that is not below 0. The program's bytes of a word. The program's bytes of a number that is not below 0. -/
import Derived.Test.YteaclacbdelinaaZPrMath
import Derived.Test.YteaclacbdelinaaZBytes
import Derived.OneCell
import Derived.Laws.IdiomStrings
import Derived.Deep.RegionWith
namespace Go.Proofs.Yteaclacbdelinaa.Pen
open Go.RowKit Go.Lib

theorem cat_one {k n c m : Nat} (hW : wb (k + 1) n = UInt8.ofNat (128 + n % 128) :: wb k (n / 128)) (hc : 128 + n % 128 = c) (hm : n / 128 = m) : (⟨#[UInt8.ofNat c]⟩ : ByteArray) ++ ⟨(wb k m).toArray⟩ = ⟨(wb (k + 1) n).toArray⟩ := by
  rw [hW, hc, hm]
  exact ByteArray.mk_append_mk [UInt8.ofNat c] (wb k m)
set_option maxRecDepth 100000 in
set_option maxHeartbeats 2000000 in
theorem refword (k : Nat) : ∀ (n : Nat) (w : World), n < 2 * 128 ^ k → n < 18446744073709551616 → k ≤ 9 →
    Calls Try.prog 76 #[.int .u64 n] w fun e w' => e = .returned (.string ⟨(wb k n).toArray⟩) ∧ Below w.heap.size w w' := by
  induction k with
  | zero =>
    intro n w h1 h2 _
    have hlt : n < 128 := by simp at h1; omega
    have hconv := conv_one n (by omega) (w.alloc (.cells #[.int .u8 n] 5)) w.heap.size 1 (by simp)
    go_enter Try.func76, Try.ntmps76
    go_wp2_with fail
    go_ret
    exact ⟨rfl, (Below.refl _ _).alloc (Nat.le_refl _) _⟩
  | succ k ih =>
    intro n w h1 h2 hk
    by_cases hlt : n < 128
    · have hconv := conv_one n (by omega) (w.alloc (.cells #[.int .u8 n] 5)) w.heap.size 1 (by simp)
      have HW := Lib.hid (wb_small (k := k + 1) hlt)
      clear ih
      go_enter Try.func76, Try.ntmps76
      go_wp2_with fail
      go_ret
      exact ⟨ret_str (by rw [HW.out]), (Below.refl _ _).alloc (Nat.le_refl _) _⟩
    · have HW := Lib.hid (wb_big (k := k) hlt)
      have hge : (128 : Int) ≤ (n : Int) := by omega
      obtain ⟨c, hc⟩ : ∃ c, 128 + n % 128 = c := ⟨_, rfl⟩
      obtain ⟨m, hm⟩ : ∃ m, n / 128 = m := ⟨_, rfl⟩
      have hm1 : m < 2 * 128 ^ k := by
        rw [← hm]; rw [Nat.pow_succ] at h1
        exact Nat.div_lt_of_lt_mul (by omega)
      have IH := Lib.hid (fun w => ih m w hm1 (by omega) (by omega))
      clear ih
      have hc256 : c < 256 := by omega
      obtain ⟨r, hr⟩ : ∃ r, n % 128 = r := ⟨_, rfl⟩
      have hrt : (n : Int).tmod 128 = (r : Int) := by rw [Int.tmod_eq_emod_of_nonneg (by omega)]; omega
      have hci : IntKind.u64.wrap (128 + (r : Int)) = (c : Int) := by rw [wrap_u64_]; omega
      have hmw : IntKind.u64.wrap (m : Int) = (m : Int) := by rw [wrap_u64_]; omega
      have hcu : IntKind.u8.wrap (c : Int) = (c : Int) := by simp [IntKind.wrap, IntKind.bits, IntKind.signed]; omega
      have hmi : (n : Int) / 128 = (m : Int) := by omega
      have hlen := wb_len k m
      have hconv := conv_one c hc256
      have HC := Lib.hid hc; have HM := Lib.hid hm
      have HM1 := Lib.hid hm1
      clear hc hm hm1 hr
      go_enter Try.func76, Try.ntmps76
      go_wp2_with fail
      go_region_with (go_at_call 76; refine (IH.out _).mono ?_; rintro e w' ⟨rfl, hb⟩; obtain ⟨hcell, hfroz⟩ := bcell hb)
      all_goals
        go_wp2_with fail
        go_ret
        exact ⟨ret_str (cat_one HW.out HC.out HM.out), by first | exact below_a hb | exact below_b hb⟩
theorem rword_bytes (n : Nat) (w : World) (hn : n < 18446744073709551616) :
    Calls Try.prog 76 #[.int .u64 n] w fun e w' => e = .returned (.string (wordB n)) ∧ Below w.heap.size w w' :=
  refword 9 n w (by omega) hn (by omega)
end Go.Proofs.Yteaclacbdelinaa.Pen
namespace Go.Proofs.Yteaclacbdelinaa.Pen
open Go.RowKit Go.Lib

theorem ruint_bytes (n : Int) (w : World) (hn : n ≤ 9223372036854775807) :
    Calls Try.prog 59 #[.int .i64 n] w fun e w' => e = .returned (.string (uintB n)) ∧ Below w.heap.size w w' := by
  by_cases hneg : n < 0
  · have HN := Lib.hid (uintB_neg hneg)
    go_enter Try.func59, Try.ntmps59
    go_wp2_with fail
    go_ret
    exact ⟨ret_str (by rw [HN.out]), Below.refl _ _⟩
  · obtain ⟨m, rfl⟩ : ∃ m : Nat, n = m := ⟨n.toNat, by omega⟩
    have hd : decide ((m : Int) < 0) = false := by simp
    have HN := Lib.hid (uintB_nat m)
    clear hneg
    go_enter Try.func59, Try.ntmps59
    go_wp2_with fail
    refine (rword_bytes m _ (by omega)).mono ?_
    rintro e w' ⟨rfl, hb⟩
    go_wp2_with fail
    go_ret
    exact ⟨ret_str (by rw [HN.out]), hb⟩
end Go.Proofs.Yteaclacbdelinaa.Pen
namespace Go.Proofs.Yteaclacbdelinaa.Pen
open Go.RowKit Go.Lib

set_option maxRecDepth 100000 in
set_option maxHeartbeats 1000000 in
theorem written_any (n : Nat) (w : World) (hn : n < 18446744073709551616) :
    Calls Try.prog 58 #[.int .u64 n] w fun e w' => e = .returned (.string (wordB n)) ∧ Below w.heap.size w w' := by
  obtain ⟨i0, hi, hz0, hz1, hz2⟩ := info_parts info_u8
  go_enter Try.func58, Try.ntmps58
  go_wp2
  go_loopw [0, 3] (fun t v wr => ∃ (m : Nat) (acc : List UInt8), t = .int .u64 m ∧ wr.ownsRow w.heap.size 5 1 v acc.length (byteCells acc) ∧ acc.length ≤ 9 ∧ acc ++ wb (9 - acc.length) m = wb 9 n ∧ m < 2 * 128 ^ (9 - acc.length) ∧ Below w.heap.size w wr) (fun t _ _ => (intOf t).toNat)
  case atStart => exact ⟨n, [], rfl, World.ownsRow_nil _ _ _ _, by simp, rfl, by simp; omega, Below.refl _ _⟩
  case round =>
    obtain ⟨m, acc, rfl, hown, hacc, hwb, hm, hbel⟩ := hrel
    by_cases hlt : m < 128
    · have hcell : (UInt8.ofNat m).toNat = m := by simp; omega
      have HC := Lib.hid hcell; clear hcell
      have HW := Lib.hid hwb; clear hwb
      go_wp2_with (at_builtin; refine wpList_append_own _ rfl _ _ 68 rfl w.heap.size 5 i0 (.int .u8 0) 1 1 Try.underlying68 hi hz0 hz1 hz2 rfl (by decide) _ _ _ rfl (hown.alloc _) ⟨wr.heap.size, 0, none⟩ 1 1 [.int .u8 m] rfl rfl ?c1 ?c2 ?c3 ?c4 ?c5 ?_)
      case c1 =>
        intro j u hj
        match j, hj with
        | 0, hj => simp at hj; subst hj; simp [Addr.add]
      case c2 => intro u hu; simp at hu; subst hu; rfl
      case c3 => unfold maxLen; omega
      case c4 => omega
      case c5 => have := hbel.size; simp; omega
      intro v' w1 hown' hgrow _
      obtain ⟨g, cap, rfl, hge, hlt'⟩ := hown'.form (by omega)
      have hconv := conv_back w1 g cap (acc ++ [UInt8.ofNat m]) w.heap.size _ (by simpa [byteCells, HC.out] using hown')
      have hbel1 : Below w.heap.size w w1 := grown_below hbel hown hgrow
      go_wp2_with fail
      go_ret
      exact ⟨ret_str (by rw [wordB, ← HW.out, wb_small hlt]), hbel1⟩
    · obtain ⟨d, hd⟩ : ∃ d, 9 - acc.length = d + 1 := ⟨8 - acc.length, by
        rcases Nat.lt_or_ge acc.length 9 with h | h
        · omega
        · rw [show 9 - acc.length = 0 by omega] at hm; simp at hm; omega⟩
      obtain ⟨c, hc⟩ : ∃ c, 128 + m % 128 = c := ⟨_, rfl⟩
      have hc256 : c < 256 := by omega
      have hcell : (UInt8.ofNat c).toNat = c := by simp; omega
      have hmore : bits .or .u8 ((m : Int) % 256) 128 = (c : Int) := by have := u8_more m; rw [hc] at this; exact_mod_cast this
      have hm1 : m / 128 < 2 * 128 ^ d := by
        rw [hd, Nat.pow_succ] at hm
        exact Nat.div_lt_of_lt_mul (by omega)
      have hwb1 : (acc ++ [UInt8.ofNat c]) ++ wb d (m / 128) = wb 9 n := by
        rw [← hwb, hd, wb_big hlt, hc]; simp
      have hge : (128 : Int) ≤ (m : Int) := by omega
      have HC := Lib.hid hcell; clear hcell
      have HW := Lib.hid hwb1; clear hwb hwb1
      have HD := Lib.hid hd; clear hd hc
      have HM := Lib.hid hm1; clear hm1 hm
      go_wp2_with (at_builtin; refine wpList_append_own _ rfl _ _ 68 rfl w.heap.size 5 i0 (.int .u8 0) 1 1 Try.underlying68 hi hz0 hz1 hz2 rfl (by decide) _ _ _ rfl (hown.alloc _) ⟨wr.heap.size, 0, none⟩ 1 1 [.int .u8 c] rfl rfl ?c1 ?c2 ?c3 ?c4 ?c5 ?_)
      case c1 =>
        intro j u hj
        match j, hj with
        | 0, hj => simp at hj; subst hj; simp [Addr.add]
      case c2 => intro u hu; simp at hu; subst hu; rfl
      case c3 => unfold maxLen; omega
      case c4 => omega
      case c5 => have := hbel.size; simp; omega
      intro v' w1 hown' hgrow _
      have hbel1 : Below w.heap.size w w1 := grown_below hbel hown hgrow
      clear hgrow hown hbel
      go_wp2_with fail
      go_roundw
      case rel =>
        refine ⟨m / 128, acc ++ [UInt8.ofNat c], by simp, ?_, ?_, ?_, ?_, hbel1⟩
        · simpa [byteCells, HC.out] using hown'
        · have := HD.out; simp; omega
        · have := HD.out
          rw [show 9 - (acc ++ [UInt8.ofNat c]).length = d by simp; omega]; exact HW.out
        · have := HD.out
          rw [show 9 - (acc ++ [UInt8.ofNat c]).length = d by simp; omega]; exact HM.out
      case measure => simp [intOf]; omega
end Go.Proofs.Yteaclacbdelinaa.Pen
namespace Go.Proofs.Yteaclacbdelinaa.Pen
open Go.RowKit Go.Lib

theorem puint_any (n : Int) (w : World) (hn : n ≤ 9223372036854775807) :
    Calls Try.prog 41 #[.int .i64 n] w fun e w' => e = .returned (.string (uintB n)) ∧ Below w.heap.size w w' := by
  by_cases hneg : n < 0
  · have HN := Lib.hid (uintB_neg hneg)
    go_enter Try.func41, Try.ntmps41
    go_wp2_with fail
    go_ret
    exact ⟨ret_str (by rw [HN.out]), Below.refl _ _⟩
  · obtain ⟨m, rfl⟩ : ∃ m : Nat, n = m := ⟨n.toNat, by omega⟩
    have hd : decide ((m : Int) < 0) = false := by simp
    have HN := Lib.hid (uintB_nat m)
    clear hneg
    go_enter Try.func41, Try.ntmps41
    go_wp2_with fail
    refine (written_any m _ (by omega)).mono ?_
    rintro e w' ⟨rfl, hb⟩
    go_wp2_with fail
    go_ret
    exact ⟨ret_str (by rw [HN.out]), hb⟩
end Go.Proofs.Yteaclacbdelinaa.Pen
