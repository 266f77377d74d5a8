/- The bytes of numbers and texts: the document's. -/
import Derived.Test.YtidfoflbebampaaPenH
import Derived.Deep.RegionWith
namespace Go.Proofs.Ytidfoflbebampaa
open Go.RowKit Go.Lib

theorem conv_one (c : Nat) (hc : c < 256) (w : World) (b cap : Nat) (h : w.cell? ⟨b, 0, none⟩ = some (.int .u8 c)) :
    (convert 50 9 (.slice (some ⟨b, 0, none⟩) 1 cap)).run Try.prog w = .ok (.string ⟨#[UInt8.ofNat c]⟩) w := by
  refine run_convert_bytes_back w 50 9 5 ⟨b, 0, none⟩ cap [UInt8.ofNat c] Try.underlying50 Try.underlying5 Try.underlying9 (fun j hj => ?_)
  obtain rfl : j = 0 := by simp at hj; omega
  have e : (UInt8.ofNat c).toNat = c := by simp; omega
  simpa [Addr.add, e] using h
theorem bcell {W w1 : World} (hb : Below W.heap.size W w1) : (∀ b o, b < W.heap.size → w1.cell? ⟨b, o, none⟩ = W.cell? ⟨b, o, none⟩) ∧ (∀ b o, b < W.heap.size → w1.frozen? ⟨b, o, none⟩ = W.frozen? ⟨b, o, none⟩) :=
  ⟨fun b o h => hb.cell (p := ⟨b, o, none⟩) h, fun b o h => hb.frozen (p := ⟨b, o, none⟩) h⟩

theorem cat_one {k n c m : Nat} (hW : wb (k + 1) n = UInt8.ofNat (128 + n % 128) :: wb k (n / 128)) (hc : 128 + n % 128 = c) (hm : n / 128 = m) : (⟨#[UInt8.ofNat c]⟩ : ByteArray) ++ ⟨(wb k m).toArray⟩ = ⟨(wb (k + 1) n).toArray⟩ := by
  rw [hW, hc, hm]
  exact ByteArray.mk_append_mk [UInt8.ofNat c] (wb k m)
theorem below_a {w w' : World} {o : Obj} (hb : Below (w.alloc o).drew.heap.size (w.alloc o).drew w') : Below w.heap.size w w' :=
  (((Below.refl _ _).alloc (Nat.le_refl _) o).drew).trans (hb.mono (by simp))
theorem below_b {w w' : World} {o : Obj} (hb : Below w.drew.heap.size w.drew w') : Below w.heap.size w (w'.alloc o) :=
  ((Below.refl _ w).drew.trans hb).alloc (by have := hb.size; simpa using this) o
set_option maxRecDepth 100000 in
set_option maxHeartbeats 2000000 in
theorem refword (k : Nat) : ∀ (n : Nat) (w : World), n < 2 * 128 ^ k → n < 18446744073709551616 → k ≤ 9 →
    Calls Try.prog 29 #[.int .u64 n] w fun e w' => e = .returned (.string ⟨(wb k n).toArray⟩) ∧ Below w.heap.size w w' := by
  induction k with
  | zero =>
    intro n w h1 h2 _
    have hlt : n < 128 := by simp at h1; omega
    have hconv := conv_one n (by omega) (w.alloc (.cells #[.int .u8 n] 5)) w.heap.size 1 (by simp)
    go_enter Try.func29, Try.ntmps29
    go_wp2_with fail
    go_ret
    exact ⟨rfl, (Below.refl _ _).alloc (Nat.le_refl _) _⟩
  | succ k ih =>
    intro n w h1 h2 hk
    by_cases hlt : n < 128
    · have hconv := conv_one n (by omega) (w.alloc (.cells #[.int .u8 n] 5)) w.heap.size 1 (by simp)
      have HW := Lib.hid (wb_small (k := k + 1) hlt)
      clear ih
      go_enter Try.func29, Try.ntmps29
      go_wp2_with fail
      go_ret
      exact ⟨ret_str (by rw [HW.out]), (Below.refl _ _).alloc (Nat.le_refl _) _⟩
    · have HW := Lib.hid (wb_big (k := k) hlt)
      have hge : (128 : Int) ≤ (n : Int) := by omega
      obtain ⟨c, hc⟩ : ∃ c, 128 + n % 128 = c := ⟨_, rfl⟩
      obtain ⟨m, hm⟩ : ∃ m, n / 128 = m := ⟨_, rfl⟩
      have hm1 : m < 2 * 128 ^ k := by
        rw [← hm]; rw [Nat.pow_succ] at h1
        exact Nat.div_lt_of_lt_mul (by omega)
      have IH := Lib.hid (fun w => ih m w hm1 (by omega) (by omega))
      clear ih
      have hc256 : c < 256 := by omega
      obtain ⟨r, hr⟩ : ∃ r, n % 128 = r := ⟨_, rfl⟩
      have hrt : (n : Int).tmod 128 = (r : Int) := by rw [Int.tmod_eq_emod_of_nonneg (by omega)]; omega
      have hci : IntKind.u64.wrap (128 + (r : Int)) = (c : Int) := by rw [wrap_u64_]; omega
      have hmw : IntKind.u64.wrap (m : Int) = (m : Int) := by rw [wrap_u64_]; omega
      have hcu : IntKind.u8.wrap (c : Int) = (c : Int) := by simp [IntKind.wrap, IntKind.bits, IntKind.signed]; omega
      have hmi : (n : Int) / 128 = (m : Int) := by omega
      have hlen := wb_len k m
      have hconv := conv_one c hc256
      have HC := Lib.hid hc; have HM := Lib.hid hm
      have HM1 := Lib.hid hm1
      clear hc hm hm1 hr
      go_enter Try.func29, Try.ntmps29
      go_wp2_with fail
      go_region_with (go_at_call 29; refine (IH.out _).mono ?_; rintro e w' ⟨rfl, hb⟩; obtain ⟨hcell, hfroz⟩ := bcell hb)
      all_goals
        go_wp2_with fail
        go_ret
        exact ⟨ret_str (cat_one HW.out HC.out HM.out), by first | exact below_a hb | exact below_b hb⟩
theorem rword_bytes (n : Nat) (w : World) (hn : n < 18446744073709551616) :
    Calls Try.prog 29 #[.int .u64 n] w fun e w' => e = .returned (.string (wordB n)) ∧ Below w.heap.size w w' :=
  refword 9 n w (by omega) hn (by omega)

theorem uintB_neg {n : Int} (h : n < 0) : uintB n = ⟨#[]⟩ := by unfold uintB; rw [if_pos h]
theorem uintB_nat (n : Nat) : uintB n = wordB n := by unfold uintB; rw [if_neg (by omega)]; rfl
theorem puint_any (n : Int) (w : World) (hn : n ≤ 9223372036854775807) :
    Calls Try.prog 8 #[.int .i64 n] w fun e w' => e = .returned (.string (uintB n)) ∧ Below w.heap.size w w' := by
  by_cases hneg : n < 0
  · have HN := Lib.hid (uintB_neg hneg)
    go_enter Try.func8, Try.ntmps8
    go_wp2_with fail
    go_ret
    exact ⟨ret_str (by rw [HN.out]), Below.refl _ _⟩
  · obtain ⟨m, rfl⟩ : ∃ m : Nat, n = m := ⟨n.toNat, by omega⟩
    have hd : decide ((m : Int) < 0) = false := by simp
    have HN := Lib.hid (uintB_nat m)
    clear hneg
    go_enter Try.func8, Try.ntmps8
    go_wp2_with fail
    refine (written_any m _ (by omega)).mono ?_
    rintro e w' ⟨rfl, hb⟩
    go_wp2_with fail
    go_ret
    exact ⟨ret_str (by rw [HN.out]), hb⟩
theorem ruint_bytes (n : Int) (w : World) (hn : n ≤ 9223372036854775807) :
    Calls Try.prog 9 #[.int .i64 n] w fun e w' => e = .returned (.string (uintB n)) ∧ Below w.heap.size w w' := by
  by_cases hneg : n < 0
  · have HN := Lib.hid (uintB_neg hneg)
    go_enter Try.func9, Try.ntmps9
    go_wp2_with fail
    go_ret
    exact ⟨ret_str (by rw [HN.out]), Below.refl _ _⟩
  · obtain ⟨m, rfl⟩ : ∃ m : Nat, n = m := ⟨n.toNat, by omega⟩
    have hd : decide ((m : Int) < 0) = false := by simp
    have HN := Lib.hid (uintB_nat m)
    clear hneg
    go_enter Try.func9, Try.ntmps9
    go_wp2_with fail
    refine (rword_bytes m _ (by omega)).mono ?_
    rintro e w' ⟨rfl, hb⟩
    go_wp2_with fail
    go_ret
    exact ⟨ret_str (by rw [HN.out]), hb⟩
theorem pint_any (n : Int) (w : World) (a1 : -9223372036854775808 ≤ n) (a2 : n ≤ 9223372036854775807) :
    Calls Try.prog 10 #[.int .i64 n] w fun e w' => e = .returned (.string (intB n)) ∧ Below w.heap.size w w' := by
  go_enter Try.func10, Try.ntmps10
  go_wp2_with fail
  refine (place_any n _ a1 a2).mono ?_
  rintro e w' ⟨rfl, rfl⟩
  go_wp2_with fail
  refine (written_any _ _ (placeOf_lt n a1 a2)).mono ?_
  rintro e w' ⟨rfl, hb⟩
  go_wp2_with fail
  go_ret
  exact ⟨rfl, hb⟩
theorem rint_bytes (n : Int) (w : World) (a1 : -9223372036854775808 ≤ n) (a2 : n ≤ 9223372036854775807) :
    Calls Try.prog 11 #[.int .i64 n] w fun e w' => e = .returned (.string (intB n)) ∧ Below w.heap.size w w' := by
  go_enter Try.func11, Try.ntmps11
  go_wp2_with fail
  refine (rplace_any n _ a1 a2).mono ?_
  rintro e w' ⟨rfl, rfl⟩
  go_wp2_with fail
  refine (rword_bytes _ _ (placeOf_lt n a1 a2)).mono ?_
  rintro e w' ⟨rfl, hb⟩
  go_wp2_with fail
  go_ret
  exact ⟨rfl, hb⟩
theorem uintB_size (n : Int) : (uintB n).size ≤ 10 := by
  unfold uintB; split
  · exact Nat.zero_le _
  · exact (wordB_size _).2
theorem ptext_any (s : ByteArray) (w : World) (hs : s.size ≤ 4611686018427387904) :
    Calls Try.prog 12 #[.string s] w fun e w' => e = .returned (.string (textB s)) ∧ Below w.heap.size w w' := by
  have hu := uintB_size (s.size : Int)
  go_enter Try.func12, Try.ntmps12
  go_wp2_with fail
  refine (puint_any _ _ (by omega)).mono ?_
  rintro e w' ⟨rfl, hb⟩
  go_wp2_with fail
  go_ret
  exact ⟨rfl, hb⟩
theorem rtext_bytes (s : ByteArray) (w : World) (hs : s.size ≤ 4611686018427387904) :
    Calls Try.prog 13 #[.string s] w fun e w' => e = .returned (.string (textB s)) ∧ Below w.heap.size w w' := by
  have hu := uintB_size (s.size : Int)
  go_enter Try.func13, Try.ntmps13
  go_wp2_with fail
  refine (ruint_bytes _ _ (by omega)).mono ?_
  rintro e w' ⟨rfl, hb⟩
  go_wp2_with fail
  go_ret
  exact ⟨rfl, hb⟩
end Go.Proofs.Ytidfoflbebampaa
