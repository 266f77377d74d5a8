/- The document's reader walked. -/
import Derived.Test.YtidfoflbebampaaPenD
namespace Go.Proofs.Ytidfoflbebampaa
open Go.RowKit Go.Lib

def Rq (w : World) (Q : Nat) (S : ByteArray) (a : Nat) (bad : Bool) : Prop := w.heap[Q]? = some (.cells #[.string S, .int .i64 a, .bool bad] 31 (0, 0))
theorem Rq.cells {w : World} {Q : Nat} {S : ByteArray} {a : Nat} {bad : Bool} (h : Rq w Q S a bad) :
    w.cell? ⟨Q, 0, none⟩ = some (.string S) ∧ w.cell? ⟨Q, 1, none⟩ = some (.int .i64 a) ∧ w.cell? ⟨Q, 2, none⟩ = some (.bool bad) ∧ w.frozen? ⟨Q, 0, none⟩ = false ∧ w.frozen? ⟨Q, 1, none⟩ = false ∧ w.frozen? ⟨Q, 2, none⟩ = false :=
  ⟨cell_block h rfl, cell_block h rfl, cell_block h rfl, free_block 0 h, free_block 1 h, free_block 2 h⟩
theorem Rq.lt {w : World} {Q : Nat} {S : ByteArray} {a : Nat} {bad : Bool} (h : Rq w Q S a bad) : Q < w.heap.size := by
  rcases Nat.lt_or_ge Q w.heap.size with h' | h'
  · exact h'
  · unfold Rq at h; simp [Array.getElem?_eq_none h'] at h
theorem Rq.failed {w : World} {Q : Nat} {S : ByteArray} {a : Nat} {bad : Bool} (h : Rq w Q S a bad) : Rq (w.setCell ⟨Q, 2, none⟩ (.bool true)) Q S a true := by
  have h1 := heap_setCell_same w Q 2 _ _ (.bool true) h
  unfold Rq
  rw [h1]
  rfl
theorem Rq.moved {w : World} {Q : Nat} {S : ByteArray} {a : Nat} {bad : Bool} (h : Rq w Q S a bad) (c : Nat) : Rq (w.setCell ⟨Q, 1, none⟩ (.int .i64 c)) Q S c bad := by
  have h1 := heap_setCell_same w Q 1 _ _ (.int .i64 c) h
  unfold Rq
  rw [h1]
  rfl
theorem Rq.of_grown {w w' : World} {Q : Nat} {S : ByteArray} {a : Nat} {bad : Bool} {row : Option Nat} (h : Rq w Q S a bad) (hg : w.grownBy w' row) (hne : some Q ≠ row) : Rq w' Q S a bad :=
  (hg.block Q h.lt hne).trans h
theorem Rq.drewN {w : World} {Q : Nat} {S : ByteArray} {a : Nat} {bad : Bool} (h : Rq w Q S a bad) (n : Nat) : Rq (w.drewN n) Q S a bad := h

theorem fails_any (Q : Nat) (S : ByteArray) (a : Nat) (bad : Bool) (w : World) (h : Rq w Q S a bad) :
    Calls Try.prog 35 #[.pointer (some ⟨Q, 0, none⟩)] w fun e w' => e = .returned (.int .u64 0) ∧ Rq w' Q S a true ∧ w.grownBy w' (some Q) := by
  have H := h
  obtain ⟨c0, c1, c2, f0, f1, f2⟩ := h.cells
  clear h
  go_enter Try.func35, Try.ntmps35
  go_wp2
  go_ret
  exact ⟨rfl, H.failed, only_setCell (only_refl _ _) _ _⟩

set_option maxRecDepth 100000 in
set_option maxHeartbeats 1000000 in
theorem rword_bad (Q : Nat) (S : ByteArray) (a : Nat) (w : World) (h : Rq w Q S a true) :
    Calls Try.prog 34 #[.pointer (some ⟨Q, 0, none⟩)] w fun e w' => e = .returned (.int .u64 0) ∧ Rq w' Q S a true ∧ w.grownBy w' (some Q) := by
  have H := h
  obtain ⟨c0, c1, c2, f0, f1, f2⟩ := h.cells
  clear h
  go_enter Try.func34, Try.ntmps34
  go_wp2
  refine wp_loop_rounds 1 ?_
  rw [rounds_succ]
  go_wp2
  go_quiet (fail)
  go_wp2_with fail
  refine (fails_any Q S a true _ (H.drewN _)).mono ?_
  rintro e w1 ⟨rfl, H1, hg1⟩
  go_wp2_with fail
  go_ret
  exact ⟨rfl, H1, only_trans (only_drewN (only_refl _ _) _) hg1⟩
theorem radd_val (acc c k : Nat) (h : acc + c % 128 * 2 ^ (7 * k) < 18446744073709551616) :
    IntKind.u64.wrap ((acc : Int) + IntKind.u64.wrap ((c : Int) % 128 * 2 ^ (7 * k))) = ((acc + c % 128 * 2 ^ (7 * k) : Nat) : Int) := by
  have e : ((c : Int) % 128 * 2 ^ (7 * k)) = ((c % 128 * 2 ^ (7 * k) : Nat) : Int) := by simp
  rw [e, wrap_u64_, wrap_u64_, Int.emod_eq_of_lt (b := 18446744073709551616) (by omega) (by omega), Int.emod_eq_of_lt (by omega) (by omega)]
  simp
theorem radd_more (acc c k : Nat) (hk : k ≤ 8) (ha : acc < 2 ^ (7 * k)) (h1 : 128 ≤ c) (h2 : c < 256) :
    IntKind.u64.wrap ((acc : Int) + IntKind.u64.wrap ((c : Int) % 128 * 2 ^ (7 * k))) = ((acc + (c - 128) * 2 ^ (7 * k) : Nat) : Int) := by
  have e := pow_le k hk
  have e3 : (c - 128) * 2 ^ (7 * k) ≤ 127 * 2 ^ (7 * k) := Nat.mul_le_mul (by omega) (Nat.le_refl _)
  have e5 : c % 128 = c - 128 := by omega
  rw [radd_val acc c k (by rw [e5]; omega), e5]
theorem radd_last (acc c k : Nat) (hk : k ≤ 9) (ha : acc < 2 ^ (7 * k)) (h1 : c < 128) (h2 : ¬ (k = 9 ∧ 1 < c)) :
    IntKind.u64.wrap ((acc : Int) + IntKind.u64.wrap ((c : Int) % 128 * 2 ^ (7 * k))) = ((acc + c * 2 ^ (7 * k) : Nat) : Int) := by
  have e5 : c % 128 = c := by omega
  by_cases h9 : k = 9
  · subst h9
    have e : (2:Nat) ^ (7 * 9) = 9223372036854775808 := by decide
    have e3 : c * 2 ^ (7 * 9) ≤ 1 * 2 ^ (7 * 9) := Nat.mul_le_mul (by omega) (Nat.le_refl _)
    rw [radd_val acc c 9 (by rw [e5]; omega), e5]
  · have e := pow_le k (by omega)
    have e3 : c * 2 ^ (7 * k) ≤ 127 * 2 ^ (7 * k) := Nat.mul_le_mul (by omega) (Nat.le_refl _)
    rw [radd_val acc c k (by rw [e5]; omega), e5]
theorem Rq.moved_as {w : World} {Q : Nat} {S : ByteArray} {a : Nat} {bad : Bool} (h : Rq w Q S a bad) (c : Nat) (z : Int) (hz : z = c) : Rq (w.setCell ⟨Q, 1, none⟩ (.int .i64 z)) Q S c bad := by
  subst hz; exact h.moved c

set_option maxRecDepth 100000 in
set_option maxHeartbeats 4000000 in
theorem rword_good (Q : Nat) (S : ByteArray) (a : Nat) (w : World) (h : Rq w Q S a false) (ha : a ≤ S.size) (hS : S.size ≤ 4611686018427387904) (r : Option (Nat × Nat)) (hr : scan (fun k => gb S (a + k)) (S.size - a) 10 0 0 = r) :
    Calls Try.prog 34 #[.pointer (some ⟨Q, 0, none⟩)] w fun e w' => e = .returned (.int .u64 ((r.getD (0, 0)).1)) ∧ Rq w' Q S (a + (r.getD (0, 0)).2) r.isNone ∧ w.grownBy w' (some Q) := by
  have H := h
  obtain ⟨c0, c1, c2, f0, f1, f2⟩ := h.cells
  clear h
  have HR := Lib.hid hr; clear hr
  go_enter Try.func34, Try.ntmps34
  go_wp2
  go_loopw [3, 4] (fun n i wr => ∃ (k acc m : Nat), k ≤ 10 ∧ k ≤ S.size - a ∧ i = .int .i64 k ∧ n = .int .u64 acc ∧ wr = w.drewN m ∧ acc < 2 ^ (7 * k) ∧ scan (fun k => gb S (a + k)) (S.size - a) (10 - k) k acc = r) (fun _ i _ => 10 - (intOf i).toNat)
  case atStart => exact ⟨0, 0, 0, by omega, by omega, rfl, rfl, rfl, by simp, HR.out⟩
  case round =>
    obtain ⟨k, acc, m, hk, hks, rfl, rfl, rfl, hacc, hP⟩ := hrel
    have HP := Lib.hid hP; clear hP
    by_cases h10 : k < 10
    · by_cases h1 : k < S.size - a
      · have hi1 : (0 : Int) ≤ (a : Int) + (k : Int) := by omega
        have hi2 : (a : Int) + (k : Int) < (S.size : Int) := by omega
        have hd : decide ((S.size : Int) ≤ (a : Int) + (k : Int)) = false := by simp; omega
        obtain ⟨c, hc⟩ : ∃ c, S[a + k].toNat = c := ⟨_, rfl⟩
        have hg : gb S (a + k) = c := by rw [gb_at S (a + k) (by omega), hc]
        have hc256 : c < 256 := by have := gb_lt S (a + k); omega
        have hw2 : IntKind.u64.wrap (c : Int) = c := by rw [wrap_u64_]; omega
        have HG := Lib.hid hg; clear hg
        have HA := Lib.hid hacc; clear hacc
        by_cases hbad : (k = 9 ∧ 1 < c) ∨ (k = 9 ∧ c = 0) ∨ (k ≠ 9 ∧ 0 < k ∧ c = 0)
        · rcases hbad with ⟨h9, hc1⟩ | ⟨h9, hc0⟩ | ⟨h9, hk0, hc0⟩
          · have e9 : ((k : Int) == 9) = true := by simp; omega
            have e1 : decide ((1 : Int) < c) = true := by simp; omega
            have hrn : none = r := by
              rw [← HP.out]
              by_cases hlt : c < 128
              · exact (scan_bad _ _ _ _ h1 h10 (by show gb S (a + k) < 128; rw [HG.out]; omega) (by show (gb S (a + k) = 0 ∧ 0 < k) ∨ (k = 9 ∧ 1 < gb S (a + k)); rw [HG.out]; omega)).symm
              · rw [scan_more _ _ _ _ h1 h10 (by show ¬ gb S (a + k) < 128; rw [HG.out]; omega), scan_out _ _ _ _ (by omega)]
            have HN := Lib.hid hrn; clear hrn
            clear h9 hc1
            have hw1 : IntKind.i64.wrap ((a : Int) + (k : Int)) = (a : Int) + (k : Int) := IntWalk.i64_in _ (by omega)
            go_wp2_with fail
            go_quiet (fail)
            go_wp2_with fail
            go_quiet (fail)
            go_wp2_with fail
            refine (fails_any Q S a false _ (H.drewN _)).mono ?_
            rintro e w1 ⟨rfl, H1, hg1⟩
            go_wp2_with fail
            go_ret
            have hrn := HN.out
            subst hrn
            exact ⟨rfl, H1, only_trans (only_drewN (only_refl _ _) _) hg1⟩
          · have e9 : ((k : Int) == 9) = true := by simp; omega
            have e1 : decide ((1 : Int) < c) = false := by simp; omega
            have e0 : ((c : Int) == 0) = true := by simp; omega
            have ek : 0 < k := by omega
            have hrn : none = r := by rw [← HP.out]; exact (scan_bad _ _ _ _ h1 h10 (by show gb S (a + k) < 128; rw [HG.out]; omega) (by show (gb S (a + k) = 0 ∧ 0 < k) ∨ (k = 9 ∧ 1 < gb S (a + k)); rw [HG.out]; omega)).symm
            have HN := Lib.hid hrn; clear hrn
            clear h9 hc0
            have hw1 : IntKind.i64.wrap ((a : Int) + (k : Int)) = (a : Int) + (k : Int) := IntWalk.i64_in _ (by omega)
            go_wp2_with fail
            go_quiet (fail)
            go_wp2_with fail
            go_quiet (fail)
            go_wp2_with fail
            refine (fails_any Q S a false _ (H.drewN _)).mono ?_
            rintro e w1 ⟨rfl, H1, hg1⟩
            go_wp2_with fail
            go_ret
            have hrn := HN.out
            subst hrn
            exact ⟨rfl, H1, only_trans (only_drewN (only_refl _ _) _) hg1⟩
          · have e9 : ((k : Int) == 9) = false := by simp; omega
            have e0 : ((c : Int) == 0) = true := by simp; omega
            have ek : 0 < k := by omega
            have hrn : none = r := by rw [← HP.out]; exact (scan_bad _ _ _ _ h1 h10 (by show gb S (a + k) < 128; rw [HG.out]; omega) (by show (gb S (a + k) = 0 ∧ 0 < k) ∨ (k = 9 ∧ 1 < gb S (a + k)); rw [HG.out]; omega)).symm
            have HN := Lib.hid hrn; clear hrn
            clear h9 hc0
            have hw1 : IntKind.i64.wrap ((a : Int) + (k : Int)) = (a : Int) + (k : Int) := IntWalk.i64_in _ (by omega)
            go_wp2_with fail
            go_quiet (fail)
            go_wp2_with fail
            go_quiet (fail)
            go_wp2_with fail
            refine (fails_any Q S a false _ (H.drewN _)).mono ?_
            rintro e w1 ⟨rfl, H1, hg1⟩
            go_wp2_with fail
            go_ret
            have hrn := HN.out
            subst hrn
            exact ⟨rfl, H1, only_trans (only_drewN (only_refl _ _) _) hg1⟩
        · by_cases hlt : c < 128
          · rcases (show (k = 9 ∧ c = 1) ∨ (k ≠ 9 ∧ c = 0 ∧ k = 0) ∨ (k ≠ 9 ∧ c ≠ 0) by omega) with ⟨h9, hc1⟩ | ⟨h9, hc0, hk0⟩ | ⟨h9, hc0⟩
            · have e9 : ((k : Int) == 9) = true := by simp; omega
              have e1 : decide ((1 : Int) < c) = false := by simp; omega
              have e0 : ((c : Int) == 0) = false := by simp; omega
              have HL : Hid (¬ (k = 9 ∧ 1 < c)) := Lib.hid (by omega)
              have HM : Hid (¬ ((c = 0 ∧ 0 < k) ∨ (k = 9 ∧ 1 < c))) := Lib.hid (by omega)
              clear h9 hc1 hbad
              have hw1 : IntKind.i64.wrap ((a : Int) + (k : Int)) = (a : Int) + (k : Int) := IntWalk.i64_in _ (by omega)
              go_wp2_with fail
              go_quiet (fail)
              go_wp2_with fail
              go_quiet (fail)
              go_wp2_with fail
              go_ret
              have hrn : some (acc + c * 2 ^ (7 * k), k + 1) = r := by
                rw [← HP.out, scan_end _ _ _ _ h1 h10 (by show gb S (a + k) < 128; rw [HG.out]; exact hlt) (by show ¬ ((gb S (a + k) = 0 ∧ 0 < k) ∨ (k = 9 ∧ 1 < gb S (a + k))); rw [HG.out]; exact HM.out), HG.out]
              subst hrn
              exact ⟨ret_u64 (radd_last acc c k (by omega) HA.out hlt HL.out), Rq.moved_as (H.drewN _) _ _ (by simp; omega), only_setCell (only_drewN (only_refl _ _) _) _ _⟩
            · have e9 : ((k : Int) == 9) = false := by simp; omega
              have e0 : ((c : Int) == 0) = true := by simp; omega
              have ek : decide (0 < k) = false := by simp; omega
              have HL : Hid (¬ (k = 9 ∧ 1 < c)) := Lib.hid (by omega)
              have HM : Hid (¬ ((c = 0 ∧ 0 < k) ∨ (k = 9 ∧ 1 < c))) := Lib.hid (by omega)
              clear h9 hc0 hk0 hbad
              have hw1 : IntKind.i64.wrap ((a : Int) + (k : Int)) = (a : Int) + (k : Int) := IntWalk.i64_in _ (by omega)
              go_wp2_with fail
              go_quiet (fail)
              go_wp2_with fail
              go_quiet (fail)
              go_wp2_with fail
              go_ret
              have hrn : some (acc + c * 2 ^ (7 * k), k + 1) = r := by
                rw [← HP.out, scan_end _ _ _ _ h1 h10 (by show gb S (a + k) < 128; rw [HG.out]; exact hlt) (by show ¬ ((gb S (a + k) = 0 ∧ 0 < k) ∨ (k = 9 ∧ 1 < gb S (a + k))); rw [HG.out]; exact HM.out), HG.out]
              subst hrn
              exact ⟨ret_u64 (radd_last acc c k (by omega) HA.out hlt HL.out), Rq.moved_as (H.drewN _) _ _ (by simp; omega), only_setCell (only_drewN (only_refl _ _) _) _ _⟩
            · have e9 : ((k : Int) == 9) = false := by simp; omega
              have e0 : ((c : Int) == 0) = false := by simp; omega
              have HL : Hid (¬ (k = 9 ∧ 1 < c)) := Lib.hid (by omega)
              have HM : Hid (¬ ((c = 0 ∧ 0 < k) ∨ (k = 9 ∧ 1 < c))) := Lib.hid (by omega)
              clear h9 hc0 hbad
              have hw1 : IntKind.i64.wrap ((a : Int) + (k : Int)) = (a : Int) + (k : Int) := IntWalk.i64_in _ (by omega)
              go_wp2_with fail
              go_quiet (fail)
              go_wp2_with fail
              go_quiet (fail)
              go_wp2_with fail
              go_ret
              have hrn : some (acc + c * 2 ^ (7 * k), k + 1) = r := by
                rw [← HP.out, scan_end _ _ _ _ h1 h10 (by show gb S (a + k) < 128; rw [HG.out]; exact hlt) (by show ¬ ((gb S (a + k) = 0 ∧ 0 < k) ∨ (k = 9 ∧ 1 < gb S (a + k))); rw [HG.out]; exact HM.out), HG.out]
              subst hrn
              exact ⟨ret_u64 (radd_last acc c k (by omega) HA.out hlt HL.out), Rq.moved_as (H.drewN _) _ _ (by simp; omega), only_setCell (only_drewN (only_refl _ _) _) _ _⟩
          · have e9 : ((k : Int) == 9) = false := by simp; omega
            have e0 : ((c : Int) == 0) = false := by simp; omega
            have hk8 : k ≤ 8 := by omega
            have hge : (128 : Int) ≤ (c : Int) := by omega
            clear hbad
            have hw1 : IntKind.i64.wrap ((a : Int) + (k : Int)) = (a : Int) + (k : Int) := IntWalk.i64_in _ (by omega)
            go_wp2_with fail
            go_quiet (fail)
            go_wp2_with fail
            go_quiet (fail)
            go_wp2_with fail
            go_roundw
            case rel =>
              refine ⟨k + 1, acc + (c - 128) * 2 ^ (7 * k), _, by omega, by omega, by go_num, ?_, rfl, ?_, ?_⟩
              · rw [radd_more acc c k hk8 HA.out (by omega) hc256]
              · exact (or_more acc c k hk8 HA.out (by omega) hc256).2
              · rw [← HP.out, scan_more _ _ _ _ h1 h10 (by show ¬ gb S (a + k) < 128; rw [HG.out]; exact hlt), HG.out]
            case measure => simp [intOf]; omega
      · have hd : decide ((S.size : Int) ≤ (a : Int) + (k : Int)) = true := by simp; omega
        have hrn : none = r := by rw [← HP.out]; exact (scan_out _ _ _ _ (by omega)).symm
        have HN := Lib.hid hrn; clear hrn hacc
        have hw1 : IntKind.i64.wrap ((a : Int) + (k : Int)) = (a : Int) + (k : Int) := IntWalk.i64_in _ (by omega)
        go_wp2_with fail
        go_quiet (fail)
        go_wp2_with fail
        refine (fails_any Q S a false _ (H.drewN _)).mono ?_
        rintro e w1 ⟨rfl, H1, hg1⟩
        go_wp2_with fail
        go_ret
        have hrn := HN.out
        subst hrn
        exact ⟨rfl, H1, only_trans (only_drewN (only_refl _ _) _) hg1⟩
    · have hrn : none = r := by rw [← HP.out]; exact (scan_out _ _ _ _ (by omega)).symm
      have HN := Lib.hid hrn; clear hrn hacc
      go_wp2_with fail
      refine (fails_any Q S a false _ (H.drewN _)).mono ?_
      rintro e w1 ⟨rfl, H1, hg1⟩
      go_wp2_with fail
      go_ret
      have hrn := HN.out
      subst hrn
      exact ⟨rfl, H1, only_trans (only_drewN (only_refl _ _) _) hg1⟩
end Go.Proofs.Ytidfoflbebampaa
