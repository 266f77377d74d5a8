/- The document's reader in memory; its word. The document's reader, and what is left; its word, whatever stands there. Numbers of what follows, said without a program. -/
import Derived.Test.YtghlgmlelipjfaaZJobMath
namespace Go.Proofs.Ytghlgmlelipjfaa.Pen
open Go.RowKit Go.Lib

def Rq (w : World) (Q : Nat) (S : ByteArray) (a : Nat) (bad : Bool) : Prop := w.heap[Q]? = some (.cells #[.string S, .int .i64 a, .bool bad] 67 (0, 0))
theorem Rq.cells {w : World} {Q : Nat} {S : ByteArray} {a : Nat} {bad : Bool} (h : Rq w Q S a bad) :
    w.cell? ⟨Q, 0, none⟩ = some (.string S) ∧ w.cell? ⟨Q, 1, none⟩ = some (.int .i64 a) ∧ w.cell? ⟨Q, 2, none⟩ = some (.bool bad) ∧ w.frozen? ⟨Q, 0, none⟩ = false ∧ w.frozen? ⟨Q, 1, none⟩ = false ∧ w.frozen? ⟨Q, 2, none⟩ = false :=
  ⟨cell_block h rfl, cell_block h rfl, cell_block h rfl, free_block 0 h, free_block 1 h, free_block 2 h⟩
theorem Rq.lt {w : World} {Q : Nat} {S : ByteArray} {a : Nat} {bad : Bool} (h : Rq w Q S a bad) : Q < w.heap.size := by
  rcases Nat.lt_or_ge Q w.heap.size with h' | h'
  · exact h'
  · unfold Rq at h; simp [Array.getElem?_eq_none h'] at h
theorem Rq.failed {w : World} {Q : Nat} {S : ByteArray} {a : Nat} {bad : Bool} (h : Rq w Q S a bad) : Rq (w.setCell ⟨Q, 2, none⟩ (.bool true)) Q S a true := by
  have h1 := heap_setCell_same w Q 2 _ _ (.bool true) h
  unfold Rq
  rw [h1]
  rfl
theorem Rq.moved {w : World} {Q : Nat} {S : ByteArray} {a : Nat} {bad : Bool} (h : Rq w Q S a bad) (c : Nat) : Rq (w.setCell ⟨Q, 1, none⟩ (.int .i64 c)) Q S c bad := by
  have h1 := heap_setCell_same w Q 1 _ _ (.int .i64 c) h
  unfold Rq
  rw [h1]
  rfl
theorem Rq.of_grown {w w' : World} {Q : Nat} {S : ByteArray} {a : Nat} {bad : Bool} {row : Option Nat} (h : Rq w Q S a bad) (hg : w.grownBy w' row) (hne : some Q ≠ row) : Rq w' Q S a bad :=
  (hg.block Q h.lt hne).trans h
theorem Rq.drewN {w : World} {Q : Nat} {S : ByteArray} {a : Nat} {bad : Bool} (h : Rq w Q S a bad) (n : Nat) : Rq (w.drewN n) Q S a bad := h
theorem fails_any (Q : Nat) (S : ByteArray) (a : Nat) (bad : Bool) (w : World) (h : Rq w Q S a bad) :
    Calls Try.prog 74 #[.pointer (some ⟨Q, 0, none⟩)] w fun e w' => e = .returned (.int .u64 0) ∧ Rq w' Q S a true ∧ w.grownBy w' (some Q) := by
  have H := h
  obtain ⟨c0, c1, c2, f0, f1, f2⟩ := h.cells
  clear h
  go_enter Try.func74, Try.ntmps74
  go_wp2
  go_ret
  exact ⟨rfl, H.failed, only_setCell (only_refl _ _) _ _⟩
set_option maxRecDepth 100000 in
set_option maxHeartbeats 1000000 in
theorem rword_bad (Q : Nat) (S : ByteArray) (a : Nat) (w : World) (h : Rq w Q S a true) :
    Calls Try.prog 73 #[.pointer (some ⟨Q, 0, none⟩)] w fun e w' => e = .returned (.int .u64 0) ∧ Rq w' Q S a true ∧ w.grownBy w' (some Q) := by
  have H := h
  obtain ⟨c0, c1, c2, f0, f1, f2⟩ := h.cells
  clear h
  go_enter Try.func73, Try.ntmps73
  go_wp2
  refine wp_loop_rounds 1 ?_
  rw [rounds_succ]
  go_wp2
  go_quiet (fail)
  go_wp2_with fail
  refine (fails_any Q S a true _ (H.drewN _)).mono ?_
  rintro e w1 ⟨rfl, H1, hg1⟩
  go_wp2_with fail
  go_ret
  exact ⟨rfl, H1, only_trans (only_drewN (only_refl _ _) _) hg1⟩
theorem radd_val (acc c k : Nat) (h : acc + c % 128 * 2 ^ (7 * k) < 18446744073709551616) :
    IntKind.u64.wrap ((acc : Int) + IntKind.u64.wrap ((c : Int) % 128 * 2 ^ (7 * k))) = ((acc + c % 128 * 2 ^ (7 * k) : Nat) : Int) := by
  have e : ((c : Int) % 128 * 2 ^ (7 * k)) = ((c % 128 * 2 ^ (7 * k) : Nat) : Int) := by simp
  rw [e, wrap_u64_, wrap_u64_, Int.emod_eq_of_lt (b := 18446744073709551616) (by omega) (by omega), Int.emod_eq_of_lt (by omega) (by omega)]
  simp
theorem radd_more (acc c k : Nat) (hk : k ≤ 8) (ha : acc < 2 ^ (7 * k)) (h1 : 128 ≤ c) (h2 : c < 256) :
    IntKind.u64.wrap ((acc : Int) + IntKind.u64.wrap ((c : Int) % 128 * 2 ^ (7 * k))) = ((acc + (c - 128) * 2 ^ (7 * k) : Nat) : Int) := by
  have e := pow_le k hk
  have e3 : (c - 128) * 2 ^ (7 * k) ≤ 127 * 2 ^ (7 * k) := Nat.mul_le_mul (by omega) (Nat.le_refl _)
  have e5 : c % 128 = c - 128 := by omega
  rw [radd_val acc c k (by rw [e5]; omega), e5]
theorem radd_last (acc c k : Nat) (hk : k ≤ 9) (ha : acc < 2 ^ (7 * k)) (h1 : c < 128) (h2 : ¬ (k = 9 ∧ 1 < c)) :
    IntKind.u64.wrap ((acc : Int) + IntKind.u64.wrap ((c : Int) % 128 * 2 ^ (7 * k))) = ((acc + c * 2 ^ (7 * k) : Nat) : Int) := by
  have e5 : c % 128 = c := by omega
  by_cases h9 : k = 9
  · subst h9
    have e : (2:Nat) ^ (7 * 9) = 9223372036854775808 := by decide
    have e3 : c * 2 ^ (7 * 9) ≤ 1 * 2 ^ (7 * 9) := Nat.mul_le_mul (by omega) (Nat.le_refl _)
    rw [radd_val acc c 9 (by rw [e5]; omega), e5]
  · have e := pow_le k (by omega)
    have e3 : c * 2 ^ (7 * k) ≤ 127 * 2 ^ (7 * k) := Nat.mul_le_mul (by omega) (Nat.le_refl _)
    rw [radd_val acc c k (by rw [e5]; omega), e5]
theorem Rq.moved_as {w : World} {Q : Nat} {S : ByteArray} {a : Nat} {bad : Bool} (h : Rq w Q S a bad) (c : Nat) (z : Int) (hz : z = c) : Rq (w.setCell ⟨Q, 1, none⟩ (.int .i64 z)) Q S c bad := by
  subst hz; exact h.moved c
set_option maxRecDepth 100000 in
set_option maxHeartbeats 4000000 in
theorem rword_good (Q : Nat) (S : ByteArray) (a : Nat) (w : World) (h : Rq w Q S a false) (ha : a ≤ S.size) (hS : S.size ≤ 4611686018427387904) (r : Option (Nat × Nat)) (hr : scan (fun k => gb S (a + k)) (S.size - a) 10 0 0 = r) :
    Calls Try.prog 73 #[.pointer (some ⟨Q, 0, none⟩)] w fun e w' => e = .returned (.int .u64 ((r.getD (0, 0)).1)) ∧ Rq w' Q S (a + (r.getD (0, 0)).2) r.isNone ∧ w.grownBy w' (some Q) := by
  have H := h
  obtain ⟨c0, c1, c2, f0, f1, f2⟩ := h.cells
  clear h
  have HR := Lib.hid hr; clear hr
  go_enter Try.func73, Try.ntmps73
  go_wp2
  go_loopw [3, 4] (fun n i wr => ∃ (k acc m : Nat), k ≤ 10 ∧ k ≤ S.size - a ∧ i = .int .i64 k ∧ n = .int .u64 acc ∧ wr = w.drewN m ∧ acc < 2 ^ (7 * k) ∧ scan (fun k => gb S (a + k)) (S.size - a) (10 - k) k acc = r) (fun _ i _ => 10 - (intOf i).toNat)
  case atStart => exact ⟨0, 0, 0, by omega, by omega, rfl, rfl, rfl, by simp, HR.out⟩
  case round =>
    obtain ⟨k, acc, m, hk, hks, rfl, rfl, rfl, hacc, hP⟩ := hrel
    have HP := Lib.hid hP; clear hP
    by_cases h10 : k < 10
    · by_cases h1 : k < S.size - a
      · have hi1 : (0 : Int) ≤ (a : Int) + (k : Int) := by omega
        have hi2 : (a : Int) + (k : Int) < (S.size : Int) := by omega
        have hd : decide ((S.size : Int) ≤ (a : Int) + (k : Int)) = false := by simp; omega
        obtain ⟨c, hc⟩ : ∃ c, S[a + k].toNat = c := ⟨_, rfl⟩
        have hg : gb S (a + k) = c := by rw [gb_at S (a + k) (by omega), hc]
        have hc256 : c < 256 := by have := gb_lt S (a + k); omega
        have hw2 : IntKind.u64.wrap (c : Int) = c := by rw [wrap_u64_]; omega
        have HG := Lib.hid hg; clear hg
        have HA := Lib.hid hacc; clear hacc
        by_cases hbad : (k = 9 ∧ 1 < c) ∨ (k = 9 ∧ c = 0) ∨ (k ≠ 9 ∧ 0 < k ∧ c = 0)
        · rcases hbad with ⟨h9, hc1⟩ | ⟨h9, hc0⟩ | ⟨h9, hk0, hc0⟩
          · have e9 : ((k : Int) == 9) = true := by simp; omega
            have e1 : decide ((1 : Int) < c) = true := by simp; omega
            have hrn : none = r := by
              rw [← HP.out]
              by_cases hlt : c < 128
              · exact (scan_bad _ _ _ _ h1 h10 (by show gb S (a + k) < 128; rw [HG.out]; omega) (by show (gb S (a + k) = 0 ∧ 0 < k) ∨ (k = 9 ∧ 1 < gb S (a + k)); rw [HG.out]; omega)).symm
              · rw [scan_more _ _ _ _ h1 h10 (by show ¬ gb S (a + k) < 128; rw [HG.out]; omega), scan_out _ _ _ _ (by omega)]
            have HN := Lib.hid hrn; clear hrn
            clear h9 hc1
            have hw1 : IntKind.i64.wrap ((a : Int) + (k : Int)) = (a : Int) + (k : Int) := IntWalk.i64_in _ (by omega)
            go_wp2_with fail
            go_quiet (fail)
            go_wp2_with fail
            go_quiet (fail)
            go_wp2_with fail
            refine (fails_any Q S a false _ (H.drewN _)).mono ?_
            rintro e w1 ⟨rfl, H1, hg1⟩
            go_wp2_with fail
            go_ret
            have hrn := HN.out
            subst hrn
            exact ⟨rfl, H1, only_trans (only_drewN (only_refl _ _) _) hg1⟩
          · have e9 : ((k : Int) == 9) = true := by simp; omega
            have e1 : decide ((1 : Int) < c) = false := by simp; omega
            have e0 : ((c : Int) == 0) = true := by simp; omega
            have ek : 0 < k := by omega
            have hrn : none = r := by rw [← HP.out]; exact (scan_bad _ _ _ _ h1 h10 (by show gb S (a + k) < 128; rw [HG.out]; omega) (by show (gb S (a + k) = 0 ∧ 0 < k) ∨ (k = 9 ∧ 1 < gb S (a + k)); rw [HG.out]; omega)).symm
            have HN := Lib.hid hrn; clear hrn
            clear h9 hc0
            have hw1 : IntKind.i64.wrap ((a : Int) + (k : Int)) = (a : Int) + (k : Int) := IntWalk.i64_in _ (by omega)
            go_wp2_with fail
            go_quiet (fail)
            go_wp2_with fail
            go_quiet (fail)
            go_wp2_with fail
            refine (fails_any Q S a false _ (H.drewN _)).mono ?_
            rintro e w1 ⟨rfl, H1, hg1⟩
            go_wp2_with fail
            go_ret
            have hrn := HN.out
            subst hrn
            exact ⟨rfl, H1, only_trans (only_drewN (only_refl _ _) _) hg1⟩
          · have e9 : ((k : Int) == 9) = false := by simp; omega
            have e0 : ((c : Int) == 0) = true := by simp; omega
            have ek : 0 < k := by omega
            have hrn : none = r := by rw [← HP.out]; exact (scan_bad _ _ _ _ h1 h10 (by show gb S (a + k) < 128; rw [HG.out]; omega) (by show (gb S (a + k) = 0 ∧ 0 < k) ∨ (k = 9 ∧ 1 < gb S (a + k)); rw [HG.out]; omega)).symm
            have HN := Lib.hid hrn; clear hrn
            clear h9 hc0
            have hw1 : IntKind.i64.wrap ((a : Int) + (k : Int)) = (a : Int) + (k : Int) := IntWalk.i64_in _ (by omega)
            go_wp2_with fail
            go_quiet (fail)
            go_wp2_with fail
            go_quiet (fail)
            go_wp2_with fail
            refine (fails_any Q S a false _ (H.drewN _)).mono ?_
            rintro e w1 ⟨rfl, H1, hg1⟩
            go_wp2_with fail
            go_ret
            have hrn := HN.out
            subst hrn
            exact ⟨rfl, H1, only_trans (only_drewN (only_refl _ _) _) hg1⟩
        · by_cases hlt : c < 128
          · rcases (show (k = 9 ∧ c = 1) ∨ (k ≠ 9 ∧ c = 0 ∧ k = 0) ∨ (k ≠ 9 ∧ c ≠ 0) by omega) with ⟨h9, hc1⟩ | ⟨h9, hc0, hk0⟩ | ⟨h9, hc0⟩
            · have e9 : ((k : Int) == 9) = true := by simp; omega
              have e1 : decide ((1 : Int) < c) = false := by simp; omega
              have e0 : ((c : Int) == 0) = false := by simp; omega
              have HL : Hid (¬ (k = 9 ∧ 1 < c)) := Lib.hid (by omega)
              have HM : Hid (¬ ((c = 0 ∧ 0 < k) ∨ (k = 9 ∧ 1 < c))) := Lib.hid (by omega)
              clear h9 hc1 hbad
              have hw1 : IntKind.i64.wrap ((a : Int) + (k : Int)) = (a : Int) + (k : Int) := IntWalk.i64_in _ (by omega)
              go_wp2_with fail
              go_quiet (fail)
              go_wp2_with fail
              go_quiet (fail)
              go_wp2_with fail
              go_ret
              have hrn : some (acc + c * 2 ^ (7 * k), k + 1) = r := by
                rw [← HP.out, scan_end _ _ _ _ h1 h10 (by show gb S (a + k) < 128; rw [HG.out]; exact hlt) (by show ¬ ((gb S (a + k) = 0 ∧ 0 < k) ∨ (k = 9 ∧ 1 < gb S (a + k))); rw [HG.out]; exact HM.out), HG.out]
              subst hrn
              exact ⟨ret_u64 (radd_last acc c k (by omega) HA.out hlt HL.out), Rq.moved_as (H.drewN _) _ _ (by simp; omega), only_setCell (only_drewN (only_refl _ _) _) _ _⟩
            · have e9 : ((k : Int) == 9) = false := by simp; omega
              have e0 : ((c : Int) == 0) = true := by simp; omega
              have ek : decide (0 < k) = false := by simp; omega
              have HL : Hid (¬ (k = 9 ∧ 1 < c)) := Lib.hid (by omega)
              have HM : Hid (¬ ((c = 0 ∧ 0 < k) ∨ (k = 9 ∧ 1 < c))) := Lib.hid (by omega)
              clear h9 hc0 hk0 hbad
              have hw1 : IntKind.i64.wrap ((a : Int) + (k : Int)) = (a : Int) + (k : Int) := IntWalk.i64_in _ (by omega)
              go_wp2_with fail
              go_quiet (fail)
              go_wp2_with fail
              go_quiet (fail)
              go_wp2_with fail
              go_ret
              have hrn : some (acc + c * 2 ^ (7 * k), k + 1) = r := by
                rw [← HP.out, scan_end _ _ _ _ h1 h10 (by show gb S (a + k) < 128; rw [HG.out]; exact hlt) (by show ¬ ((gb S (a + k) = 0 ∧ 0 < k) ∨ (k = 9 ∧ 1 < gb S (a + k))); rw [HG.out]; exact HM.out), HG.out]
              subst hrn
              exact ⟨ret_u64 (radd_last acc c k (by omega) HA.out hlt HL.out), Rq.moved_as (H.drewN _) _ _ (by simp; omega), only_setCell (only_drewN (only_refl _ _) _) _ _⟩
            · have e9 : ((k : Int) == 9) = false := by simp; omega
              have e0 : ((c : Int) == 0) = false := by simp; omega
              have HL : Hid (¬ (k = 9 ∧ 1 < c)) := Lib.hid (by omega)
              have HM : Hid (¬ ((c = 0 ∧ 0 < k) ∨ (k = 9 ∧ 1 < c))) := Lib.hid (by omega)
              clear h9 hc0 hbad
              have hw1 : IntKind.i64.wrap ((a : Int) + (k : Int)) = (a : Int) + (k : Int) := IntWalk.i64_in _ (by omega)
              go_wp2_with fail
              go_quiet (fail)
              go_wp2_with fail
              go_quiet (fail)
              go_wp2_with fail
              go_ret
              have hrn : some (acc + c * 2 ^ (7 * k), k + 1) = r := by
                rw [← HP.out, scan_end _ _ _ _ h1 h10 (by show gb S (a + k) < 128; rw [HG.out]; exact hlt) (by show ¬ ((gb S (a + k) = 0 ∧ 0 < k) ∨ (k = 9 ∧ 1 < gb S (a + k))); rw [HG.out]; exact HM.out), HG.out]
              subst hrn
              exact ⟨ret_u64 (radd_last acc c k (by omega) HA.out hlt HL.out), Rq.moved_as (H.drewN _) _ _ (by simp; omega), only_setCell (only_drewN (only_refl _ _) _) _ _⟩
          · have e9 : ((k : Int) == 9) = false := by simp; omega
            have e0 : ((c : Int) == 0) = false := by simp; omega
            have hk8 : k ≤ 8 := by omega
            have hge : (128 : Int) ≤ (c : Int) := by omega
            clear hbad
            have hw1 : IntKind.i64.wrap ((a : Int) + (k : Int)) = (a : Int) + (k : Int) := IntWalk.i64_in _ (by omega)
            go_wp2_with fail
            go_quiet (fail)
            go_wp2_with fail
            go_quiet (fail)
            go_wp2_with fail
            go_roundw
            case rel =>
              refine ⟨k + 1, acc + (c - 128) * 2 ^ (7 * k), _, by omega, by omega, by go_num, ?_, rfl, ?_, ?_⟩
              · rw [radd_more acc c k hk8 HA.out (by omega) hc256]
              · exact (or_more acc c k hk8 HA.out (by omega) hc256).2
              · rw [← HP.out, scan_more _ _ _ _ h1 h10 (by show ¬ gb S (a + k) < 128; rw [HG.out]; exact hlt), HG.out]
            case measure => simp [intOf]; omega
      · have hd : decide ((S.size : Int) ≤ (a : Int) + (k : Int)) = true := by simp; omega
        have hrn : none = r := by rw [← HP.out]; exact (scan_out _ _ _ _ (by omega)).symm
        have HN := Lib.hid hrn; clear hrn hacc
        have hw1 : IntKind.i64.wrap ((a : Int) + (k : Int)) = (a : Int) + (k : Int) := IntWalk.i64_in _ (by omega)
        go_wp2_with fail
        go_quiet (fail)
        go_wp2_with fail
        refine (fails_any Q S a false _ (H.drewN _)).mono ?_
        rintro e w1 ⟨rfl, H1, hg1⟩
        go_wp2_with fail
        go_ret
        have hrn := HN.out
        subst hrn
        exact ⟨rfl, H1, only_trans (only_drewN (only_refl _ _) _) hg1⟩
    · have hrn : none = r := by rw [← HP.out]; exact (scan_out _ _ _ _ (by omega)).symm
      have HN := Lib.hid hrn; clear hrn hacc
      go_wp2_with fail
      refine (fails_any Q S a false _ (H.drewN _)).mono ?_
      rintro e w1 ⟨rfl, H1, hg1⟩
      go_wp2_with fail
      go_ret
      have hrn := HN.out
      subst hrn
      exact ⟨rfl, H1, only_trans (only_drewN (only_refl _ _) _) hg1⟩
end Go.Proofs.Ytghlgmlelipjfaa.Pen
namespace Go.Proofs.Ytghlgmlelipjfaa.Pen
open Go.RowKit Go.Lib

/-- Both readers stand at the same place. -/
def Link (S : ByteArray) (st : Option ByteArray) (a : Nat) : Prop := a ≤ S.size ∧ ∀ s, st = some s → s = S.extract a S.size
theorem Link.none {S : ByteArray} {a : Nat} (h : a ≤ S.size) : Link S none a := ⟨h, fun _ e => by simp at e⟩
theorem Link.cut {S s : ByteArray} {a : Nat} (h : Link S (some s) a) {k : Nat} (hk : k ≤ s.size) : Link S (some (s.extract k s.size)) (a + k) := by
  have e := h.2 s rfl
  have hs : s.size = S.size - a := by rw [e, ByteArray.size_extract]; omega
  have := h.1
  refine ⟨by omega, fun t ht => ?_⟩
  injection ht with ht
  rw [← ht, e, extract_extract]
def wdN (st : Option ByteArray) : Nat := match st with | none => 0 | some s => FV s
def wdS (st : Option ByteArray) : Option ByteArray := match st with | none => none | some s => if FK s = 0 then none else some (s.extract (FK s) s.size)
theorem FV_zero {s : ByteArray} (h : FK s = 0) : FV s = 0 := by
  unfold FK at h; unfold FV
  cases e : P s with
  | none => rfl
  | some x => obtain ⟨n, m⟩ := x; rw [e] at h; have := P_facts e; simp at h; omega
theorem tk_wd (st : Option ByteArray) : tkN st 18446744073709551615 = wdN st ∧ tkS st 18446744073709551615 = wdS st := by
  cases st with
  | none => exact ⟨rfl, rfl⟩
  | some s =>
    have := FV_lt s
    unfold tkN tkS wdN wdS
    simp only []
    by_cases h : FK s = 0
    · rw [if_pos (Or.inl h), if_pos (Or.inl h), if_pos h, FV_zero h]; exact ⟨rfl, rfl⟩
    · rw [if_neg (by omega), if_neg (by omega), if_neg h]; exact ⟨rfl, rfl⟩
theorem wdN_lt (st : Option ByteArray) : wdN st < 18446744073709551616 := by
  cases st with
  | none => simp [wdN]
  | some s => exact FV_lt s
theorem ui_fail (st : Option ByteArray) (most : Int) (h : most < wdN st ∨ wdS st = none) : uiN st most = 0 ∧ uiS st most = none := by
  unfold uiN uiS
  by_cases hneg : most < 0
  · rw [if_pos hneg, if_pos hneg]; exact ⟨rfl, rfl⟩
  · rw [if_neg hneg, if_neg hneg]
    cases st with
    | none => exact ⟨rfl, rfl⟩
    | some s =>
      unfold tkN tkS
      simp only [wdN, wdS] at h ⊢
      have hc : FK s = 0 ∨ most.toNat < FV s := by
        rcases h with h | h
        · right; omega
        · left
          by_cases h0 : FK s = 0
          · exact h0
          · rw [if_neg h0] at h; simp at h
      rw [if_pos hc, if_pos hc]; exact ⟨rfl, rfl⟩
theorem ui_ok (st : Option ByteArray) (most : Int) (h : (wdN st : Int) ≤ most) (t : ByteArray) (ht : wdS st = some t) : uiN st most = wdN st ∧ uiS st most = some t := by
  unfold uiN uiS
  rw [if_neg (by omega), if_neg (by omega)]
  cases st with
  | none => simp [wdS] at ht
  | some s =>
    unfold tkN tkS
    simp only [wdN, wdS] at h ht ⊢
    by_cases h0 : FK s = 0
    · rw [if_pos h0] at ht; simp at ht
    · rw [if_neg h0] at ht
      rw [if_neg (by omega), if_neg (by omega)]; exact ⟨rfl, ht⟩
theorem ui_none {st : Option ByteArray} {most : Int} (h : uiS st most = none) : uiN st most = 0 := by
  by_cases hc : most < wdN st ∨ wdS st = none
  · exact (ui_fail st most hc).1
  · cases e : wdS st with
    | none => exact absurd (Or.inr e) hc
    | some t => rw [(ui_ok st most (by omega) t e).2] at h; simp at h
/-- What the document's reader leaves behind. -/
def RqTo (w w' : World) (Q : Nat) (S : ByteArray) (st : Option ByteArray) : Prop := (∃ a, Rq w' Q S a (isBad st) ∧ Link S st a) ∧ w.grownBy w' (some Q)
theorem rword_any (Q : Nat) (S : ByteArray) (st : Option ByteArray) (a : Nat) (w : World) (h : Rq w Q S a (isBad st)) (hl : Link S st a) (hS : S.size ≤ 4611686018427387904) :
    Calls Try.prog 73 #[.pointer (some ⟨Q, 0, none⟩)] w fun e w' => e = .returned (.int .u64 (wdN st)) ∧ RqTo w w' Q S (wdS st) := by
  cases st with
  | none => exact (rword_bad Q S a w h).mono fun e w' ⟨he, h', hg⟩ => ⟨he, ⟨a, h', Link.none hl.1⟩, hg⟩
  | some s =>
    have e := hl.2 s rfl
    refine (rword_good Q S a w h hl.1 hS (P s) (by rw [e, P_at])).mono fun e w' ⟨he, h', hg⟩ => ⟨he, ?_, hg⟩
    cases hp : P s with
    | none =>
      have hk : FK s = 0 := by simp [FK, hp]
      rw [hp] at h'
      have hS' : wdS (some s) = none := by simp [wdS, hk]
      rw [hS']
      exact ⟨a, h', Link.none hl.1⟩
    | some x =>
      obtain ⟨n, k⟩ := x
      have hk : FK s = k := by simp [FK, hp]
      have := P_facts hp
      rw [hp] at h'
      have hS' : wdS (some s) = some (s.extract k s.size) := by unfold wdS; simp only []; rw [if_neg (by omega), hk]
      rw [hS']
      exact ⟨a + k, h', hl.cut (by omega)⟩
theorem link_size {S s : ByteArray} {a : Nat} (h : Link S (some s) a) : s.size = S.size - a ∧ a ≤ S.size := by
  rw [h.2 s rfl, ByteArray.size_extract]; exact ⟨by omega, h.1⟩
end Go.Proofs.Ytghlgmlelipjfaa.Pen
namespace Go.Proofs.Ytghlgmlelipjfaa.Pen
open Go.RowKit Go.Lib

theorem tm_none {st : Option ByteArray} {most : Int} (h : uiS st most = none) : tmN st most = 0 ∧ tmS st most = none := by
  unfold tmN tmS
  rw [ui_none h, h]
  simp [leftOf]
theorem tm_over {st : Option ByteArray} {most : Int} {s : ByteArray} (h : uiS st most = some s) (hn : s.size < uiN st most) : tmN st most = 0 ∧ tmS st most = none := by
  unfold tmN tmS
  rw [h]
  have : leftOf (some s) < (uiN st most : Int) := by simp only [leftOf]; omega
  rw [if_pos this, if_pos this]; exact ⟨rfl, rfl⟩
theorem tm_in {st : Option ByteArray} {most : Int} {s : ByteArray} (h : uiS st most = some s) (hn : ¬ s.size < uiN st most) : tmN st most = uiN st most ∧ tmS st most = some s := by
  unfold tmN tmS
  rw [h]
  have : ¬ leftOf (some s) < (uiN st most : Int) := by simp only [leftOf]; omega
  rw [if_neg this, if_neg this]; exact ⟨rfl, rfl⟩
end Go.Proofs.Ytghlgmlelipjfaa.Pen
