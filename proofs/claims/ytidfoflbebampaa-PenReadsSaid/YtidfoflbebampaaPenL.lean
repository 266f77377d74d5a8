/- The law PenReads walked. -/
import Derived.Test.YtidfoflbebampaaPenJ
import Derived.Deep.RegionHeld3
import Derived.Deep.DrawnRows
namespace Go.Proofs.Ytidfoflbebampaa
open Go.RowKit Go.Lib
attribute [local go_sem ↓] Go.wp_at_zero Go.wp_at_succ

/-- What the loop of the law knows at its head. -/
structure ReadsAt (W wr : World) (R Q : Nat) (S : ByteArray) (st : Option ByteArray) (a : Nat) : Prop where
  rd : Rd wr R st
  rq : Rq wr Q S a (isBad st)
  link : Link S st a
  fit : Fit st
  below : Below W.heap.size W wr

theorem rq_new (w : World) (S : ByteArray) : Rq (w.alloc (.cells #[.string S, .int .i64 0, .bool false] 31)) w.heap.size S 0 false := heap_alloc_new w _
theorem link_all (S : ByteArray) : Link S (some S) 0 := ⟨Nat.zero_le _, fun s h => by injection h with h; rw [← h]; exact (ByteArray.extract_zero_size).symm⟩

theorem quiet_same {P : Program} {f : FuncId} {args : Array Value} {w : World} {n : Nat} {v : Value} (h : Calls P f args (w.drewN n) fun e w' => e = .returned v ∧ w.drewN n = w') :
    Calls P f args (w.drewN n) fun e w'' => e = .returned v ∧ ∃ m, w'' = w.drewN m := h.mono fun _ _ ⟨he, hm⟩ => ⟨he, n, hm.symm⟩
theorem quiet_drew {P : Program} {f : FuncId} {args : Array Value} {w : World} {n : Nat} {v : Value} (h : Calls P f args (w.drewN n) fun e w' => e = .returned v ∧ ∃ m, (w.drewN n).drewN m = w') :
    Calls P f args (w.drewN n) fun e w'' => e = .returned v ∧ ∃ m, w'' = w.drewN m := h.mono fun _ _ ⟨he, m, hm⟩ => ⟨he, n + m, by rw [← hm, World.drewN_drewN]⟩
theorem reads_next {W wr w1 w2 : World} {S : ByteArray} {st : Option ByteArray} {a : Nat} (hb : Below W.heap.size W wr) (H1 : Rd w1 W.heap.size st) (hg1 : wr.grownBy w1 (some W.heap.size)) (hg2 : w1.grownBy w2 (some (W.heap.size + 1)))
    (H2 : Rq w2 (W.heap.size + 1) S a (isBad st)) (hl : Link S st a) (hf : Fit st) (n : Nat) : ReadsAt W (w2.drewN n) W.heap.size (W.heap.size + 1) S st a := by
  have h := below_of_only (below_of_only hb (Nat.le_refl _) hg1) (Nat.le_succ _) hg2
  have H1' : Rd w2 W.heap.size st := H1.of_grown hg2 (by simp)
  exact ⟨H1', H2, hl, hf, ⟨h.os, h.tape, h.output, h.size, h.block⟩⟩

set_option maxRecDepth 100000 in
set_option maxHeartbeats 8000000 in
theorem lawReads_cells (S : ByteArray) (b off len cap : Nat) (K M : Nat → Int) (W : World) (hS : S.size ≤ 1024) (hlen : len ≤ 20) (hb : b < W.heap.size)
    (hK : ∀ j, j < len → W.cell? ⟨b, off + j * 2, none⟩ = some (.int .i64 (K j))) (hM : ∀ j, j < len → W.cell? ⟨b, off + j * 2 + 1, none⟩ = some (.int .i64 (M j)))
    (hK2 : ∀ j, j < len → M j ≤ 9223372036854775807) :
    Calls Try.prog 4 #[.string S, .slice (some ⟨b, off, none⟩) len cap] W fun e w' => e = .returned (.bool true) ∧ Below W.heap.size W w' := by
  have HK := Lib.hid hK; have HM := Lib.hid hM; have HK2 := Lib.hid hK2
  clear hK hM hK2
  go_enter Try.func4, Try.ntmps4
  go_wp2_with fail
  refine (new_any S _).mono ?_
  rintro e w' ⟨rfl, rfl⟩
  go_wp2_with fail
  go_loopw [7] (fun i wr => ∃ (k a : Nat) (st : Option ByteArray), k ≤ len ∧ i = .int .i64 k ∧ ReadsAt W wr W.heap.size (W.heap.size + 1) S st a) (fun i _ => len - (intOf i).toNat)
  case atStart =>
    refine ⟨0, 0, some S, by omega, rfl, ⟨?_, ?_, link_all S, fit_small (by omega), ((Below.refl _ _).alloc (Nat.le_refl _) _).alloc (by simp) _⟩⟩
    · show ((W.alloc _).alloc _).heap[W.heap.size]? = _
      rw [Below.heap_alloc _ _ _ (by simp), heap_alloc_new]
    · have h := rq_new (W.alloc (.cells (rdCells (some S)) 41)) S
      rw [World.size_alloc] at h
      exact h
  case round =>
    obtain ⟨k, a, st, hk, rfl, hat⟩ := hrel
    by_cases hlt : k < len
    · have cK := (hat.below.cell (p := ⟨b, off + k * 2, none⟩) hb).trans (HK.out k hlt)
      have cM := (hat.below.cell (p := ⟨b, off + k * 2 + 1, none⟩) hb).trans (HM.out k hlt)
      have hM1 := HK2.out k hlt
      by_cases hk0 : K k = 0
      · have e0 : (K k == 0) = true := by simp [hk0]
        clear hk0
        go_wp2_with fail
        go_region_held3 (fun w' => w'.cell? ⟨b, off + k * 2 + 1, none⟩ = some (.int .i64 (M k)))
          (first | exact cM | exact (hg1.cell_far ⟨b, off + k * 2 + 1, none⟩ (Nat.lt_of_lt_of_le hb hat.below.size) (by simp; omega)).trans cM | exact (hg2.cell_far ⟨b, off + k * 2 + 1, none⟩ (Nat.lt_of_lt_of_le hb (Nat.le_trans hat.below.size hg1.size)) (by simp; omega)).trans ((hg1.cell_far ⟨b, off + k * 2 + 1, none⟩ (Nat.lt_of_lt_of_le hb hat.below.size) (by simp; omega)).trans cM))
          (first | (go_at_call 15; refine (uint_any W.heap.size st (M k) _ ?_ hat.fit hM1).mono ?_; exact hat.rd; rintro e w1 ⟨rfl, H1, hg1⟩) | (go_at_call 16; refine (ruint_any (W.heap.size + 1) S st a (M k) _ ?_ hat.link (by omega) hM1).mono ?_; exact Rq.of_grown (by exact hat.rq) hg1 (by simp); rintro e w2 ⟨rfl, ⟨a1, H2, hl2⟩, hg2⟩))
        go_wp2_with fail
        have e1 : (leftOf (uiS st (M k)) != leftOf (uiS st (M k))) = false := by simp
        have e2 : (isBad (uiS st (M k)) != isBad (uiS st (M k))) = false := by simp
        have e3 : (doneOf (uiS st (M k)) != doneOf (uiS st (M k))) = false := by simp
        have H1' := H1.of_grown hg2 (by simp)
        obtain ⟨_, _, cB, _, _, _⟩ := H2.cells
        have Q1 := Lib.hid (fun n => quiet_same (left_any W.heap.size (uiS st (M k)) (w2.drewN n) (H1'.drewN n)))
        have Q2 := Lib.hid (fun n => quiet_drew (rleft_any (W.heap.size + 1) S (uiS st (M k)) a1 (w2.drewN n) (H2.drewN n) hl2 (by omega)))
        have Q3 := Lib.hid (fun n => quiet_same (bad_any W.heap.size (uiS st (M k)) (w2.drewN n) (H1'.drewN n)))
        have Q4 := Lib.hid (fun n => quiet_same (done_any W.heap.size (uiS st (M k)) (w2.drewN n) (H1'.drewN n)))
        have Q5 := Lib.hid (fun n => quiet_drew (rdone_any (W.heap.size + 1) S (uiS st (M k)) a1 (w2.drewN n) (H2.drewN n) hl2))
        go_quiet (first | (go_at_call 23; exact Q1.out _) | (go_at_call 24; exact Q2.out _) | (go_at_call 25; exact Q3.out _) | (go_at_call 26; exact Q4.out _) | (go_at_call 27; exact Q5.out _))
        go_wp2_with fail
        go_roundw
        case rel => exact ⟨k + 1, a1, uiS st (M k), by omega, by go_num, reads_next hat.below.drew H1 hg1 hg2 H2 hl2 (hat.fit.ui _) _⟩
        case measure => simp [intOf]; omega
      · have e0 : (K k == 0) = false := by simp [hk0]
        clear hk0
        by_cases hk1 : K k = 1
        · have e01 : (K k == 1) = true := by simp [hk1]
          clear hk1
          go_wp2_with fail
          refine (int_any W.heap.size st _ hat.rd hat.fit).mono ?_
          rintro e w1 ⟨rfl, H1, hg1⟩
          go_wp2_with fail
          refine (rint_any (W.heap.size + 1) S st a _ (hat.rq.of_grown hg1 (by simp)) hat.link (by omega)).mono ?_
          rintro e w2 ⟨rfl, ⟨a1, H2, hl2⟩, hg2⟩
          go_wp2_with fail
          have e1 : (leftOf (inS st) != leftOf (inS st)) = false := by simp
          have e2 : (isBad (inS st) != isBad (inS st)) = false := by simp
          have e3 : (doneOf (inS st) != doneOf (inS st)) = false := by simp
          have H1' := H1.of_grown hg2 (by simp)
          obtain ⟨_, _, cB, _, _, _⟩ := H2.cells
          have Q1 := Lib.hid (fun n => quiet_same (left_any W.heap.size (inS st) (w2.drewN n) (H1'.drewN n)))
          have Q2 := Lib.hid (fun n => quiet_drew (rleft_any (W.heap.size + 1) S (inS st) a1 (w2.drewN n) (H2.drewN n) hl2 (by omega)))
          have Q3 := Lib.hid (fun n => quiet_same (bad_any W.heap.size (inS st) (w2.drewN n) (H1'.drewN n)))
          have Q4 := Lib.hid (fun n => quiet_same (done_any W.heap.size (inS st) (w2.drewN n) (H1'.drewN n)))
          have Q5 := Lib.hid (fun n => quiet_drew (rdone_any (W.heap.size + 1) S (inS st) a1 (w2.drewN n) (H2.drewN n) hl2))
          go_quiet (first | (go_at_call 23; exact Q1.out _) | (go_at_call 24; exact Q2.out _) | (go_at_call 25; exact Q3.out _) | (go_at_call 26; exact Q4.out _) | (go_at_call 27; exact Q5.out _))
          go_wp2_with fail
          go_roundw
          case rel => exact ⟨k + 1, a1, inS st, by omega, by go_num, reads_next hat.below H1 hg1 hg2 H2 hl2 (hat.fit.tk _) _⟩
          case measure => simp [intOf]; omega
        · have e01 : (K k == 1) = false := by simp [hk1]
          clear hk1
          by_cases hk2 : K k = 2
          · have e02 : (K k == 2) = true := by simp [hk2]
            clear hk2
            go_wp2_with fail
            go_region_held3 (fun w' => w'.cell? ⟨b, off + k * 2 + 1, none⟩ = some (.int .i64 (M k)))
              (first | exact cM | exact (hg1.cell_far ⟨b, off + k * 2 + 1, none⟩ (Nat.lt_of_lt_of_le hb hat.below.size) (by simp; omega)).trans cM | exact (hg2.cell_far ⟨b, off + k * 2 + 1, none⟩ (Nat.lt_of_lt_of_le hb (Nat.le_trans hat.below.size hg1.size)) (by simp; omega)).trans ((hg1.cell_far ⟨b, off + k * 2 + 1, none⟩ (Nat.lt_of_lt_of_le hb hat.below.size) (by simp; omega)).trans cM))
              (first | (go_at_call 19; refine (text_any W.heap.size st (M k) _ ?_ hat.fit hM1).mono ?_; exact hat.rd; rintro e w1 ⟨rfl, H1, hg1⟩) | (go_at_call 20; refine (rtext_any (W.heap.size + 1) S st a (M k) _ ?_ hat.link (by omega) hM1).mono ?_; exact Rq.of_grown (by exact hat.rq) hg1 (by simp); rintro e w2 ⟨rfl, ⟨a1, H2, hl2⟩, hg2⟩))
            go_wp2_with fail
            have e1 : (leftOf (txS st (M k)) != leftOf (txS st (M k))) = false := by simp
            have e2 : (isBad (txS st (M k)) != isBad (txS st (M k))) = false := by simp
            have e3 : (doneOf (txS st (M k)) != doneOf (txS st (M k))) = false := by simp
            have H1' := H1.of_grown hg2 (by simp)
            obtain ⟨_, _, cB, _, _, _⟩ := H2.cells
            have Q1 := Lib.hid (fun n => quiet_same (left_any W.heap.size (txS st (M k)) (w2.drewN n) (H1'.drewN n)))
            have Q2 := Lib.hid (fun n => quiet_drew (rleft_any (W.heap.size + 1) S (txS st (M k)) a1 (w2.drewN n) (H2.drewN n) hl2 (by omega)))
            have Q3 := Lib.hid (fun n => quiet_same (bad_any W.heap.size (txS st (M k)) (w2.drewN n) (H1'.drewN n)))
            have Q4 := Lib.hid (fun n => quiet_same (done_any W.heap.size (txS st (M k)) (w2.drewN n) (H1'.drewN n)))
            have Q5 := Lib.hid (fun n => quiet_drew (rdone_any (W.heap.size + 1) S (txS st (M k)) a1 (w2.drewN n) (H2.drewN n) hl2))
            go_quiet (first | (go_at_call 23; exact Q1.out _) | (go_at_call 24; exact Q2.out _) | (go_at_call 25; exact Q3.out _) | (go_at_call 26; exact Q4.out _) | (go_at_call 27; exact Q5.out _))
            go_wp2_with fail
            go_roundw
            case rel => exact ⟨k + 1, a1, txS st (M k), by omega, by go_num, reads_next hat.below.drew H1 hg1 hg2 H2 hl2 (hat.fit.tx _) _⟩
            case measure => simp [intOf]; omega
          · have e02 : (K k == 2) = false := by simp [hk2]
            clear hk2
            go_wp2_with fail
            go_region_held3 (fun w' => w'.cell? ⟨b, off + k * 2 + 1, none⟩ = some (.int .i64 (M k)))
              (first | exact cM | exact (hg1.cell_far ⟨b, off + k * 2 + 1, none⟩ (Nat.lt_of_lt_of_le hb hat.below.size) (by simp; omega)).trans cM | exact (hg2.cell_far ⟨b, off + k * 2 + 1, none⟩ (Nat.lt_of_lt_of_le hb (Nat.le_trans hat.below.size hg1.size)) (by simp; omega)).trans ((hg1.cell_far ⟨b, off + k * 2 + 1, none⟩ (Nat.lt_of_lt_of_le hb hat.below.size) (by simp; omega)).trans cM))
              (first | (go_at_call 21; refine (times_any W.heap.size st (M k) _ ?_ hat.fit hM1).mono ?_; exact hat.rd; rintro e w1 ⟨rfl, H1, hg1⟩) | (go_at_call 22; refine (rtimes_any (W.heap.size + 1) S st a (M k) _ ?_ hat.link (by omega) hM1).mono ?_; exact Rq.of_grown (by exact hat.rq) hg1 (by simp); rintro e w2 ⟨rfl, ⟨a1, H2, hl2⟩, hg2⟩))
            go_wp2_with fail
            have e1 : (leftOf (tmS st (M k)) != leftOf (tmS st (M k))) = false := by simp
            have e2 : (isBad (tmS st (M k)) != isBad (tmS st (M k))) = false := by simp
            have e3 : (doneOf (tmS st (M k)) != doneOf (tmS st (M k))) = false := by simp
            have H1' := H1.of_grown hg2 (by simp)
            obtain ⟨_, _, cB, _, _, _⟩ := H2.cells
            have Q1 := Lib.hid (fun n => quiet_same (left_any W.heap.size (tmS st (M k)) (w2.drewN n) (H1'.drewN n)))
            have Q2 := Lib.hid (fun n => quiet_drew (rleft_any (W.heap.size + 1) S (tmS st (M k)) a1 (w2.drewN n) (H2.drewN n) hl2 (by omega)))
            have Q3 := Lib.hid (fun n => quiet_same (bad_any W.heap.size (tmS st (M k)) (w2.drewN n) (H1'.drewN n)))
            have Q4 := Lib.hid (fun n => quiet_same (done_any W.heap.size (tmS st (M k)) (w2.drewN n) (H1'.drewN n)))
            have Q5 := Lib.hid (fun n => quiet_drew (rdone_any (W.heap.size + 1) S (tmS st (M k)) a1 (w2.drewN n) (H2.drewN n) hl2))
            go_quiet (first | (go_at_call 23; exact Q1.out _) | (go_at_call 24; exact Q2.out _) | (go_at_call 25; exact Q3.out _) | (go_at_call 26; exact Q4.out _) | (go_at_call 27; exact Q5.out _))
            go_wp2_with fail
            go_roundw
            case rel => exact ⟨k + 1, a1, tmS st (M k), by omega, by go_num, reads_next hat.below.drew H1 hg1 hg2 H2 hl2 (hat.fit.tm _) _⟩
            case measure => simp [intOf]; omega
    · go_wp2_with fail
      refine (awake_any _).mono ?_
      rintro e w7 ⟨rfl, hb7⟩
      go_wp2_with fail
      go_ret
      exact ⟨rfl, below_then hat.below hb7⟩
set_option maxHeartbeats 2000000 in
theorem lawReads_empty (S : ByteArray) (ad : Option Addr) (cap : Nat) (W : World) (hS : S.size ≤ 1024) :
    Calls Try.prog 4 #[.string S, .slice ad 0 cap] W fun e w' => e = .returned (.bool true) ∧ Below W.heap.size W w' := by
  go_enter Try.func4, Try.ntmps4
  go_wp2_with fail
  refine (new_any S _).mono ?_
  rintro e w' ⟨rfl, rfl⟩
  go_wp2_with fail
  refine wp_loop_rounds 1 ?_
  rw [rounds_succ]
  go_wp2_with fail
  refine (awake_any _).mono ?_
  rintro e w7 ⟨rfl, hb7⟩
  go_wp2_with fail
  go_ret
  exact ⟨rfl, below_then (((Below.refl _ _).alloc (Nat.le_refl _) _).alloc (by simp) _) hb7⟩
set_option maxHeartbeats 2000000 in
theorem lawReads_long (S : ByteArray) (ad : Option Addr) (len cap : Nat) (W : World) (h : 1024 < S.size ∨ 20 < len) :
    Calls Try.prog 4 #[.string S, .slice ad len cap] W fun e w' => e = .returned (.bool true) ∧ Below W.heap.size W w' := by
  by_cases h1 : 1024 < S.size
  · have h1' : (1024 : Int) < (S.size : Int) := by omega
    clear h
    go_enter Try.func4, Try.ntmps4
    go_wp2_with fail
    refine (awake_any _).mono ?_
    rintro e w7 ⟨rfl, hb7⟩
    go_wp2_with fail
    go_ret
    exact ⟨rfl, hb7⟩
  · have h2 : (20 : Int) < (len : Int) := by omega
    have h1' : decide ((1024 : Int) < (S.size : Int)) = false := by simp; omega
    clear h
    go_enter Try.func4, Try.ntmps4
    go_wp2_with fail
    refine (awake_any _).mono ?_
    rintro e w7 ⟨rfl, hb7⟩
    go_wp2_with fail
    go_ret
    exact ⟨rfl, hb7⟩
end Go.Proofs.Ytidfoflbebampaa
