/- HeapSorts, walked: the loops. -/
import Derived.Test.YtfbdkafpfminlaaHeapS
import Derived.IntWalk
namespace Go.Proofs.Ytfbdkafpfminlaa.Heap.Im
open Go.RowKit Go.Lib

set_option maxRecDepth 100000 in
set_option maxHeartbeats 8000000 in
theorem heapSorts_in (a : Option Addr) (m c : Nat) (Z : Nat → Int) (w : World) (hc : ∀ j, j < m → ∃ b off, a = some ⟨b, off, none⟩ ∧ b < w.heap.size ∧ w.cell? ⟨b, off + j, none⟩ = some (.int .i64 (Z j))) :
    Calls Try.prog 5 #[.slice a m c] w fun e w' => e = .returned (.bool true) ∧ Below w.heap.size w w' := by
  obtain ⟨A, hA⟩ : ∃ A : Nat → Int, ∀ i, A i = msk (Z i) := ⟨fun i => msk (Z i), fun _ => rfl⟩
  have hA0 : ∀ i, 0 ≤ A i := fun i => by rw [hA]; exact (msk_in _).1
  have hA1 : ∀ i, A i ≤ 9223372036854775807 := fun i => by rw [hA]; exact (msk_in _).2
  obtain ⟨n, hn⟩ : ∃ n, min m 60 = n := ⟨_, rfl⟩
  have hn60 : n ≤ 60 := by omega
  have hnm : n ≤ m := by omega
  have hmin : (if (60 : Int) < (m : Int) then (60 : Int) else (m : Int)) = (n : Int) := by split <;> omega
  have HC : Hid (∀ W j, Below w.heap.size w W → j < n → ∃ b off, a = some ⟨b, off, none⟩ ∧ W.cell? ⟨b, off + j, none⟩ = some (.int .i64 (Z j)) ∧ bits .and .i64 (Z j) 9223372036854775807 = A j) := Lib.hid (fun W j hW hj => by
    obtain ⟨b, off, e, hb, h1⟩ := hc j (by omega)
    exact ⟨b, off, e, ((bcell hW).1 b _ hb).trans h1, (hA j).symm⟩)
  have HN : Hid (Calls Try.prog 8 #[.int .i64 60] w fun e w' => ∃ Q, e = .returned (.tuple #[ptr Q, .int .i64 0]) ∧ Hid (FQ w w' Q (qs A 0))) := Lib.hid (by
    refine (new_im 60 w (by omega)).mono ?_
    rintro e w' ⟨Q, rfl, h⟩
    exact ⟨Q, rfl, Lib.hid h⟩)
  have HI : Hid (∀ W Q i, i < n → QsIs A i → FQ w W Q (qs A i) → Calls Try.prog 14 #[ptr Q, .int .i64 (A i), .int .i64 (i : Nat)] W fun e w' => e = .returned (.tuple #[.int .i64 ((i : Int) + 1), .int .i64 0]) ∧ Hid (FQ w w' Q (qs A (i + 1)) ∧ QsIs A (i + 1))) := Lib.hid (fun W Q i hi h1 h2 => by
    obtain ⟨h3, h4⟩ := ins_qs hA0 h1 (by omega)
    have h5 := fq_insert (A i) (i : Nat) h2 h1.good
    rw [h3] at h5
    refine h5.mono ?_
    rintro e w' ⟨rfl, h6⟩
    exact ⟨rfl, Lib.hid ⟨h6, h4⟩⟩)
  have HP : Hid (∀ W Q T i q u, i < n → Left A n i q u → L2 w W Q T q u → ∃ (k : Nat) (q' : QS), k < n ∧ ahead u ⟨A k, (k : Int) + 1, k⟩ ∧ Hid (Left A n (i + 1) q' ⟨A k, (k : Int) + 1, k⟩) ∧ Calls Try.prog 15 #[ptr Q, .int .i64 9223372036854775807] W fun e w' => e = .returned (.tuple #[.agg #[.int .i64 (A k), .int .i64 ((k : Int) + 1), .int .i64 (k : Nat)], .bool true]) ∧ Hid (L2 w w' Q T q' u)) := Lib.hid (fun W Q T i q u hi h1 h2 => by
    obtain ⟨k, q', hk, hp, ha, hl⟩ := left_pop hA1 h1 hi
    refine ⟨k, q', hk, ha, Lib.hid hl, ?_⟩
    have h5 := h2.pop 9223372036854775807 h1.good
    rw [hp] at h5
    refine h5.mono ?_
    rintro e w' ⟨rfl, h6⟩
    exact ⟨rfl, Lib.hid h6⟩)
  obtain ⟨z, hz⟩ : ∃ z, zeroTm = z := ⟨_, rfl⟩
  have HE : Hid (∀ W Q T q u, Left A n n q u → L2 w W Q T q u → Calls Try.prog 15 #[ptr Q, .int .i64 9223372036854775807] W fun e w' => e = .returned (.tuple #[.agg #[.int .i64 z.due, .int .i64 z.id, .int .i64 z.what], .bool false]) ∧ Hid (FQ w w' Q q)) := Lib.hid (fun W Q T q u h1 h2 => by
    have h5 := h2.pop 9223372036854775807 h1.good
    rw [(left_end h1).1, hz] at h5
    refine h5.mono ?_
    rintro e w' ⟨rfl, h6⟩
    exact ⟨rfl, Lib.hid h6.fq⟩)
  have HL : Hid (∀ W Q q u, Left A n n q u → FQ w W Q q → Calls Try.prog 16 #[ptr Q] W fun e w' => e = .returned (.int .i64 0) ∧ W = w') := Lib.hid (fun W Q q u h1 h2 => by
    have h5 := fq_len h2 h1.good
    rw [(left_end h1).2] at h5
    exact h5)
  have HW : Hid (∀ W, Below w.heap.size w W → Calls Try.prog 7 #[] W fun e w' => e = .returned (.bool true) ∧ Hid (Below w.heap.size w w')) := Lib.hid (fun W hW => by
    refine (awake_im W).mono ?_
    rintro e w' ⟨rfl, h⟩
    exact ⟨rfl, Lib.hid (below_then hW h)⟩)
  have HS : Hid (QsIs A n → Left A n 0 (qs A n) ⟨-1, 0, 0⟩) := Lib.hid (fun h => left_start hA0 h)
  have HQ0 : Hid (QsIs A 0) := Lib.hid (qs_zero A)
  have hn1 : (n : Int) ≤ 60 := by omega
  have hnm1 : (n : Int) ≤ (m : Int) := by omega
  clear hA hA0 hA1 hc hn hn60 hz
  go_enter Try.func5, Try.ntmps5
  go_wp2_with fail
  refine HN.out.mono ?_
  rintro e w1 ⟨Q, rfl, B1⟩
  go_wp2_with fail
  go_loopw [6] (fun t wr => ∃ i : Nat, t = .int .i64 i ∧ i ≤ n ∧ Hid (QsIs A i) ∧ Hid (FQ w wr Q (qs A i))) (fun t _ => n - (RowKit.intOf t).toNat)
  case atStart => exact ⟨0, rfl, by omega, HQ0, B1⟩
  case round =>
    clear B1
    obtain ⟨i, rfl, hi, HQi, HF⟩ := hrel
    have hi0 : (0 : Int) ≤ (i : Int) := by omega
    by_cases hlt : i < n
    · have hlt2 : (i : Int) < (n : Int) := by omega
      have hlt3 : (i : Int) < (m : Int) := by omega
      obtain ⟨b, off, rfl, c0, hb⟩ := HC.out wr i HF.out.below hlt
      have HI1 := Lib.hid (HI.out wr Q i hlt HQi.out HF.out)
      go_wp2_with fail
      refine HI1.out.mono ?_
      rintro e w2 ⟨rfl, H2⟩
      have HF2 := Lib.hid H2.out.1; have HQ2 := Lib.hid H2.out.2
      have hee : ((i : Int) + 1 == (i : Int) + 1) = true := by simp
      clear H2
      go_wp2_with fail
      go_roundw
      case rel => exact ⟨i + 1, by go_num, by omega, HQ2, HF2⟩
      case measure => simp [RowKit.intOf]; omega
    · obtain rfl : i = n := by omega
      obtain ⟨T, hT⟩ : ∃ T, wr.heap.size = T := ⟨_, rfl⟩
      have HX : Hid (L2 w (wr.alloc (.cells #[.int .i64 (-1), .int .i64 0, .int .i64 0] 45)) Q T (qs A i) ⟨-1, 0, 0⟩) := Lib.hid (by rw [← hT]; exact L2.start HF.out ⟨-1, 0, 0⟩)
      have HLe : Hid (Left A i 0 (qs A i) ⟨-1, 0, 0⟩) := Lib.hid (HS.out HQi.out)
      clear HF HQi HI HS HN hi0
      go_wp2_with fail
      obtain ⟨X, hX⟩ : ∃ X, wr.alloc (.cells #[.int .i64 (-1), .int .i64 0, .int .i64 0] 45) = X := ⟨_, rfl⟩
      rw [hX] at HX ⊢
      clear hX hT
      go_loopw [10] (fun t wr => ∃ (j : Nat) (q : QS) (u : Tm), t = .int .i64 j ∧ j ≤ i ∧ Hid (Left A i j q u) ∧ Hid (L2 w wr Q T q u)) (fun t _ => i - (RowKit.intOf t).toNat)
      case atStart => exact ⟨0, _, _, rfl, by omega, HLe, HX⟩
      case round =>
        clear HX HLe
        obtain ⟨j, q, u, rfl, hj, HLf, HL2⟩ := hrel
        by_cases hjl : j < i
        · have hjl2 : (j : Int) < (i : Int) := by omega
          obtain ⟨k, q', hk, hah, HLf2, hp⟩ := HP.out _ Q T j q u hjl HLf.out HL2.out
          have HPP := Lib.hid hp
          clear hp
          go_wp2_with fail
          refine HPP.out.mono ?_
          rintro e w3 ⟨rfl, H3⟩
          obtain ⟨d, hd⟩ : ∃ d, A k = d := ⟨_, rfl⟩
          have HLf3 : Hid (Left A i (j + 1) q' ⟨d, (k : Int) + 1, k⟩) := by rw [← hd]; exact HLf2
          rw [hd] at hah
          rw [hd]
          obtain ⟨U, hU⟩ : ∃ U, w3.heap.size = U := ⟨_, rfl⟩
          obtain ⟨Y, hY⟩ : ∃ Y, w3.alloc (.cells #[.int .i64 d, .int .i64 ((k : Int) + 1), .int .i64 (k : Nat)] 45) = Y := ⟨_, rfl⟩
          have HLY : Hid (L2 w Y Q T q' u) := Lib.hid (by rw [← hY]; exact H3.out.under ((Below.refl _ w3).alloc (Nat.le_refl _) _))
          have hUY : Y.heap[U]? = some (.cells (Tm.cells ⟨d, (k : Int) + 1, k⟩) 45 (0, 0)) := by rw [← hY, ← hU]; exact heap_alloc_new w3 _
          obtain ⟨u0, u1, u2⟩ := tm_at hUY
          have hTY := HLY.out.at_
          obtain ⟨v0, v1, v2⟩ := tm_at hTY
          have f0 := free_block 0 hTY; have f1 := free_block 1 hTY; have f2 := free_block 2 hTY
          obtain ⟨b, off, rfl, c0, hb⟩ := HC.out Y k HLY.out.fq.below hk
          rw [hd] at hb
          obtain ⟨ud, ui, uw⟩ := u
          have hk0 : (0 : Int) ≤ (k : Int) := by omega
          have hki : (k : Int) < (i : Int) := by omega
          have hkm : (k : Int) < (m : Int) := by omega
          have hw : IntKind.i64.wrap ((k : Int) + 1) = (k : Int) + 1 := IntWalk.i64_in _ (by omega)
          have h3 : ¬ (k : Int) < 0 := by omega
          have h4 : ¬ (i : Int) ≤ (k : Int) := by omega
          have h1 : ¬ d < ud := by rcases hah with h | ⟨h, _⟩ <;> simp only at h <;> omega
          have h2 : ((d == ud) = false) ∨ ((d == ud) = true ∧ ¬ ((k : Int) + 1 ≤ ui)) := by
            rcases hah with h | ⟨h, h'⟩
            · left; simp only at h; simp; omega
            · right; simp only at h h'; exact ⟨by simp; omega, by omega⟩
          have h3d : decide ((k : Int) < 0) = false := decide_eq_false h3
          have h4d : decide ((i : Int) ≤ (k : Int)) = false := decide_eq_false h4
          have h4n : decide (i ≤ k) = false := decide_eq_false (by omega)
          have h1d : decide (d < ud) = false := decide_eq_false h1
          clear hah hUY hTY H3 HLf2 hd HPP h3 h4 h1
          rcases h2 with h2 | ⟨h2, h5⟩
          · go_wp2_with fail
            clear hY hU
            go_quiet (fail)
            generalize hW5 : Y.drewN _ = W5
            have HL5 : Hid (L2 w W5 Q T q' ⟨ud, ui, uw⟩) := Lib.hid (by rw [← hW5]; exact HLY.out.under (drew_below Y _))
            have p0 : W5.cell? ⟨U, 0, none⟩ = some (.int .i64 d) := by rw [← hW5]; exact u0
            have p1 : W5.cell? ⟨U, 1, none⟩ = some (.int .i64 ((k : Int) + 1)) := by rw [← hW5]; exact u1
            have p2 : W5.cell? ⟨U, 2, none⟩ = some (.int .i64 (k : Nat)) := by rw [← hW5]; exact u2
            have r0 : W5.cell? ⟨T, 0, none⟩ = some (.int .i64 ud) := by rw [← hW5]; exact v0
            have r1 : W5.cell? ⟨T, 1, none⟩ = some (.int .i64 ui) := by rw [← hW5]; exact v1
            have r2 : W5.cell? ⟨T, 2, none⟩ = some (.int .i64 uw) := by rw [← hW5]; exact v2
            have g0 : W5.frozen? ⟨T, 0, none⟩ = false := by rw [← hW5]; exact f0
            have g1 : W5.frozen? ⟨T, 1, none⟩ = false := by rw [← hW5]; exact f1
            have g2 : W5.frozen? ⟨T, 2, none⟩ = false := by rw [← hW5]; exact f2
            clear hW5 u0 u1 u2 v0 v1 v2 f0 f1 f2 HLY c0 hb h2 hw h3d h4d h4n h1d
            go_wp2_with fail
            go_roundw
            case rel => exact ⟨j + 1, q', _, by go_num, by omega, HLf3, Lib.hid (HL5.out.set ⟨d, (k : Int) + 1, k⟩)⟩
            case measure => simp [RowKit.intOf]; omega
          · have h5d : decide ((k : Int) + 1 ≤ ui) = false := decide_eq_false h5
            clear h5
            go_wp2_with fail
            clear hY hU
            go_quiet (fail)
            generalize hW5 : Y.drewN _ = W5
            have HL5 : Hid (L2 w W5 Q T q' ⟨ud, ui, uw⟩) := Lib.hid (by rw [← hW5]; exact HLY.out.under (drew_below Y _))
            have p0 : W5.cell? ⟨U, 0, none⟩ = some (.int .i64 d) := by rw [← hW5]; exact u0
            have p1 : W5.cell? ⟨U, 1, none⟩ = some (.int .i64 ((k : Int) + 1)) := by rw [← hW5]; exact u1
            have p2 : W5.cell? ⟨U, 2, none⟩ = some (.int .i64 (k : Nat)) := by rw [← hW5]; exact u2
            have r0 : W5.cell? ⟨T, 0, none⟩ = some (.int .i64 ud) := by rw [← hW5]; exact v0
            have r1 : W5.cell? ⟨T, 1, none⟩ = some (.int .i64 ui) := by rw [← hW5]; exact v1
            have r2 : W5.cell? ⟨T, 2, none⟩ = some (.int .i64 uw) := by rw [← hW5]; exact v2
            have g0 : W5.frozen? ⟨T, 0, none⟩ = false := by rw [← hW5]; exact f0
            have g1 : W5.frozen? ⟨T, 1, none⟩ = false := by rw [← hW5]; exact f1
            have g2 : W5.frozen? ⟨T, 2, none⟩ = false := by rw [← hW5]; exact f2
            clear hW5 u0 u1 u2 v0 v1 v2 f0 f1 f2 HLY c0 hb h2 hw h3d h4d h4n h1d
            go_wp2_with fail
            go_roundw
            case rel => exact ⟨j + 1, q', _, by go_num, by omega, HLf3, Lib.hid (HL5.out.set ⟨d, (k : Int) + 1, k⟩)⟩
            case measure => simp [RowKit.intOf]; omega
        · obtain rfl : j = i := by omega
          have HE1 := Lib.hid (HE.out _ Q T q u HLf.out HL2.out)
          go_wp2_with fail
          refine HE1.out.mono ?_
          rintro e w3 ⟨rfl, H3⟩
          obtain ⟨Y, hY⟩ : ∃ Y, w3.alloc (.cells #[.int .i64 z.due, .int .i64 z.id, .int .i64 z.what] 45) = Y := ⟨_, rfl⟩
          have HFY : Hid (FQ w Y Q q) := Lib.hid (by rw [← hY]; exact H3.out.under ((Below.refl _ w3).alloc (Nat.le_refl _) _))
          have HL1 := Lib.hid (HL.out Y Q q u HLf.out HFY.out)
          have HW1 := Lib.hid (HW.out Y HFY.out.below)
          go_wp2_with (first | (go_at_call 16; refine HL1.out.mono ?_; rintro e w' ⟨rfl, rfl⟩) | (go_at_call 7; refine HW1.out.mono ?_; rintro e w4 ⟨rfl, H4⟩))
          go_ret
          exact ⟨rfl, H4.out⟩
end Go.Proofs.Ytfbdkafpfminlaa.Heap.Im
