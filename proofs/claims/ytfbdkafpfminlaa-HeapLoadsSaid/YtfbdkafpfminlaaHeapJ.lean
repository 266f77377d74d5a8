/- HeapLoads, walked. -/
import Derived.Test.YtfbdkafpfminlaaHeapI
import Derived.Test.YtfbdkafpfminlaaHeapImQ
namespace Go.Proofs.Ytfbdkafpfminlaa.Heap
open Go.RowKit Go.Lib Go.Proofs.Ytfbdkafpfminlaa.Heap.Im

set_option maxRecDepth 100000 in
set_option maxHeartbeats 8000000 in
theorem heapLoads_in (m next : Int) (a : Option Addr) (n c : Nat) (l : List Tm) (b : Option Addr) (k d : Nat) (A : Nat → Int × Int × Int) (w : World) (hl : l.length = n) (ht : Tms w a l) (hid : ∀ t ∈ l, Ints.I64 t.id) (hA : Acts w b k A) :
    Calls Try.prog 4 #[.agg #[.int .i64 m, .int .i64 next], .slice a n c, .slice b k d] w fun e w' => e = .returned (.bool true) ∧ Below w.heap.size w w' := by
  have HW : Hid (∀ W, Below w.heap.size w W → Calls Try.prog 7 #[] W fun e w' => e = .returned (.bool true) ∧ Hid (Below w.heap.size w w')) := Lib.hid (fun W hW => by
    refine (awake_im W).mono ?_
    rintro e w' ⟨rfl, h⟩
    exact ⟨rfl, Lib.hid (below_then hW h)⟩)
  obtain ⟨B, hB⟩ : ∃ B, w.heap.size = B := ⟨_, rfl⟩
  obtain ⟨Y, hY⟩ : ∃ Y, w.alloc (.cells #[.int .i64 m, .int .i64 next] 36) = Y := ⟨_, rfl⟩
  have hbY : Below w.heap.size w Y := by rw [← hY]; exact (Below.refl _ w).alloc (Nat.le_refl _) _
  have hBY : Y.heap[B]? = some (.cells #[.int .i64 m, .int .i64 next] 36 (0, 0)) := by rw [← hY, ← hB]; exact heap_alloc_new w _
  have HBC : Hid (∀ W, Below Y.heap.size Y W → W.cell? ⟨B, 0, none⟩ = some (.int .i64 m) ∧ W.cell? ⟨B, 1, none⟩ = some (.int .i64 next)) := Lib.hid (fun W hW => by
    have := (hW.block B (Array.getElem?_eq_some_iff.1 hBY).1).trans hBY
    exact ⟨cell_block (j := 0) this rfl, cell_block (j := 1) this rfl⟩)
  obtain ⟨y0, y1⟩ := HBC.out Y (Below.refl _ _)
  have HBY := Lib.hid hbY
  by_cases h20 : (20 : Int) < (n : Int)
  · have H0 := Lib.hid (HW.out Y hbY)
    clear hl ht hid hA hbY hBY
    go_enter Try.func4, Try.ntmps4
    go_wp2_with fail
    refine H0.out.mono ?_
    rintro e w1 ⟨rfl, B1⟩
    go_wp2_with fail
    go_ret
    exact ⟨rfl, B1.out⟩
  by_cases h21 : (20 : Int) < (k : Int)
  · have H0 := Lib.hid (HW.out Y hbY)
    clear hl ht hid hA hbY hBY
    go_enter Try.func4, Try.ntmps4
    go_wp2_with fail
    refine H0.out.mono ?_
    rintro e w1 ⟨rfl, B1⟩
    go_wp2_with fail
    go_ret
    exact ⟨rfl, B1.out⟩
  have hk1 : (k : Int) ≤ 20 := by omega
  have hlost : (∃ acc, ¬ badL m n next ∧ loadL next [] l = some acc) ∨ (badL m n next ∨ loadL next [] l = none) := by
    by_cases hb : badL m n next
    · exact .inr (.inl hb)
    · rcases hL : loadL next [] l with _ | acc
      · exact .inr (.inr rfl)
      · exact .inl ⟨acc, hb, rfl⟩
  rcases hlost with ⟨acc, hb, hL⟩ | hlost
  · have HN : Hid (Calls Try.prog 12 #[.int .i64 m, .slice a n c, .int .i64 next] Y fun e w' => ∃ Q, e = .returned (.tuple #[ptr Q, .int .i64 0]) ∧ Hid (FQ Y w' Q ⟨acc, m, next⟩ ∧ Good ⟨acc, m, next⟩)) := Lib.hid (by
      refine (load_im m next a n c l Y hb hl (ht.under hbY) hid).mono ?_
      rintro e w' (⟨acc', Q, h1, rfl, h2, h3⟩ | ⟨h1, _⟩)
      · rw [hL] at h1
        cases h1
        exact ⟨Q, rfl, Lib.hid ⟨h2, h3⟩⟩
      · rw [hL] at h1
        cases h1)
    have HD : Hid (∀ W, Below Y.heap.size Y W → Calls Try.prog 13 #[.int .i64 m, .slice a n c, .int .i64 next] W fun e w' => ∃ Q, e = .returned (.tuple #[ptr Q, .int .i64 0]) ∧ Hid (DF W w' Q ⟨acc, m, next⟩)) := Lib.hid (fun W hW => by
      refine (dload m next a n c l W hb hl (ht.under (below_then hbY hW))).mono ?_
      rintro e w' (⟨acc', Q, h1, rfl, h2⟩ | ⟨h1, _⟩)
      · rw [hL] at h1
        cases h1
        exact ⟨Q, rfl, Lib.hid h2⟩
      · rw [hL] at h1
        cases h1)
    have HC : Hid (∀ W j, Below w.heap.size w W → j < k → ∃ g off kd id due, b = some ⟨g, off, none⟩ ∧ (W.cell? ⟨g, off + j * 3, none⟩ = some (.int .i64 kd) ∧ W.cell? ⟨g, off + j * 3 + 1, none⟩ = some (.int .i64 id) ∧ W.cell? ⟨g, off + j * 3 + 2, none⟩ = some (.int .i64 due)) ∧
        Hid (A j = (kd, id, due) ∧ Ints.I64 id)) := Lib.hid (fun W j hW hj => by
      obtain ⟨⟨g, off, e, hb, k0, k1, k2⟩, hi⟩ := hA j hj
      exact ⟨g, off, _, _, _, e, ⟨((bcell hW).1 g _ hb).trans k0, ((bcell hW).1 g _ hb).trans k1, ((bcell hW).1 g _ hb).trans k2⟩, Lib.hid ⟨rfl, hi⟩⟩)
    have HDO : Hid (∀ W Q X i kd id due, Good ⟨acc, m, next⟩ → A i = (kd, id, due) → Ints.I64 id → TW w W Q X (runQ A ⟨acc, m, next⟩ i) (runQ A ⟨acc, m, next⟩ i) [] → Calls Try.prog 10 #[ptr Q, ptr X, .agg #[.int .i64 kd, .int .i64 id, .int .i64 due]] W fun e w' => e = .returned (.bool true) ∧ Hid (TW w w' Q X (runQ A ⟨acc, m, next⟩ (i + 1)) (runQ A ⟨acc, m, next⟩ (i + 1)) [])) := Lib.hid (fun W Q X i kd id due hgood hAi hi h => by
      have h1 := do_in kd id due hi h (good_run hgood i)
      have e : runQ A ⟨acc, m, next⟩ (i + 1) = actQ (runQ A ⟨acc, m, next⟩ i) kd id due := by show actQ _ _ _ _ = _; rw [hAi]
      rw [e]
      exact h1.mono fun _ _ ⟨e, h⟩ => ⟨e, Lib.hid h⟩)
    have HSA : Hid (∀ W Q X i, Good ⟨acc, m, next⟩ → TW w W Q X (runQ A ⟨acc, m, next⟩ i) (runQ A ⟨acc, m, next⟩ i) [] → Calls Try.prog 11 #[ptr Q, ptr X] W fun e w' => e = .returned (.bool true) ∧ Hid (TW w w' Q X (runQ A ⟨acc, m, next⟩ i) (runQ A ⟨acc, m, next⟩ i) [])) := Lib.hid (fun W Q X i hgood h => (same_in h (good_run hgood i)).mono fun _ _ ⟨e, h⟩ => ⟨e, Lib.hid h⟩)
    have HST : Hid (∀ W1 W2 Q X, FQ Y W1 Q ⟨acc, m, next⟩ → DF W1 W2 X ⟨acc, m, next⟩ → TW w W2 Q X (runQ A ⟨acc, m, next⟩ 0) (runQ A ⟨acc, m, next⟩ 0) []) := Lib.hid (fun W1 W2 Q X h1 h2 => by
      refine TW.start ?_ h2
      obtain ⟨F, h3, h4, h5⟩ := h1
      exact ⟨F, h3, below_then hbY h4, fun k hk => Nat.le_trans hbY.size (h5 k hk)⟩)
    clear hl ht hid hA hbY hBY hb hL
    go_enter Try.func4, Try.ntmps4
    go_wp2_with fail
    clear hY hB
    refine HN.out.mono ?_
    rintro e w1 ⟨Q, rfl, B1⟩
    obtain ⟨z0, z1⟩ := HBC.out w1 B1.out.1.below
    have HG := Lib.hid B1.out.2
    clear y0 y1
    go_wp2_with fail
    refine (HD.out w1 B1.out.1.below).mono ?_
    rintro e w2 ⟨X, rfl, B2⟩
    have B3 : Hid (TW w w2 Q X (runQ A ⟨acc, m, next⟩ 0) (runQ A ⟨acc, m, next⟩ 0) []) := Lib.hid (HST.out w1 w2 Q X B1.out.1 B2.out)
    clear B1 B2 z0 z1
    go_wp2_with fail
    go_loopw [11] (fun s wr => ∃ i : Nat, s = .int .i64 i ∧ i ≤ k ∧ Hid (TW w wr Q X (runQ A ⟨acc, m, next⟩ i) (runQ A ⟨acc, m, next⟩ i) [])) (fun s _ => k - (RowKit.intOf s).toNat)
    case atStart => exact ⟨0, rfl, by omega, B3⟩
    case round =>
      clear B3
      obtain ⟨i, rfl, hi, HB⟩ := hrel
      have hi0 : (0 : Int) ≤ (i : Int) := by omega
      have HS1 := Lib.hid (HSA.out wr Q X i HG.out HB.out)
      by_cases hlt : i < k
      · have hlt2 : (i : Int) < (k : Int) := by omega
        have HC2 : Hid (∀ W, Below w.heap.size w W → ∃ g off kd id due, b = some ⟨g, off, none⟩ ∧ (W.cell? ⟨g, off + i * 3, none⟩ = some (.int .i64 kd) ∧ W.cell? ⟨g, off + i * 3 + 1, none⟩ = some (.int .i64 id) ∧ W.cell? ⟨g, off + i * 3 + 2, none⟩ = some (.int .i64 due)) ∧ Hid (A i = (kd, id, due) ∧ Ints.I64 id)) := Lib.hid (fun W hW => HC.out W i hW hlt)
        obtain ⟨g, off, kd, id, due, rfl, _, HK⟩ := HC2.out wr HB.out.below
        have HC3 : Hid (∀ W, Below w.heap.size w W → W.cell? ⟨g, off + i * 3, none⟩ = some (.int .i64 kd) ∧ W.cell? ⟨g, off + i * 3 + 1, none⟩ = some (.int .i64 id) ∧ W.cell? ⟨g, off + i * 3 + 2, none⟩ = some (.int .i64 due)) := Lib.hid (fun W hW => by
          obtain ⟨g', off', kd', id', due', e, h1, h2⟩ := HC2.out W hW
          injection e with e
          injection e with e1 e2
          subst e1; subst e2
          have h3 := h2.out.1
          rw [HK.out.1] at h3
          cases h3
          exact h1)
        go_wp2_with (first | (go_at_call 11; refine HS1.out.mono ?_; rintro e w3 ⟨rfl, B3⟩; obtain ⟨k0, k1, k2⟩ := HC3.out w3 B3.out.below) | (go_at_call 10; refine (HDO.out w3 Q X i kd id due HG.out HK.out.1 HK.out.2 B3.out).mono ?_; rintro e w4 ⟨rfl, B4⟩))
        go_roundw
        case rel => exact ⟨i + 1, by go_num, by omega, B4⟩
        case measure => simp [RowKit.intOf]; omega
      · obtain rfl : i = k := by omega
        go_wp2_with (first | (go_at_call 11; refine HS1.out.mono ?_; rintro e w3 ⟨rfl, B3⟩) | (go_at_call 7; refine (HW.out w3 B3.out.below).mono ?_; rintro e w4 ⟨rfl, B4⟩))
        go_ret
        exact ⟨rfl, B4.out⟩
  · have HN : Hid (Calls Try.prog 12 #[.int .i64 m, .slice a n c, .int .i64 next] Y fun e w' => e = .returned (.tuple #[.pointer none, .int .i64 1]) ∧ Hid (Below Y.heap.size Y w')) := Lib.hid (by
      by_cases hb : badL m n next
      · exact (load_bad m next a n c Y hb).mono fun _ _ ⟨e, h⟩ => ⟨e, Lib.hid h⟩
      · refine (load_im m next a n c l Y hb hl (ht.under hbY) hid).mono ?_
        rintro e w' (⟨acc', Q, h1, _⟩ | ⟨_, rfl, h2⟩)
        · rcases hlost with h | h
          · exact absurd h hb
          · rw [h] at h1
            cases h1
        · exact ⟨rfl, Lib.hid h2⟩)
    have HD : Hid (∀ W, Below Y.heap.size Y W → Calls Try.prog 13 #[.int .i64 m, .slice a n c, .int .i64 next] W fun e w' => e = .returned (.tuple #[.pointer none, .int .i64 1]) ∧ Hid (Below w.heap.size w w')) := Lib.hid (fun W hW => by
      by_cases hb : badL m n next
      · exact (dload_bad m next a n c W hb).mono fun _ _ ⟨e, h⟩ => ⟨e, Lib.hid (by rw [← h]; exact below_then hbY hW)⟩
      · refine (dload m next a n c l W hb hl (ht.under (below_then hbY hW))).mono ?_
        rintro e w' (⟨acc', Q, h1, _⟩ | ⟨_, rfl, h2⟩)
        · rcases hlost with h | h
          · exact absurd h hb
          · rw [h] at h1
            cases h1
        · exact ⟨rfl, Lib.hid (below_then (below_then hbY hW) h2)⟩)
    clear hl ht hid hA hbY hBY hlost
    go_enter Try.func4, Try.ntmps4
    go_wp2_with fail
    clear hY hB
    refine HN.out.mono ?_
    rintro e w1 ⟨rfl, B1⟩
    obtain ⟨z0, z1⟩ := HBC.out w1 B1.out
    clear y0 y1
    go_wp2_with fail
    refine (HD.out w1 B1.out).mono ?_
    rintro e w2 ⟨rfl, B2⟩
    have H0 := Lib.hid (HW.out w2 B2.out)
    clear z0 z1
    go_wp2_with fail
    go_loopw [11] (fun s wr => s = .int .i64 0 ∧ w2 = wr) (fun _ _ => 0)
    case atStart => exact ⟨rfl, rfl⟩
    case round =>
      obtain ⟨rfl, rfl⟩ := hrel
      by_cases hn0 : 0 < k
      · have hn2 : (0 : Int) < (k : Int) := by omega
        go_wp2_with fail
        refine H0.out.mono ?_
        rintro e w3 ⟨rfl, B3⟩
        go_wp2_with fail
        go_ret
        exact ⟨rfl, B3.out⟩
      · obtain rfl : k = 0 := by omega
        go_wp2_with fail
        refine H0.out.mono ?_
        rintro e w3 ⟨rfl, B3⟩
        go_wp2_with fail
        go_ret
        exact ⟨rfl, B3.out⟩
end Go.Proofs.Ytfbdkafpfminlaa.Heap
