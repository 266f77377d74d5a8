/- HeapPlays, walked. -/
import Derived.Test.YtfbdkafpfminlaaHeapH
namespace Go.Proofs.Ytfbdkafpfminlaa.Heap
open Go.RowKit Go.Lib Go.Proofs.Ytfbdkafpfminlaa.Heap.Im

/-- The acts that came in. -/
def Acts (w : World) (a : Option Addr) (n : Nat) (A : Nat → Int × Int × Int) : Prop := ∀ j, j < n → (∃ b off, a = some ⟨b, off, none⟩ ∧ b < w.heap.size ∧ w.cell? ⟨b, off + j * 3, none⟩ = some (.int .i64 (A j).1) ∧ w.cell? ⟨b, off + j * 3 + 1, none⟩ = some (.int .i64 (A j).2.1) ∧ w.cell? ⟨b, off + j * 3 + 2, none⟩ = some (.int .i64 (A j).2.2)) ∧ Ints.I64 (A j).2.1
def runQ (A : Nat → Int × Int × Int) (q : QS) : Nat → QS
  | 0 => q
  | i + 1 => actQ (runQ A q i) (A i).1 (A i).2.1 (A i).2.2
theorem good_run {A : Nat → Int × Int × Int} {q : QS} (h : Good q) : ∀ i, Good (runQ A q i)
  | 0 => h
  | i + 1 => good_act (good_run h i) _ _ _
/-- Two queues of the call's own, one made behind the other. -/
theorem TW.start {w W1 W2 : World} {Q X : Nat} {qp qd : QS} (h1 : FQ w W1 Q qp) (h2 : DF W1 W2 X qd) : TW w W2 Q X qp qd [] := by
  obtain ⟨F, h3, h4, h5⟩ := h1
  obtain ⟨G, h6, h7, h8⟩ := h2
  exact ⟨F, G, h3.under h7, h6, fun k hk hg => by have := h3.lt k hk; have := h8 k hg; omega, below_then h4 h7, h5, fun k hk => Nat.le_trans h4.size (h8 k hk), fun p hp => by simp at hp⟩
set_option maxRecDepth 100000 in
set_option maxHeartbeats 4000000 in
theorem heapPlays_in (m : Int) (a : Option Addr) (n c : Nat) (A : Nat → Int × Int × Int) (w : World) (hA : Acts w a n A) :
    Calls Try.prog 3 #[.int .i64 m, .slice a n c] w fun e w' => e = .returned (.bool true) ∧ Below w.heap.size w w' := by
  have HW : Hid (∀ W, Below w.heap.size w W → Calls Try.prog 7 #[] W fun e w' => e = .returned (.bool true) ∧ Hid (Below w.heap.size w w')) := Lib.hid (fun W hW => by
    refine (awake_im W).mono ?_
    rintro e w' ⟨rfl, h⟩
    exact ⟨rfl, Lib.hid (below_then hW h)⟩)
  by_cases h40 : (40 : Int) < (n : Int)
  · have H0 := Lib.hid (HW.out w (Below.refl _ _))
    clear hA
    go_enter Try.func3, Try.ntmps3
    go_wp2_with fail
    refine H0.out.mono ?_
    rintro e w1 ⟨rfl, B1⟩
    go_wp2_with fail
    go_ret
    exact ⟨rfl, B1.out⟩
  by_cases hm : 1 ≤ m ∧ m ≤ 1024
  · have hgood : Good ⟨[], m, 1⟩ := good_new hm
    have HN : Hid (Calls Try.prog 8 #[.int .i64 m] w fun e w' => ∃ Q, e = .returned (.tuple #[ptr Q, .int .i64 0]) ∧ Hid (FQ w w' Q ⟨[], m, 1⟩)) := Lib.hid ((new_im m w hm).mono fun _ _ ⟨Q, e, h⟩ => ⟨Q, e, Lib.hid h⟩)
    have HD : Hid (∀ W, Calls Try.prog 9 #[.int .i64 m] W fun e w' => ∃ Q, e = .returned (.tuple #[ptr Q, .int .i64 0]) ∧ Hid (DF W w' Q ⟨[], m, 1⟩)) := Lib.hid (fun W => (dnew m W hm).mono fun _ _ ⟨Q, e, h⟩ => ⟨Q, e, Lib.hid h⟩)
    have HC : Hid (∀ W j, Below w.heap.size w W → j < n → ∃ b off k id due, a = some ⟨b, off, none⟩ ∧ (W.cell? ⟨b, off + j * 3, none⟩ = some (.int .i64 k) ∧ W.cell? ⟨b, off + j * 3 + 1, none⟩ = some (.int .i64 id) ∧ W.cell? ⟨b, off + j * 3 + 2, none⟩ = some (.int .i64 due)) ∧
        Hid (A j = (k, id, due) ∧ Ints.I64 id)) := Lib.hid (fun W j hW hj => by
      obtain ⟨⟨b, off, e, hb, k0, k1, k2⟩, hi⟩ := hA j hj
      exact ⟨b, off, _, _, _, e, ⟨((bcell hW).1 b _ hb).trans k0, ((bcell hW).1 b _ hb).trans k1, ((bcell hW).1 b _ hb).trans k2⟩, Lib.hid ⟨rfl, hi⟩⟩)
    have HDO : Hid (∀ W Q X i k id due, A i = (k, id, due) → Ints.I64 id → TW w W Q X (runQ A ⟨[], m, 1⟩ i) (runQ A ⟨[], m, 1⟩ i) [] → Calls Try.prog 10 #[ptr Q, ptr X, .agg #[.int .i64 k, .int .i64 id, .int .i64 due]] W fun e w' => e = .returned (.bool true) ∧ Hid (TW w w' Q X (runQ A ⟨[], m, 1⟩ (i + 1)) (runQ A ⟨[], m, 1⟩ (i + 1)) [])) := Lib.hid (fun W Q X i k id due hAi hi h => by
      have h1 := do_in k id due hi h (good_run hgood i)
      have e : runQ A ⟨[], m, 1⟩ (i + 1) = actQ (runQ A ⟨[], m, 1⟩ i) k id due := by show actQ _ _ _ _ = _; rw [hAi]
      rw [e]
      exact h1.mono fun _ _ ⟨e, h⟩ => ⟨e, Lib.hid h⟩)
    have HSA : Hid (∀ W Q X i, TW w W Q X (runQ A ⟨[], m, 1⟩ i) (runQ A ⟨[], m, 1⟩ i) [] → Calls Try.prog 11 #[ptr Q, ptr X] W fun e w' => e = .returned (.bool true) ∧ Hid (TW w w' Q X (runQ A ⟨[], m, 1⟩ i) (runQ A ⟨[], m, 1⟩ i) [])) := Lib.hid (fun W Q X i h => (same_in h (good_run hgood i)).mono fun _ _ ⟨e, h⟩ => ⟨e, Lib.hid h⟩)
    have hn1 : (n : Int) ≤ 40 := by omega
    clear hA hm hgood h40
    go_enter Try.func3, Try.ntmps3
    go_wp2_with fail
    refine HN.out.mono ?_
    rintro e w1 ⟨Q, rfl, B1⟩
    go_wp2_with fail
    refine (HD.out w1).mono ?_
    rintro e w2 ⟨X, rfl, B2⟩
    have B3 : Hid (TW w w2 Q X (runQ A ⟨[], m, 1⟩ 0) (runQ A ⟨[], m, 1⟩ 0) []) := Lib.hid (TW.start B1.out B2.out)
    clear B1 B2
    go_wp2_with fail
    go_loopw [9] (fun s wr => ∃ i : Nat, s = .int .i64 i ∧ i ≤ n ∧ Hid (TW w wr Q X (runQ A ⟨[], m, 1⟩ i) (runQ A ⟨[], m, 1⟩ i) [])) (fun s _ => n - (RowKit.intOf s).toNat)
    case atStart => exact ⟨0, rfl, by omega, B3⟩
    case round =>
      clear B3
      obtain ⟨i, rfl, hi, HB⟩ := hrel
      have hi0 : (0 : Int) ≤ (i : Int) := by omega
      by_cases hlt : i < n
      · have hlt2 : (i : Int) < (n : Int) := by omega
        obtain ⟨b, off, k, id, due, rfl, ⟨k0, k1, k2⟩, HK⟩ := HC.out wr i HB.out.below hlt
        have HD1 := Lib.hid (HDO.out wr Q X i k id due HK.out.1 HK.out.2 HB.out)
        go_wp2_with (first | (go_at_call 10; refine HD1.out.mono ?_; rintro e w3 ⟨rfl, B3⟩) | (go_at_call 11; refine (HSA.out w3 Q X (i + 1) B3.out).mono ?_; rintro e w4 ⟨rfl, B4⟩))
        go_roundw
        case rel => exact ⟨i + 1, by go_num, by omega, B4⟩
        case measure => simp [RowKit.intOf]; omega
      · obtain rfl : i = n := by omega
        have H0 := Lib.hid (HW.out wr HB.out.below)
        go_wp2_with fail
        refine H0.out.mono ?_
        rintro e w3 ⟨rfl, B3⟩
        go_wp2_with fail
        go_ret
        exact ⟨rfl, B3.out⟩
  · have HN := Lib.hid (new_bad m w (by omega))
    have HD := Lib.hid (dnew_bad m w (by omega))
    have H0 := Lib.hid (HW.out w (Below.refl _ _))
    clear hA hm
    go_enter Try.func3, Try.ntmps3
    go_wp2_with fail
    refine HN.out.mono ?_
    rintro e w' ⟨rfl, rfl⟩
    go_wp2_with fail
    refine HD.out.mono ?_
    rintro e w' ⟨rfl, rfl⟩
    go_wp2_with fail
    go_loopw [9] (fun s wr => s = .int .i64 0 ∧ w = wr) (fun _ _ => 0)
    case atStart => exact ⟨rfl, rfl⟩
    case round =>
      obtain ⟨rfl, rfl⟩ := hrel
      by_cases hn0 : 0 < n
      · have hn2 : (0 : Int) < (n : Int) := by omega
        go_wp2_with fail
        refine H0.out.mono ?_
        rintro e w3 ⟨rfl, B3⟩
        go_wp2_with fail
        go_ret
        exact ⟨rfl, B3.out⟩
      · obtain rfl : n = 0 := by omega
        go_wp2_with fail
        refine H0.out.mono ?_
        rintro e w3 ⟨rfl, B3⟩
        go_wp2_with fail
        go_ret
        exact ⟨rfl, B3.out⟩
end Go.Proofs.Ytfbdkafpfminlaa.Heap
