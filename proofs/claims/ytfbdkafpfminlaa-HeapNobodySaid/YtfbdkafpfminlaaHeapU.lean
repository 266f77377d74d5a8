/- HeapNobody, walked. -/
import Derived.Test.YtfbdkafpfminlaaHeapImP
namespace Go.Proofs.Ytfbdkafpfminlaa.Heap.Im
open Go.RowKit Go.Lib

set_option maxRecDepth 100000 in
set_option maxHeartbeats 8000000 in
theorem heapNobody_in (a b : Int) (w : World) :
    Calls Try.prog 6 #[.int .i64 a, .int .i64 b] w fun e w' => e = .returned (.bool true) ∧ Below w.heap.size w w' := by
  obtain ⟨Zb, hZb⟩ : ∃ Zb, w.heap.size = Zb := ⟨_, rfl⟩
  obtain ⟨L, hL⟩ : ∃ L, w.heap.size + 1 = L := ⟨_, rfl⟩
  obtain ⟨Y, hY⟩ : ∃ Y, w.alloc (.cells #[.int .i64 0, .int .i64 0, .slice none 0 0, .map none] 53) = Y := ⟨_, rfl⟩
  obtain ⟨X, hX⟩ : ∃ X, Y.alloc (.cells #[.pointer none, ptr Zb] 24) = X := ⟨_, rfl⟩
  have hYs : Y.heap.size = L := by rw [← hY, ← hL]; simp
  have hbX : Below w.heap.size w X := by rw [← hX, ← hY]; exact ((Below.refl _ w).alloc (Nat.le_refl _) _).alloc (by simp) _
  have hZX : X.heap[Zb]? = some (.cells #[.int .i64 0, .int .i64 0, .slice none 0 0, .map none] 53 (0, 0)) := by
    rw [← hX, heap_alloc_old _ _ (by rw [hYs]; omega), ← hY, ← hZb]
    exact heap_alloc_new w _
  have hLX : X.heap[L]? = some (.cells #[.pointer none, ptr Zb] 24 (0, 0)) := by
    rw [← hX, ← hYs]
    exact heap_alloc_new Y _
  have HV : Hid (∀ W v, Below X.heap.size X W → v = .pointer none ∨ v = ptr Zb → NB W v) := Lib.hid (fun W v hW hv => by
    rcases hv with rfl | rfl
    · exact nb_nil W
    · exact nb_zero ((hW.block Zb (Array.getElem?_eq_some_iff.1 hZX).1).trans hZX))
  have HC : Hid (∀ W, Below X.heap.size X W → W.cell? ⟨L, 0, none⟩ = some (.pointer none) ∧ W.cell? ⟨L, 1, none⟩ = some (ptr Zb)) := Lib.hid (fun W hW => by
    have := (hW.block L (Array.getElem?_eq_some_iff.1 hLX).1).trans hLX
    exact ⟨cell_block (j := 0) this rfl, cell_block (j := 1) this rfl⟩)
  obtain ⟨z, hz0⟩ : ∃ z, zeroTm = z := ⟨_, rfl⟩
  have HI : Hid (∀ W v, NB W v → Calls Try.prog 14 #[v, .int .i64 a, .int .i64 b] W fun e w' => e = .returned (.tuple #[.int .i64 0, .int .i64 1]) ∧ W = w') := Lib.hid (fun W v h => nb_insert a b h)
  have HM : Hid (∀ W v, NB W v → Calls Try.prog 17 #[v, .int .i64 a, .int .i64 b] W fun e w' => e = .returned (.tuple #[.int .i64 0, .int .i64 1]) ∧ W = w') := Lib.hid (fun W v h => nb_move a b h)
  have HP : Hid (∀ W v, NB W v → Below X.heap.size X W → Calls Try.prog 15 #[v, .int .i64 a] W fun e w' => e = .returned (.tuple #[.agg #[.int .i64 z.due, .int .i64 z.id, .int .i64 z.what], .bool false]) ∧ Hid (Below X.heap.size X w')) := Lib.hid (fun W v h hW => by
    refine (nb_pop a h).mono ?_
    rintro e w' ⟨rfl, hb⟩
    exact ⟨by rw [hz0], Lib.hid (below_then hW hb)⟩)
  have HF : Hid (∀ W v, NB W v → Below X.heap.size X W → Calls Try.prog 18 #[v] W fun e w' => e = .returned (.tuple #[.agg #[.int .i64 z.due, .int .i64 z.id, .int .i64 z.what], .bool false]) ∧ Hid (Below X.heap.size X w')) := Lib.hid (fun W v h hW => by
    refine (nb_first h).mono ?_
    rintro e w' ⟨rfl, hb⟩
    exact ⟨by rw [hz0], Lib.hid (below_then hW hb)⟩)
  have HG : Hid (∀ W v, NB W v → Below X.heap.size X W → Calls Try.prog 19 #[v, .int .i64 a] W fun e w' => e = .returned (.tuple #[.agg #[.int .i64 z.due, .int .i64 z.id, .int .i64 z.what], .bool false]) ∧ Hid (Below X.heap.size X w')) := Lib.hid (fun W v h hW => by
    refine (nb_get a h).mono ?_
    rintro e w' ⟨rfl, hb⟩
    exact ⟨by rw [hz0], Lib.hid (below_then hW hb)⟩)
  have HA : Hid (∀ W, Below X.heap.size X W → ∃ W', W.alloc (.cells #[.int .i64 z.due, .int .i64 z.id, .int .i64 z.what] 45) = W' ∧ Hid (Below X.heap.size X W')) := Lib.hid (fun W hW => ⟨_, rfl, Lib.hid (hW.alloc hW.size _)⟩)
  have HCA : Hid (∀ W v, NB W v → Calls Try.prog 20 #[v, .int .i64 a] W fun e w' => e = .returned (.int .i64 1) ∧ W = w') := Lib.hid (fun W v h => nb_cancel a h)
  have HLI : Hid (∀ W v, NB W v → Calls Try.prog 21 #[v] W fun e w' => e = .returned (.slice none 0 0) ∧ W = w') := Lib.hid (fun W v h => nb_list h)
  have HLE : Hid (∀ W v, NB W v → Calls Try.prog 16 #[v] W fun e w' => e = .returned (.int .i64 0) ∧ W = w') := Lib.hid (fun W v h => nb_len h)
  have HN : Hid (∀ W v, NB W v → Calls Try.prog 22 #[v] W fun e w' => e = .returned (.int .i64 0) ∧ W = w') := Lib.hid (fun W v h => nb_next h)
  have HW : Hid (∀ W, Below X.heap.size X W → Calls Try.prog 7 #[] W fun e w' => e = .returned (.bool true) ∧ Hid (Below w.heap.size w w')) := Lib.hid (fun W hW => by
    refine (awake_im W).mono ?_
    rintro e w' ⟨rfl, h⟩
    exact ⟨rfl, Lib.hid (below_then hbX (below_then hW h))⟩)
  clear hz0 hbX hZX hLX
  go_enter Try.func6, Try.ntmps6
  go_wp2_with fail
  clear hX hY hYs hL hZb
  go_loopw [6] (fun t wr => ∃ i : Nat, t = .int .i64 i ∧ i ≤ 2 ∧ Hid (Below X.heap.size X wr)) (fun t _ => 2 - (RowKit.intOf t).toNat)
  case atStart => exact ⟨0, rfl, by omega, Lib.hid (Below.refl _ _)⟩
  case round =>
    obtain ⟨i, rfl, hi, HB⟩ := hrel
    by_cases hlt : i < 2
    · have hlt2 : (i : Int) < 2 := by omega
      have hi0 : (0 : Int) ≤ (i : Int) := by omega
      obtain ⟨v, hv, cv⟩ : ∃ v, (v = .pointer none ∨ v = ptr Zb) ∧ wr.cell? ⟨L, i, none⟩ = some v := by
        obtain ⟨c0, c1⟩ := HC.out wr HB.out
        rcases Nat.lt_or_ge i 1 with h | h
        · obtain rfl : i = 0 := by omega
          exact ⟨_, .inl rfl, c0⟩
        · obtain rfl : i = 1 := by omega
          exact ⟨_, .inr rfl, c1⟩
      have HVV : Hid (∀ W, Below X.heap.size X W → NB W v) := Lib.hid (fun W hW => HV.out W v hW hv)
      have N0 := Lib.hid (HVV.out wr HB.out)
      clear hv
      go_wp2_with fail
      refine (HI.out wr v N0.out).mono ?_
      rintro e w' ⟨rfl, rfl⟩
      go_wp2_with fail
      refine (HM.out wr v N0.out).mono ?_
      rintro e w' ⟨rfl, rfl⟩
      go_wp2_with fail
      refine (HP.out wr v N0.out HB.out).mono ?_
      rintro e w1 ⟨rfl, B1⟩
      obtain ⟨W1, hW1, B1'⟩ := HA.out w1 B1.out
      have N1 := Lib.hid (HVV.out W1 B1'.out)
      go_wp2_with fail
      clear hW1
      refine (HF.out W1 v N1.out B1'.out).mono ?_
      rintro e w2 ⟨rfl, B2⟩
      obtain ⟨W2, hW2, B2'⟩ := HA.out w2 B2.out
      have N2 := Lib.hid (HVV.out W2 B2'.out)
      go_wp2_with fail
      clear hW2
      refine (HG.out W2 v N2.out B2'.out).mono ?_
      rintro e w3 ⟨rfl, B3⟩
      obtain ⟨W3, hW3, B3'⟩ := HA.out w3 B3.out
      have N3 := Lib.hid (HVV.out W3 B3'.out)
      go_wp2_with (first | (go_at_call 20; refine (HCA.out _ v N3.out).mono ?_; rintro e w' ⟨rfl, rfl⟩) | (go_at_call 21; refine (HLI.out _ v N3.out).mono ?_; rintro e w' ⟨rfl, rfl⟩) | (go_at_call 16; refine (HLE.out _ v N3.out).mono ?_; rintro e w' ⟨rfl, rfl⟩) | (go_at_call 22; refine (HN.out _ v N3.out).mono ?_; rintro e w' ⟨rfl, rfl⟩))
      go_roundw
      case rel => exact ⟨i + 1, by go_num, by omega, B3'⟩
      case measure => simp [RowKit.intOf]; omega
    · obtain rfl : i = 2 := by omega
      have HW1 := Lib.hid (HW.out wr HB.out)
      go_wp2_with fail
      refine HW1.out.mono ?_
      rintro e w1 ⟨rfl, B1⟩
      go_wp2_with fail
      go_ret
      exact ⟨rfl, B1.out⟩
end Go.Proofs.Ytfbdkafpfminlaa.Heap.Im
