/- The document's nums, Stacks and Put. -/
import Derived.Test.YtghlgmlelipjfaaZJobByt
import Derived.Test.YtghlgmlelipjfaaZJobDB
import Derived.Test.YtghlgmlelipjfaaZJobTk
import Derived.BigRegion
namespace Go.Proofs.Ytghlgmlelipjfaa.Job
open Go.RowKit Go.Lib IRows
open Goods (St Sts OwnS)
open Pen (uintB)

theorem irow_lay {w : World} {g : Nat} {cs : Array Value} {T : TypeId} (l : List Int) (h : w.heap[g]? = some (.cells cs T (0, 0))) (hc : cs.toList = l.map (Value.int .i64)) : IRow w (some ⟨g, 0, none⟩) l := fun i x hi => by
  refine ⟨g, 0, rfl, (Array.getElem?_eq_some_iff.1 h).1, ?_⟩
  rw [Nat.zero_add]
  refine cell_block (j := i) h ?_
  rw [← Array.getElem?_toList, hc, List.getElem?_map, hi]
  rfl
set_option maxRecDepth 100000 in
set_option maxHeartbeats 4000000 in
theorem dnums (a : Option Addr) (n c : Nat) (l : List Int) (w : World) (hl : l.length = n) (hs : IRow w a l) (hn : n ≤ 1000) (hx : ∀ x ∈ l, x ≤ 9223372036854775807) :
    Calls Try.prog 38 #[.slice a n c] w fun e w' => e = .returned (.string (numsB l)) ∧ Below w.heap.size w w' := by
  have HT := irow_at hs
  have HL := Lib.hid hl
  have HX := Lib.hid hx
  have hn1 : (n : Int) ≤ 1000 := by omega
  have HN := Lib.hid hn
  clear hl hs hx hn
  go_enter Try.func38, Try.ntmps38
  go_wp2_with fail
  go_loopw [3, 4] (fun s t wr => ∃ (i : Nat) (S : ByteArray), s = .string S ∧ t = .int .i64 (i : Int) ∧ i ≤ n ∧ Hid (S = numsB (l.take i)) ∧ Hid (Below w.heap.size w wr)) (fun _ t _ => n - (RowKit.intOf t).toNat)
  case atStart => exact ⟨0, ⟨#[]⟩, rfl, rfl, by omega, Lib.hid (by rw [List.take_zero]; rfl), Lib.hid (Below.refl _ _)⟩
  case round =>
    obtain ⟨i, S, rfl, rfl, hi, HS, HB⟩ := hrel
    have hi0 : (0 : Int) ≤ (i : Int) := by omega
    by_cases hlt : i < n
    · have hlt2 : (i : Int) < (n : Int) := by omega
      obtain ⟨g, off, x, rfl, ht, k0⟩ := HT.out wr i HB.out (by rw [HL.out]; exact hlt)
      have wi : IntKind.i64.wrap ((i : Int) + 1) = (i : Int) + 1 := IntWalk.i64_in _ (by omega)
      obtain ⟨U, hU⟩ : ∃ U, uintB x = U := ⟨_, rfl⟩
      have HU : Hid (∀ W, Calls Try.prog 59 #[.int .i64 x] W fun e w' => e = .returned (.string U) ∧ Hid (Below W.heap.size W w')) := Lib.hid (fun W => by
        rw [← hU]
        exact (Pen.ruint_bytes x W (HX.out x (List.mem_of_getElem? ht.out))).mono fun _ _ ⟨e, h⟩ => ⟨e, Lib.hid h⟩)
      have hsz : ¬ 9223372036854775807 < S.size + U.size := by
        have h1 := numsB_size (l.take i)
        have h2 := Pen.uintB_size x
        have h3 := HN.out
        rw [← HS.out, List.length_take] at h1
        rw [hU] at h2
        omega
      have HS2 : Hid (S ++ U = numsB (l.take (i + 1))) := Lib.hid (by rw [numsB_take ht.out, ← HS.out, hU])
      clear hU
      go_wp2_with fail
      refine (HU.out _).mono ?_
      rintro e w1 ⟨rfl, H1⟩
      go_wp2_with fail
      go_roundw
      case rel => exact ⟨i + 1, S ++ U, rfl, by go_num, by omega, HS2, Lib.hid (below_then HB.out H1.out)⟩
      case measure => simp [RowKit.intOf]; omega
    · obtain rfl : i = n := by omega
      have HE : Hid (S = numsB l) := Lib.hid (by
        have := HS.out
        rw [List.take_of_length_le (by rw [HL.out]; exact Nat.le_refl _)] at this
        exact this)
      go_wp2_with fail
      go_ret
      exact ⟨ret_str (by rw [HE.out]), HB.out⟩
/-- Numbers that a composite literal has laid, wherever. -/
theorem nums_at (L : List Int) (n : Nat) (hn : L.length = n) (h1 : n ≤ 1000) (hx : ∀ x ∈ L, x ≤ 9223372036854775807) : ∃ S, Hid (S = numsB L) ∧ Hid (S.size ≤ 10 * n) ∧ Hid (∀ (W : World) (A c : Nat), IRow W (some ⟨A, 0, none⟩) L → Calls Try.prog 38 #[.slice (some ⟨A, 0, none⟩) n c] W fun e w' => e = .returned (.string S) ∧ Hid (Below W.heap.size W w')) :=
  ⟨_, Lib.hid rfl, Lib.hid (by have := numsB_size L; omega), Lib.hid fun W A c h => (dnums _ n c L W hn h h1 hx).mono fun _ _ ⟨e, h⟩ => ⟨e, Lib.hid h⟩⟩
set_option maxRecDepth 100000 in
set_option maxHeartbeats 8000000 in
theorem dstacks (a : Option Addr) (n c : Nat) (l : List St) (w : World) (hl : l.length = n) (hs : Sts w a l) (hn : n ≤ 8) (hx : ∀ t ∈ l, t.kind ≤ 9223372036854775807 ∧ t.qty ≤ 9223372036854775807) :
    Calls Try.prog 39 #[.slice a n c] w fun e w' => e = .returned (.string (numsB ([(n : Int)] ++ intsS l))) ∧ Hid (Below w.heap.size w w') := by
  have HT := Goods.sts_at hs
  have HL := Lib.hid hl
  have HX := Lib.hid hx
  have hn1 : (n : Int) ≤ 8 := by omega
  have HN := Lib.hid hn
  have HU0 := Lib.hid (Pen.ruint_bytes (n : Int) w (by omega))
  obtain ⟨S0, hS0⟩ : ∃ S0, uintB (n : Int) = S0 := ⟨_, rfl⟩
  rw [hS0] at HU0
  have HS0 : Hid (S0 = numsB ([(n : Int)] ++ intsS (l.take 0))) := Lib.hid (by rw [List.take_zero, ← hS0]; exact (numsB_one _).symm)
  clear hl hs hx hn hS0
  go_enter Try.func39, Try.ntmps39
  go_wp2_with fail
  refine HU0.out.mono ?_
  rintro e w0 ⟨rfl, h0⟩
  have H0 := Lib.hid h0
  clear h0
  go_wp2_with fail
  go_loopw [3, 4] (fun s t wr => ∃ (i : Nat) (S : ByteArray), s = .string S ∧ t = .int .i64 (i : Int) ∧ i ≤ n ∧ Hid (S = numsB ([(n : Int)] ++ intsS (l.take i))) ∧ Hid (Below w.heap.size w wr)) (fun _ t _ => n - (RowKit.intOf t).toNat)
  case atStart => exact ⟨0, S0, rfl, rfl, by omega, HS0, H0⟩
  case round =>
    obtain ⟨i, S, rfl, rfl, hi, HS, HB⟩ := hrel
    obtain ⟨W0, rfl⟩ : ∃ W0, W0 = wr := ⟨_, rfl⟩
    have hi0 : (0 : Int) ≤ (i : Int) := by omega
    by_cases hlt : i < n
    case neg =>
      obtain rfl : i = n := by omega
      have HE : Hid (S = numsB ([(i : Int)] ++ intsS l)) := Lib.hid (by
        have := HS.out
        rw [List.take_of_length_le (by rw [HL.out]; exact Nat.le_refl _)] at this
        exact this)
      go_wp2_with fail
      go_ret
      exact ⟨ret_str (by rw [HE.out]; rfl), HB⟩
    have hlt2 : (i : Int) < (n : Int) := by omega
    have wi : IntKind.i64.wrap ((i : Int) + 1) = (i : Int) + 1 := IntWalk.i64_in _ (by omega)
    obtain ⟨g, off, t, hat, ht, q0, q1⟩ := HT.out W0 i HB.out (by rw [HL.out]; exact hlt)
    have HQ : Hid (∀ W, Below W0.heap.size W0 W → W.cell? ⟨g, off + i * 2, none⟩ = some (.int .i64 t.kind) ∧ W.cell? ⟨g, off + i * 2 + 1, none⟩ = some (.int .i64 t.qty)) := Lib.hid fun W hW => ⟨((bcell hW).1 g _ (World.block_lt_of_cell? _ _ q0)).trans q0, ((bcell hW).1 g _ (World.block_lt_of_cell? _ _ q1)).trans q1⟩
    have htx := HX.out t (List.mem_of_getElem? ht.out)
    obtain ⟨U, HU, HUZ, HNU⟩ := nums_at [t.kind, t.qty] 2 rfl (by omega) (fun x hx => by
      simp at hx
      rcases hx with rfl | rfl
      · exact htx.1
      · exact htx.2)
    have HS2 : Hid (S ++ U = numsB ([(n : Int)] ++ intsS (l.take (i + 1)))) := Lib.hid (by rw [intsS_take ht.out, ← List.append_assoc, numsB_append, ← HS.out, HU.out])
    have hsz : ¬ 9223372036854775807 < S.size + U.size := by
      have h1 := numsB_size ([(n : Int)] ++ intsS (l.take i))
      have h2 := HUZ.out
      have h3 := intsS_length (l.take i)
      have h4 : (l.take i).length ≤ i := List.length_take_le ..
      rw [← HS.out] at h1
      simp at h1
      omega
    rw [hat]
    clear hat ht htx q0 q1
    go_wp2_with fail
    refine wp_region_held_drew (S := fun W => W.cell? ⟨g, off + i * 2, none⟩ = some (.int .i64 t.kind) ∧ W.cell? ⟨g, off + i * 2 + 1, none⟩ = some (.int .i64 t.qty)) (by kernel_rfl) (HQ.out W0 (Below.refl _ _)) (fun hHeld => ?_)
    refine wpAnyH_take (i := 0) (v := .string S) rfl (by kernel_rfl) (by kernel_rfl) (by kernel_rfl) (fun _ _ _ h => h) (Or.inl ⟨by rfl, fun W hSV => ?_⟩) (by assumption) ?_
    · obtain ⟨x0, x1⟩ := hSV
      go_simp
    (try simp only [Act.put, List.getElem_toArray, List.getElem_cons_zero, List.setIfInBounds_toArray, List.set_cons_zero, List.set_cons_succ])
    refine wpAnyH_take (i := 1) (v := .slice (some ⟨g, off, none⟩) n c) rfl (by kernel_rfl) (by kernel_rfl) (by kernel_rfl) (fun _ _ _ h => h) (Or.inl ⟨by rfl, fun W hSV => ?_⟩) (by assumption) ?_
    · obtain ⟨x0, x1⟩ := hSV
      go_simp
    (try simp only [Act.put, List.getElem_toArray, List.getElem_cons_succ, List.getElem_cons_zero, List.setIfInBounds_toArray, List.set_cons_zero, List.set_cons_succ])
    refine wpAnyH_take (i := 2) (v := .int .i64 (i : Int)) rfl (by kernel_rfl) (by kernel_rfl) (by kernel_rfl) (fun _ _ _ h => h) (Or.inl ⟨by rfl, fun W hSV => ?_⟩) (by assumption) ?_
    · obtain ⟨x0, x1⟩ := hSV
      go_simp
    (try simp only [Act.put, List.getElem_toArray, List.getElem_cons_succ, List.getElem_cons_zero, List.setIfInBounds_toArray, List.set_cons_zero, List.set_cons_succ])
    refine wpAnyH_take (i := 3) (v := .pointer (some ⟨g, off + i * 2, none⟩)) rfl (by kernel_rfl) (by kernel_rfl) (by kernel_rfl) (fun _ _ _ h => h) (Or.inl ⟨by rfl, fun W hSV => ?_⟩) (by assumption) ?_
    · obtain ⟨x0, x1⟩ := hSV
      go_simp
    (try simp only [Act.put, List.getElem_toArray, List.getElem_cons_succ, List.getElem_cons_zero, List.setIfInBounds_toArray, List.set_cons_zero, List.set_cons_succ])
    refine wpAnyH_take (i := 4) (v := .pointer (some ⟨g, off + i * 2, none⟩)) rfl (by kernel_rfl) (by kernel_rfl) (by kernel_rfl) (fun _ _ _ h => h) (Or.inl ⟨by rfl, fun W hSV => ?_⟩) (by assumption) ?_
    · obtain ⟨x0, x1⟩ := hSV
      go_simp
    (try simp only [Act.put, List.getElem_toArray, List.getElem_cons_succ, List.getElem_cons_zero, List.setIfInBounds_toArray, List.set_cons_zero, List.set_cons_succ])
    refine wpAnyH_take (i := 5) (v := .int .i64 t.kind) rfl (by kernel_rfl) (by kernel_rfl) (by kernel_rfl) (fun _ _ _ h => h) (Or.inl ⟨by rfl, fun W hSV => ?_⟩) (by assumption) ?_
    · obtain ⟨x0, x1⟩ := hSV
      go_simp
    (try simp only [Act.put, List.getElem_toArray, List.getElem_cons_succ, List.getElem_cons_zero, List.setIfInBounds_toArray, List.set_cons_zero, List.set_cons_succ])
    refine wpAnyH_take (i := 6) (v := .slice (some ⟨g, off, none⟩) n c) rfl (by kernel_rfl) (by kernel_rfl) (by kernel_rfl) (fun _ _ _ h => h) (Or.inl ⟨by rfl, fun W hSV => ?_⟩) (by assumption) ?_
    · obtain ⟨x0, x1⟩ := hSV
      go_simp
    (try simp only [Act.put, List.getElem_toArray, List.getElem_cons_succ, List.getElem_cons_zero, List.setIfInBounds_toArray, List.set_cons_zero, List.set_cons_succ])
    refine wpAnyH_take (i := 7) (v := .int .i64 (i : Int)) rfl (by kernel_rfl) (by kernel_rfl) (by kernel_rfl) (fun _ _ _ h => h) (Or.inl ⟨by rfl, fun W hSV => ?_⟩) (by assumption) ?_
    · obtain ⟨x0, x1⟩ := hSV
      go_simp
    (try simp only [Act.put, List.getElem_toArray, List.getElem_cons_succ, List.getElem_cons_zero, List.setIfInBounds_toArray, List.set_cons_zero, List.set_cons_succ])
    refine wpAnyH_take (i := 8) (v := .pointer (some ⟨g, off + i * 2, none⟩)) rfl (by kernel_rfl) (by kernel_rfl) (by kernel_rfl) (fun _ _ _ h => h) (Or.inl ⟨by rfl, fun W hSV => ?_⟩) (by assumption) ?_
    · obtain ⟨x0, x1⟩ := hSV
      go_simp
    (try simp only [Act.put, List.getElem_toArray, List.getElem_cons_succ, List.getElem_cons_zero, List.setIfInBounds_toArray, List.set_cons_zero, List.set_cons_succ])
    refine wpAnyH_take (i := 9) (v := .pointer (some ⟨g, off + i * 2 + 1, none⟩)) rfl (by kernel_rfl) (by kernel_rfl) (by kernel_rfl) (fun _ _ _ h => h) (Or.inl ⟨by rfl, fun W hSV => ?_⟩) (by assumption) ?_
    · obtain ⟨x0, x1⟩ := hSV
      go_simp
    (try simp only [Act.put, List.getElem_toArray, List.getElem_cons_succ, List.getElem_cons_zero, List.setIfInBounds_toArray, List.set_cons_zero, List.set_cons_succ])
    refine wpAnyH_take (i := 10) (v := .int .i64 t.qty) rfl (by kernel_rfl) (by kernel_rfl) (by kernel_rfl) (fun _ _ _ h => h) (Or.inl ⟨by rfl, fun W hSV => ?_⟩) (by assumption) ?_
    · obtain ⟨x0, x1⟩ := hSV
      go_simp
    (try simp only [Act.put, List.getElem_toArray, List.getElem_cons_succ, List.getElem_cons_zero, List.setIfInBounds_toArray, List.set_cons_zero, List.set_cons_succ])
    refine wpAnyH_ready (rs := [11]) (by kernel_rfl) (by simp) ?_
    refine AllReadyH.cons (o := _) rfl (fun K hK => ?_) AllReadyH.nil
    obtain ⟨A, Y, hA, hY⟩ : ∃ A Y, W0.drew.heap.size = A ∧ W0.drew.alloc (.cells #[.int .i64 t.kind, .int .i64 t.qty] 3) = Y := ⟨_, _, rfl, rfl⟩
    have HY : Hid (Below W0.heap.size W0 Y ∧ IRow Y (some ⟨A, 0, none⟩) [t.kind, t.qty]) := Lib.hid (by rw [← hY, ← hA]; exact ⟨(Below.refl _ W0).drew.alloc (Nat.le_refl _) _, irow_lay [t.kind, t.qty] (heap_alloc_new W0.drew _) rfl⟩)
    go_simp
    (try dsimp only)
    refine hK.out _ _ (HQ.out Y HY.out.1) (fun hHeld => ?_)
    clear hK K hA hY
    (try simp only [Act.put, List.getElem_toArray, List.getElem_cons_succ, List.getElem_cons_zero, List.setIfInBounds_toArray, List.set_cons_zero, List.set_cons_succ])
    refine wpAnyH_ready (rs := [12]) (by kernel_rfl) (by simp) ?_
    refine AllReadyH.cons (o := _) rfl (fun K hK => ?_) AllReadyH.nil
    go_simp
    refine (HNU.out Y A 2 HY.out.2).mono ?_
    rintro e z ⟨rfl, G1⟩
    have HZB : Hid (Below W0.heap.size W0 z) := Lib.hid (below_then HY.out.1 G1.out)
    (try dsimp only)
    refine hK.out _ _ (HQ.out z HZB.out) (fun hHeld => ?_)
    clear hK K
    (try simp only [Act.put, List.getElem_toArray, List.getElem_cons_succ, List.getElem_cons_zero, List.setIfInBounds_toArray, List.set_cons_zero, List.set_cons_succ])
    refine wpAnyH_take (i := 13) (v := .string (S ++ U)) rfl (by kernel_rfl) (by kernel_rfl) (by kernel_rfl) (fun _ _ _ h => h) (Or.inl ⟨by rfl, fun W hSV => ?_⟩) (by assumption) ?_
    · obtain ⟨x0, x1⟩ := hSV
      go_simp
    (try simp only [Act.put, List.getElem_toArray, List.getElem_cons_succ, List.getElem_cons_zero, List.setIfInBounds_toArray, List.set_cons_zero, List.set_cons_succ])
    refine wpAnyH_take (i := 14) (v := .string (S ++ U)) rfl (by kernel_rfl) (by kernel_rfl) (by kernel_rfl) (fun _ _ _ h => h) (Or.inl ⟨by rfl, fun W hSV => ?_⟩) (by assumption) ?_
    · obtain ⟨x0, x1⟩ := hSV
      go_simp
    (try simp only [Act.put, List.getElem_toArray, List.getElem_cons_succ, List.getElem_cons_zero, List.setIfInBounds_toArray, List.set_cons_zero, List.set_cons_succ])
    refine wpAnyH_done (by kernel_rfl) ?_ _
    go_wp2_with fail
    go_roundw
    case rel => exact ⟨i + 1, S ++ U, rfl, by go_num, by omega, HS2, Lib.hid (below_then HB.out HZB.out)⟩
    case measure => simp [RowKit.intOf]; omega
end Go.Proofs.Ytghlgmlelipjfaa.Job
