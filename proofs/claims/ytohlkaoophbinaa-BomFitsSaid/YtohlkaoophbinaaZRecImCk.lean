/- The program's Check of a blueprint, apart. The program's upTo and Check of fees. The program's in, may, and slices.Index of a row of numbers. What is below a node, reckoned; said without a program. -/
import Derived.Test.YtohlkaoophbinaaZCatMath
import Derived.Test.YtohlkaoophbinaaZCatImA
import Derived.Test.YtohlkaoophbinaaZRecMath
namespace Go.Proofs.Ytohlkaoophbinaa.Recipe.Im
open Go.RowKit Go.Lib
open Goods (St Sts OwnS)

theorem in_yes (n a b : Int) (w : World) (h0 : a ≤ n) (h1 : n ≤ b) : Calls Try.prog 82 #[.int .i64 n, .int .i64 a, .int .i64 b] w fun e w' => e = .returned (.bool true) ∧ w = w' := by
  have d1 : decide (a ≤ n) = true := decide_eq_true h0
  have d2 : decide (n ≤ b) = true := decide_eq_true h1
  go_enter Try.func82, Try.ntmps82
  go_wp2_with fail
  go_ret
  exact ⟨rfl, rfl⟩
theorem in_no (n a b : Int) (w : World) (h : n < a ∨ b < n) : Calls Try.prog 82 #[.int .i64 n, .int .i64 a, .int .i64 b] w fun e w' => e = .returned (.bool false) ∧ w = w' := by
  by_cases k : a ≤ n
  · have d1 : decide (a ≤ n) = true := decide_eq_true k
    have d2 : decide (n ≤ b) = false := decide_eq_false (by omega)
    clear h
    go_enter Try.func82, Try.ntmps82
    go_wp2_with fail
    go_ret
    exact ⟨rfl, rfl⟩
  · have d1 : decide (a ≤ n) = false := decide_eq_false k
    clear h
    go_enter Try.func82, Try.ntmps82
    go_wp2_with fail
    go_ret
    exact ⟨rfl, rfl⟩
/-- As walks want it: what it tells is named ahead. -/
theorem in_at (n a b : Int) : ∃ t : Bool, Hid (∀ w, Calls Try.prog 82 #[.int .i64 n, .int .i64 a, .int .i64 b] w fun e w' => e = .returned (.bool t) ∧ w = w') ∧ Hid ((t = true → a ≤ n ∧ n ≤ b) ∧ (t = false → ¬ (a ≤ n ∧ n ≤ b))) := by
  by_cases h : a ≤ n ∧ n ≤ b
  · exact ⟨true, Lib.hid fun w => in_yes n a b w h.1 h.2, Lib.hid ⟨fun _ => h, fun h => (by cases h)⟩⟩
  · exact ⟨false, Lib.hid fun w => in_no n a b w (by omega), Lib.hid ⟨fun h => (by cases h), fun _ => h⟩⟩
/-- What is made is not needed, said stack by stack. -/
theorem none_made {l : List St} {ty k : Int} (h : Goods.Listed l ty) : ¬ 0 < Goods.cnt (Goods.valN l) k ↔ ∀ s ∈ l, ¬ s.kind = k := by
  have hv := Goods.valN_ok h.2.1
  rw [h.2.2.1] at hv
  obtain ⟨_, hN, _, _⟩ := Goods.Im.listed_iff.1 h
  rw [hv]
  constructor
  · intro h0 s hs e
    subst e
    rw [Goods.cnt_at hN.rise hs] at h0
    have := hN.qty s hs
    omega
  · intro h0
    rw [Goods.cnt_none h0]
    omega
set_option maxRecDepth 100000 in
set_option maxHeartbeats 8000000 in
theorem check_im (b : Bl) (ty : Int) (w : World) (hb : BlIn w b) :
    Calls Try.prog 90 #[blV b, .int .i64 ty] w fun e w' => e = .returned (.int .i64 (chkB b ty)) ∧ Below w.heap.size w w' := by
  obtain ⟨V, X, hV, hX, HXB, HP⟩ := box_blue w b
  obtain ⟨k0, k1, k2, k3, k4, k5, k6⟩ := HP.out X (Below.refl _ _)
  obtain ⟨t0, H0, E0⟩ := in_at ty 0 32
  obtain ⟨t1, H1, E1⟩ := in_at b.ot 1 ty
  obtain ⟨t2, H2, E2⟩ := in_at b.per 1 1048576
  obtain ⟨t3, H3, E3⟩ := in_at b.tm 1 1048576
  obtain ⟨t4, H4, E4⟩ := in_at b.cp 0 1048576
  obtain ⟨t5, H5, E5⟩ := in_at b.st 0 1048576
  obtain ⟨t6, H6, E6⟩ := in_at b.mo 1 1000
  have HCK : Hid (∀ z, Goods.chk b.s ty = z → Calls Try.prog 53 #[.slice b.sa b.sm b.sc, .int .i64 ty] X fun e w' => e = .returned (.int .i64 z) ∧ Hid (Below X.heap.size X w')) := Lib.hid (fun z hz => by
    subst hz
    exact (Goods.Im.check_any b.sa b.sm b.sc b.s ty X hb.1 (hb.2.1.under HXB.out) (by have := hb.2.2; omega)).mono fun _ _ ⟨e, h⟩ => ⟨e, Lib.hid h⟩)
  have HNO : Hid (∀ W, Below X.heap.size X W → Below w.heap.size w W) := Lib.hid (fun W hW => below_then HXB.out hW)
  have HT := Goods.sts_at (hb.2.1.under HXB.out)
  have HL := Lib.hid hb.1
  have hsm : (b.sm : Int) ≤ 1000 := by have := hb.2.2; omega
  clear hb
  rcases t0 with _ | _
  · have hc : chkB b ty = 1 := chkB_no fun h => E0.out.2 rfl (h.1)
    rw [hc]
    clear hc
    clear hsm HT
    go_enter Try.func90, Try.ntmps90
    go_wp2_with fail
    clear hX hV
    refine (H0.out _).mono ?_
    rintro e w' ⟨rfl, rfl⟩
    go_wp2_with fail
    go_ret
    exact ⟨rfl, HXB.out⟩
  rcases t1 with _ | _
  · have hc : chkB b ty = 1 := chkB_no fun h => E1.out.2 rfl (h.2.1)
    rw [hc]
    clear hc
    clear hsm HT
    go_enter Try.func90, Try.ntmps90
    go_wp2_with fail
    clear hX hV
    refine (H0.out _).mono ?_
    rintro e w' ⟨rfl, rfl⟩
    go_wp2_with fail
    refine (H1.out _).mono ?_
    rintro e w' ⟨rfl, rfl⟩
    go_wp2_with fail
    go_ret
    exact ⟨rfl, HXB.out⟩
  by_cases hl : Goods.Listed b.s ty
  case neg =>
    have hc : chkB b ty = 1 := chkB_no fun h => hl h.2.2.2.2.2.2.2.1
    rw [hc]
    clear hc
    have HC := Lib.hid (HCK.out 1 (Goods.chk_no hl))
    clear hl HCK HT hsm
    go_enter Try.func90, Try.ntmps90
    go_wp2_with fail
    clear hX hV
    refine (H0.out _).mono ?_
    rintro e w' ⟨rfl, rfl⟩
    go_wp2_with fail
    refine (H1.out _).mono ?_
    rintro e w' ⟨rfl, rfl⟩
    go_wp2_with fail
    refine HC.out.mono ?_
    rintro e w2 ⟨rfl, HB2⟩
    obtain ⟨y0, y1, y2, y3, y4, y5, y6⟩ := HP.out w2 HB2.out
    clear k0 k1 k2 k3 k4 k5 k6
    go_wp2_with fail
    go_ret
    exact ⟨rfl, HNO.out _ HB2.out⟩
  have HC := Lib.hid (HCK.out 0 (Goods.chk_yes hl))
  have HLI := Lib.hid hl
  clear hl HCK
  rcases t2 with _ | _
  · have hc : chkB b ty = 1 := chkB_no fun h => E2.out.2 rfl (h.2.2.1)
    rw [hc]
    clear hc
    clear hsm HT
    go_enter Try.func90, Try.ntmps90
    go_wp2_with fail
    clear hX hV
    refine (H0.out _).mono ?_
    rintro e w' ⟨rfl, rfl⟩
    go_wp2_with fail
    refine (H1.out _).mono ?_
    rintro e w' ⟨rfl, rfl⟩
    go_wp2_with fail
    refine HC.out.mono ?_
    rintro e w2 ⟨rfl, HB2⟩
    obtain ⟨y0, y1, y2, y3, y4, y5, y6⟩ := HP.out w2 HB2.out
    clear k0 k1 k2 k3 k4 k5 k6
    go_wp2_with fail
    refine (H2.out _).mono ?_
    rintro e w' ⟨rfl, rfl⟩
    go_wp2_with fail
    go_ret
    exact ⟨rfl, HNO.out _ HB2.out⟩
  rcases t3 with _ | _
  · have hc : chkB b ty = 1 := chkB_no fun h => E3.out.2 rfl (h.2.2.2.1)
    rw [hc]
    clear hc
    clear hsm HT
    go_enter Try.func90, Try.ntmps90
    go_wp2_with fail
    clear hX hV
    refine (H0.out _).mono ?_
    rintro e w' ⟨rfl, rfl⟩
    go_wp2_with fail
    refine (H1.out _).mono ?_
    rintro e w' ⟨rfl, rfl⟩
    go_wp2_with fail
    refine HC.out.mono ?_
    rintro e w2 ⟨rfl, HB2⟩
    obtain ⟨y0, y1, y2, y3, y4, y5, y6⟩ := HP.out w2 HB2.out
    clear k0 k1 k2 k3 k4 k5 k6
    go_wp2_with fail
    refine (H2.out _).mono ?_
    rintro e w' ⟨rfl, rfl⟩
    go_wp2_with fail
    refine (H3.out _).mono ?_
    rintro e w' ⟨rfl, rfl⟩
    go_wp2_with fail
    go_ret
    exact ⟨rfl, HNO.out _ HB2.out⟩
  rcases t6 with _ | _
  · have hc : chkB b ty = 1 := chkB_no fun h => E6.out.2 rfl (h.2.2.2.2.2.2.1)
    rw [hc]
    clear hc
    clear hsm HT
    go_enter Try.func90, Try.ntmps90
    go_wp2_with fail
    clear hX hV
    refine (H0.out _).mono ?_
    rintro e w' ⟨rfl, rfl⟩
    go_wp2_with fail
    refine (H1.out _).mono ?_
    rintro e w' ⟨rfl, rfl⟩
    go_wp2_with fail
    refine HC.out.mono ?_
    rintro e w2 ⟨rfl, HB2⟩
    obtain ⟨y0, y1, y2, y3, y4, y5, y6⟩ := HP.out w2 HB2.out
    clear k0 k1 k2 k3 k4 k5 k6
    go_wp2_with fail
    refine (H2.out _).mono ?_
    rintro e w' ⟨rfl, rfl⟩
    go_wp2_with fail
    refine (H3.out _).mono ?_
    rintro e w' ⟨rfl, rfl⟩
    go_wp2_with fail
    refine (H6.out _).mono ?_
    rintro e w' ⟨rfl, rfl⟩
    go_wp2_with fail
    go_ret
    exact ⟨rfl, HNO.out _ HB2.out⟩
  rcases t4 with _ | _
  · have hc : chkB b ty = 1 := chkB_no fun h => E4.out.2 rfl (h.2.2.2.2.1)
    rw [hc]
    clear hc
    clear hsm HT
    go_enter Try.func90, Try.ntmps90
    go_wp2_with fail
    clear hX hV
    refine (H0.out _).mono ?_
    rintro e w' ⟨rfl, rfl⟩
    go_wp2_with fail
    refine (H1.out _).mono ?_
    rintro e w' ⟨rfl, rfl⟩
    go_wp2_with fail
    refine HC.out.mono ?_
    rintro e w2 ⟨rfl, HB2⟩
    obtain ⟨y0, y1, y2, y3, y4, y5, y6⟩ := HP.out w2 HB2.out
    clear k0 k1 k2 k3 k4 k5 k6
    go_wp2_with fail
    refine (H2.out _).mono ?_
    rintro e w' ⟨rfl, rfl⟩
    go_wp2_with fail
    refine (H3.out _).mono ?_
    rintro e w' ⟨rfl, rfl⟩
    go_wp2_with fail
    refine (H6.out _).mono ?_
    rintro e w' ⟨rfl, rfl⟩
    go_wp2_with fail
    refine (H4.out _).mono ?_
    rintro e w' ⟨rfl, rfl⟩
    go_wp2_with fail
    go_ret
    exact ⟨rfl, HNO.out _ HB2.out⟩
  rcases t5 with _ | _
  · have hc : chkB b ty = 1 := chkB_no fun h => E5.out.2 rfl (h.2.2.2.2.2.1)
    rw [hc]
    clear hc
    clear hsm HT
    go_enter Try.func90, Try.ntmps90
    go_wp2_with fail
    clear hX hV
    refine (H0.out _).mono ?_
    rintro e w' ⟨rfl, rfl⟩
    go_wp2_with fail
    refine (H1.out _).mono ?_
    rintro e w' ⟨rfl, rfl⟩
    go_wp2_with fail
    refine HC.out.mono ?_
    rintro e w2 ⟨rfl, HB2⟩
    obtain ⟨y0, y1, y2, y3, y4, y5, y6⟩ := HP.out w2 HB2.out
    clear k0 k1 k2 k3 k4 k5 k6
    go_wp2_with fail
    refine (H2.out _).mono ?_
    rintro e w' ⟨rfl, rfl⟩
    go_wp2_with fail
    refine (H3.out _).mono ?_
    rintro e w' ⟨rfl, rfl⟩
    go_wp2_with fail
    refine (H6.out _).mono ?_
    rintro e w' ⟨rfl, rfl⟩
    go_wp2_with fail
    refine (H4.out _).mono ?_
    rintro e w' ⟨rfl, rfl⟩
    go_wp2_with fail
    refine (H5.out _).mono ?_
    rintro e w' ⟨rfl, rfl⟩
    go_wp2_with fail
    go_ret
    exact ⟨rfl, HNO.out _ HB2.out⟩
  have HYES : Hid ((∀ s ∈ b.s, ¬ s.kind = b.ot) → chkB b ty = 0) := Lib.hid (fun h => chkB_yes ⟨E0.out.1 rfl, E1.out.1 rfl, E2.out.1 rfl, E3.out.1 rfl, E4.out.1 rfl, E5.out.1 rfl, E6.out.1 rfl, HLI.out, (none_made HLI.out).2 h⟩)
  have HNOT : Hid (∀ s ∈ b.s, s.kind = b.ot → chkB b ty = 1) := Lib.hid (fun s hs e => chkB_no fun h => (none_made HLI.out).1 h.2.2.2.2.2.2.2.2 s hs e)
  clear E0 E1 E2 E3 E4 E5 E6
  go_enter Try.func90, Try.ntmps90
  go_wp2_with fail
  clear hX hV
  refine (H0.out _).mono ?_
  rintro e w' ⟨rfl, rfl⟩
  go_wp2_with fail
  refine (H1.out _).mono ?_
  rintro e w' ⟨rfl, rfl⟩
  go_wp2_with fail
  refine HC.out.mono ?_
  rintro e w2 ⟨rfl, HB2⟩
  obtain ⟨y0, y1, y2, y3, y4, y5, y6⟩ := HP.out w2 HB2.out
  clear k0 k1 k2 k3 k4 k5 k6
  go_wp2_with fail
  refine (H2.out _).mono ?_
  rintro e w' ⟨rfl, rfl⟩
  go_wp2_with fail
  refine (H3.out _).mono ?_
  rintro e w' ⟨rfl, rfl⟩
  go_wp2_with fail
  refine (H6.out _).mono ?_
  rintro e w' ⟨rfl, rfl⟩
  go_wp2_with fail
  refine (H4.out _).mono ?_
  rintro e w' ⟨rfl, rfl⟩
  go_wp2_with fail
  refine (H5.out _).mono ?_
  rintro e w' ⟨rfl, rfl⟩
  go_wp2_with fail
  clear y0 y1 y2 y3 y4 y5 y6 H0 H1 H2 H3 H4 H5 H6 HC
  go_loopw [53] (fun t wr => ∃ (i : Nat), t = .int .i64 i ∧ i ≤ b.sm ∧ Hid (Below X.heap.size X wr) ∧ Hid (∀ s ∈ b.s.take i, ¬ s.kind = b.ot)) (fun t _ => b.sm - (RowKit.intOf t).toNat)
  case atStart => exact ⟨0, rfl, by omega, HB2, Lib.hid (fun s hs => by simp at hs)⟩
  case round =>
    obtain ⟨i, rfl, hi, HB, HQ⟩ := hrel
    have hi0 : (0 : Int) ≤ (i : Int) := by omega
    by_cases hlt : i < b.sm
    · have hlt2 : (i : Int) < (b.sm : Int) := by omega
      obtain ⟨g, off, t, ha, ht, k0, k1⟩ := HT.out wr i HB.out (by rw [HL.out]; exact hlt)
      have wi : IntKind.i64.wrap ((i : Int) + 1) = (i : Int) + 1 := IntWalk.i64_in _ (by omega)
      obtain ⟨U, hU⟩ : ∃ U, wr.heap.size = U := ⟨_, rfl⟩
      obtain ⟨Y, hY⟩ : ∃ Y, wr.alloc (.cells #[.int .i64 t.kind, .int .i64 t.qty] 51) = Y := ⟨_, rfl⟩
      have hbY : Below wr.heap.size wr Y := by rw [← hY]; exact (Below.refl _ wr).alloc (Nat.le_refl _) _
      have hVY : Y.heap[U]? = some (.cells t.cells 51 (0, 0)) := by rw [← hY, ← hU]; exact heap_alloc_new wr _
      have v0 : Y.cell? ⟨U, 0, none⟩ = some (.int .i64 t.kind) := cell_block (j := 0) hVY rfl
      have v1 : Y.cell? ⟨U, 1, none⟩ = some (.int .i64 t.qty) := cell_block (j := 1) hVY rfl
      have HBY := Lib.hid (below_then HB.out hbY)
      obtain ⟨y0, y1, y2, y3, y4, y5, y6⟩ := HP.out Y HBY.out
      clear hbY hVY
      rw [ha]
      clear ha
      by_cases c1 : t.kind = b.ot
      · have d1 : (t.kind == b.ot) = true := by simpa using c1
        have HE := Lib.hid (HNOT.out t (List.mem_of_getElem? ht.out) c1)
        clear c1
        go_wp2_with fail
        clear hY hU k0 k1
        go_ret
        exact ⟨by rw [HE.out]; rfl, HNO.out _ HBY.out⟩
      · have d1 : (t.kind == b.ot) = false := by simpa using c1
        have HQ2 : Hid (∀ u ∈ b.s.take (i + 1), ¬ u.kind = b.ot) := Lib.hid (fun u hu => by
          rcases (Goods.mem_take_succ ht.out).1 hu with hu | rfl
          · exact HQ.out u hu
          · exact c1)
        clear c1
        go_wp2_with fail
        clear hY hU k0 k1
        go_roundw
        case rel => exact ⟨i + 1, by go_num, by omega, HBY, HQ2⟩
        case measure => simp [RowKit.intOf]; omega
    · obtain rfl : i = b.sm := by omega
      have HE := Lib.hid (HYES.out (fun s hs => HQ.out s (by rw [List.take_of_length_le (by rw [HL.out]; exact Nat.le_refl _)]; exact hs)))
      go_wp2_with fail
      go_ret
      exact ⟨by rw [HE.out]; rfl, HNO.out _ HB.out⟩
/-- As walks want it. -/
theorem check_at (b : Bl) (w : World) (hb : BlIn w b) : Hid (∀ W z, Below w.heap.size w W → chkB b 32 = z → Calls Try.prog 90 #[blV b, .int .i64 32] W fun e w' => e = .returned (.int .i64 z) ∧ Hid (Below w.heap.size w w')) := Lib.hid (fun W z hW hz => by
  subst hz
  exact (check_im b 32 W (hb.under hW)).mono fun _ _ ⟨e, h⟩ => ⟨e, Lib.hid (below_then hW h)⟩)
end Go.Proofs.Ytohlkaoophbinaa.Recipe.Im
namespace Go.Proofs.Ytohlkaoophbinaa.Fee
open Go.RowKit Go.Lib

/-! upTo -/
theorem upto_yes (n m : Int) (w : World) (h0 : 0 ≤ n) (h1 : n ≤ m) : Calls Try.prog 91 #[.int .i64 n, .int .i64 m] w fun e w' => e = .returned (.bool true) ∧ w = w' := by
  go_enter Try.func91, Try.ntmps91
  go_wp2_with fail
  go_ret
  exact ⟨rfl, rfl⟩
theorem upto_no (n m : Int) (w : World) (h : n < 0 ∨ m < n) : Calls Try.prog 91 #[.int .i64 n, .int .i64 m] w fun e w' => e = .returned (.bool false) ∧ w = w' := by
  have h2 : n < 0 ∨ (¬ n < 0 ∧ m < n) := by omega
  clear h
  rcases h2 with h | ⟨h, k⟩
  · have d1 : decide (0 ≤ n) = false := decide_eq_false (by omega)
    go_enter Try.func91, Try.ntmps91
    go_wp2_with fail
    go_ret
    exact ⟨rfl, rfl⟩
  · have d1 : decide (0 ≤ n) = true := decide_eq_true (by omega)
    have d2 : decide (n ≤ m) = false := decide_eq_false (by omega)
    go_enter Try.func91, Try.ntmps91
    go_wp2_with fail
    go_ret
    exact ⟨rfl, rfl⟩
/-- As walks want it: what it tells is named ahead. -/
theorem upto_at (n m : Int) : ∃ b : Bool, Hid (∀ w, Calls Try.prog 91 #[.int .i64 n, .int .i64 m] w fun e w' => e = .returned (.bool b) ∧ w = w') ∧ ((b = true ∧ 0 ≤ n ∧ n ≤ m) ∨ (b = false ∧ (n < 0 ∨ m < n))) := by
  by_cases h : 0 ≤ n ∧ n ≤ m
  · exact ⟨true, Lib.hid fun w => upto_yes n m w h.1 h.2, .inl ⟨rfl, h⟩⟩
  · exact ⟨false, Lib.hid fun w => upto_no n m w (by omega), .inr ⟨rfl, by omega⟩⟩
set_option maxRecDepth 100000 in
set_option maxHeartbeats 1000000 in
theorem check_im (f : FS) (w : World) :
    Calls Try.prog 71 #[f.v] w fun e w' => e = .returned (.int .i64 (chkF f)) ∧ Below w.heap.size w w' := by
  obtain ⟨b, l, s⟩ := f
  obtain ⟨x, HX, hx⟩ := upto_at b 10000
  obtain ⟨y, HY, hy⟩ := upto_at s 10000
  obtain ⟨z, HZ, hz⟩ := upto_at l 1152921504606846976
  obtain ⟨t, ht⟩ : ∃ t, chkF ⟨b, l, s⟩ = t := ⟨_, rfl⟩
  have hxyz : (x = true ∧ y = true ∧ z = true ∧ t = 0) ∨ ((x = false ∨ (x = true ∧ (y = false ∨ (y = true ∧ z = false)))) ∧ t = 1) := by
    by_cases h : FeeOk ⟨b, l, s⟩
    · left
      rw [chkF_yes h] at ht
      unfold FeeOk at h
      dsimp only at h
      refine ⟨?_, ?_, ?_, ht.symm⟩
      · rcases hx with h1 | h1
        · exact h1.1
        · omega
      · rcases hy with h1 | h1
        · exact h1.1
        · omega
      · rcases hz with h1 | h1
        · exact h1.1
        · omega
    · right
      rw [chkF_no h] at ht
      unfold FeeOk at h
      dsimp only at h
      refine ⟨?_, ht.symm⟩
      rcases hx with h1 | h1
      · refine .inr ⟨h1.1, ?_⟩
        rcases hy with h2 | h2
        · refine .inr ⟨h2.1, ?_⟩
          rcases hz with h3 | h3
          · omega
          · exact h3.1
        · exact .inl h2.1
      · exact .inl h1.1
  rw [ht]
  clear ht hx hy hz
  rcases hxyz with ⟨rfl, rfl, rfl, rfl⟩ | ⟨rfl | ⟨rfl, rfl | ⟨rfl, rfl⟩⟩, rfl⟩
  · go_enter Try.func71, Try.ntmps71
    go_wp2_with fail
    refine (HX.out _).mono ?_
    rintro e w' ⟨rfl, rfl⟩
    go_wp2_with fail
    refine (HY.out _).mono ?_
    rintro e w' ⟨rfl, rfl⟩
    go_wp2_with fail
    refine (HZ.out _).mono ?_
    rintro e w' ⟨rfl, rfl⟩
    go_wp2_with fail
    go_ret
    exact ⟨rfl, (Below.refl _ w).alloc (Nat.le_refl _) _⟩
  · go_enter Try.func71, Try.ntmps71
    go_wp2_with fail
    refine (HX.out _).mono ?_
    rintro e w' ⟨rfl, rfl⟩
    go_wp2_with fail
    go_ret
    exact ⟨rfl, (Below.refl _ w).alloc (Nat.le_refl _) _⟩
  · go_enter Try.func71, Try.ntmps71
    go_wp2_with fail
    refine (HX.out _).mono ?_
    rintro e w' ⟨rfl, rfl⟩
    go_wp2_with fail
    refine (HY.out _).mono ?_
    rintro e w' ⟨rfl, rfl⟩
    go_wp2_with fail
    go_ret
    exact ⟨rfl, (Below.refl _ w).alloc (Nat.le_refl _) _⟩
  · go_enter Try.func71, Try.ntmps71
    go_wp2_with fail
    refine (HX.out _).mono ?_
    rintro e w' ⟨rfl, rfl⟩
    go_wp2_with fail
    refine (HY.out _).mono ?_
    rintro e w' ⟨rfl, rfl⟩
    go_wp2_with fail
    refine (HZ.out _).mono ?_
    rintro e w' ⟨rfl, rfl⟩
    go_wp2_with fail
    go_ret
    exact ⟨rfl, (Below.refl _ w).alloc (Nat.le_refl _) _⟩
end Go.Proofs.Ytohlkaoophbinaa.Fee
namespace Go.Proofs.Ytohlkaoophbinaa.Graph.Im
open Go.RowKit Go.Lib IRows

set_option maxRecDepth 100000 in
theorem in_im (x a b : Int) (w : World) : Calls Try.prog 97 #[.int .i64 x, .int .i64 a, .int .i64 b] w fun e w' => e = .returned (.bool (decide (a ≤ x ∧ x ≤ b))) ∧ w = w' := by
  by_cases h1 : a ≤ x
  · have e1 : decide (a ≤ x) = true := decide_eq_true h1
    by_cases h2 : x ≤ b
    · have e2 : decide (x ≤ b) = true := decide_eq_true h2
      rw [decide_eq_true (⟨h1, h2⟩ : a ≤ x ∧ x ≤ b)]
      clear h1 h2
      go_enter Try.func97, Try.ntmps97
      go_wp2_with fail
      go_ret
      exact ⟨rfl, rfl⟩
    · have e2 : decide (x ≤ b) = false := decide_eq_false h2
      rw [decide_eq_false (fun h : a ≤ x ∧ x ≤ b => h2 h.2)]
      clear h1 h2
      go_enter Try.func97, Try.ntmps97
      go_wp2_with fail
      go_ret
      exact ⟨rfl, rfl⟩
  · have e1 : decide (a ≤ x) = false := decide_eq_false h1
    rw [decide_eq_false (fun h : a ≤ x ∧ x ≤ b => h1 h.1)]
    clear h1
    go_enter Try.func97, Try.ntmps97
    go_wp2_with fail
    go_ret
    exact ⟨rfl, rfl⟩
/-- As walks want it. -/
theorem in_yes (x a b : Int) (w : World) (h : a ≤ x ∧ x ≤ b) : Calls Try.prog 97 #[.int .i64 x, .int .i64 a, .int .i64 b] w fun e w' => e = .returned (.bool true) ∧ w = w' := by
  have := in_im x a b w
  rw [decide_eq_true h] at this
  exact this
theorem in_no (x a b : Int) (w : World) (h : ¬ (a ≤ x ∧ x ≤ b)) : Calls Try.prog 97 #[.int .i64 x, .int .i64 a, .int .i64 b] w fun e w' => e = .returned (.bool false) ∧ w = w' := by
  have := in_im x a b w
  rw [decide_eq_false h] at this
  exact this
/-- A need in a frame's block. -/
theorem box_nd (w : World) (t : Nd) : ∃ U Y, w.heap.size = U ∧ w.alloc (.cells #[.int .i64 t.a, .int .i64 t.b] 111) = Y ∧ Y.cell? ⟨U, 0, none⟩ = some (.int .i64 t.a) ∧ Y.cell? ⟨U, 1, none⟩ = some (.int .i64 t.b) ∧ Hid (Below w.heap.size w Y ∧ Y.heap.size = U + 1) := by
  have hb := heap_alloc_new w (.cells #[.int .i64 t.a, .int .i64 t.b] 111)
  exact ⟨_, _, rfl, rfl, cell_block hb rfl, cell_block hb rfl, Lib.hid ⟨(Below.refl _ _).alloc (Nat.le_refl _) _, by simp⟩⟩
open Classical in
set_option maxRecDepth 100000 in
set_option maxHeartbeats 4000000 in
theorem may_im (n : Int) (a : Option Addr) (m c : Nat) (l : List Nd) (w : World) (hl : l.length = m) (hs : Nds w a l) (hm : m ≤ 1048576) :
    Calls Try.prog 80 #[.int .i64 n, .slice a m c] w fun e w' => e = .returned (.bool (decide (May n l))) ∧ Below w.heap.size w w' := by
  by_cases h1 : 0 ≤ n ∧ n ≤ 64
  case neg =>
    rw [decide_eq_false (fun h : May n l => h1 h.1)]
    have H1 := Lib.hid (in_no n 0 64 w h1)
    clear hl hs hm h1
    go_enter Try.func80, Try.ntmps80
    go_wp2_with fail
    refine H1.out.mono ?_
    rintro e w' ⟨rfl, rfl⟩
    go_wp2_with fail
    go_ret
    exact ⟨rfl, Below.refl _ _⟩
  have H1 := Lib.hid (in_yes n 0 64 w h1)
  by_cases h3 : m ≤ 256
  case neg =>
    have d3 : decide (256 < (m : Int)) = true := decide_eq_true (by omega)
    rw [decide_eq_false (fun h : May n l => h3 (by rw [← hl]; exact h.2.1))]
    clear hl hs hm h1 h3
    go_enter Try.func80, Try.ntmps80
    go_wp2_with fail
    refine H1.out.mono ?_
    rintro e w' ⟨rfl, rfl⟩
    go_wp2_with fail
    go_ret
    exact ⟨rfl, Below.refl _ _⟩
  have d3 : decide (256 < (m : Int)) = false := decide_eq_false (by omega)
  have HL := Lib.hid hl
  have HT := nds_at hs
  have HM : Hid ((∀ t ∈ l, OkNd n t) → decide (May n l) = true) := Lib.hid (fun h => decide_eq_true ⟨h1, by rw [hl]; exact h3, h⟩)
  have HN : Hid (∀ t ∈ l, ¬ OkNd n t → decide (May n l) = false) := Lib.hid (fun t ht h => decide_eq_false (fun k => h (k.2.2 t ht)))
  have hn1 : (m : Int) ≤ 256 := by omega
  clear hl hs hm h1 h3
  go_enter Try.func80, Try.ntmps80
  go_wp2_with fail
  refine H1.out.mono ?_
  rintro e w' ⟨rfl, rfl⟩
  go_wp2_with fail
  go_loopw [17] (fun s wr => ∃ i : Nat, s = .int .i64 i ∧ i ≤ m ∧ Hid (Below w.heap.size w wr) ∧ Hid (∀ t ∈ l.take i, OkNd n t)) (fun s _ => m - (RowKit.intOf s).toNat)
  case atStart => exact ⟨0, rfl, by omega, Lib.hid (Below.refl _ _), Lib.hid (fun t h => by simp at h)⟩
  case round =>
    obtain ⟨i, rfl, hi, HB, HI⟩ := hrel
    have hi0 : (0 : Int) ≤ (i : Int) := by omega
    by_cases hlt : i < m
    · have hlt2 : (i : Int) < (m : Int) := by omega
      obtain ⟨g, off, t, rfl, ht, q0, q1⟩ := HT.out wr i HB.out (by rw [HL.out]; exact hlt)
      obtain ⟨U, Y, hU, hY, u0, u1, HU⟩ := box_nd wr t
      have HBY := Lib.hid (below_then HB.out HU.out.1)
      by_cases c1 : 1 ≤ t.a ∧ t.a ≤ n
      case neg =>
        have HF := Lib.hid (HN.out t (List.mem_of_getElem? ht.out) (fun h => c1 h.1))
        have HA := Lib.hid (in_no t.a 1 n Y c1)
        clear c1
        go_wp2_with fail
        clear hY hU q0 q1
        refine HA.out.mono ?_
        rintro e w' ⟨rfl, rfl⟩
        go_wp2_with fail
        go_ret
        exact ⟨by rw [HF.out]; rfl, HBY.out⟩
      have HA := Lib.hid (in_yes t.a 1 n Y c1)
      by_cases c2 : 1 ≤ t.b ∧ t.b ≤ n
      case neg =>
        have HF := Lib.hid (HN.out t (List.mem_of_getElem? ht.out) (fun h => c2 h.2))
        have HA2 := Lib.hid (in_no t.b 1 n Y c2)
        clear c1 c2
        go_wp2_with fail
        clear hY hU q0 q1
        refine HA.out.mono ?_
        rintro e w' ⟨rfl, rfl⟩
        go_wp2_with fail
        refine HA2.out.mono ?_
        rintro e w' ⟨rfl, rfl⟩
        go_wp2_with fail
        go_ret
        exact ⟨by rw [HF.out]; rfl, HBY.out⟩
      have HA2 := Lib.hid (in_yes t.b 1 n Y c2)
      have HF : Hid (∀ x ∈ l.take (i + 1), OkNd n x) := Lib.hid (fun x hx => by
        rcases (mem_take_succ ht.out).1 hx with hx | rfl
        · exact HI.out x hx
        · exact ⟨c1, c2⟩)
      clear c1 c2
      go_wp2_with fail
      clear hY hU q0 q1
      refine HA.out.mono ?_
      rintro e w' ⟨rfl, rfl⟩
      go_wp2_with fail
      refine HA2.out.mono ?_
      rintro e w' ⟨rfl, rfl⟩
      go_wp2_with fail
      go_roundw
      case rel => exact ⟨i + 1, by go_num, by omega, HBY, HF⟩
      case measure => simp [RowKit.intOf]; omega
    · obtain rfl : i = m := by omega
      have HF := Lib.hid (HM.out (by
        have := HI.out
        rw [List.take_of_length_le (by rw [HL.out]; exact Nat.le_refl _)] at this
        exact this))
      go_wp2_with fail
      go_ret
      exact ⟨by rw [HF.out]; rfl, HB.out⟩
/-- The first place where a number stands, of so many; -1, where there is none. -/
structure First (f : Nat → Int) (m : Nat) (x r : Int) : Prop where
  is : (r = -1 ∧ ∀ i, i < m → f i ≠ x) ∨ ∃ p : Nat, r = (p : Int) ∧ p < m ∧ f p = x ∧ ∀ i, i < p → f i ≠ x
set_option maxRecDepth 100000 in
set_option maxHeartbeats 4000000 in
theorem index_im (g m c : Nat) (f : Nat → Int) (x : Int) (w : World) (hc : ∀ i, i < m → w.cell? ⟨g, i, none⟩ = some (.int .i64 (f i))) (hm : m ≤ 1048576) :
    Calls Try.prog 81 #[.slice (some ⟨g, 0, none⟩) m c, .int .i64 x] w fun e w' => ∃ r, e = .returned (.int .i64 r) ∧ Hid (First f m x r) ∧ w = w' := by
  have HC := Lib.hid hc
  have hn1 : (m : Int) ≤ 1048576 := by omega
  clear hc hm
  go_enter Try.func81, Try.ntmps81
  go_wp2_with fail
  go_loopw [8] (fun s wr => ∃ i : Nat, s = .int .i64 i ∧ i ≤ m ∧ w = wr ∧ Hid (∀ j, j < i → f j ≠ x)) (fun s _ => m - (RowKit.intOf s).toNat)
  case atStart => exact ⟨0, rfl, by omega, rfl, Lib.hid (fun j h => by omega)⟩
  case round =>
    obtain ⟨i, rfl, hi, rfl, HI⟩ := hrel
    have hi0 : (0 : Int) ≤ (i : Int) := by omega
    by_cases hlt : i < m
    · have hlt2 : (i : Int) < (m : Int) := by omega
      have q0 := HC.out i hlt
      obtain ⟨v, hv⟩ : ∃ v, f i = v := ⟨_, rfl⟩
      have HV := Lib.hid hv
      rw [hv] at q0
      clear hv
      by_cases c1 : x = v
      · have HF : Hid (First f m x i) := Lib.hid ⟨.inr ⟨i, rfl, hlt, by rw [HV.out, c1], HI.out⟩⟩
        have c1b : (x == v) = true := by simpa using c1
        clear c1
        go_wp2_with fail
        go_ret
        exact ⟨i, rfl, HF, rfl⟩
      · have HF : Hid (∀ j, j < i + 1 → f j ≠ x) := Lib.hid (fun j hj => by
          by_cases e : j = i
          · rw [e, HV.out]; exact fun h => c1 h.symm
          · exact HI.out j (by omega))
        have c1b : (x == v) = false := by simpa using c1
        clear c1
        go_wp2_with fail
        go_roundw
        case rel => exact ⟨i + 1, by go_num, by omega, by first | rfl | trivial, HF⟩
        case measure => simp [RowKit.intOf]; omega
    · obtain rfl : i = m := by omega
      have HF : Hid (First f i x (-1)) := Lib.hid ⟨.inl ⟨rfl, HI.out⟩⟩
      go_wp2_with fail
      go_ret
      exact ⟨-1, rfl, HF, rfl⟩
end Go.Proofs.Ytohlkaoophbinaa.Graph.Im
namespace Go.Proofs.Ytohlkaoophbinaa.Graph
open Go.RowKit Go.Lib

/-- One need that is looked at: what is found grows by it, or not. -/
def Leads (node : Int) (f : List Int) (t : Nd) : Prop := (t.a = node ∨ t.a ∈ f) ∧ t.b ∉ f
open Classical in
noncomputable def grow (node : Int) : List Nd → List Int → List Int
  | [], f => f
  | t :: l, f => grow node l (if Leads node f t then f ++ [t.b] else f)
noncomputable def rounds (node : Int) (l : List Nd) : Nat → List Int → List Int
  | 0, f => f
  | k + 1, f => grow node l (rounds node l k f)
open Classical in
/-- Those of the first nodes that are found, rising. -/
noncomputable def sel (f : List Int) : Nat → List Int
  | 0 => []
  | k + 1 => sel f k ++ (if ((k + 1 : Nat) : Int) ∈ f then [((k + 1 : Nat) : Int)] else [])
def BelOk (n : Int) (l : List Nd) (node : Int) : Prop := May n l ∧ 1 ≤ node ∧ node ≤ n
open Classical in
noncomputable def belE (n : Int) (l : List Nd) (node : Int) : Int := if BelOk n l node then 0 else 1
open Classical in
noncomputable def belV (n : Int) (l : List Nd) (node : Int) : List Int := if BelOk n l node then sel (rounds node l (n.toNat + 1) []) n.toNat else []
theorem bel_arg {n : Int} {l : List Nd} {node : Int} (h : ¬ BelOk n l node) : belE n l node = 1 ∧ belV n l node = [] := by
  unfold belE belV
  rw [if_neg h, if_neg h]
  exact ⟨rfl, rfl⟩
theorem bel_ok {n : Int} {l : List Nd} {node : Int} (h : BelOk n l node) : belE n l node = 0 ∧ belV n l node = sel (rounds node l (n.toNat + 1) []) n.toNat := by
  unfold belE belV
  rw [if_pos h, if_pos h]
  exact ⟨rfl, rfl⟩
theorem grow_drop {node : Int} {l : List Nd} {i : Nat} {t : Nd} {f : List Int} (h : l[i]? = some t) (hl : Leads node f t) : grow node (l.drop i) f = grow node (l.drop (i + 1)) (f ++ [t.b]) := by
  obtain ⟨hi, e⟩ := List.getElem?_eq_some_iff.1 h
  rw [List.drop_eq_getElem_cons hi, e]
  conv => lhs; unfold grow
  rw [if_pos hl]
theorem grow_skip {node : Int} {l : List Nd} {i : Nat} {t : Nd} {f : List Int} (h : l[i]? = some t) (hl : ¬ Leads node f t) : grow node (l.drop i) f = grow node (l.drop (i + 1)) f := by
  obtain ⟨hi, e⟩ := List.getElem?_eq_some_iff.1 h
  rw [List.drop_eq_getElem_cons hi, e]
  conv => lhs; unfold grow
  rw [if_neg hl]
theorem sel_length (f : List Int) : ∀ k, (sel f k).length ≤ k
  | 0 => Nat.le_refl _
  | k + 1 => by
    have := sel_length f k
    unfold sel
    rw [List.length_append]
    split <;> simp <;> omega
end Go.Proofs.Ytohlkaoophbinaa.Graph
