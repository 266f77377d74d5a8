/- The program's Check of a blueprint, apart. -/
import Derived.Test.YteaclacbdelinaaZRecA
import Derived.Test.YteaclacbdelinaaZGoodsImCk
namespace Go.Proofs.Yteaclacbdelinaa.Recipe.Im
open Go.RowKit Go.Lib
open Goods (St Sts OwnS)

theorem in_yes (n a b : Int) (w : World) (h0 : a ≤ n) (h1 : n ≤ b) : Calls Try.prog 68 #[.int .i64 n, .int .i64 a, .int .i64 b] w fun e w' => e = .returned (.bool true) ∧ w = w' := by
  have d1 : decide (a ≤ n) = true := decide_eq_true h0
  have d2 : decide (n ≤ b) = true := decide_eq_true h1
  go_enter Try.func68, Try.ntmps68
  go_wp2_with fail
  go_ret
  exact ⟨rfl, rfl⟩
theorem in_no (n a b : Int) (w : World) (h : n < a ∨ b < n) : Calls Try.prog 68 #[.int .i64 n, .int .i64 a, .int .i64 b] w fun e w' => e = .returned (.bool false) ∧ w = w' := by
  by_cases k : a ≤ n
  · have d1 : decide (a ≤ n) = true := decide_eq_true k
    have d2 : decide (n ≤ b) = false := decide_eq_false (by omega)
    clear h
    go_enter Try.func68, Try.ntmps68
    go_wp2_with fail
    go_ret
    exact ⟨rfl, rfl⟩
  · have d1 : decide (a ≤ n) = false := decide_eq_false k
    clear h
    go_enter Try.func68, Try.ntmps68
    go_wp2_with fail
    go_ret
    exact ⟨rfl, rfl⟩
/-- As walks want it: what it tells is named ahead. -/
theorem in_at (n a b : Int) : ∃ t : Bool, Hid (∀ w, Calls Try.prog 68 #[.int .i64 n, .int .i64 a, .int .i64 b] w fun e w' => e = .returned (.bool t) ∧ w = w') ∧ Hid ((t = true → a ≤ n ∧ n ≤ b) ∧ (t = false → ¬ (a ≤ n ∧ n ≤ b))) := by
  by_cases h : a ≤ n ∧ n ≤ b
  · exact ⟨true, Lib.hid fun w => in_yes n a b w h.1 h.2, Lib.hid ⟨fun _ => h, fun h => (by cases h)⟩⟩
  · exact ⟨false, Lib.hid fun w => in_no n a b w (by omega), Lib.hid ⟨fun h => (by cases h), fun _ => h⟩⟩
/-- What is made is not needed, said stack by stack. -/
theorem none_made {l : List St} {ty k : Int} (h : Goods.Listed l ty) : ¬ 0 < Goods.cnt (Goods.valN l) k ↔ ∀ s ∈ l, ¬ s.kind = k := by
  have hv := Goods.valN_ok h.2.1
  rw [h.2.2.1] at hv
  obtain ⟨_, hN, _, _⟩ := Goods.Im.listed_iff.1 h
  rw [hv]
  constructor
  · intro h0 s hs e
    subst e
    rw [Goods.cnt_at hN.rise hs] at h0
    have := hN.qty s hs
    omega
  · intro h0
    rw [Goods.cnt_none h0]
    omega
set_option maxRecDepth 100000 in
set_option maxHeartbeats 8000000 in
theorem check_im (b : Bl) (ty : Int) (w : World) (hb : BlIn w b) :
    Calls Try.prog 49 #[blV b, .int .i64 ty] w fun e w' => e = .returned (.int .i64 (chkB b ty)) ∧ Below w.heap.size w w' := by
  obtain ⟨V, X, hV, hX, HXB, HP⟩ := box_blue w b
  obtain ⟨k0, k1, k2, k3, k4, k5, k6⟩ := HP.out X (Below.refl _ _)
  obtain ⟨t0, H0, E0⟩ := in_at ty 0 32
  obtain ⟨t1, H1, E1⟩ := in_at b.ot 1 ty
  obtain ⟨t2, H2, E2⟩ := in_at b.per 1 1048576
  obtain ⟨t3, H3, E3⟩ := in_at b.tm 1 1048576
  obtain ⟨t4, H4, E4⟩ := in_at b.cp 0 1048576
  obtain ⟨t5, H5, E5⟩ := in_at b.st 0 1048576
  obtain ⟨t6, H6, E6⟩ := in_at b.mo 1 1000
  have HCK : Hid (∀ z, Goods.chk b.s ty = z → Calls Try.prog 69 #[.slice b.sa b.sm b.sc, .int .i64 ty] X fun e w' => e = .returned (.int .i64 z) ∧ Hid (Below X.heap.size X w')) := Lib.hid (fun z hz => by
    subst hz
    exact (Goods.Im.check_any b.sa b.sm b.sc b.s ty X hb.1 (hb.2.1.under HXB.out) (by have := hb.2.2; omega)).mono fun _ _ ⟨e, h⟩ => ⟨e, Lib.hid h⟩)
  have HNO : Hid (∀ W, Below X.heap.size X W → Below w.heap.size w W) := Lib.hid (fun W hW => below_then HXB.out hW)
  have HT := Goods.sts_at (hb.2.1.under HXB.out)
  have HL := Lib.hid hb.1
  have hsm : (b.sm : Int) ≤ 1000 := by have := hb.2.2; omega
  clear hb
  rcases t0 with _ | _
  · have hc : chkB b ty = 1 := chkB_no fun h => E0.out.2 rfl (h.1)
    rw [hc]
    clear hc
    clear hsm HT
    go_enter Try.func49, Try.ntmps49
    go_wp2_with fail
    clear hX hV
    refine (H0.out _).mono ?_
    rintro e w' ⟨rfl, rfl⟩
    go_wp2_with fail
    go_ret
    exact ⟨rfl, HXB.out⟩
  rcases t1 with _ | _
  · have hc : chkB b ty = 1 := chkB_no fun h => E1.out.2 rfl (h.2.1)
    rw [hc]
    clear hc
    clear hsm HT
    go_enter Try.func49, Try.ntmps49
    go_wp2_with fail
    clear hX hV
    refine (H0.out _).mono ?_
    rintro e w' ⟨rfl, rfl⟩
    go_wp2_with fail
    refine (H1.out _).mono ?_
    rintro e w' ⟨rfl, rfl⟩
    go_wp2_with fail
    go_ret
    exact ⟨rfl, HXB.out⟩
  by_cases hl : Goods.Listed b.s ty
  case neg =>
    have hc : chkB b ty = 1 := chkB_no fun h => hl h.2.2.2.2.2.2.2.1
    rw [hc]
    clear hc
    have HC := Lib.hid (HCK.out 1 (Goods.chk_no hl))
    clear hl HCK HT hsm
    go_enter Try.func49, Try.ntmps49
    go_wp2_with fail
    clear hX hV
    refine (H0.out _).mono ?_
    rintro e w' ⟨rfl, rfl⟩
    go_wp2_with fail
    refine (H1.out _).mono ?_
    rintro e w' ⟨rfl, rfl⟩
    go_wp2_with fail
    refine HC.out.mono ?_
    rintro e w2 ⟨rfl, HB2⟩
    obtain ⟨y0, y1, y2, y3, y4, y5, y6⟩ := HP.out w2 HB2.out
    clear k0 k1 k2 k3 k4 k5 k6
    go_wp2_with fail
    go_ret
    exact ⟨rfl, HNO.out _ HB2.out⟩
  have HC := Lib.hid (HCK.out 0 (Goods.chk_yes hl))
  have HLI := Lib.hid hl
  clear hl HCK
  rcases t2 with _ | _
  · have hc : chkB b ty = 1 := chkB_no fun h => E2.out.2 rfl (h.2.2.1)
    rw [hc]
    clear hc
    clear hsm HT
    go_enter Try.func49, Try.ntmps49
    go_wp2_with fail
    clear hX hV
    refine (H0.out _).mono ?_
    rintro e w' ⟨rfl, rfl⟩
    go_wp2_with fail
    refine (H1.out _).mono ?_
    rintro e w' ⟨rfl, rfl⟩
    go_wp2_with fail
    refine HC.out.mono ?_
    rintro e w2 ⟨rfl, HB2⟩
    obtain ⟨y0, y1, y2, y3, y4, y5, y6⟩ := HP.out w2 HB2.out
    clear k0 k1 k2 k3 k4 k5 k6
    go_wp2_with fail
    refine (H2.out _).mono ?_
    rintro e w' ⟨rfl, rfl⟩
    go_wp2_with fail
    go_ret
    exact ⟨rfl, HNO.out _ HB2.out⟩
  rcases t3 with _ | _
  · have hc : chkB b ty = 1 := chkB_no fun h => E3.out.2 rfl (h.2.2.2.1)
    rw [hc]
    clear hc
    clear hsm HT
    go_enter Try.func49, Try.ntmps49
    go_wp2_with fail
    clear hX hV
    refine (H0.out _).mono ?_
    rintro e w' ⟨rfl, rfl⟩
    go_wp2_with fail
    refine (H1.out _).mono ?_
    rintro e w' ⟨rfl, rfl⟩
    go_wp2_with fail
    refine HC.out.mono ?_
    rintro e w2 ⟨rfl, HB2⟩
    obtain ⟨y0, y1, y2, y3, y4, y5, y6⟩ := HP.out w2 HB2.out
    clear k0 k1 k2 k3 k4 k5 k6
    go_wp2_with fail
    refine (H2.out _).mono ?_
    rintro e w' ⟨rfl, rfl⟩
    go_wp2_with fail
    refine (H3.out _).mono ?_
    rintro e w' ⟨rfl, rfl⟩
    go_wp2_with fail
    go_ret
    exact ⟨rfl, HNO.out _ HB2.out⟩
  rcases t6 with _ | _
  · have hc : chkB b ty = 1 := chkB_no fun h => E6.out.2 rfl (h.2.2.2.2.2.2.1)
    rw [hc]
    clear hc
    clear hsm HT
    go_enter Try.func49, Try.ntmps49
    go_wp2_with fail
    clear hX hV
    refine (H0.out _).mono ?_
    rintro e w' ⟨rfl, rfl⟩
    go_wp2_with fail
    refine (H1.out _).mono ?_
    rintro e w' ⟨rfl, rfl⟩
    go_wp2_with fail
    refine HC.out.mono ?_
    rintro e w2 ⟨rfl, HB2⟩
    obtain ⟨y0, y1, y2, y3, y4, y5, y6⟩ := HP.out w2 HB2.out
    clear k0 k1 k2 k3 k4 k5 k6
    go_wp2_with fail
    refine (H2.out _).mono ?_
    rintro e w' ⟨rfl, rfl⟩
    go_wp2_with fail
    refine (H3.out _).mono ?_
    rintro e w' ⟨rfl, rfl⟩
    go_wp2_with fail
    refine (H6.out _).mono ?_
    rintro e w' ⟨rfl, rfl⟩
    go_wp2_with fail
    go_ret
    exact ⟨rfl, HNO.out _ HB2.out⟩
  rcases t4 with _ | _
  · have hc : chkB b ty = 1 := chkB_no fun h => E4.out.2 rfl (h.2.2.2.2.1)
    rw [hc]
    clear hc
    clear hsm HT
    go_enter Try.func49, Try.ntmps49
    go_wp2_with fail
    clear hX hV
    refine (H0.out _).mono ?_
    rintro e w' ⟨rfl, rfl⟩
    go_wp2_with fail
    refine (H1.out _).mono ?_
    rintro e w' ⟨rfl, rfl⟩
    go_wp2_with fail
    refine HC.out.mono ?_
    rintro e w2 ⟨rfl, HB2⟩
    obtain ⟨y0, y1, y2, y3, y4, y5, y6⟩ := HP.out w2 HB2.out
    clear k0 k1 k2 k3 k4 k5 k6
    go_wp2_with fail
    refine (H2.out _).mono ?_
    rintro e w' ⟨rfl, rfl⟩
    go_wp2_with fail
    refine (H3.out _).mono ?_
    rintro e w' ⟨rfl, rfl⟩
    go_wp2_with fail
    refine (H6.out _).mono ?_
    rintro e w' ⟨rfl, rfl⟩
    go_wp2_with fail
    refine (H4.out _).mono ?_
    rintro e w' ⟨rfl, rfl⟩
    go_wp2_with fail
    go_ret
    exact ⟨rfl, HNO.out _ HB2.out⟩
  rcases t5 with _ | _
  · have hc : chkB b ty = 1 := chkB_no fun h => E5.out.2 rfl (h.2.2.2.2.2.1)
    rw [hc]
    clear hc
    clear hsm HT
    go_enter Try.func49, Try.ntmps49
    go_wp2_with fail
    clear hX hV
    refine (H0.out _).mono ?_
    rintro e w' ⟨rfl, rfl⟩
    go_wp2_with fail
    refine (H1.out _).mono ?_
    rintro e w' ⟨rfl, rfl⟩
    go_wp2_with fail
    refine HC.out.mono ?_
    rintro e w2 ⟨rfl, HB2⟩
    obtain ⟨y0, y1, y2, y3, y4, y5, y6⟩ := HP.out w2 HB2.out
    clear k0 k1 k2 k3 k4 k5 k6
    go_wp2_with fail
    refine (H2.out _).mono ?_
    rintro e w' ⟨rfl, rfl⟩
    go_wp2_with fail
    refine (H3.out _).mono ?_
    rintro e w' ⟨rfl, rfl⟩
    go_wp2_with fail
    refine (H6.out _).mono ?_
    rintro e w' ⟨rfl, rfl⟩
    go_wp2_with fail
    refine (H4.out _).mono ?_
    rintro e w' ⟨rfl, rfl⟩
    go_wp2_with fail
    refine (H5.out _).mono ?_
    rintro e w' ⟨rfl, rfl⟩
    go_wp2_with fail
    go_ret
    exact ⟨rfl, HNO.out _ HB2.out⟩
  have HYES : Hid ((∀ s ∈ b.s, ¬ s.kind = b.ot) → chkB b ty = 0) := Lib.hid (fun h => chkB_yes ⟨E0.out.1 rfl, E1.out.1 rfl, E2.out.1 rfl, E3.out.1 rfl, E4.out.1 rfl, E5.out.1 rfl, E6.out.1 rfl, HLI.out, (none_made HLI.out).2 h⟩)
  have HNOT : Hid (∀ s ∈ b.s, s.kind = b.ot → chkB b ty = 1) := Lib.hid (fun s hs e => chkB_no fun h => (none_made HLI.out).1 h.2.2.2.2.2.2.2.2 s hs e)
  clear E0 E1 E2 E3 E4 E5 E6
  go_enter Try.func49, Try.ntmps49
  go_wp2_with fail
  clear hX hV
  refine (H0.out _).mono ?_
  rintro e w' ⟨rfl, rfl⟩
  go_wp2_with fail
  refine (H1.out _).mono ?_
  rintro e w' ⟨rfl, rfl⟩
  go_wp2_with fail
  refine HC.out.mono ?_
  rintro e w2 ⟨rfl, HB2⟩
  obtain ⟨y0, y1, y2, y3, y4, y5, y6⟩ := HP.out w2 HB2.out
  clear k0 k1 k2 k3 k4 k5 k6
  go_wp2_with fail
  refine (H2.out _).mono ?_
  rintro e w' ⟨rfl, rfl⟩
  go_wp2_with fail
  refine (H3.out _).mono ?_
  rintro e w' ⟨rfl, rfl⟩
  go_wp2_with fail
  refine (H6.out _).mono ?_
  rintro e w' ⟨rfl, rfl⟩
  go_wp2_with fail
  refine (H4.out _).mono ?_
  rintro e w' ⟨rfl, rfl⟩
  go_wp2_with fail
  refine (H5.out _).mono ?_
  rintro e w' ⟨rfl, rfl⟩
  go_wp2_with fail
  clear y0 y1 y2 y3 y4 y5 y6 H0 H1 H2 H3 H4 H5 H6 HC
  go_loopw [53] (fun t wr => ∃ (i : Nat), t = .int .i64 i ∧ i ≤ b.sm ∧ Hid (Below X.heap.size X wr) ∧ Hid (∀ s ∈ b.s.take i, ¬ s.kind = b.ot)) (fun t _ => b.sm - (RowKit.intOf t).toNat)
  case atStart => exact ⟨0, rfl, by omega, HB2, Lib.hid (fun s hs => by simp at hs)⟩
  case round =>
    obtain ⟨i, rfl, hi, HB, HQ⟩ := hrel
    have hi0 : (0 : Int) ≤ (i : Int) := by omega
    by_cases hlt : i < b.sm
    · have hlt2 : (i : Int) < (b.sm : Int) := by omega
      obtain ⟨g, off, t, ha, ht, k0, k1⟩ := HT.out wr i HB.out (by rw [HL.out]; exact hlt)
      have wi : IntKind.i64.wrap ((i : Int) + 1) = (i : Int) + 1 := IntWalk.i64_in _ (by omega)
      obtain ⟨U, hU⟩ : ∃ U, wr.heap.size = U := ⟨_, rfl⟩
      obtain ⟨Y, hY⟩ : ∃ Y, wr.alloc (.cells #[.int .i64 t.kind, .int .i64 t.qty] 54) = Y := ⟨_, rfl⟩
      have hbY : Below wr.heap.size wr Y := by rw [← hY]; exact (Below.refl _ wr).alloc (Nat.le_refl _) _
      have hVY : Y.heap[U]? = some (.cells t.cells 54 (0, 0)) := by rw [← hY, ← hU]; exact heap_alloc_new wr _
      have v0 : Y.cell? ⟨U, 0, none⟩ = some (.int .i64 t.kind) := cell_block (j := 0) hVY rfl
      have v1 : Y.cell? ⟨U, 1, none⟩ = some (.int .i64 t.qty) := cell_block (j := 1) hVY rfl
      have HBY := Lib.hid (below_then HB.out hbY)
      obtain ⟨y0, y1, y2, y3, y4, y5, y6⟩ := HP.out Y HBY.out
      clear hbY hVY
      rw [ha]
      clear ha
      by_cases c1 : t.kind = b.ot
      · have d1 : (t.kind == b.ot) = true := by simpa using c1
        have HE := Lib.hid (HNOT.out t (List.mem_of_getElem? ht.out) c1)
        clear c1
        go_wp2_with fail
        clear hY hU k0 k1
        go_ret
        exact ⟨by rw [HE.out]; rfl, HNO.out _ HBY.out⟩
      · have d1 : (t.kind == b.ot) = false := by simpa using c1
        have HQ2 : Hid (∀ u ∈ b.s.take (i + 1), ¬ u.kind = b.ot) := Lib.hid (fun u hu => by
          rcases (Goods.mem_take_succ ht.out).1 hu with hu | rfl
          · exact HQ.out u hu
          · exact c1)
        clear c1
        go_wp2_with fail
        clear hY hU k0 k1
        go_roundw
        case rel => exact ⟨i + 1, by go_num, by omega, HBY, HQ2⟩
        case measure => simp [RowKit.intOf]; omega
    · obtain rfl : i = b.sm := by omega
      have HE := Lib.hid (HYES.out (fun s hs => HQ.out s (by rw [List.take_of_length_le (by rw [HL.out]; exact Nat.le_refl _)]; exact hs)))
      go_wp2_with fail
      go_ret
      exact ⟨by rw [HE.out]; rfl, HNO.out _ HB.out⟩
/-- As walks want it. -/
theorem check_at (b : Bl) (w : World) (hb : BlIn w b) : Hid (∀ W z, Below w.heap.size w W → chkB b 32 = z → Calls Try.prog 49 #[blV b, .int .i64 32] W fun e w' => e = .returned (.int .i64 z) ∧ Hid (Below w.heap.size w w')) := Lib.hid (fun W z hW hz => by
  subst hz
  exact (check_im b 32 W (hb.under hW)).mono fun _ _ ⟨e, h⟩ => ⟨e, Lib.hid (below_then hW h)⟩)
end Go.Proofs.Yteaclacbdelinaa.Recipe.Im
