/- The program's Check of a blueprint, apart. The program's Check of a blueprint; its in, isLevel, isRuns, may. The library's contracts at this translation, as the kit's command lays them. Words of 64 bits, as package calc uses them: their products, and what is above 0 (behind the shelf). Package calc's Mul, as later layers call it (behind the shelf). -/
import Derived.Test.YtdbhdlgoecpeaaaZRecA
import Derived.Test.YtdbhdlgoecpeaaaZCatImA
import Derived.Shelf.Small.Bits
import Derived.Shelf.Strconv.Itoa0
import Derived.Shelf.Bits.Mul64
import Derived.Test.YtdbhdlgoecpeaaaProg
import Derived.Test.YtdbhdlgoecpeaaaRows
import Derived.Test.YtdbhdlgoecpeaaaZCatOrd
import Derived.WalkSpells
import Derived.WalkLawsBesides
import Derived.RegionTactic
import Derived.Deep.QuietTactic
import Derived.BigQuiet
namespace Go.Proofs.Ytdbhdlgoecpeaaa.Recipe.Im
open Go.RowKit Go.Lib
open Goods (St Sts OwnS)

theorem in_yes (n a b : Int) (w : World) (h0 : a ≤ n) (h1 : n ≤ b) : Calls Try.prog 90 #[.int .i64 n, .int .i64 a, .int .i64 b] w fun e w' => e = .returned (.bool true) ∧ w = w' := by
  have d1 : decide (a ≤ n) = true := decide_eq_true h0
  have d2 : decide (n ≤ b) = true := decide_eq_true h1
  go_enter Try.func90, Try.ntmps90
  go_wp2_with fail
  go_ret
  exact ⟨rfl, rfl⟩
theorem in_no (n a b : Int) (w : World) (h : n < a ∨ b < n) : Calls Try.prog 90 #[.int .i64 n, .int .i64 a, .int .i64 b] w fun e w' => e = .returned (.bool false) ∧ w = w' := by
  by_cases k : a ≤ n
  · have d1 : decide (a ≤ n) = true := decide_eq_true k
    have d2 : decide (n ≤ b) = false := decide_eq_false (by omega)
    clear h
    go_enter Try.func90, Try.ntmps90
    go_wp2_with fail
    go_ret
    exact ⟨rfl, rfl⟩
  · have d1 : decide (a ≤ n) = false := decide_eq_false k
    clear h
    go_enter Try.func90, Try.ntmps90
    go_wp2_with fail
    go_ret
    exact ⟨rfl, rfl⟩
/-- As walks want it: what it tells is named ahead. -/
theorem in_at (n a b : Int) : ∃ t : Bool, Hid (∀ w, Calls Try.prog 90 #[.int .i64 n, .int .i64 a, .int .i64 b] w fun e w' => e = .returned (.bool t) ∧ w = w') ∧ Hid ((t = true → a ≤ n ∧ n ≤ b) ∧ (t = false → ¬ (a ≤ n ∧ n ≤ b))) := by
  by_cases h : a ≤ n ∧ n ≤ b
  · exact ⟨true, Lib.hid fun w => in_yes n a b w h.1 h.2, Lib.hid ⟨fun _ => h, fun h => (by cases h)⟩⟩
  · exact ⟨false, Lib.hid fun w => in_no n a b w (by omega), Lib.hid ⟨fun h => (by cases h), fun _ => h⟩⟩
/-- What is made is not needed, said stack by stack. -/
theorem none_made {l : List St} {ty k : Int} (h : Goods.Listed l ty) : ¬ 0 < Goods.cnt (Goods.valN l) k ↔ ∀ s ∈ l, ¬ s.kind = k := by
  have hv := Goods.valN_ok h.2.1
  rw [h.2.2.1] at hv
  obtain ⟨_, hN, _, _⟩ := Goods.Im.listed_iff.1 h
  rw [hv]
  constructor
  · intro h0 s hs e
    subst e
    rw [Goods.cnt_at hN.rise hs] at h0
    have := hN.qty s hs
    omega
  · intro h0
    rw [Goods.cnt_none h0]
    omega
set_option maxRecDepth 100000 in
set_option maxHeartbeats 8000000 in
theorem check_im (b : Bl) (ty : Int) (w : World) (hb : BlIn w b) :
    Calls Try.prog 75 #[blV b, .int .i64 ty] w fun e w' => e = .returned (.int .i64 (chkB b ty)) ∧ Below w.heap.size w w' := by
  obtain ⟨V, X, hV, hX, HXB, HP⟩ := box_blue w b
  obtain ⟨k0, k1, k2, k3, k4, k5, k6⟩ := HP.out X (Below.refl _ _)
  obtain ⟨t0, H0, E0⟩ := in_at ty 0 32
  obtain ⟨t1, H1, E1⟩ := in_at b.ot 1 ty
  obtain ⟨t2, H2, E2⟩ := in_at b.per 1 1048576
  obtain ⟨t3, H3, E3⟩ := in_at b.tm 1 1048576
  obtain ⟨t4, H4, E4⟩ := in_at b.cp 0 1048576
  obtain ⟨t5, H5, E5⟩ := in_at b.st 0 1048576
  obtain ⟨t6, H6, E6⟩ := in_at b.mo 1 1000
  have HCK : Hid (∀ z, Goods.chk b.s ty = z → Calls Try.prog 91 #[.slice b.sa b.sm b.sc, .int .i64 ty] X fun e w' => e = .returned (.int .i64 z) ∧ Hid (Below X.heap.size X w')) := Lib.hid (fun z hz => by
    subst hz
    exact (Goods.Im.check_any b.sa b.sm b.sc b.s ty X hb.1 (hb.2.1.under HXB.out) (by have := hb.2.2; omega)).mono fun _ _ ⟨e, h⟩ => ⟨e, Lib.hid h⟩)
  have HNO : Hid (∀ W, Below X.heap.size X W → Below w.heap.size w W) := Lib.hid (fun W hW => below_then HXB.out hW)
  have HT := Goods.sts_at (hb.2.1.under HXB.out)
  have HL := Lib.hid hb.1
  have hsm : (b.sm : Int) ≤ 1000 := by have := hb.2.2; omega
  clear hb
  rcases t0 with _ | _
  · have hc : chkB b ty = 1 := chkB_no fun h => E0.out.2 rfl (h.1)
    rw [hc]
    clear hc
    clear hsm HT
    go_enter Try.func75, Try.ntmps75
    go_wp2_with fail
    clear hX hV
    refine (H0.out _).mono ?_
    rintro e w' ⟨rfl, rfl⟩
    go_wp2_with fail
    go_ret
    exact ⟨rfl, HXB.out⟩
  rcases t1 with _ | _
  · have hc : chkB b ty = 1 := chkB_no fun h => E1.out.2 rfl (h.2.1)
    rw [hc]
    clear hc
    clear hsm HT
    go_enter Try.func75, Try.ntmps75
    go_wp2_with fail
    clear hX hV
    refine (H0.out _).mono ?_
    rintro e w' ⟨rfl, rfl⟩
    go_wp2_with fail
    refine (H1.out _).mono ?_
    rintro e w' ⟨rfl, rfl⟩
    go_wp2_with fail
    go_ret
    exact ⟨rfl, HXB.out⟩
  by_cases hl : Goods.Listed b.s ty
  case neg =>
    have hc : chkB b ty = 1 := chkB_no fun h => hl h.2.2.2.2.2.2.2.1
    rw [hc]
    clear hc
    have HC := Lib.hid (HCK.out 1 (Goods.chk_no hl))
    clear hl HCK HT hsm
    go_enter Try.func75, Try.ntmps75
    go_wp2_with fail
    clear hX hV
    refine (H0.out _).mono ?_
    rintro e w' ⟨rfl, rfl⟩
    go_wp2_with fail
    refine (H1.out _).mono ?_
    rintro e w' ⟨rfl, rfl⟩
    go_wp2_with fail
    refine HC.out.mono ?_
    rintro e w2 ⟨rfl, HB2⟩
    obtain ⟨y0, y1, y2, y3, y4, y5, y6⟩ := HP.out w2 HB2.out
    clear k0 k1 k2 k3 k4 k5 k6
    go_wp2_with fail
    go_ret
    exact ⟨rfl, HNO.out _ HB2.out⟩
  have HC := Lib.hid (HCK.out 0 (Goods.chk_yes hl))
  have HLI := Lib.hid hl
  clear hl HCK
  rcases t2 with _ | _
  · have hc : chkB b ty = 1 := chkB_no fun h => E2.out.2 rfl (h.2.2.1)
    rw [hc]
    clear hc
    clear hsm HT
    go_enter Try.func75, Try.ntmps75
    go_wp2_with fail
    clear hX hV
    refine (H0.out _).mono ?_
    rintro e w' ⟨rfl, rfl⟩
    go_wp2_with fail
    refine (H1.out _).mono ?_
    rintro e w' ⟨rfl, rfl⟩
    go_wp2_with fail
    refine HC.out.mono ?_
    rintro e w2 ⟨rfl, HB2⟩
    obtain ⟨y0, y1, y2, y3, y4, y5, y6⟩ := HP.out w2 HB2.out
    clear k0 k1 k2 k3 k4 k5 k6
    go_wp2_with fail
    refine (H2.out _).mono ?_
    rintro e w' ⟨rfl, rfl⟩
    go_wp2_with fail
    go_ret
    exact ⟨rfl, HNO.out _ HB2.out⟩
  rcases t3 with _ | _
  · have hc : chkB b ty = 1 := chkB_no fun h => E3.out.2 rfl (h.2.2.2.1)
    rw [hc]
    clear hc
    clear hsm HT
    go_enter Try.func75, Try.ntmps75
    go_wp2_with fail
    clear hX hV
    refine (H0.out _).mono ?_
    rintro e w' ⟨rfl, rfl⟩
    go_wp2_with fail
    refine (H1.out _).mono ?_
    rintro e w' ⟨rfl, rfl⟩
    go_wp2_with fail
    refine HC.out.mono ?_
    rintro e w2 ⟨rfl, HB2⟩
    obtain ⟨y0, y1, y2, y3, y4, y5, y6⟩ := HP.out w2 HB2.out
    clear k0 k1 k2 k3 k4 k5 k6
    go_wp2_with fail
    refine (H2.out _).mono ?_
    rintro e w' ⟨rfl, rfl⟩
    go_wp2_with fail
    refine (H3.out _).mono ?_
    rintro e w' ⟨rfl, rfl⟩
    go_wp2_with fail
    go_ret
    exact ⟨rfl, HNO.out _ HB2.out⟩
  rcases t6 with _ | _
  · have hc : chkB b ty = 1 := chkB_no fun h => E6.out.2 rfl (h.2.2.2.2.2.2.1)
    rw [hc]
    clear hc
    clear hsm HT
    go_enter Try.func75, Try.ntmps75
    go_wp2_with fail
    clear hX hV
    refine (H0.out _).mono ?_
    rintro e w' ⟨rfl, rfl⟩
    go_wp2_with fail
    refine (H1.out _).mono ?_
    rintro e w' ⟨rfl, rfl⟩
    go_wp2_with fail
    refine HC.out.mono ?_
    rintro e w2 ⟨rfl, HB2⟩
    obtain ⟨y0, y1, y2, y3, y4, y5, y6⟩ := HP.out w2 HB2.out
    clear k0 k1 k2 k3 k4 k5 k6
    go_wp2_with fail
    refine (H2.out _).mono ?_
    rintro e w' ⟨rfl, rfl⟩
    go_wp2_with fail
    refine (H3.out _).mono ?_
    rintro e w' ⟨rfl, rfl⟩
    go_wp2_with fail
    refine (H6.out _).mono ?_
    rintro e w' ⟨rfl, rfl⟩
    go_wp2_with fail
    go_ret
    exact ⟨rfl, HNO.out _ HB2.out⟩
  rcases t4 with _ | _
  · have hc : chkB b ty = 1 := chkB_no fun h => E4.out.2 rfl (h.2.2.2.2.1)
    rw [hc]
    clear hc
    clear hsm HT
    go_enter Try.func75, Try.ntmps75
    go_wp2_with fail
    clear hX hV
    refine (H0.out _).mono ?_
    rintro e w' ⟨rfl, rfl⟩
    go_wp2_with fail
    refine (H1.out _).mono ?_
    rintro e w' ⟨rfl, rfl⟩
    go_wp2_with fail
    refine HC.out.mono ?_
    rintro e w2 ⟨rfl, HB2⟩
    obtain ⟨y0, y1, y2, y3, y4, y5, y6⟩ := HP.out w2 HB2.out
    clear k0 k1 k2 k3 k4 k5 k6
    go_wp2_with fail
    refine (H2.out _).mono ?_
    rintro e w' ⟨rfl, rfl⟩
    go_wp2_with fail
    refine (H3.out _).mono ?_
    rintro e w' ⟨rfl, rfl⟩
    go_wp2_with fail
    refine (H6.out _).mono ?_
    rintro e w' ⟨rfl, rfl⟩
    go_wp2_with fail
    refine (H4.out _).mono ?_
    rintro e w' ⟨rfl, rfl⟩
    go_wp2_with fail
    go_ret
    exact ⟨rfl, HNO.out _ HB2.out⟩
  rcases t5 with _ | _
  · have hc : chkB b ty = 1 := chkB_no fun h => E5.out.2 rfl (h.2.2.2.2.2.1)
    rw [hc]
    clear hc
    clear hsm HT
    go_enter Try.func75, Try.ntmps75
    go_wp2_with fail
    clear hX hV
    refine (H0.out _).mono ?_
    rintro e w' ⟨rfl, rfl⟩
    go_wp2_with fail
    refine (H1.out _).mono ?_
    rintro e w' ⟨rfl, rfl⟩
    go_wp2_with fail
    refine HC.out.mono ?_
    rintro e w2 ⟨rfl, HB2⟩
    obtain ⟨y0, y1, y2, y3, y4, y5, y6⟩ := HP.out w2 HB2.out
    clear k0 k1 k2 k3 k4 k5 k6
    go_wp2_with fail
    refine (H2.out _).mono ?_
    rintro e w' ⟨rfl, rfl⟩
    go_wp2_with fail
    refine (H3.out _).mono ?_
    rintro e w' ⟨rfl, rfl⟩
    go_wp2_with fail
    refine (H6.out _).mono ?_
    rintro e w' ⟨rfl, rfl⟩
    go_wp2_with fail
    refine (H4.out _).mono ?_
    rintro e w' ⟨rfl, rfl⟩
    go_wp2_with fail
    refine (H5.out _).mono ?_
    rintro e w' ⟨rfl, rfl⟩
    go_wp2_with fail
    go_ret
    exact ⟨rfl, HNO.out _ HB2.out⟩
  have HYES : Hid ((∀ s ∈ b.s, ¬ s.kind = b.ot) → chkB b ty = 0) := Lib.hid (fun h => chkB_yes ⟨E0.out.1 rfl, E1.out.1 rfl, E2.out.1 rfl, E3.out.1 rfl, E4.out.1 rfl, E5.out.1 rfl, E6.out.1 rfl, HLI.out, (none_made HLI.out).2 h⟩)
  have HNOT : Hid (∀ s ∈ b.s, s.kind = b.ot → chkB b ty = 1) := Lib.hid (fun s hs e => chkB_no fun h => (none_made HLI.out).1 h.2.2.2.2.2.2.2.2 s hs e)
  clear E0 E1 E2 E3 E4 E5 E6
  go_enter Try.func75, Try.ntmps75
  go_wp2_with fail
  clear hX hV
  refine (H0.out _).mono ?_
  rintro e w' ⟨rfl, rfl⟩
  go_wp2_with fail
  refine (H1.out _).mono ?_
  rintro e w' ⟨rfl, rfl⟩
  go_wp2_with fail
  refine HC.out.mono ?_
  rintro e w2 ⟨rfl, HB2⟩
  obtain ⟨y0, y1, y2, y3, y4, y5, y6⟩ := HP.out w2 HB2.out
  clear k0 k1 k2 k3 k4 k5 k6
  go_wp2_with fail
  refine (H2.out _).mono ?_
  rintro e w' ⟨rfl, rfl⟩
  go_wp2_with fail
  refine (H3.out _).mono ?_
  rintro e w' ⟨rfl, rfl⟩
  go_wp2_with fail
  refine (H6.out _).mono ?_
  rintro e w' ⟨rfl, rfl⟩
  go_wp2_with fail
  refine (H4.out _).mono ?_
  rintro e w' ⟨rfl, rfl⟩
  go_wp2_with fail
  refine (H5.out _).mono ?_
  rintro e w' ⟨rfl, rfl⟩
  go_wp2_with fail
  clear y0 y1 y2 y3 y4 y5 y6 H0 H1 H2 H3 H4 H5 H6 HC
  go_loopw [53] (fun t wr => ∃ (i : Nat), t = .int .i64 i ∧ i ≤ b.sm ∧ Hid (Below X.heap.size X wr) ∧ Hid (∀ s ∈ b.s.take i, ¬ s.kind = b.ot)) (fun t _ => b.sm - (RowKit.intOf t).toNat)
  case atStart => exact ⟨0, rfl, by omega, HB2, Lib.hid (fun s hs => by simp at hs)⟩
  case round =>
    obtain ⟨i, rfl, hi, HB, HQ⟩ := hrel
    have hi0 : (0 : Int) ≤ (i : Int) := by omega
    by_cases hlt : i < b.sm
    · have hlt2 : (i : Int) < (b.sm : Int) := by omega
      obtain ⟨g, off, t, ha, ht, k0, k1⟩ := HT.out wr i HB.out (by rw [HL.out]; exact hlt)
      have wi : IntKind.i64.wrap ((i : Int) + 1) = (i : Int) + 1 := IntWalk.i64_in _ (by omega)
      obtain ⟨U, hU⟩ : ∃ U, wr.heap.size = U := ⟨_, rfl⟩
      obtain ⟨Y, hY⟩ : ∃ Y, wr.alloc (.cells #[.int .i64 t.kind, .int .i64 t.qty] 79) = Y := ⟨_, rfl⟩
      have hbY : Below wr.heap.size wr Y := by rw [← hY]; exact (Below.refl _ wr).alloc (Nat.le_refl _) _
      have hVY : Y.heap[U]? = some (.cells t.cells 79 (0, 0)) := by rw [← hY, ← hU]; exact heap_alloc_new wr _
      have v0 : Y.cell? ⟨U, 0, none⟩ = some (.int .i64 t.kind) := cell_block (j := 0) hVY rfl
      have v1 : Y.cell? ⟨U, 1, none⟩ = some (.int .i64 t.qty) := cell_block (j := 1) hVY rfl
      have HBY := Lib.hid (below_then HB.out hbY)
      obtain ⟨y0, y1, y2, y3, y4, y5, y6⟩ := HP.out Y HBY.out
      clear hbY hVY
      rw [ha]
      clear ha
      by_cases c1 : t.kind = b.ot
      · have d1 : (t.kind == b.ot) = true := by simpa using c1
        have HE := Lib.hid (HNOT.out t (List.mem_of_getElem? ht.out) c1)
        clear c1
        go_wp2_with fail
        clear hY hU k0 k1
        go_ret
        exact ⟨by rw [HE.out]; rfl, HNO.out _ HBY.out⟩
      · have d1 : (t.kind == b.ot) = false := by simpa using c1
        have HQ2 : Hid (∀ u ∈ b.s.take (i + 1), ¬ u.kind = b.ot) := Lib.hid (fun u hu => by
          rcases (Goods.mem_take_succ ht.out).1 hu with hu | rfl
          · exact HQ.out u hu
          · exact c1)
        clear c1
        go_wp2_with fail
        clear hY hU k0 k1
        go_roundw
        case rel => exact ⟨i + 1, by go_num, by omega, HBY, HQ2⟩
        case measure => simp [RowKit.intOf]; omega
    · obtain rfl : i = b.sm := by omega
      have HE := Lib.hid (HYES.out (fun s hs => HQ.out s (by rw [List.take_of_length_le (by rw [HL.out]; exact Nat.le_refl _)]; exact hs)))
      go_wp2_with fail
      go_ret
      exact ⟨by rw [HE.out]; rfl, HNO.out _ HB.out⟩
/-- As walks want it. -/
theorem check_at (b : Bl) (w : World) (hb : BlIn w b) : Hid (∀ W z, Below w.heap.size w W → chkB b 32 = z → Calls Try.prog 75 #[blV b, .int .i64 32] W fun e w' => e = .returned (.int .i64 z) ∧ Hid (Below w.heap.size w w')) := Lib.hid (fun W z hW hz => by
  subst hz
  exact (check_im b 32 W (hb.under hW)).mono fun _ _ ⟨e, h⟩ => ⟨e, Lib.hid (below_then hW h)⟩)
end Go.Proofs.Ytdbhdlgoecpeaaa.Recipe.Im
namespace Go.Proofs.Ytdbhdlgoecpeaaa.Recipe.Im
open Go.RowKit Go.Lib
open Goods (St Sts OwnS)

theorem level_at (n : Int) : ∃ t : Bool, Hid (∀ w, Calls Try.prog 79 #[.int .i64 n] w fun e w' => e = .returned (.bool t) ∧ w = w') ∧ Hid ((t = true → 0 ≤ n ∧ n ≤ 10) ∧ (t = false → ¬ (0 ≤ n ∧ n ≤ 10))) := by
  obtain ⟨t, H, E⟩ := in_at n 0 10
  refine ⟨t, Lib.hid (fun w => ?_), E⟩
  go_enter Try.func79, Try.ntmps79
  go_wp2_with fail
  refine (H.out _).mono ?_
  rintro e w' ⟨rfl, rfl⟩
  go_wp2_with fail
  go_ret
  exact ⟨rfl, rfl⟩
theorem runs_at (n : Int) : ∃ t : Bool, Hid (∀ w, Calls Try.prog 80 #[.int .i64 n] w fun e w' => e = .returned (.bool t) ∧ w = w') ∧ Hid ((t = true → 1 ≤ n ∧ n ≤ 1000) ∧ (t = false → ¬ (1 ≤ n ∧ n ≤ 1000))) := by
  obtain ⟨t, H, E⟩ := in_at n 1 1000
  refine ⟨t, Lib.hid (fun w => ?_), E⟩
  go_enter Try.func80, Try.ntmps80
  go_wp2_with fail
  refine (H.out _).mono ?_
  rintro e w' ⟨rfl, rfl⟩
  go_wp2_with fail
  go_ret
  exact ⟨rfl, rfl⟩
set_option maxRecDepth 100000 in
set_option maxHeartbeats 4000000 in
theorem may_at (b : Bl) (w : World) (hb : BlIn w b) : ∃ t : Bool, Hid (∀ W, Below w.heap.size w W → Calls Try.prog 78 #[blV b] W fun e w' => e = .returned (.bool t) ∧ Hid (Below w.heap.size w w')) ∧ Hid ((t = true → BlOk b 32) ∧ (t = false → ¬ BlOk b 32)) := by
  have HCK := check_at b w hb
  by_cases hok : BlOk b 32
  · refine ⟨true, Lib.hid (fun W hW => ?_), Lib.hid ⟨fun _ => hok, fun h => (by cases h)⟩⟩
    obtain ⟨V, X, hV, hX, HXB, HP⟩ := box_blue W b
    obtain ⟨k0, k1, k2, k3, k4, k5, k6⟩ := HP.out X (Below.refl _ _)
    have HC := Lib.hid (HCK.out X 0 (below_then hW HXB.out) (chkB_yes hok))
    clear hok hb hW HCK
    go_enter Try.func78, Try.ntmps78
    go_wp2_with fail
    clear hX hV
    refine HC.out.mono ?_
    rintro e w1 ⟨rfl, H1⟩
    go_wp2_with fail
    go_ret
    exact ⟨rfl, H1⟩
  · refine ⟨false, Lib.hid (fun W hW => ?_), Lib.hid ⟨fun h => (by cases h), fun _ => hok⟩⟩
    obtain ⟨V, X, hV, hX, HXB, HP⟩ := box_blue W b
    obtain ⟨k0, k1, k2, k3, k4, k5, k6⟩ := HP.out X (Below.refl _ _)
    have HC := Lib.hid (HCK.out X 1 (below_then hW HXB.out) (chkB_no hok))
    clear hok hb hW HCK
    go_enter Try.func78, Try.ntmps78
    go_wp2_with fail
    clear hX hV
    refine HC.out.mono ?_
    rintro e w1 ⟨rfl, H1⟩
    go_wp2_with fail
    go_ret
    exact ⟨rfl, H1⟩
end Go.Proofs.Ytdbhdlgoecpeaaa.Recipe.Im
namespace Go.Proofs
open Go.Shelf
def Try.lays134_ren : Go.Shelf.Ren := ⟨fun | 134 => 99 | 129 => 103 | n => n, fun | 53 => 103 | 3 => 3 | 4 => 4 | 46 => 123 | 5 => 5 | 9 => 9 | n => n, fun | n => n⟩
theorem Try.lays134 : Go.Proofs.Lays.n134 Try.prog Try.lays134_ren := {
  mixed := by kernel_rfl
  f129 := Try.func103.trans (congrArg some (by kernel_rfl))
  f134 := Try.func99.trans (congrArg some (by kernel_rfl))
  t3 := Try.underlying3
  a3 := Try.isAgg3
  z3 := Try.sizeOf3
  v3 := Try.zeroValue3
  t4 := Try.underlying4
  a4 := Try.isAgg4
  z4 := Try.sizeOf4
  v4 := Try.zeroValue4
  t5 := Try.underlying5
  a5 := Try.isAgg5
  z5 := Try.sizeOf5
  v5 := Try.zeroValue5
  t9 := Try.underlying9
  a9 := Try.isAgg9
  z9 := Try.sizeOf9
  v9 := Try.zeroValue9
  t46 := Try.underlying123
  a46 := Try.isAgg123
  z46 := Try.sizeOf123
  v46 := Try.zeroValue123
  t53 := Try.underlying103
  a53 := Try.isAgg103
  z53 := Try.sizeOf103
  v53 := Try.zeroValue103 }
theorem Try.bits_LeadingZeros64 (x : Int) (w : World) (h0 : 0 ≤ x) (h1 : x ≤ 18446744073709551615) :
    Calls Try.prog 99 #[.int .u64 x] w fun e w' => e = .returned (.int .i64 (64 - (Lib.bitLen x.toNat : Int))) ∧ w' = w := Any.bits_LeadingZeros64 Try.lays134 x w h0 h1
def Try.lays129_ren : Go.Shelf.Ren := ⟨fun | 129 => 103 | n => n, fun | 53 => 103 | 3 => 3 | 4 => 4 | 46 => 123 | 5 => 5 | 9 => 9 | n => n, fun | n => n⟩
theorem Try.lays129 : Go.Proofs.Lays.n129 Try.prog Try.lays129_ren := {
  mixed := by kernel_rfl
  f129 := Try.func103.trans (congrArg some (by kernel_rfl))
  t3 := Try.underlying3
  a3 := Try.isAgg3
  z3 := Try.sizeOf3
  v3 := Try.zeroValue3
  t4 := Try.underlying4
  a4 := Try.isAgg4
  z4 := Try.sizeOf4
  v4 := Try.zeroValue4
  t5 := Try.underlying5
  a5 := Try.isAgg5
  z5 := Try.sizeOf5
  v5 := Try.zeroValue5
  t9 := Try.underlying9
  a9 := Try.isAgg9
  z9 := Try.sizeOf9
  v9 := Try.zeroValue9
  t46 := Try.underlying123
  a46 := Try.isAgg123
  z46 := Try.sizeOf123
  v46 := Try.zeroValue123
  t53 := Try.underlying103
  a53 := Try.isAgg103
  z53 := Try.sizeOf103
  v53 := Try.zeroValue103 }
theorem Try.bits_Len64 (x : Int) (w : World) (h0 : 0 ≤ x) (h1 : x ≤ 18446744073709551615) :
    Calls Try.prog 103 #[.int .u64 x] w fun e w' => e = .returned (.int .i64 (Lib.bitLen x.toNat)) ∧ w' = w := Any.bits_Len64 Try.lays129 x w h0 h1
def Try.lays264_ren : Go.Shelf.Ren := ⟨fun | 264 => 87 | n => n, fun | 53 => 103 | 46 => 123 | n => n, fun | n => n⟩
theorem Try.lays264 : Go.Proofs.Lays.n264 Try.prog Try.lays264_ren := {
  mixed := by kernel_rfl
  f264 := Try.func87.trans (congrArg some (by kernel_rfl))
  t46 := Try.underlying123
  a46 := Try.isAgg123
  z46 := Try.sizeOf123
  v46 := Try.zeroValue123
  t53 := Try.underlying103
  a53 := Try.isAgg103
  z53 := Try.sizeOf103
  v53 := Try.zeroValue103 }
open Go.RowKit Go.Lib in
theorem Try.bits_Mul64 (x y : Nat) (hx : x < 18446744073709551616) (hy : y < 18446744073709551616) (w : World) :
    Calls Try.prog 87 #[.int .u64 x, .int .u64 y] w fun e w' => e = .returned (.tuple #[.int .u64 ((x * y / 18446744073709551616 : Nat) : Int), .int .u64 ((x * y % 18446744073709551616 : Nat) : Int)]) ∧ w' = w := Any.bits_Mul64 Try.lays264 x y hx hy w
end Go.Proofs
namespace Go.Proofs.Ytdbhdlgoecpeaaa.Calc
open Go.RowKit Go.Lib

theorem ret_u64 {a b : Int} (h : a = b) : Ending.returned (.int .u64 a) = Ending.returned (.int .u64 b) := by rw [h]
theorem ret_u64_bool {a b : Int} {x y : Bool} (h : a = b) (g : x = y) : Ending.returned (.tuple #[.int .u64 a, .bool x]) = Ending.returned (.tuple #[.int .u64 b, .bool y]) := by rw [h, g]
theorem ret_pair {a b c d : Int} (h : a = b) (g : c = d) : Ending.returned (.tuple #[.int .i64 a, .int .i64 c]) = Ending.returned (.tuple #[.int .i64 b, .int .i64 d]) := by rw [h, g]
set_option maxHeartbeats 400000 in
theorem above_any (n : Int) (w : World) (a0 : 0 ≤ n) (a1 : n < 18446744073709551616) :
    Calls Try.prog 89 #[.int .u64 n] w fun e w' => e = .returned (.tuple #[.int .i64 (valN n), .int .i64 (valE n)]) ∧ w = w' := by
  by_cases h : 9223372036854775807 < n
  · go_enter Try.func89, Try.ntmps89
    go_wp2
    go_ret2
    exact ⟨pair_out (Or.inr h), rfl⟩
  · go_enter Try.func89, Try.ntmps89
    go_wp2
    go_ret2
    exact ⟨pair_in (by omega) (by omega), rfl⟩
/-- The upper and the lower word of a product. -/
def hiW (x y : Int) : Int := x * y / 18446744073709551616
def loW (x y : Int) : Int := x * y % 18446744073709551616
theorem mul64_any (x y : Int) (w : World) (x0 : 0 ≤ x) (x1 : x < 18446744073709551616) (y0 : 0 ≤ y) (y1 : y < 18446744073709551616) :
    Calls Try.prog 87 #[.int .u64 x, .int .u64 y] w fun e w' => e = .returned (.tuple #[.int .u64 (hiW x y), .int .u64 (loW x y)]) ∧ w = w' := by
  obtain ⟨m, rfl⟩ := Int.eq_ofNat_of_zero_le x0
  obtain ⟨n, rfl⟩ := Int.eq_ofNat_of_zero_le y0
  exact (Try.bits_Mul64 m n (by omega) (by omega) w).mono fun e w' ⟨he, hw⟩ => ⟨by rw [he]; simp [hiW, loW], hw.symm⟩
theorem lo_in (x y : Int) : 0 ≤ loW x y ∧ loW x y < 18446744073709551616 := by unfold loW; omega
theorem prod_bound {x y A B : Int} (x0 : 0 ≤ x) (y0 : 0 ≤ y) (hx : x ≤ A) (hy : y ≤ B) (hA : 0 ≤ A) : 0 ≤ x * y ∧ x * y ≤ A * B :=
  ⟨Int.mul_nonneg x0 y0, Int.mul_le_mul hx hy y0 hA⟩
end Go.Proofs.Ytdbhdlgoecpeaaa.Calc
namespace Go.Proofs.Ytdbhdlgoecpeaaa.Calc
open Go.RowKit Go.Lib

theorem neg_wrap {n : Int} (h1 : -9223372036854775808 ≤ n) (h : n < 0) : IntKind.u64.wrap (-IntKind.u64.wrap n) = -n := by rw [IntKind.wrap_u64, IntKind.wrap_u64]; omega
theorem below_wrap {n : Int} (h1 : 0 ≤ n) (h : n ≤ 9223372036854775808) : wrap64 (IntKind.u64.wrap (-n)) = -n := by rw [IntKind.wrap_u64]; unfold wrap64; omega

set_option maxHeartbeats 400000 in
theorem far_any (n : Int) (w : World) (a1 : -9223372036854775808 ≤ n) (a2 : n ≤ 9223372036854775807) :
    Calls Try.prog 101 #[.int .i64 n] w fun e w' => e = .returned (.int .u64 n.natAbs) ∧ w = w' := by
  by_cases h : n < 0
  · go_enter Try.func101, Try.ntmps101
    go_wp2
    go_ret
    exact ⟨ret_u64 (by rw [neg_wrap a1 h]; omega), rfl⟩
  · go_enter Try.func101, Try.ntmps101
    go_wp2
    go_ret
    exact ⟨ret_u64 (by omega), rfl⟩
set_option maxHeartbeats 400000 in
theorem below_any (n : Int) (w : World) (a0 : 0 ≤ n) (a1 : n < 18446744073709551616) :
    Calls Try.prog 102 #[.int .u64 n] w fun e w' => e = .returned (.tuple #[.int .i64 (valN (-n)), .int .i64 (valE (-n))]) ∧ w = w' := by
  by_cases h : 9223372036854775808 < n
  · go_enter Try.func102, Try.ntmps102
    go_wp2
    go_ret2
    exact ⟨pair_out (Or.inl (by omega)), rfl⟩
  · go_enter Try.func102, Try.ntmps102
    go_wp2
    go_ret2
    exact ⟨ret_pair (by rw [below_wrap a0 (by omega), valN_in (by omega) (by omega)]) (valE_in (by omega) (by omega)).symm, rfl⟩
theorem abs_mul (a b : Int) : (a * b).natAbs = a.natAbs * b.natAbs := Int.natAbs_mul a b
/-- The product's sign and size out of the factors'. -/
theorem mul_same (a b : Int) (h : (a < 0) = (b < 0)) : a * b = (a.natAbs : Int) * (b.natAbs : Int) := by
  rw [← Int.natCast_mul, ← abs_mul]
  have : 0 ≤ a * b := by
    by_cases ha : a < 0
    · have hb : b < 0 := by rw [← h]; exact ha
      exact Int.mul_nonneg_of_nonpos_of_nonpos (by omega) (by omega)
    · have hb : ¬ b < 0 := by rw [← h]; exact ha
      exact Int.mul_nonneg (by omega) (by omega)
  omega
theorem mul_diff (a b : Int) (h : (a < 0) = ¬ (b < 0)) : a * b = -((a.natAbs : Int) * (b.natAbs : Int)) := by
  rw [← Int.natCast_mul, ← abs_mul]
  have : a * b ≤ 0 := by
    by_cases ha : a < 0
    · have hb : ¬ b < 0 := by rw [← h]; exact ha
      exact Int.mul_nonpos_of_nonpos_of_nonneg (by omega) (by omega)
    · have hb : b < 0 := by
        by_cases hb : b < 0
        · exact hb
        · exact absurd (by rw [h]; exact hb) ha
      exact Int.mul_nonpos_of_nonneg_of_nonpos (by omega) (by omega)
  omega
/-- The product, told by sizes and signs. -/
theorem mul_signs (a b X Y : Int) (s t : Bool) (hX : X = a.natAbs) (hY : Y = b.natAbs) (hs : s = decide (a < 0)) (ht : t = decide (b < 0)) :
    a * b = if (s != t) = true then -(X * Y) else X * Y := by
  subst hX hY hs ht
  by_cases ha : a < 0 <;> by_cases hb : b < 0 <;> simp [ha, hb]
  · exact mul_same a b (by simp [ha, hb])
  · exact mul_diff a b (by simp [ha, hb])
  · exact mul_diff a b (by simp [ha, hb])
  · exact mul_same a b (by simp [ha, hb])

theorem far_as (n X : Int) (w : World) (a1 : -9223372036854775808 ≤ n) (a2 : n ≤ 9223372036854775807) (hX : X = n.natAbs) :
    Calls Try.prog 101 #[.int .i64 n] w fun e w' => e = .returned (.int .u64 X) ∧ w = w' := by
  subst hX; exact far_any n w a1 a2
theorem hi_zero {x y : Int} (_ : 0 ≤ x * y) (h : hiW x y = 0) : x * y < 18446744073709551616 ∧ loW x y = x * y := by unfold hiW at h; unfold loW; omega
theorem hi_more {x y : Int} (_ : 0 ≤ x * y) (h : hiW x y ≠ 0) : 18446744073709551616 ≤ x * y := by unfold hiW at h; omega
theorem hi_test_true {x y : Int} (h : hiW x y ≠ 0) : (hiW x y != 0) = true := by simp [h]
theorem hi_test_false {x y : Int} (h : hiW x y = 0) : (hiW x y != 0) = false := by simp [h]

set_option maxHeartbeats 1000000 in
theorem mul_core (a b X Y : Int) (s t : Bool) (w : World) (a1 : -9223372036854775808 ≤ a) (a2 : a ≤ 9223372036854775807) (b1 : -9223372036854775808 ≤ b) (b2 : b ≤ 9223372036854775807)
    (hX : X = a.natAbs) (hY : Y = b.natAbs) (hs : s = decide (a < 0)) (ht : t = decide (b < 0)) :
    Calls Try.prog 94 #[.int .i64 a, .int .i64 b] w fun e w' => e = .returned (.tuple #[.int .i64 (valN (a * b)), .int .i64 (valE (a * b))]) ∧ w = w' := by
  have hm := mul_signs a b X Y s t hX hY hs ht
  have x0 : 0 ≤ X := by omega
  have x1 : X ≤ 9223372036854775808 := by omega
  have y0 : 0 ≤ Y := by omega
  have y1 : Y ≤ 9223372036854775808 := by omega
  have hp : 0 ≤ X * Y := Int.mul_nonneg x0 y0
  have HX := Lib.hid hX; have HY := Lib.hid hY
  clear hX hY
  by_cases hz : hiW X Y = 0
  · obtain ⟨hlt, hlo⟩ := hi_zero hp hz
    have hne := hi_test_false hz
    clear hz
    have HL := Lib.hid hlo; clear hlo
    cases s <;> cases t
    all_goals
      have hs' := hs.symm
      have ht' := ht.symm
      have HM := Lib.hid hm
      clear hs ht hm
      go_enter Try.func94, Try.ntmps94
      go_wp2_with fail
      refine (far_as a X _ a1 a2 HX.out).mono ?_
      rintro e w' ⟨rfl, rfl⟩
      go_wp2_with fail
      refine (far_as b Y _ b1 b2 HY.out).mono ?_
      rintro e w' ⟨rfl, rfl⟩
      go_wp2_with fail
      refine (mul64_any X Y _ x0 (by omega) y0 (by omega)).mono ?_
      rintro e w' ⟨rfl, rfl⟩
      go_wp2_with fail
      rw [HL.out]
      first
      | (refine (above_any (X * Y) _ hp hlt).mono ?_
         rintro e w' ⟨rfl, rfl⟩
         go_wp2_with fail
         go_ret2
         exact ⟨ret_pair (by rw [HM.out]; rfl) (by rw [HM.out]; rfl), rfl⟩)
      | (refine (below_any (X * Y) _ hp hlt).mono ?_
         rintro e w' ⟨rfl, rfl⟩
         go_wp2_with fail
         go_ret2
         exact ⟨ret_pair (by rw [HM.out]; rfl) (by rw [HM.out]; rfl), rfl⟩)
  · have hbig := hi_more hp hz
    have hne := hi_test_true hz
    clear hz
    have hout : a * b < -9223372036854775808 ∨ 9223372036854775807 < a * b := by
      rw [hm]; split
      · left; omega
      · right; omega
    have HM := Lib.hid hm
    clear hm hs ht
    go_enter Try.func94, Try.ntmps94
    go_wp2_with fail
    refine (far_as a X _ a1 a2 HX.out).mono ?_
    rintro e w' ⟨rfl, rfl⟩
    go_wp2_with fail
    refine (far_as b Y _ b1 b2 HY.out).mono ?_
    rintro e w' ⟨rfl, rfl⟩
    go_wp2_with fail
    refine (mul64_any X Y _ x0 (by omega) y0 (by omega)).mono ?_
    rintro e w' ⟨rfl, rfl⟩
    go_wp2_with fail
    go_ret2
    exact ⟨pair_out hout, rfl⟩
theorem mul_any (a b : Int) (w : World) (a1 : -9223372036854775808 ≤ a) (a2 : a ≤ 9223372036854775807) (b1 : -9223372036854775808 ≤ b) (b2 : b ≤ 9223372036854775807) :
    Calls Try.prog 94 #[.int .i64 a, .int .i64 b] w fun e w' => e = .returned (.tuple #[.int .i64 (valN (a * b)), .int .i64 (valE (a * b))]) ∧ w = w' :=
  mul_core a b _ _ _ _ w a1 a2 b1 b2 rfl rfl rfl rfl
end Go.Proofs.Ytdbhdlgoecpeaaa.Calc
