/- The document's Makes, Runs, Time, Study, Copy. -/
import Derived.Test.YtbibkonlhghplaaRecA
import Derived.Test.YtbibkonlhghplaaRecUp
import Derived.Laws.ResultCell
import Derived.Laws.Rows
namespace Go.Proofs.Ytbibkonlhghplaa.Recipe
open Go.RowKit Go.Lib
open Goods (St Sts OwnS)

set_option maxRecDepth 100000 in
set_option maxHeartbeats 8000000 in
theorem druns (b : Bl) (n : Int) (w : World) (hb : BlIn w b) :
    Calls Try.prog 22 #[blV b, .int .i64 n] w fun e w' => e = .returned (.tuple #[.int .i64 (runsV b n), .int .i64 (runsE b n)]) ∧ Below w.heap.size w w' := by
  obtain ⟨V, X, hV, hX, HXB, HP⟩ := box_blue w b
  obtain ⟨k0, k1, k2, k3, k4, k5, k6⟩ := HP.out X (Below.refl _ _)
  have HCK := check_at b X (hb.under HXB.out)
  have HNO : Hid (∀ W, Below X.heap.size X W → Below w.heap.size w W) := Lib.hid (fun W hW => below_then HXB.out hW)
  by_cases hok : BlOk b 32
  case neg =>
    obtain ⟨e1, e2⟩ := runs_arg (b := b) (n := n) (fun h => hok h.1)
    have HC := Lib.hid (HCK.out X 1 (Below.refl _ _) (chkB_no hok))
    rw [e1, e2]
    clear e1 e2 hok hb HCK
    go_enter Try.func22, Try.ntmps22
    go_wp2_with fail
    clear hX hV
    refine HC.out.mono ?_
    rintro e w1 ⟨rfl, H1⟩
    go_wp2_with fail
    go_ret2
    exact ⟨rfl, HNO.out _ H1.out⟩
  have HC := Lib.hid (HCK.out X 0 (Below.refl _ _) (chkB_yes hok))
  by_cases q0 : 0 ≤ n ∧ n ≤ 1125899906842624
  case neg =>
    obtain ⟨e1, e2⟩ := runs_arg (b := b) (n := n) (fun h => q0 (h.2))
    have HN := Lib.hid (fun W => in_no (n) (0) (1125899906842624) W (by omega))
    rw [e1, e2]
    clear e1 e2 hok hb HCK
    go_enter Try.func22, Try.ntmps22
    go_wp2_with fail
    clear hX hV
    refine HC.out.mono ?_
    rintro e w1 ⟨rfl, H1⟩
    obtain ⟨y0, y1, y2, y3, y4, y5, y6⟩ := HP.out w1 H1.out
    clear k0 k1 k2 k3 k4 k5 k6
    go_wp2_with fail
    refine (HN.out _).mono ?_
    rintro e w' ⟨rfl, rfl⟩
    go_wp2_with fail
    go_ret2
    exact ⟨rfl, HNO.out _ H1.out⟩
  have HI0 := Lib.hid (fun W => in_yes (n) (0) (1125899906842624) W q0.1 q0.2)
  obtain ⟨e1, e2⟩ := runs_ok (b := b) (n := n) hok q0
  rw [e1, e2]
  clear e1 e2
  have HU := Lib.hid (fun W => dup n b.per W q0.1 (by omega) hok.2.2.1.1 (by have := hok.2.2.1.2; omega))
  clear hok hb HCK
  go_enter Try.func22, Try.ntmps22
  go_wp2_with fail
  clear hX hV
  refine HC.out.mono ?_
  rintro e w1 ⟨rfl, H1⟩
  obtain ⟨y0, y1, y2, y3, y4, y5, y6⟩ := HP.out w1 H1.out
  clear k0 k1 k2 k3 k4 k5 k6
  go_wp2_with fail
  refine (HI0.out _).mono ?_
  rintro e w' ⟨rfl, rfl⟩
  go_wp2_with fail
  refine (HU.out _).mono ?_
  rintro e w' ⟨rfl, rfl⟩
  go_wp2_with fail
  go_ret2
  exact ⟨rfl, HNO.out _ H1.out⟩
set_option maxRecDepth 100000 in
set_option maxHeartbeats 8000000 in
theorem dtime (b : Bl) (lv r : Int) (w : World) (hb : BlIn w b) :
    Calls Try.prog 13 #[blV b, .int .i64 lv, .int .i64 r] w fun e w' => e = .returned (.tuple #[.int .i64 (timeV b lv r), .int .i64 (timeE b lv r)]) ∧ Below w.heap.size w w' := by
  obtain ⟨V, X, hV, hX, HXB, HP⟩ := box_blue w b
  obtain ⟨k0, k1, k2, k3, k4, k5, k6⟩ := HP.out X (Below.refl _ _)
  have HCK := check_at b X (hb.under HXB.out)
  have HNO : Hid (∀ W, Below X.heap.size X W → Below w.heap.size w W) := Lib.hid (fun W hW => below_then HXB.out hW)
  by_cases hok : BlOk b 32
  case neg =>
    obtain ⟨e1, e2⟩ := time_arg (b := b) (lv := lv) (r := r) (fun h => hok h.1)
    have HC := Lib.hid (HCK.out X 1 (Below.refl _ _) (chkB_no hok))
    rw [e1, e2]
    clear e1 e2 hok hb HCK
    go_enter Try.func13, Try.ntmps13
    go_wp2_with fail
    clear hX hV
    refine HC.out.mono ?_
    rintro e w1 ⟨rfl, H1⟩
    go_wp2_with fail
    go_ret2
    exact ⟨rfl, HNO.out _ H1.out⟩
  have HC := Lib.hid (HCK.out X 0 (Below.refl _ _) (chkB_yes hok))
  by_cases q0 : 0 ≤ lv ∧ lv ≤ 10
  case neg =>
    obtain ⟨e1, e2⟩ := time_arg (b := b) (lv := lv) (r := r) (fun h => q0 (h.2.1))
    have HN := Lib.hid (fun W => in_no (lv) (0) (10) W (by omega))
    rw [e1, e2]
    clear e1 e2 hok hb HCK
    go_enter Try.func13, Try.ntmps13
    go_wp2_with fail
    clear hX hV
    refine HC.out.mono ?_
    rintro e w1 ⟨rfl, H1⟩
    obtain ⟨y0, y1, y2, y3, y4, y5, y6⟩ := HP.out w1 H1.out
    clear k0 k1 k2 k3 k4 k5 k6
    go_wp2_with fail
    refine (HN.out _).mono ?_
    rintro e w' ⟨rfl, rfl⟩
    go_wp2_with fail
    go_ret2
    exact ⟨rfl, HNO.out _ H1.out⟩
  have HI0 := Lib.hid (fun W => in_yes (lv) (0) (10) W q0.1 q0.2)
  by_cases q1 : 1 ≤ r ∧ r ≤ 1000
  case neg =>
    obtain ⟨e1, e2⟩ := time_arg (b := b) (lv := lv) (r := r) (fun h => q1 (h.2.2))
    have HN := Lib.hid (fun W => in_no (r) (1) (1000) W (by omega))
    rw [e1, e2]
    clear e1 e2 hok hb HCK
    go_enter Try.func13, Try.ntmps13
    go_wp2_with fail
    clear hX hV
    refine HC.out.mono ?_
    rintro e w1 ⟨rfl, H1⟩
    obtain ⟨y0, y1, y2, y3, y4, y5, y6⟩ := HP.out w1 H1.out
    clear k0 k1 k2 k3 k4 k5 k6
    go_wp2_with fail
    refine (HI0.out _).mono ?_
    rintro e w' ⟨rfl, rfl⟩
    go_wp2_with fail
    refine (HN.out _).mono ?_
    rintro e w' ⟨rfl, rfl⟩
    go_wp2_with fail
    go_ret2
    exact ⟨rfl, HNO.out _ H1.out⟩
  have HI1 := Lib.hid (fun W => in_yes (r) (1) (1000) W q1.1 q1.2)
  obtain ⟨e1, e2⟩ := time_ok (b := b) (lv := lv) (r := r) hok ⟨q0, q1⟩
  rw [e1, e2]
  clear e1 e2
  have ht := hok.2.2.2.1
  obtain ⟨h1, h2, h3, h4⟩ := prod3 (a := b.tm) (b := r) (c := 100 - 2 * lv) (by omega) (by omega) (by omega) ht.2 q1.2 (show 100 - 2 * lv ≤ 100 by omega)
  have HU := Lib.hid (fun W => dup (b.tm * r * (100 - 2 * lv)) 100 W h3 (by omega) (by omega) (by omega))
  have w1 : IntKind.i64.wrap (b.tm * r) = b.tm * r := IntWalk.i64_in _ (by omega)
  have w2 : IntKind.i64.wrap (2 * lv) = 2 * lv := IntWalk.i64_in _ (by omega)
  have w3 : IntKind.i64.wrap (100 - 2 * lv) = 100 - 2 * lv := IntWalk.i64_in _ (by omega)
  have w4 : IntKind.i64.wrap (b.tm * r * (100 - 2 * lv)) = b.tm * r * (100 - 2 * lv) := IntWalk.i64_in _ (by omega)
  clear hok hb HCK h1 h2 h3 h4 ht
  go_enter Try.func13, Try.ntmps13
  go_wp2_with fail
  clear hX hV
  refine HC.out.mono ?_
  rintro e w1 ⟨rfl, H1⟩
  obtain ⟨y0, y1, y2, y3, y4, y5, y6⟩ := HP.out w1 H1.out
  clear k0 k1 k2 k3 k4 k5 k6
  go_wp2_with fail
  refine (HI0.out _).mono ?_
  rintro e w' ⟨rfl, rfl⟩
  go_wp2_with fail
  refine (HI1.out _).mono ?_
  rintro e w' ⟨rfl, rfl⟩
  go_wp2_with fail
  refine (HU.out _).mono ?_
  rintro e w' ⟨rfl, rfl⟩
  go_wp2_with fail
  go_ret2
  exact ⟨rfl, HNO.out _ H1.out⟩
set_option maxRecDepth 100000 in
set_option maxHeartbeats 8000000 in
theorem dcopy (b : Bl) (c r : Int) (w : World) (hb : BlIn w b) :
    Calls Try.prog 20 #[blV b, .int .i64 c, .int .i64 r] w fun e w' => e = .returned (.tuple #[.int .i64 (copyV b c r), .int .i64 (copyE b c r)]) ∧ Below w.heap.size w w' := by
  obtain ⟨V, X, hV, hX, HXB, HP⟩ := box_blue w b
  obtain ⟨k0, k1, k2, k3, k4, k5, k6⟩ := HP.out X (Below.refl _ _)
  have HCK := check_at b X (hb.under HXB.out)
  have HNO : Hid (∀ W, Below X.heap.size X W → Below w.heap.size w W) := Lib.hid (fun W hW => below_then HXB.out hW)
  by_cases hok : BlOk b 32
  case neg =>
    obtain ⟨e1, e2⟩ := copy_arg (b := b) (c := c) (r := r) (fun h => hok h.1)
    have HC := Lib.hid (HCK.out X 1 (Below.refl _ _) (chkB_no hok))
    rw [e1, e2]
    clear e1 e2 hok hb HCK
    go_enter Try.func20, Try.ntmps20
    go_wp2_with fail
    clear hX hV
    refine HC.out.mono ?_
    rintro e w1 ⟨rfl, H1⟩
    go_wp2_with fail
    go_ret2
    exact ⟨rfl, HNO.out _ H1.out⟩
  have HC := Lib.hid (HCK.out X 0 (Below.refl _ _) (chkB_yes hok))
  by_cases q0 : 1 ≤ c ∧ c ≤ 10
  case neg =>
    obtain ⟨e1, e2⟩ := copy_arg (b := b) (c := c) (r := r) (fun h => q0 (h.2.1))
    have HN := Lib.hid (fun W => in_no (c) (1) (10) W (by omega))
    rw [e1, e2]
    clear e1 e2 hok hb HCK
    go_enter Try.func20, Try.ntmps20
    go_wp2_with fail
    clear hX hV
    refine HC.out.mono ?_
    rintro e w1 ⟨rfl, H1⟩
    obtain ⟨y0, y1, y2, y3, y4, y5, y6⟩ := HP.out w1 H1.out
    clear k0 k1 k2 k3 k4 k5 k6
    go_wp2_with fail
    refine (HN.out _).mono ?_
    rintro e w' ⟨rfl, rfl⟩
    go_wp2_with fail
    go_ret2
    exact ⟨rfl, HNO.out _ H1.out⟩
  have HI0 := Lib.hid (fun W => in_yes (c) (1) (10) W q0.1 q0.2)
  by_cases q1 : 1 ≤ r ∧ r ≤ b.mo
  case neg =>
    obtain ⟨e1, e2⟩ := copy_arg (b := b) (c := c) (r := r) (fun h => q1 (h.2.2))
    have HN := Lib.hid (fun W => in_no (r) (1) (b.mo) W (by omega))
    rw [e1, e2]
    clear e1 e2 hok hb HCK
    go_enter Try.func20, Try.ntmps20
    go_wp2_with fail
    clear hX hV
    refine HC.out.mono ?_
    rintro e w1 ⟨rfl, H1⟩
    obtain ⟨y0, y1, y2, y3, y4, y5, y6⟩ := HP.out w1 H1.out
    clear k0 k1 k2 k3 k4 k5 k6
    go_wp2_with fail
    refine (HI0.out _).mono ?_
    rintro e w' ⟨rfl, rfl⟩
    go_wp2_with fail
    refine (HN.out _).mono ?_
    rintro e w' ⟨rfl, rfl⟩
    go_wp2_with fail
    go_ret2
    exact ⟨rfl, HNO.out _ H1.out⟩
  have HI1 := Lib.hid (fun W => in_yes (r) (1) (b.mo) W q1.1 q1.2)
  obtain ⟨e1, e2⟩ := copy_ok (b := b) (c := c) (r := r) hok ⟨q0, q1⟩
  rw [e1, e2]
  clear e1 e2
  have hc := hok.2.2.2.2.1
  have hm := hok.2.2.2.2.2.2.1
  obtain ⟨h1, h2, h3, h4⟩ := prod3 (a := b.cp) (b := c) (c := r) (by omega) (by omega) (by omega) hc.2 q0.2 (show r ≤ 1000 by omega)
  have w1 : IntKind.i64.wrap (b.cp * c) = b.cp * c := IntWalk.i64_in _ (by omega)
  have w2 : IntKind.i64.wrap (b.cp * c * r) = b.cp * c * r := IntWalk.i64_in _ (by omega)
  clear hok hb HCK h1 h2 h3 h4 hc hm
  go_enter Try.func20, Try.ntmps20
  go_wp2_with fail
  clear hX hV
  refine HC.out.mono ?_
  rintro e w1 ⟨rfl, H1⟩
  obtain ⟨y0, y1, y2, y3, y4, y5, y6⟩ := HP.out w1 H1.out
  clear k0 k1 k2 k3 k4 k5 k6
  go_wp2_with fail
  refine (HI0.out _).mono ?_
  rintro e w' ⟨rfl, rfl⟩
  go_wp2_with fail
  refine (HI1.out _).mono ?_
  rintro e w' ⟨rfl, rfl⟩
  go_wp2_with fail
  go_ret2
  exact ⟨rfl, HNO.out _ H1.out⟩
set_option maxRecDepth 100000 in
set_option maxHeartbeats 8000000 in
theorem dstudy (b : Bl) (lv n : Int) (w : World) (hb : BlIn w b) :
    Calls Try.prog 18 #[blV b, .int .i64 lv, .int .i64 n] w fun e w' => e = .returned (.tuple #[.int .i64 (studyV b lv n), .int .i64 (studyE b lv n)]) ∧ Below w.heap.size w w' := by
  obtain ⟨V, X, hV, hX, HXB, HP⟩ := box_blue w b
  obtain ⟨k0, k1, k2, k3, k4, k5, k6⟩ := HP.out X (Below.refl _ _)
  have HCK := check_at b X (hb.under HXB.out)
  have HNO : Hid (∀ W, Below X.heap.size X W → Below w.heap.size w W) := Lib.hid (fun W hW => below_then HXB.out hW)
  by_cases hok : BlOk b 32
  case neg =>
    obtain ⟨e1, e2⟩ := study_arg (b := b) (lv := lv) (n := n) (fun h => hok h.1)
    have HC := Lib.hid (HCK.out X 1 (Below.refl _ _) (chkB_no hok))
    rw [e1, e2]
    clear e1 e2 hok hb HCK
    go_enter Try.func18, Try.ntmps18
    go_wp2_with fail
    clear hX hV
    refine HC.out.mono ?_
    rintro e w1 ⟨rfl, H1⟩
    go_wp2_with fail
    go_ret2
    exact ⟨rfl, HNO.out _ H1.out⟩
  have HC := Lib.hid (HCK.out X 0 (Below.refl _ _) (chkB_yes hok))
  by_cases q0 : 0 ≤ lv ∧ lv ≤ 10
  case neg =>
    obtain ⟨e1, e2⟩ := study_arg (b := b) (lv := lv) (n := n) (fun h => q0 (h.2.1))
    have HN := Lib.hid (fun W => in_no (lv) (0) (10) W (by omega))
    rw [e1, e2]
    clear e1 e2 hok hb HCK
    go_enter Try.func18, Try.ntmps18
    go_wp2_with fail
    clear hX hV
    refine HC.out.mono ?_
    rintro e w1 ⟨rfl, H1⟩
    obtain ⟨y0, y1, y2, y3, y4, y5, y6⟩ := HP.out w1 H1.out
    clear k0 k1 k2 k3 k4 k5 k6
    go_wp2_with fail
    refine (HN.out _).mono ?_
    rintro e w' ⟨rfl, rfl⟩
    go_wp2_with fail
    go_ret2
    exact ⟨rfl, HNO.out _ H1.out⟩
  have HI0 := Lib.hid (fun W => in_yes (lv) (0) (10) W q0.1 q0.2)
  have wl : IntKind.i64.wrap (10 - lv) = 10 - lv := IntWalk.i64_in _ (by omega)
  by_cases q1 : 1 ≤ n ∧ n ≤ 10 - lv
  case neg =>
    obtain ⟨e1, e2⟩ := study_arg (b := b) (lv := lv) (n := n) (fun h => q1 (h.2.2))
    have HN := Lib.hid (fun W => in_no (n) (1) (10 - lv) W (by omega))
    rw [e1, e2]
    clear e1 e2 hok hb HCK
    go_enter Try.func18, Try.ntmps18
    go_wp2_with fail
    clear hX hV
    refine HC.out.mono ?_
    rintro e w1 ⟨rfl, H1⟩
    obtain ⟨y0, y1, y2, y3, y4, y5, y6⟩ := HP.out w1 H1.out
    clear k0 k1 k2 k3 k4 k5 k6
    go_wp2_with fail
    refine (HI0.out _).mono ?_
    rintro e w' ⟨rfl, rfl⟩
    go_wp2_with fail
    refine (HN.out _).mono ?_
    rintro e w' ⟨rfl, rfl⟩
    go_wp2_with fail
    go_ret2
    exact ⟨rfl, HNO.out _ H1.out⟩
  have HI1 := Lib.hid (fun W => in_yes (n) (1) (10 - lv) W q1.1 q1.2)
  obtain ⟨e1, e2⟩ := study_ok (b := b) (lv := lv) (n := n) hok ⟨q0, q1⟩
  rw [e1, e2]
  clear e1 e2
  have hs := hok.2.2.2.2.2.1
  have HSI : Hid (∀ i : Nat, lv + i ≤ 10 → 0 ≤ sdy b.st lv i ∧ sdy b.st lv i ≤ i * 10485760) := Lib.hid (fun i hi => sdy_in hs.1 hs.2 q0.1 i hi)
  have HSM : Hid (∀ i : Int, 0 ≤ i → i ≤ 10 → 0 ≤ b.st * i ∧ b.st * i ≤ 10485760) := Lib.hid (fun i h0 h1 => ⟨Int.mul_nonneg hs.1 h0, by have := Int.mul_le_mul hs.2 h1 h0 (by omega : (0:Int) ≤ 1048576); omega⟩)
  obtain ⟨m, hm⟩ : ∃ m : Nat, n = (m : Int) := Int.eq_ofNat_of_zero_le (by omega)
  subst hm
  have hmn : (m : Int).toNat = m := by omega
  rw [hmn]
  clear hok hb HCK hs hmn
  go_enter Try.func18, Try.ntmps18
  go_wp2_with fail
  clear hX hV
  refine HC.out.mono ?_
  rintro e w1 ⟨rfl, H1⟩
  obtain ⟨y0, y1, y2, y3, y4, y5, y6⟩ := HP.out w1 H1.out
  clear k0 k1 k2 k3 k4 k5 k6
  go_wp2_with fail
  refine (HI0.out _).mono ?_
  rintro e w' ⟨rfl, rfl⟩
  go_wp2_with fail
  refine (HI1.out _).mono ?_
  rintro e w' ⟨rfl, rfl⟩
  go_wp2_with fail
  go_loopw [8, 9] (fun s t wr => ∃ i : Nat, s = .int .i64 (sdy b.st lv i) ∧ t = .int .i64 ((i : Int) + 1) ∧ i ≤ m ∧ w1 = wr) (fun _ t _ => m + 1 - (RowKit.intOf t).toNat)
  case atStart => exact ⟨0, rfl, rfl, by omega, rfl⟩
  case round =>
    obtain ⟨i, rfl, rfl, hi, rfl⟩ := hrel
    by_cases hlt : i < m
    · have d1 : decide ((i : Int) + 1 ≤ (m : Int)) = true := decide_eq_true (by omega)
      have e1 := HSI.out i (by omega)
      have e2 := HSM.out (lv + ((i : Int) + 1)) (by omega) (by omega)
      have wl1 : IntKind.i64.wrap (lv + ((i : Int) + 1)) = lv + ((i : Int) + 1) := IntWalk.i64_in _ (by omega)
      have wl2 : IntKind.i64.wrap (b.st * (lv + ((i : Int) + 1))) = b.st * (lv + ((i : Int) + 1)) := IntWalk.i64_in _ (by omega)
      have wl3 : IntKind.i64.wrap (sdy b.st lv i + b.st * (lv + ((i : Int) + 1))) = sdy b.st lv (i + 1) := by rw [IntWalk.i64_in _ (by omega)]; rfl
      have wl4 : IntKind.i64.wrap ((i : Int) + 1 + 1) = (i : Int) + 1 + 1 := IntWalk.i64_in _ (by omega)
      clear e1 e2
      go_wp2_with fail
      go_roundw
      case rel => exact ⟨i + 1, by first | rfl | go_num, by go_num, by omega, by first | rfl | trivial⟩
      case measure => simp [RowKit.intOf]; omega
    · obtain rfl : i = m := by omega
      have d1 : decide ((i : Int) + 1 ≤ (i : Int)) = false := decide_eq_false (by omega)
      go_wp2_with fail
      go_ret2
      exact ⟨rfl, HNO.out _ H1.out⟩
theorem ret_st2 {fn : Func} {R : Ending → World → Prop} {a : Act} {w : World} {p u : Tmp} {g : Nat} {k q : Int} {x : Value} {T : TypeId} (h : fn.results = #[.cell p 30, .tmp u]) (hd : a.defers = [])
    (ht : a.tmps.getD p undef = .pointer (some ⟨g, 0, none⟩)) (hu : a.tmps.getD u undef = x) (hb : w.heap[g]? = some (.cells #[.int .i64 k, .int .i64 q] T (0, 0))) (hR : R (.returned (.tuple #[.agg #[.int .i64 k, .int .i64 q], x])) w) : bodyPost Try.prog fn R .ret a w := by
  refine bodyPost_ret (v := .tuple #[.agg #[.int .i64 k, .int .i64 q], x]) ?_ hd hR
  rw [results_cell_tmp h, ht, hu]
  simp [asAddr, run_loadVar_row (P := Try.prog) w g T 30 #[.int .i64 k, .int .i64 q] (0, 0) _ hb Try.underlying30 rfl (by kernel_rfl), Result.andThen]
theorem st_set {w : World} {g : Nat} {a b x y : Value} {T : TypeId} (h : w.heap[g]? = some (.cells #[a, b] T (0, 0))) : ((w.setCell ⟨g, 0, none⟩ x).setCell ⟨g, 1, none⟩ y).heap[g]? = some (.cells #[x, y] T (0, 0)) := by
  have h0 := heap_setCell_same w g 0 _ _ x h
  have h1 := heap_setCell_same _ g 1 _ _ y h0
  exact h1
set_option maxRecDepth 100000 in
set_option maxHeartbeats 8000000 in
theorem dmakes (b : Bl) (r : Int) (w : World) (hb : BlIn w b) :
    Calls Try.prog 11 #[blV b, .int .i64 r] w fun e w' => e = .returned (.tuple #[.agg #[.int .i64 (makesV b r).kind, .int .i64 (makesV b r).qty], .int .i64 (makesE b r)]) ∧ Below w.heap.size w w' := by
  obtain ⟨V, X, hV, hX, HXB, HP⟩ := box_blue w b
  obtain ⟨G, hG⟩ : ∃ G, X.heap.size = G := ⟨_, rfl⟩
  obtain ⟨Z, hZ⟩ : ∃ Z, X.alloc (.cells #[.int .i64 0, .int .i64 0] 30) = Z := ⟨_, rfl⟩
  have HZB : Hid (Below X.heap.size X Z) := Lib.hid (by rw [← hZ]; exact (Below.refl _ X).alloc (Nat.le_refl _) _)
  have hGZ : Z.heap[G]? = some (.cells #[.int .i64 0, .int .i64 0] 30 (0, 0)) := by rw [← hZ, ← hG]; exact heap_alloc_new X _
  have HK : Hid (∀ W, Below Z.heap.size Z W → W.heap[G]? = some (.cells #[.int .i64 0, .int .i64 0] 30 (0, 0)) ∧ CellsU W V b) := Lib.hid (fun W hW => ⟨(hW.block G (Array.getElem?_eq_some_iff.1 hGZ).1).trans hGZ, HP.out W (below_then HZB.out hW)⟩)
  have HWG : Hid (w.heap.size ≤ G) := Lib.hid (by rw [← hG]; exact HXB.out.size)
  obtain ⟨hg0, k0, k1, k2, k3, k4, k5, k6⟩ := HK.out Z (Below.refl _ _)
  have HCK := check_at b Z ((hb.under HXB.out).under HZB.out)
  have HNO : Hid (∀ W x y, Below Z.heap.size Z W → Below w.heap.size w ((W.setCell ⟨G, 0, none⟩ x).setCell ⟨G, 1, none⟩ y)) := Lib.hid (fun W x y hW => below_of_only (below_then HXB.out (below_then HZB.out hW)) HWG.out (only_setCell (only_setCell (only_refl W (some G)) 0 x) 1 y))
  clear hGZ hg0
  have HGC : Hid (∀ W, Below Z.heap.size Z W → W.cell? ⟨G, 0, none⟩ = some (.int .i64 0) ∧ W.cell? ⟨G, 1, none⟩ = some (.int .i64 0) ∧ W.frozen? ⟨G, 0, none⟩ = false ∧ W.frozen? ⟨G, 1, none⟩ = false) := Lib.hid (fun W hW => by
    have h1 := (HK.out W hW).1
    exact ⟨cell_block (j := 0) h1 rfl, cell_block (j := 1) h1 rfl, free_block 0 h1, free_block 1 h1⟩)
  by_cases hok : BlOk b 32
  case neg =>
    obtain ⟨e1, e2⟩ := makes_arg (b := b) (r := r) (fun h => hok h.1)
    have HC := Lib.hid (HCK.out Z 1 (Below.refl _ _) (chkB_no hok))
    rw [e1, e2]
    clear e1 e2 hok hb HCK
    go_enter Try.func11, Try.ntmps11
    go_wp2_with fail
    clear hX hV hZ hG
    refine HC.out.mono ?_
    rintro e w1 ⟨rfl, H1⟩
    obtain ⟨c0, c1, f0, f1⟩ := HGC.out w1 H1.out
    clear k0 k1 k2 k3 k4 k5 k6
    go_wp2_with fail
    exact ret_st2 rfl rfl rfl rfl (st_set (HK.out w1 H1.out).1) ⟨rfl, HNO.out w1 _ _ H1.out⟩
  have HC := Lib.hid (HCK.out Z 0 (Below.refl _ _) (chkB_yes hok))
  by_cases q0 : 1 ≤ r ∧ r ≤ 1000
  case neg =>
    obtain ⟨e1, e2⟩ := makes_arg (b := b) (r := r) (fun h => q0 h.2)
    have HN := Lib.hid (fun W => in_no r 1 1000 W (by omega))
    rw [e1, e2]
    clear e1 e2 hok hb HCK
    go_enter Try.func11, Try.ntmps11
    go_wp2_with fail
    clear hX hV hZ hG
    refine HC.out.mono ?_
    rintro e w1 ⟨rfl, H1⟩
    obtain ⟨c0, c1, f0, f1⟩ := HGC.out w1 H1.out
    clear k0 k1 k2 k3 k4 k5 k6
    go_wp2_with fail
    refine (HN.out _).mono ?_
    rintro e w' ⟨rfl, rfl⟩
    go_wp2_with fail
    exact ret_st2 rfl rfl rfl rfl (st_set (HK.out w1 H1.out).1) ⟨rfl, HNO.out w1 _ _ H1.out⟩
  have HI := Lib.hid (fun W => in_yes r 1 1000 W q0.1 q0.2)
  obtain ⟨e1, e2⟩ := makes_ok (b := b) (r := r) hok q0
  have hp := hok.2.2.1
  obtain ⟨h1, h2, _, _⟩ := prod3 (a := b.per) (b := r) (c := 1) (by omega) (by omega) (by omega) hp.2 q0.2 (Int.le_refl 1)
  have wp1 : IntKind.i64.wrap (b.per * r) = b.per * r := IntWalk.i64_in _ (by omega)
  rw [e1, e2]
  clear e1 e2 hok hb HCK h1 h2 hp
  go_enter Try.func11, Try.ntmps11
  go_wp2_with fail
  clear hX hV hZ hG
  refine HC.out.mono ?_
  rintro e w1 ⟨rfl, H1⟩
  obtain ⟨c0, c1, f0, f1⟩ := HGC.out w1 H1.out
  obtain ⟨_, y0, y1, y2, y3, y4, y5, y6⟩ := HK.out w1 H1.out
  clear k0 k1 k2 k3 k4 k5 k6
  go_wp2_with fail
  refine (HI.out _).mono ?_
  rintro e w' ⟨rfl, rfl⟩
  go_wp2_with fail
  exact ret_st2 rfl rfl rfl rfl (st_set (HK.out w1 H1.out).1) ⟨rfl, HNO.out w1 _ _ H1.out⟩
end Go.Proofs.Ytbibkonlhghplaa.Recipe
