/- The program's mayLock, mayBeAsked and Check. -/
import Derived.Test.YtghlgmlelipjfaaJobImB
import Derived.Test.YtghlgmlelipjfaaGoodsImCk
import Derived.Test.YtghlgmlelipjfaaJobLs
namespace Go.Proofs.Ytghlgmlelipjfaa.Job
open Go.RowKit Go.Lib
open Goods (St Sts OwnS)

/-- A goods' check as a job asks for it. -/
theorem listed_chk {l : List St} {e : Int} (h : Goods.chk l 32 = e) : (e = 0 ↔ Goods.Listed l 32) := by
  by_cases c : Goods.Listed l 32
  · rw [Goods.chk_yes c] at h
    exact ⟨fun _ => c, fun _ => h.symm⟩
  · rw [Goods.chk_no c] at h
    exact ⟨fun e => (by omega), fun k => absurd k c⟩
namespace Im
open Classical in
set_option maxRecDepth 100000 in
set_option maxHeartbeats 2000000 in
theorem mayLock_is (j : JS) (a : Option Addr) (n c : Nat) (w : World) (h : JIn w a n j.s) (hn : n ≤ 1024) : Calls Try.prog 30 #[jV j (.slice a n c)] w fun e w' => e = .returned (.bool (decide (Locks j))) ∧ Below w.heap.size w w' := by
  obtain ⟨q, hq⟩ : ∃ q, decide (Locks j) = q := ⟨_, rfl⟩
  rw [hq]
  obtain ⟨V, X, hV, hX, HXB, HH⟩ := box_jo w j (.slice a n c)
  obtain ⟨k0, k1, k2, k3, k4, k5, k6, k7, k8, k9, k10, k11, k12, k13, k14, k15⟩ := jo_at HH.out
  obtain ⟨er, her⟩ : ∃ er, Goods.chk j.s 32 = er := ⟨_, rfl⟩
  have hl := listed_chk her
  have HC := Goods.Im.check_any a n c j.s 32 X h.1 (h.under HXB.out.1).2 hn
  rw [her] at HC
  have HC : Hid (Calls Try.prog 55 #[.slice a n c, .int .i64 32] X fun e w' => e = .returned (.int .i64 er) ∧ Hid (Below w.heap.size w w')) := Lib.hid (HC.mono fun _ _ ⟨e, h⟩ => ⟨e, Lib.hid (below_then HXB.out.1 h)⟩)
  have hlen := h.1
  obtain ⟨b, hb⟩ : ∃ b, (er == 0) = b := ⟨_, rfl⟩
  have hlb : b = true ↔ Goods.Listed j.s 32 := by rw [← hb, ← hl]; simp
  have hn1 : (n : Int) ≤ 1024 := by omega
  by_cases c1 : j.kd = 1
  · have n1 : (j.kd != 1) = false := by simpa using c1
    have n2 : (j.kd == 1) = true := by simpa using c1
    have HE : Hid (q = b) := Lib.hid (by
      have : decide (Locks j) = decide (b = true) := decide_eq_decide.2 ⟨fun h => hlb.2 h.2, fun h => ⟨.inl c1, hlb.1 h⟩⟩
      rw [← hq, this]
      simp)
    clear hq hl hlb h hn hlen c1 her
    go_enter Try.func30, Try.ntmps30
    go_wp2_with fail
    clear hX hV
    refine HC.out.mono ?_
    rintro e w' ⟨rfl, H1⟩
    go_wp2_with fail
    go_ret
    exact ⟨ret_bool HE.out.symm, H1.out⟩
  have n1 : (j.kd != 1) = true := by simpa using c1
  have n2 : (j.kd == 1) = false := by simpa using c1
  by_cases c2 : n = 0
  · have HE : Hid (q = b) := Lib.hid (by
      have : decide (Locks j) = decide (b = true) := decide_eq_decide.2 ⟨fun h => hlb.2 h.2, fun h => ⟨.inr (by omega), hlb.1 h⟩⟩
      rw [← hq, this]
      simp)
    subst c2
    clear hq hl hlb h hn hlen c1 her
    go_enter Try.func30, Try.ntmps30
    go_wp2_with fail
    clear hX hV
    refine HC.out.mono ?_
    rintro e w' ⟨rfl, H1⟩
    go_wp2_with fail
    go_ret
    exact ⟨ret_bool HE.out.symm, H1.out⟩
  · have HE : Hid (q = false) := Lib.hid (hq.symm.trans (decide_eq_false fun h => (by have := h.1; omega)))
    have d1 : decide ((0 : Int) < (n : Int)) = true := by simp; omega
    have d2 : decide (0 < n) = true := by simp; omega
    have d3 : 0 < n := by omega
    clear hq hl hlb h hn hlen c1 c2 her
    go_enter Try.func30, Try.ntmps30
    go_wp2_with fail
    go_ret
    exact ⟨ret_bool HE.out.symm, HXB.out.1⟩
open Classical in
theorem asked_iff (j : JS) {b0 b1 b2 b3 b4 : Bool} (h0 : decide (1 ≤ j.kd ∧ j.kd ≤ 4) = b0) (h1 : decide (0 ≤ j.dv ∧ j.dv ≤ 4) = b1) (h2 : decide (1 ≤ j.rn ∧ j.rn ≤ 1000) = b2) (h3 : decide (Copies j) = b3) (h4 : decide (0 ≤ j.fe ∧ j.fe ≤ 1152921504606846976) = b4) (hL : ∀ x ∈ [j.id, j.ow, j.pb, j.ba, j.dr, j.tm], 1 ≤ x ∧ x ≤ 1099511627776) : decide (Asked j) = (b0 && (b1 && (b2 && (b3 && b4)))) := by
  rw [← h0, ← h1, ← h2, ← h3, ← h4, ← Bool.decide_and, ← Bool.decide_and, ← Bool.decide_and, ← Bool.decide_and]
  exact decide_eq_decide.2 ⟨fun h => ⟨h.kd, h.dv, h.rn, h.cp, h.fe⟩, fun ⟨a1, a2, a3, a4, a5⟩ => ⟨hL _ (by simp), hL _ (by simp), hL _ (by simp), hL _ (by simp), hL _ (by simp), hL _ (by simp), a1, a2, a3, a4, a5⟩⟩
theorem asked_all {j : JS} (h : Asked j) : ∀ x ∈ [j.id, j.ow, j.pb, j.ba, j.dr, j.tm], 1 ≤ x ∧ x ≤ 1099511627776 := by
  intro x hx
  simp at hx
  rcases hx with rfl | rfl | rfl | rfl | rfl | rfl
  · exact h.id
  · exact h.ow
  · exact h.pb
  · exact h.ba
  · exact h.dr
  · exact h.tm
open Classical in
set_option maxRecDepth 100000 in
set_option maxHeartbeats 4000000 in
theorem mayBeAsked_is (j : JS) (v : Value) (w : World) : Calls Try.prog 29 #[jV j v] w fun e w' => e = .returned (.bool (decide (Asked j))) ∧ Below w.heap.size w w' := by
  obtain ⟨q, hq⟩ : ∃ q, decide (Asked j) = q := ⟨_, rfl⟩
  rw [hq]
  obtain ⟨V, X, hV, hX, HXB, HH⟩ := box_jo w j v
  obtain ⟨k0, k1, k2, k3, k4, k5, k6, k7, k8, k9, k10, k11, k12, k13, k14, k15⟩ := jo_at HH.out
  obtain ⟨G, hG⟩ : ∃ G, X.heap.size = G := ⟨_, rfl⟩
  obtain ⟨Z, hZ⟩ : ∃ Z, X.alloc (.cells #[.int .i64 j.id, .int .i64 j.ow, .int .i64 j.pb, .int .i64 j.ba, .int .i64 j.dr, .int .i64 j.tm] 3) = Z := ⟨_, rfl⟩
  have hbl : Z.heap[G]? = some (.cells #[.int .i64 j.id, .int .i64 j.ow, .int .i64 j.pb, .int .i64 j.ba, .int .i64 j.dr, .int .i64 j.tm] 3 (0, 0)) := by rw [← hZ, ← hG]; exact heap_alloc_new X _
  have HXZ : Hid (Below X.heap.size X Z) := Lib.hid (by rw [← hZ]; exact (Below.refl _ X).alloc (Nat.le_refl _) _)
  obtain ⟨L, hL⟩ : ∃ L, [j.id, j.ow, j.pb, j.ba, j.dr, j.tm] = L := ⟨_, rfl⟩
  have HLL : Hid (L.length = 6) := Lib.hid (by rw [← hL]; rfl)
  have HR : Hid (∀ (i : Nat) (x : Int), L[i]? = some x → Z.cell? ⟨G, i, none⟩ = some (.int .i64 x)) := Lib.hid (fun i x hx => by
    refine cell_block (j := i) hbl ?_
    rw [← Array.getElem?_toList]
    have e : (#[Value.int .i64 j.id, .int .i64 j.ow, .int .i64 j.pb, .int .i64 j.ba, .int .i64 j.dr, .int .i64 j.tm] : Array Value).toList = L.map (Value.int .i64) := by rw [← hL]; rfl
    rw [e, List.getElem?_map, hx]
    rfl)
  have HWZ : Hid (Below w.heap.size w Z ∧ Has Z V j v) := Lib.hid ⟨below_then HXB.out.1 HXZ.out, has_under HH.out HXZ.out⟩
  obtain ⟨z0, z1, z2, z3, z4, z5, z6, z7, z8, z9, z10, z11, z12, z13, z14, z15⟩ := jo_at HWZ.out.2
  obtain ⟨b0, h0⟩ : ∃ b, decide (1 ≤ j.kd ∧ j.kd ≤ 4) = b := ⟨_, rfl⟩
  obtain ⟨b1, h1⟩ : ∃ b, decide (0 ≤ j.dv ∧ j.dv ≤ 4) = b := ⟨_, rfl⟩
  obtain ⟨b2, h2⟩ : ∃ b, decide (1 ≤ j.rn ∧ j.rn ≤ 1000) = b := ⟨_, rfl⟩
  obtain ⟨b3, h3⟩ : ∃ b, decide (Copies j) = b := ⟨_, rfl⟩
  obtain ⟨b4, h4⟩ : ∃ b, decide (0 ≤ j.fe ∧ j.fe ≤ 1152921504606846976) = b := ⟨_, rfl⟩
  have H0 := in_as h0; have H1 := in_as h1; have H2 := in_as h2; have H4 := in_as h4
  have H3 : Hid (∀ W, Calls Try.prog 54 #[jV j v] W fun e w' => e = .returned (.bool b3) ∧ Hid (Below W.heap.size W w')) := Lib.hid (fun W => by
    rw [← h3]
    exact (mayCopy_is j v W).mono fun _ _ ⟨e, h⟩ => ⟨e, Lib.hid h⟩)
  have HNO : Hid (¬ (∀ x ∈ L, 1 ≤ x ∧ x ≤ 1099511627776) → q = false) := Lib.hid (fun h => hq.symm.trans (decide_eq_false fun k => h (by rw [← hL]; exact asked_all k)))
  have HYES : Hid ((∀ x ∈ L, 1 ≤ x ∧ x ≤ 1099511627776) → q = (b0 && (b1 && (b2 && (b3 && b4))))) := Lib.hid (fun h => hq.symm.trans (asked_iff j h0 h1 h2 h3 h4 (by rw [hL]; exact h)))
  clear hq h0 h1 h2 h3 h4 hL hbl
  go_enter Try.func29, Try.ntmps29
  go_wp2_with fail
  clear hX hV hZ hG k0 k1 k2 k3 k4 k5 k6 k7 k8 k9 k10 k11 k12 k13 k14 k15
  go_loopw [19] (fun s wr => ∃ i : Nat, s = .int .i64 (i : Int) ∧ i ≤ 6 ∧ Hid (∀ x ∈ L.take i, 1 ≤ x ∧ x ≤ 1099511627776) ∧ wr = Z) (fun s _ => 6 - (RowKit.intOf s).toNat)
  case atStart => exact ⟨0, rfl, by omega, Lib.hid (by intro x hx; rw [List.take_zero] at hx; cases hx), rfl⟩
  case round =>
    obtain ⟨i, rfl, hi, HI, rfl⟩ := hrel
    have hi0 : (0 : Int) ≤ (i : Int) := by omega
    by_cases hlt : i < 6
    · have hlt2 : (i : Int) < 6 := by omega
      have wi : IntKind.i64.wrap ((i : Int) + 1) = (i : Int) + 1 := IntWalk.i64_in _ (by omega)
      obtain ⟨x, hx⟩ : ∃ x, L[i]? = some x := ⟨L[i]'(by have := HLL.out; omega), List.getElem?_eq_getElem (by have := HLL.out; omega)⟩
      have q0 := HR.out i x hx
      have q1 : wr.cell? ⟨G, 0 + i, none⟩ = some (.int .i64 x) := by rw [Nat.zero_add]; exact q0
      by_cases hp : 1 ≤ x ∧ x ≤ 1099511627776
      · have HX0 := in_as (decide_eq_true hp)
        have HI2 : Hid (∀ y ∈ L.take (i + 1), 1 ≤ y ∧ y ≤ 1099511627776) := Lib.hid (fun y hy => by
          rw [List.take_add_one, hx] at hy
          rcases List.mem_append.1 hy with hy | hy
          · exact HI.out y hy
          · have : y = x := by simpa using hy
            rw [this]
            exact hp)
        clear hx hp
        go_wp2_with fail
        refine (HX0.out _).mono ?_
        rintro e w' ⟨rfl, rfl⟩
        go_wp2_with fail
        go_roundw
        case rel => exact ⟨i + 1, by go_num, by omega, HI2, by trivial⟩
        case measure => simp [RowKit.intOf]; omega
      · have HX0 := in_as (decide_eq_false hp)
        have HE : Hid (q = false) := Lib.hid (HNO.out fun k => hp (k x (List.mem_of_getElem? hx)))
        clear hx hp
        go_wp2_with fail
        refine (HX0.out _).mono ?_
        rintro e w' ⟨rfl, rfl⟩
        go_wp2_with fail
        go_ret
        exact ⟨ret_bool HE.out.symm, HWZ.out.1⟩
    · obtain rfl : i = 6 := by omega
      have HE : Hid (q = (b0 && (b1 && (b2 && (b3 && b4))))) := Lib.hid (HYES.out (by
        have := HI.out
        rw [List.take_of_length_le (by rw [HLL.out]; exact Nat.le_refl _)] at this
        exact this))
      clear hlt hi
      go_wp2_with fail
      refine (H0.out _).mono ?_
      rintro e w' ⟨rfl, rfl⟩
      cases b0 with
      | false =>
        go_wp2_with fail
        go_ret
        exact ⟨ret_bool HE.out.symm, HWZ.out.1⟩
      | true =>
        go_wp2_with fail
        refine (H1.out _).mono ?_
        rintro e w' ⟨rfl, rfl⟩
        cases b1 with
        | false =>
          go_wp2_with fail
          go_ret
          exact ⟨ret_bool HE.out.symm, HWZ.out.1⟩
        | true =>
          go_wp2_with fail
          refine (H2.out _).mono ?_
          rintro e w' ⟨rfl, rfl⟩
          cases b2 with
          | false =>
            go_wp2_with fail
            go_ret
            exact ⟨ret_bool HE.out.symm, HWZ.out.1⟩
          | true =>
            go_wp2_with (refine load_joG rfl _ rfl V rfl j v HWZ.out.2 ?_)
            refine (H3.out _).mono ?_
            rintro e w5 ⟨rfl, H5⟩
            have HW5 : Hid (Below w.heap.size w w5) := Lib.hid (below_then HWZ.out.1 H5.out)
            cases b3 with
            | false =>
              go_wp2_with fail
              go_ret
              exact ⟨ret_bool HE.out.symm, HW5.out⟩
            | true =>
              obtain ⟨y0, y1, y2, y3, y4, y5, y6, y7, y8, y9, y10, y11, y12, y13, y14, y15⟩ := jo_at (has_under HWZ.out.2 H5.out)
              go_wp2_with fail
              refine (H4.out _).mono ?_
              rintro e w' ⟨rfl, rfl⟩
              go_wp2_with fail
              go_ret
              exact ⟨ret_bool (by rw [HE.out]; rfl), HW5.out⟩
end Im
end Go.Proofs.Ytghlgmlelipjfaa.Job
