/- The document's Check. -/
import Derived.Test.YtghlgmlelipjfaaZJobDA
import Derived.Test.YtghlgmlelipjfaaZGoodsImCk
import Derived.Test.YtghlgmlelipjfaaZPrRDone
namespace Go.Proofs.Ytghlgmlelipjfaa.Job
open Go.RowKit Go.Lib
open Goods (St Sts OwnS)

open Classical in
theorem okb_iff (j : JS) {b0 b1 b2 b3 b4 b5 b6 b7 b8 b9 b10 b11 b12 b13 : Bool} (h0 : decide (1 ≤ j.id ∧ j.id ≤ 1099511627776) = b0) (h1 : decide (1 ≤ j.ow ∧ j.ow ≤ 1099511627776) = b1) (h2 : decide (1 ≤ j.pb ∧ j.pb ≤ 1099511627776) = b2) (h3 : decide (1 ≤ j.ba ∧ j.ba ≤ 1099511627776) = b3) (h4 : decide (1 ≤ j.dr ∧ j.dr ≤ 1099511627776) = b4) (h5 : decide (1 ≤ j.kd ∧ j.kd ≤ 4) = b5) (h6 : decide (0 ≤ j.dv ∧ j.dv ≤ 4) = b6) (h7 : decide (1 ≤ j.rn ∧ j.rn ≤ 1000) = b7) (h8 : decide (1 ≤ j.tm ∧ j.tm ≤ 1099511627776) = b8) (h9 : decide (0 ≤ j.fe ∧ j.fe ≤ 1152921504606846976) = b9) (h10 : decide (Copies j) = b10) (h11 : decide (Goods.Listed j.s 32) = b11) (h12 : decide (j.kd = 1 ∨ j.s.length = 0) = b12) (h13 : decide (Stands j) = b13) : chk j = bif (b0 && (b1 && (b2 && (b3 && (b4 && (b5 && (b6 && (b7 && (b8 && (b9 && (b10 && (b11 && (b12 && (b13)))))))))))))) then 0 else 1 := by
  have e : decide (Ok j) = (b0 && (b1 && (b2 && (b3 && (b4 && (b5 && (b6 && (b7 && (b8 && (b9 && (b10 && (b11 && (b12 && (b13)))))))))))))) := by
    rw [← h0, ← h1, ← h2, ← h3, ← h4, ← h5, ← h6, ← h7, ← h8, ← h9, ← h10, ← h11, ← h12, ← h13, ← Bool.decide_and, ← Bool.decide_and, ← Bool.decide_and, ← Bool.decide_and, ← Bool.decide_and, ← Bool.decide_and, ← Bool.decide_and, ← Bool.decide_and, ← Bool.decide_and, ← Bool.decide_and, ← Bool.decide_and, ← Bool.decide_and, ← Bool.decide_and]
    exact decide_eq_decide.2 ⟨fun h => ⟨h.asked.id, h.asked.ow, h.asked.pb, h.asked.ba, h.asked.dr, h.asked.kd, h.asked.dv, h.asked.rn, h.asked.tm, h.asked.fe, h.asked.cp, h.locks.2, h.locks.1, h.stands⟩, fun ⟨a0, a1, a2, a3, a4, a5, a6, a7, a8, a9, a10, a11, a12, a13⟩ => ⟨⟨a0, a1, a2, a3, a4, a8, a5, a6, a7, a10, a9⟩, ⟨a12, a11⟩, a13⟩⟩
  rw [← e]
  by_cases ho : Ok j
  · rw [chk_yes ho, decide_eq_true ho]
    rfl
  · rw [chk_no ho, decide_eq_false ho]
    rfl
open Classical in
set_option maxRecDepth 100000 in
set_option maxHeartbeats 16000000 in
theorem dcheck (j : JS) (a : Option Addr) (n c : Nat) (w : World) (h : JIn w a n j.s) (hn : n ≤ 1024) : Calls Try.prog 11 #[jV j (.slice a n c)] w fun e w' => e = .returned (.int .i64 (chk j)) ∧ Below w.heap.size w w' := by
  obtain ⟨q, hq⟩ : ∃ q, chk j = q := ⟨_, rfl⟩
  rw [hq]
  obtain ⟨V, X, hV, hX, HXB, HH⟩ := box_jo w j (.slice a n c)
  have HW : Hid (∀ W, Below X.heap.size X W → Below w.heap.size w W ∧ Has W V j (.slice a n c)) := Lib.hid fun W hW => ⟨below_then HXB.out.1 hW, has_under HH.out hW⟩
  obtain ⟨k0, k1, k2, k3, k4, k5, k6, k7, k8, k9, k10, k11, k12, k13, k14, k15⟩ := jo_at HH.out
  obtain ⟨b0, h0⟩ : ∃ b, decide (1 ≤ j.id ∧ j.id ≤ 1099511627776) = b := ⟨_, rfl⟩
  have H0 := in_as h0
  obtain ⟨b1, h1⟩ : ∃ b, decide (1 ≤ j.ow ∧ j.ow ≤ 1099511627776) = b := ⟨_, rfl⟩
  have H1 := in_as h1
  obtain ⟨b2, h2⟩ : ∃ b, decide (1 ≤ j.pb ∧ j.pb ≤ 1099511627776) = b := ⟨_, rfl⟩
  have H2 := in_as h2
  obtain ⟨b3, h3⟩ : ∃ b, decide (1 ≤ j.ba ∧ j.ba ≤ 1099511627776) = b := ⟨_, rfl⟩
  have H3 := in_as h3
  obtain ⟨b4, h4⟩ : ∃ b, decide (1 ≤ j.dr ∧ j.dr ≤ 1099511627776) = b := ⟨_, rfl⟩
  have H4 := in_as h4
  obtain ⟨b5, h5⟩ : ∃ b, decide (1 ≤ j.kd ∧ j.kd ≤ 4) = b := ⟨_, rfl⟩
  have H5 := in_as h5
  obtain ⟨b6, h6⟩ : ∃ b, decide (0 ≤ j.dv ∧ j.dv ≤ 4) = b := ⟨_, rfl⟩
  have H6 := in_as h6
  obtain ⟨b7, h7⟩ : ∃ b, decide (1 ≤ j.rn ∧ j.rn ≤ 1000) = b := ⟨_, rfl⟩
  have H7 := in_as h7
  obtain ⟨b8, h8⟩ : ∃ b, decide (1 ≤ j.tm ∧ j.tm ≤ 1099511627776) = b := ⟨_, rfl⟩
  have H8 := in_as h8
  obtain ⟨b9, h9⟩ : ∃ b, decide (0 ≤ j.fe ∧ j.fe ≤ 1152921504606846976) = b := ⟨_, rfl⟩
  have H9 := in_as h9
  obtain ⟨b10, h10⟩ : ∃ b, decide (Copies j) = b := ⟨_, rfl⟩
  obtain ⟨b11, h11⟩ : ∃ b, decide (Goods.Listed j.s 32) = b := ⟨_, rfl⟩
  obtain ⟨b12, h12⟩ : ∃ b, decide (j.kd = 1 ∨ j.s.length = 0) = b := ⟨_, rfl⟩
  obtain ⟨b13, h13⟩ : ∃ b, decide (Stands j) = b := ⟨_, rfl⟩
  have HQ : Hid (q = bif (b0 && (b1 && (b2 && (b3 && (b4 && (b5 && (b6 && (b7 && (b8 && (b9 && (b10 && (b11 && (b12 && (b13)))))))))))))) then 0 else 1) := Lib.hid (hq.symm.trans (okb_iff j h0 h1 h2 h3 h4 h5 h6 h7 h8 h9 h10 h11 h12 h13))
  obtain ⟨er, her⟩ : ∃ er, Goods.chk j.s 32 = er := ⟨_, rfl⟩
  have hl := listed_chk her
  have hb11 : (er == 0) = b11 := by
    rw [← h11]
    show decide (er = 0) = _
    exact decide_eq_decide.2 hl
  have HC := Goods.dcheck a n c j.s 32 X h.1 (h.under HXB.out.1).2 (by omega)
  rw [her] at HC
  have HC : Hid (Calls Try.prog 32 #[.slice a n c, .int .i64 32] X fun e w' => e = .returned (.int .i64 er) ∧ Hid (Below X.heap.size X w')) := Lib.hid (HC.mono fun _ _ ⟨e, h⟩ => ⟨e, Lib.hid h⟩)
  have H13 : Hid (b8 = true → ∀ W, Below X.heap.size X W → Calls Try.prog 33 #[jV j (.slice a n c)] W fun e w' => e = .returned (.bool b13) ∧ Hid (Below X.heap.size X w')) := Lib.hid (fun e1 W hW => by
    have ht : j.tm ≤ 1099511627776 := (of_decide_eq_true (h8.trans e1)).2
    rw [← h13]
    exact (dstands j _ W ht).mono fun _ _ ⟨e, h⟩ => ⟨e, Lib.hid (below_then hW h)⟩)
  obtain ⟨bn, hbn⟩ : ∃ b, ((n : Int) == 0) = b := ⟨_, rfl⟩
  have HBN : Hid (bn = decide (j.s.length = 0)) := Lib.hid (by
    rw [← hbn, h.1]
    show decide ((n : Int) = 0) = _
    exact decide_eq_decide.2 (by omega))
  have hlen : n ≤ 1024 := hn
  have hn1 : (n : Int) ≤ 1024 := by omega
  by_cases c4 : j.kd = 4
  · have n4 : (j.kd == 4) = true := by simpa using c4
    have n1 : (j.kd == 1) = false := by rw [c4]; rfl
    have HI := in_as (n := j.cp) (a := 1) (b := 10) (r := b10) (by rw [← h10]; exact decide_eq_decide.2 ⟨fun h => ⟨fun _ => h, fun e => absurd c4 e⟩, fun h => h.1 c4⟩)
    have HB12 : Hid (bn = b12) := Lib.hid (by rw [HBN.out, ← h12]; exact decide_eq_decide.2 ⟨fun h => .inr h, fun h => h.resolve_left (by omega)⟩)
    clear hq her hl h hn hlen h0 h1 h2 h3 h4 h5 h6 h7 h8 h9 h10 h11 h12 h13 c4 HBN
    go_enter Try.func11, Try.ntmps11
    go_wp2_with fail
    clear hX hV
    refine (H0.out _).mono ?_
    rintro e w' ⟨rfl, rfl⟩
    cases b0 with
    | false =>
      go_wp2_with fail
      go_ret
      exact ⟨ret_i64 HQ.out.symm, HXB.out.1⟩
    | true =>
      go_wp2_with fail
      refine (H1.out _).mono ?_
      rintro e w' ⟨rfl, rfl⟩
      cases b1 with
      | false =>
        go_wp2_with fail
        go_ret
        exact ⟨ret_i64 HQ.out.symm, HXB.out.1⟩
      | true =>
        go_wp2_with fail
        refine (H2.out _).mono ?_
        rintro e w' ⟨rfl, rfl⟩
        cases b2 with
        | false =>
          go_wp2_with fail
          go_ret
          exact ⟨ret_i64 HQ.out.symm, HXB.out.1⟩
        | true =>
          go_wp2_with fail
          refine (H3.out _).mono ?_
          rintro e w' ⟨rfl, rfl⟩
          cases b3 with
          | false =>
            go_wp2_with fail
            go_ret
            exact ⟨ret_i64 HQ.out.symm, HXB.out.1⟩
          | true =>
            go_wp2_with fail
            refine (H4.out _).mono ?_
            rintro e w' ⟨rfl, rfl⟩
            cases b4 with
            | false =>
              go_wp2_with fail
              go_ret
              exact ⟨ret_i64 HQ.out.symm, HXB.out.1⟩
            | true =>
              go_wp2_with fail
              refine (H5.out _).mono ?_
              rintro e w' ⟨rfl, rfl⟩
              cases b5 with
              | false =>
                go_wp2_with fail
                go_ret
                exact ⟨ret_i64 HQ.out.symm, HXB.out.1⟩
              | true =>
                go_wp2_with fail
                refine (H6.out _).mono ?_
                rintro e w' ⟨rfl, rfl⟩
                cases b6 with
                | false =>
                  go_wp2_with fail
                  go_ret
                  exact ⟨ret_i64 HQ.out.symm, HXB.out.1⟩
                | true =>
                  go_wp2_with fail
                  refine (H7.out _).mono ?_
                  rintro e w' ⟨rfl, rfl⟩
                  cases b7 with
                  | false =>
                    go_wp2_with fail
                    go_ret
                    exact ⟨ret_i64 HQ.out.symm, HXB.out.1⟩
                  | true =>
                    go_wp2_with fail
                    refine (H8.out _).mono ?_
                    rintro e w' ⟨rfl, rfl⟩
                    cases b8 with
                    | false =>
                      go_wp2_with fail
                      go_ret
                      exact ⟨ret_i64 HQ.out.symm, HXB.out.1⟩
                    | true =>
                      go_wp2_with fail
                      refine (H9.out _).mono ?_
                      rintro e w' ⟨rfl, rfl⟩
                      cases b9 with
                      | false =>
                        go_wp2_with fail
                        go_ret
                        exact ⟨ret_i64 HQ.out.symm, HXB.out.1⟩
                      | true =>
                        go_wp2_with fail
                        refine (HI.out _).mono ?_
                        rintro e w' ⟨rfl, rfl⟩
                        cases b10 with
                        | false =>
                          go_wp2_with fail
                          go_ret
                          exact ⟨ret_i64 HQ.out.symm, HXB.out.1⟩
                        | true =>
                          go_wp2_with fail
                          refine HC.out.mono ?_
                          rintro e w1 ⟨rfl, G1⟩
                          obtain ⟨y0, y1, y2, y3, y4, y5, y6, y7, y8, y9, y10, y11, y12, y13, y14, y15⟩ := jo_at (HW.out w1 G1.out).2
                          cases b11 with
                          | false =>
                            go_wp2_with fail
                            go_ret
                            exact ⟨ret_i64 HQ.out.symm, (HW.out w1 G1.out).1⟩
                          | true =>
                            obtain rfl := HB12.out
                            cases bn with
                            | false =>
                              go_wp2_with fail
                              go_ret
                              exact ⟨ret_i64 HQ.out.symm, (HW.out w1 G1.out).1⟩
                            | true =>
                              have H13 := Lib.hid (H13.out (by first | trivial | rfl) w1 G1.out)
                              have K1 := Lib.hid (HW.out w1 G1.out).2
                              go_wp2_with (refine load_joG rfl _ rfl V rfl j (.slice a n c) K1.out ?_)
                              clear y0 y1 y2 y3 y4 y5 y6 y7 y8 y9 y10 y11 y12 y13 y14 y15
                              refine H13.out.mono ?_
                              rintro e w2 ⟨rfl, G2⟩
                              cases b13 with
                              | false =>
                                go_wp2_with fail
                                go_ret
                                exact ⟨ret_i64 HQ.out.symm, (HW.out w2 G2.out).1⟩
                              | true =>
                                go_wp2_with fail
                                go_ret
                                exact ⟨ret_i64 HQ.out.symm, (HW.out w2 G2.out).1⟩
  have n4 : (j.kd == 4) = false := by simpa using c4
  have hcp : (j.cp == 0) = b10 := by
    rw [← h10]
    show decide (j.cp = 0) = _
    exact decide_eq_decide.2 ⟨fun h => ⟨fun e => absurd e c4, fun _ => h⟩, fun h => h.2 c4⟩
  by_cases c1 : j.kd = 1
  · have n1 : (j.kd == 1) = true := by simpa using c1
    have HB12 : Hid (b12 = true) := Lib.hid (by rw [← h12]; exact decide_eq_true (.inl c1))
    clear hq her hl h hn hlen h0 h1 h2 h3 h4 h5 h6 h7 h8 h9 h10 h11 h12 h13 c4 c1 HBN
    cases b10 with
    | false =>
      go_enter Try.func11, Try.ntmps11
      go_wp2_with fail
      clear hX hV
      refine (H0.out _).mono ?_
      rintro e w' ⟨rfl, rfl⟩
      cases b0 with
      | false =>
        go_wp2_with fail
        go_ret
        exact ⟨ret_i64 HQ.out.symm, HXB.out.1⟩
      | true =>
        go_wp2_with fail
        refine (H1.out _).mono ?_
        rintro e w' ⟨rfl, rfl⟩
        cases b1 with
        | false =>
          go_wp2_with fail
          go_ret
          exact ⟨ret_i64 HQ.out.symm, HXB.out.1⟩
        | true =>
          go_wp2_with fail
          refine (H2.out _).mono ?_
          rintro e w' ⟨rfl, rfl⟩
          cases b2 with
          | false =>
            go_wp2_with fail
            go_ret
            exact ⟨ret_i64 HQ.out.symm, HXB.out.1⟩
          | true =>
            go_wp2_with fail
            refine (H3.out _).mono ?_
            rintro e w' ⟨rfl, rfl⟩
            cases b3 with
            | false =>
              go_wp2_with fail
              go_ret
              exact ⟨ret_i64 HQ.out.symm, HXB.out.1⟩
            | true =>
              go_wp2_with fail
              refine (H4.out _).mono ?_
              rintro e w' ⟨rfl, rfl⟩
              cases b4 with
              | false =>
                go_wp2_with fail
                go_ret
                exact ⟨ret_i64 HQ.out.symm, HXB.out.1⟩
              | true =>
                go_wp2_with fail
                refine (H5.out _).mono ?_
                rintro e w' ⟨rfl, rfl⟩
                cases b5 with
                | false =>
                  go_wp2_with fail
                  go_ret
                  exact ⟨ret_i64 HQ.out.symm, HXB.out.1⟩
                | true =>
                  go_wp2_with fail
                  refine (H6.out _).mono ?_
                  rintro e w' ⟨rfl, rfl⟩
                  cases b6 with
                  | false =>
                    go_wp2_with fail
                    go_ret
                    exact ⟨ret_i64 HQ.out.symm, HXB.out.1⟩
                  | true =>
                    go_wp2_with fail
                    refine (H7.out _).mono ?_
                    rintro e w' ⟨rfl, rfl⟩
                    cases b7 with
                    | false =>
                      go_wp2_with fail
                      go_ret
                      exact ⟨ret_i64 HQ.out.symm, HXB.out.1⟩
                    | true =>
                      go_wp2_with fail
                      refine (H8.out _).mono ?_
                      rintro e w' ⟨rfl, rfl⟩
                      cases b8 with
                      | false =>
                        go_wp2_with fail
                        go_ret
                        exact ⟨ret_i64 HQ.out.symm, HXB.out.1⟩
                      | true =>
                        go_wp2_with fail
                        refine (H9.out _).mono ?_
                        rintro e w' ⟨rfl, rfl⟩
                        cases b9 with
                        | false =>
                          go_wp2_with fail
                          go_ret
                          exact ⟨ret_i64 HQ.out.symm, HXB.out.1⟩
                        | true =>
                          go_wp2_with fail
                          go_ret
                          exact ⟨ret_i64 HQ.out.symm, HXB.out.1⟩
    | true =>
      go_enter Try.func11, Try.ntmps11
      go_wp2_with fail
      clear hX hV
      refine (H0.out _).mono ?_
      rintro e w' ⟨rfl, rfl⟩
      cases b0 with
      | false =>
        go_wp2_with fail
        go_ret
        exact ⟨ret_i64 HQ.out.symm, HXB.out.1⟩
      | true =>
        go_wp2_with fail
        refine (H1.out _).mono ?_
        rintro e w' ⟨rfl, rfl⟩
        cases b1 with
        | false =>
          go_wp2_with fail
          go_ret
          exact ⟨ret_i64 HQ.out.symm, HXB.out.1⟩
        | true =>
          go_wp2_with fail
          refine (H2.out _).mono ?_
          rintro e w' ⟨rfl, rfl⟩
          cases b2 with
          | false =>
            go_wp2_with fail
            go_ret
            exact ⟨ret_i64 HQ.out.symm, HXB.out.1⟩
          | true =>
            go_wp2_with fail
            refine (H3.out _).mono ?_
            rintro e w' ⟨rfl, rfl⟩
            cases b3 with
            | false =>
              go_wp2_with fail
              go_ret
              exact ⟨ret_i64 HQ.out.symm, HXB.out.1⟩
            | true =>
              go_wp2_with fail
              refine (H4.out _).mono ?_
              rintro e w' ⟨rfl, rfl⟩
              cases b4 with
              | false =>
                go_wp2_with fail
                go_ret
                exact ⟨ret_i64 HQ.out.symm, HXB.out.1⟩
              | true =>
                go_wp2_with fail
                refine (H5.out _).mono ?_
                rintro e w' ⟨rfl, rfl⟩
                cases b5 with
                | false =>
                  go_wp2_with fail
                  go_ret
                  exact ⟨ret_i64 HQ.out.symm, HXB.out.1⟩
                | true =>
                  go_wp2_with fail
                  refine (H6.out _).mono ?_
                  rintro e w' ⟨rfl, rfl⟩
                  cases b6 with
                  | false =>
                    go_wp2_with fail
                    go_ret
                    exact ⟨ret_i64 HQ.out.symm, HXB.out.1⟩
                  | true =>
                    go_wp2_with fail
                    refine (H7.out _).mono ?_
                    rintro e w' ⟨rfl, rfl⟩
                    cases b7 with
                    | false =>
                      go_wp2_with fail
                      go_ret
                      exact ⟨ret_i64 HQ.out.symm, HXB.out.1⟩
                    | true =>
                      go_wp2_with fail
                      refine (H8.out _).mono ?_
                      rintro e w' ⟨rfl, rfl⟩
                      cases b8 with
                      | false =>
                        go_wp2_with fail
                        go_ret
                        exact ⟨ret_i64 HQ.out.symm, HXB.out.1⟩
                      | true =>
                        go_wp2_with fail
                        refine (H9.out _).mono ?_
                        rintro e w' ⟨rfl, rfl⟩
                        cases b9 with
                        | false =>
                          go_wp2_with fail
                          go_ret
                          exact ⟨ret_i64 HQ.out.symm, HXB.out.1⟩
                        | true =>
                          go_wp2_with fail
                          refine HC.out.mono ?_
                          rintro e w1 ⟨rfl, G1⟩
                          obtain ⟨y0, y1, y2, y3, y4, y5, y6, y7, y8, y9, y10, y11, y12, y13, y14, y15⟩ := jo_at (HW.out w1 G1.out).2
                          cases b11 with
                          | false =>
                            go_wp2_with fail
                            go_ret
                            exact ⟨ret_i64 HQ.out.symm, (HW.out w1 G1.out).1⟩
                          | true =>
                            obtain rfl := HB12.out
                            have H13 := Lib.hid (H13.out (by first | trivial | rfl) w1 G1.out)
                            have K1 := Lib.hid (HW.out w1 G1.out).2
                            go_wp2_with (refine load_joG rfl _ rfl V rfl j (.slice a n c) K1.out ?_)
                            clear y0 y1 y2 y3 y4 y5 y6 y7 y8 y9 y10 y11 y12 y13 y14 y15
                            refine H13.out.mono ?_
                            rintro e w2 ⟨rfl, G2⟩
                            cases b13 with
                            | false =>
                              go_wp2_with fail
                              go_ret
                              exact ⟨ret_i64 HQ.out.symm, (HW.out w2 G2.out).1⟩
                            | true =>
                              go_wp2_with fail
                              go_ret
                              exact ⟨ret_i64 HQ.out.symm, (HW.out w2 G2.out).1⟩
  have n1 : (j.kd == 1) = false := by simpa using c1
  have HB12 : Hid (bn = b12) := Lib.hid (by rw [HBN.out, ← h12]; exact decide_eq_decide.2 ⟨fun h => .inr h, fun h => h.resolve_left c1⟩)
  clear hq her hl h hn hlen h0 h1 h2 h3 h4 h5 h6 h7 h8 h9 h10 h11 h12 h13 c4 c1 HBN
  cases b10 with
  | false =>
    go_enter Try.func11, Try.ntmps11
    go_wp2_with fail
    clear hX hV
    refine (H0.out _).mono ?_
    rintro e w' ⟨rfl, rfl⟩
    cases b0 with
    | false =>
      go_wp2_with fail
      go_ret
      exact ⟨ret_i64 HQ.out.symm, HXB.out.1⟩
    | true =>
      go_wp2_with fail
      refine (H1.out _).mono ?_
      rintro e w' ⟨rfl, rfl⟩
      cases b1 with
      | false =>
        go_wp2_with fail
        go_ret
        exact ⟨ret_i64 HQ.out.symm, HXB.out.1⟩
      | true =>
        go_wp2_with fail
        refine (H2.out _).mono ?_
        rintro e w' ⟨rfl, rfl⟩
        cases b2 with
        | false =>
          go_wp2_with fail
          go_ret
          exact ⟨ret_i64 HQ.out.symm, HXB.out.1⟩
        | true =>
          go_wp2_with fail
          refine (H3.out _).mono ?_
          rintro e w' ⟨rfl, rfl⟩
          cases b3 with
          | false =>
            go_wp2_with fail
            go_ret
            exact ⟨ret_i64 HQ.out.symm, HXB.out.1⟩
          | true =>
            go_wp2_with fail
            refine (H4.out _).mono ?_
            rintro e w' ⟨rfl, rfl⟩
            cases b4 with
            | false =>
              go_wp2_with fail
              go_ret
              exact ⟨ret_i64 HQ.out.symm, HXB.out.1⟩
            | true =>
              go_wp2_with fail
              refine (H5.out _).mono ?_
              rintro e w' ⟨rfl, rfl⟩
              cases b5 with
              | false =>
                go_wp2_with fail
                go_ret
                exact ⟨ret_i64 HQ.out.symm, HXB.out.1⟩
              | true =>
                go_wp2_with fail
                refine (H6.out _).mono ?_
                rintro e w' ⟨rfl, rfl⟩
                cases b6 with
                | false =>
                  go_wp2_with fail
                  go_ret
                  exact ⟨ret_i64 HQ.out.symm, HXB.out.1⟩
                | true =>
                  go_wp2_with fail
                  refine (H7.out _).mono ?_
                  rintro e w' ⟨rfl, rfl⟩
                  cases b7 with
                  | false =>
                    go_wp2_with fail
                    go_ret
                    exact ⟨ret_i64 HQ.out.symm, HXB.out.1⟩
                  | true =>
                    go_wp2_with fail
                    refine (H8.out _).mono ?_
                    rintro e w' ⟨rfl, rfl⟩
                    cases b8 with
                    | false =>
                      go_wp2_with fail
                      go_ret
                      exact ⟨ret_i64 HQ.out.symm, HXB.out.1⟩
                    | true =>
                      go_wp2_with fail
                      refine (H9.out _).mono ?_
                      rintro e w' ⟨rfl, rfl⟩
                      cases b9 with
                      | false =>
                        go_wp2_with fail
                        go_ret
                        exact ⟨ret_i64 HQ.out.symm, HXB.out.1⟩
                      | true =>
                        go_wp2_with fail
                        go_ret
                        exact ⟨ret_i64 HQ.out.symm, HXB.out.1⟩
  | true =>
    go_enter Try.func11, Try.ntmps11
    go_wp2_with fail
    clear hX hV
    refine (H0.out _).mono ?_
    rintro e w' ⟨rfl, rfl⟩
    cases b0 with
    | false =>
      go_wp2_with fail
      go_ret
      exact ⟨ret_i64 HQ.out.symm, HXB.out.1⟩
    | true =>
      go_wp2_with fail
      refine (H1.out _).mono ?_
      rintro e w' ⟨rfl, rfl⟩
      cases b1 with
      | false =>
        go_wp2_with fail
        go_ret
        exact ⟨ret_i64 HQ.out.symm, HXB.out.1⟩
      | true =>
        go_wp2_with fail
        refine (H2.out _).mono ?_
        rintro e w' ⟨rfl, rfl⟩
        cases b2 with
        | false =>
          go_wp2_with fail
          go_ret
          exact ⟨ret_i64 HQ.out.symm, HXB.out.1⟩
        | true =>
          go_wp2_with fail
          refine (H3.out _).mono ?_
          rintro e w' ⟨rfl, rfl⟩
          cases b3 with
          | false =>
            go_wp2_with fail
            go_ret
            exact ⟨ret_i64 HQ.out.symm, HXB.out.1⟩
          | true =>
            go_wp2_with fail
            refine (H4.out _).mono ?_
            rintro e w' ⟨rfl, rfl⟩
            cases b4 with
            | false =>
              go_wp2_with fail
              go_ret
              exact ⟨ret_i64 HQ.out.symm, HXB.out.1⟩
            | true =>
              go_wp2_with fail
              refine (H5.out _).mono ?_
              rintro e w' ⟨rfl, rfl⟩
              cases b5 with
              | false =>
                go_wp2_with fail
                go_ret
                exact ⟨ret_i64 HQ.out.symm, HXB.out.1⟩
              | true =>
                go_wp2_with fail
                refine (H6.out _).mono ?_
                rintro e w' ⟨rfl, rfl⟩
                cases b6 with
                | false =>
                  go_wp2_with fail
                  go_ret
                  exact ⟨ret_i64 HQ.out.symm, HXB.out.1⟩
                | true =>
                  go_wp2_with fail
                  refine (H7.out _).mono ?_
                  rintro e w' ⟨rfl, rfl⟩
                  cases b7 with
                  | false =>
                    go_wp2_with fail
                    go_ret
                    exact ⟨ret_i64 HQ.out.symm, HXB.out.1⟩
                  | true =>
                    go_wp2_with fail
                    refine (H8.out _).mono ?_
                    rintro e w' ⟨rfl, rfl⟩
                    cases b8 with
                    | false =>
                      go_wp2_with fail
                      go_ret
                      exact ⟨ret_i64 HQ.out.symm, HXB.out.1⟩
                    | true =>
                      go_wp2_with fail
                      refine (H9.out _).mono ?_
                      rintro e w' ⟨rfl, rfl⟩
                      cases b9 with
                      | false =>
                        go_wp2_with fail
                        go_ret
                        exact ⟨ret_i64 HQ.out.symm, HXB.out.1⟩
                      | true =>
                        go_wp2_with fail
                        refine HC.out.mono ?_
                        rintro e w1 ⟨rfl, G1⟩
                        obtain ⟨y0, y1, y2, y3, y4, y5, y6, y7, y8, y9, y10, y11, y12, y13, y14, y15⟩ := jo_at (HW.out w1 G1.out).2
                        cases b11 with
                        | false =>
                          go_wp2_with fail
                          go_ret
                          exact ⟨ret_i64 HQ.out.symm, (HW.out w1 G1.out).1⟩
                        | true =>
                          obtain rfl := HB12.out
                          cases bn with
                          | false =>
                            go_wp2_with fail
                            go_ret
                            exact ⟨ret_i64 HQ.out.symm, (HW.out w1 G1.out).1⟩
                          | true =>
                            have H13 := Lib.hid (H13.out (by first | trivial | rfl) w1 G1.out)
                            have K1 := Lib.hid (HW.out w1 G1.out).2
                            go_wp2_with (refine load_joG rfl _ rfl V rfl j (.slice a n c) K1.out ?_)
                            clear y0 y1 y2 y3 y4 y5 y6 y7 y8 y9 y10 y11 y12 y13 y14 y15
                            refine H13.out.mono ?_
                            rintro e w2 ⟨rfl, G2⟩
                            cases b13 with
                            | false =>
                              go_wp2_with fail
                              go_ret
                              exact ⟨ret_i64 HQ.out.symm, (HW.out w2 G2.out).1⟩
                            | true =>
                              go_wp2_with fail
                              go_ret
                              exact ⟨ret_i64 HQ.out.symm, (HW.out w2 G2.out).1⟩
end Go.Proofs.Ytghlgmlelipjfaa.Job
