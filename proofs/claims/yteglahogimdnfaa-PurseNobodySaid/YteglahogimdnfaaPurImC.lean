/- The program's Open, Give, Take, Move. -/
import Derived.Test.YteglahogimdnfaaPurImB
namespace Go.Proofs.Yteglahogimdnfaa.Purse
open Go.RowKit Go.Lib

theorem monV_at {l : List Ac} {o : Int} (hp : pos l o < l.length) : monV l o = monAt l (pos l o) := by unfold monV; rw [if_pos hp]
set_option maxRecDepth 100000 in
set_option maxHeartbeats 1000000 in
theorem open_im {Q : Nat} {R : Nat → Prop} {l : List Ac} (o : Int) (w : World) (h : PT w Q R l) (hg : Good l) (hl : l.length ≤ 1000) :
    Calls Try.prog 20 #[ptr Q, .int .i64 o] w fun e w' => e = .returned (.int .i64 (openE l o)) ∧ ∃ R', PT w' Q R' (openL l o) ∧ Up w w' Q R R' := by
  by_cases hk : 0 ≤ o ∧ o ≤ 1099511627776
  · have HU := Lib.hid (upto_yes o 1099511627776 w hk.1 hk.2)
    have HO := Lib.hid (of_im o w h hg.rise hl)
    obtain ⟨m, hm⟩ : ∃ m, monV l o = m := ⟨_, rfl⟩
    rw [hm] at HO
    by_cases hp : pos l o < l.length
    · have he : openE l o = 9 := by unfold openE mt; rw [if_neg (by omega), if_pos hp]
      have hL : openL l o = l := by unfold openL; rw [he]; rfl
      rw [he, hL]
      rw [decide_eq_true hp] at HO
      have HP := Lib.hid h
      clear hk he hL hm hp h hg hl
      go_enter Try.func20, Try.ntmps20
      go_wp2_with fail
      refine HU.out.mono ?_
      rintro e w' ⟨rfl, rfl⟩
      go_wp2_with fail
      refine HO.out.mono ?_
      rintro e w' ⟨rfl, hb⟩
      have HB : Hid (∃ R', PT w' Q R' l ∧ Up w w' Q R R') := Lib.hid ⟨R, HP.out.under hb, Up.of_below hb⟩
      clear hb
      go_wp2_with fail
      go_ret
      exact ⟨rfl, HB.out⟩
    · have he : openE l o = 0 := by unfold openE mt; rw [if_neg (by omega), if_neg hp]
      have hL : openL l o = put l ⟨o, 0⟩ := by unfold openL; rw [he]; rfl
      rw [he, hL]
      rw [decide_eq_false hp] at HO
      have HP := Lib.hid h
      have HR := Lib.hid hg.rise; have HL := Lib.hid hl; have HN := Lib.hid hp
      clear hk he hL hm hp h hg hl
      go_enter Try.func20, Try.ntmps20
      go_wp2_with fail
      refine HU.out.mono ?_
      rintro e w' ⟨rfl, rfl⟩
      go_wp2_with fail
      refine HO.out.mono ?_
      rintro e w1 ⟨rfl, hb⟩
      have HB := Lib.hid hb
      have HC := Lib.hid (put_fresh o 0 w1 (HP.out.under hb) HR.out HL.out HN.out)
      clear hb
      go_wp2_with fail
      refine HC.out.mono ?_
      rintro e w2 ⟨rfl, R', h1, h2⟩
      have HE : Hid (∃ R', PT w2 Q R' (put l ⟨o, 0⟩) ∧ Up w w2 Q R R') := Lib.hid ⟨R', h1, (Up.of_below HB.out).trans h2⟩
      clear h1 h2
      go_wp2_with fail
      go_ret
      exact ⟨rfl, HE.out⟩
  · have HU := Lib.hid (upto_no o 1099511627776 w (by omega))
    have he : openE l o = 1 := by unfold openE mt; rw [if_pos (by omega)]
    have hL : openL l o = l := by unfold openL; rw [he]; rfl
    rw [he, hL]
    have HP := Lib.hid h
    clear hk he hL h hg hl
    go_enter Try.func20, Try.ntmps20
    go_wp2_with fail
    refine HU.out.mono ?_
    rintro e w' ⟨rfl, rfl⟩
    go_wp2_with fail
    go_ret
    exact ⟨rfl, R, HP.out, Up.refl _ _ _⟩
set_option maxRecDepth 100000 in
set_option maxHeartbeats 1000000 in
theorem give_im {Q : Nat} {R : Nat → Prop} {l : List Ac} (o n : Int) (w : World) (h : PT w Q R l) (hg : Good l) (hl : l.length ≤ 1000) (hn : n ≤ 9223372036854775807) :
    Calls Try.prog 21 #[ptr Q, .int .i64 o, .int .i64 n] w fun e w' => e = .returned (.int .i64 (giveE l o n)) ∧ ∃ R', PT w' Q R' (giveL l o n) ∧ Up w w' Q R R' := by
  have HM := Lib.hid (money_im o w h hg.rise hl)
  by_cases hp : pos l o < l.length
  · have h0 := monAt_in hg.mon hp
    have ht := hg.tot
    unfold mm at ht
    have hme : monE l o = 0 := by unfold monE; rw [if_pos hp]
    rw [hme, monV_at hp] at HM
    obtain ⟨m, hm⟩ : ∃ m, monAt l (pos l o) = m := ⟨_, rfl⟩
    obtain ⟨t, htt⟩ : ∃ t, tot l = t := ⟨_, rfl⟩
    rw [hm] at HM h0
    rw [htt] at ht h0
    by_cases hneg : n < 0
    · have he : giveE l o n = 1 := by unfold giveE; rw [if_pos hp, if_pos hneg]
      have hL : giveL l o n = l := by unfold giveL; rw [he]; rfl
      rw [he, hL]
      have HP := Lib.hid h
      clear he hL hme hm htt hp h hg hl h0 ht
      go_enter Try.func21, Try.ntmps21
      go_wp2_with fail
      refine HM.out.mono ?_
      rintro e w' ⟨rfl, hb⟩
      have HB : Hid (∃ R', PT w' Q R' l ∧ Up w w' Q R R') := Lib.hid ⟨R, HP.out.under hb, Up.of_below hb⟩
      clear hb
      go_wp2_with fail
      go_ret
      exact ⟨rfl, HB.out⟩
    · have HT : Hid (∀ W, Below w.heap.size w W → Calls Try.prog 14 #[ptr Q] W fun e w' => e = .returned (.int .i64 t) ∧ Hid (Below w.heap.size w w')) := Lib.hid fun W hW => by
        rw [← htt]
        exact (total_im W (h.under hW) hg hl).mono fun _ _ ⟨e, hb⟩ => ⟨e, Lib.hid (below_then hW hb)⟩
      by_cases hov : mm - tot l < n
      · have he : giveE l o n = 5 := by unfold giveE; rw [if_pos hp, if_neg hneg, if_pos hov]
        have hL : giveL l o n = l := by unfold giveL; rw [he]; rfl
        rw [he, hL]
        rw [htt] at hov
        unfold mm at hov
        have HTG := Lib.hid (fun W => together_no t n W (by omega) (by omega) (by omega) hn (by omega))
        have HP := Lib.hid h
        clear he hL hme hm htt hp h hg hl h0 ht hov hn
        go_enter Try.func21, Try.ntmps21
        go_wp2_with fail
        refine HM.out.mono ?_
        rintro e w1 ⟨rfl, hb⟩
        have HB := Lib.hid hb
        clear hb
        go_wp2_with fail
        refine (HT.out _ HB.out).mono ?_
        rintro e w2 ⟨rfl, HB2⟩
        go_wp2_with fail
        refine (HTG.out _).mono ?_
        rintro e w' ⟨rfl, rfl⟩
        have HE : Hid (∃ R', PT w2 Q R' l ∧ Up w w2 Q R R') := Lib.hid ⟨R, HP.out.under HB2.out, Up.of_below HB2.out⟩
        go_wp2_with fail
        go_ret
        exact ⟨rfl, HE.out⟩
      · have he : giveE l o n = 0 := by unfold giveE; rw [if_pos hp, if_neg hneg, if_neg hov]
        have hL : giveL l o n = setM l (pos l o) (m + n) := by unfold giveL; rw [if_pos he, hm]
        rw [he, hL]
        rw [htt] at hov
        unfold mm at hov
        have HTG := Lib.hid (fun W => together_yes t n W (by omega) (by omega) (by omega))
        have HP := Lib.hid h
        have HR := Lib.hid hg.rise; have HL := Lib.hid hl; have HN := Lib.hid hp
        have hs0 : 0 ≤ m + n := by omega
        have hs1 : m + n ≤ 1152921504606846976 := by omega
        obtain ⟨s, hs⟩ : ∃ s, m + n = s := ⟨_, rfl⟩
        have hw : wrap64 s = s := IntWalk.wrap64_in _ (by omega)
        have hw2 : IntKind.i64.wrap (m + n) = s := by rw [hs]; exact IntWalk.i64_in _ (by omega)
        rw [hs]
        clear he hL hme hm htt hp h hg hl h0 ht hov hn
        go_enter Try.func21, Try.ntmps21
        go_wp2_with fail
        refine HM.out.mono ?_
        rintro e w1 ⟨rfl, hb⟩
        have HB := Lib.hid hb
        clear hb
        go_wp2_with fail
        refine (HT.out _ HB.out).mono ?_
        rintro e w2 ⟨rfl, HB2⟩
        go_wp2_with fail
        refine (HTG.out _).mono ?_
        rintro e w' ⟨rfl, rfl⟩
        have HC := Lib.hid (put_there o s w2 (HP.out.under HB2.out) HR.out HL.out HN.out)
        go_wp2_with fail
        refine HC.out.mono ?_
        rintro e w3 ⟨rfl, R', h1, h2⟩
        have HE : Hid (∃ R', PT w3 Q R' (setM l (pos l o) s) ∧ Up w w3 Q R R') := Lib.hid ⟨R', h1, (Up.of_below HB2.out).trans h2⟩
        clear h1 h2
        go_wp2_with fail
        go_ret
        exact ⟨rfl, HE.out⟩
  · have hme : monE l o = 3 := by unfold monE; rw [if_neg hp]
    have he : giveE l o n = 3 := by unfold giveE; rw [if_neg hp]
    have hL : giveL l o n = l := by unfold giveL; rw [he]; rfl
    rw [he, hL]
    rw [hme] at HM
    obtain ⟨m, hm⟩ : ∃ m, monV l o = m := ⟨_, rfl⟩
    rw [hm] at HM
    have HP := Lib.hid h
    clear he hL hme hm hp h hg hl hn
    go_enter Try.func21, Try.ntmps21
    go_wp2_with fail
    refine HM.out.mono ?_
    rintro e w' ⟨rfl, hb⟩
    have HB : Hid (∃ R', PT w' Q R' l ∧ Up w w' Q R R') := Lib.hid ⟨R, HP.out.under hb, Up.of_below hb⟩
    clear hb
    go_wp2_with fail
    go_ret
    exact ⟨rfl, HB.out⟩
set_option maxRecDepth 100000 in
set_option maxHeartbeats 1000000 in
theorem take_im {Q : Nat} {R : Nat → Prop} {l : List Ac} (o n : Int) (w : World) (h : PT w Q R l) (hg : Good l) (hl : l.length ≤ 1000) :
    Calls Try.prog 33 #[ptr Q, .int .i64 o, .int .i64 n] w fun e w' => e = .returned (.int .i64 (takeE l o n)) ∧ ∃ R', PT w' Q R' (takeL l o n) ∧ Up w w' Q R R' := by
  have HM := Lib.hid (money_im o w h hg.rise hl)
  by_cases hp : pos l o < l.length
  · have h0 := monAt_in hg.mon hp
    have ht := hg.tot
    unfold mm at ht
    have hme : monE l o = 0 := by unfold monE; rw [if_pos hp]
    rw [hme, monV_at hp] at HM
    obtain ⟨m, hm⟩ : ∃ m, monAt l (pos l o) = m := ⟨_, rfl⟩
    rw [hm] at HM h0
    have HP := Lib.hid h
    by_cases hneg : n < 0
    · have he : takeE l o n = 1 := by unfold takeE; rw [if_pos hp, if_pos hneg]
      have hL : takeL l o n = l := by unfold takeL; rw [he]; rfl
      rw [he, hL]
      clear he hL hme hm hp h hg hl h0 ht
      go_enter Try.func33, Try.ntmps33
      go_wp2_with fail
      refine HM.out.mono ?_
      rintro e w' ⟨rfl, hb⟩
      have HB : Hid (∃ R', PT w' Q R' l ∧ Up w w' Q R R') := Lib.hid ⟨R, HP.out.under hb, Up.of_below hb⟩
      clear hb
      go_wp2_with fail
      go_ret
      exact ⟨rfl, HB.out⟩
    · by_cases hov : m < n
      · have he : takeE l o n = 6 := by unfold takeE; rw [if_pos hp, if_neg hneg, hm, if_pos hov]
        have hL : takeL l o n = l := by unfold takeL; rw [he]; rfl
        rw [he, hL]
        clear he hL hme hm hp h hg hl h0 ht
        go_enter Try.func33, Try.ntmps33
        go_wp2_with fail
        refine HM.out.mono ?_
        rintro e w' ⟨rfl, hb⟩
        have HB : Hid (∃ R', PT w' Q R' l ∧ Up w w' Q R R') := Lib.hid ⟨R, HP.out.under hb, Up.of_below hb⟩
        clear hb
        go_wp2_with fail
        go_ret
        exact ⟨rfl, HB.out⟩
      · have he : takeE l o n = 0 := by unfold takeE; rw [if_pos hp, if_neg hneg, hm, if_neg hov]
        have hL : takeL l o n = setM l (pos l o) (m - n) := by unfold takeL; rw [if_pos he, hm]
        rw [he, hL]
        have HR := Lib.hid hg.rise; have HL := Lib.hid hl; have HN := Lib.hid hp
        obtain ⟨s, hs⟩ : ∃ s, m - n = s := ⟨_, rfl⟩
        have hw2 : IntKind.i64.wrap (m - n) = s := by rw [hs]; exact IntWalk.i64_in _ (by omega)
        have hw : wrap64 s = s := IntWalk.wrap64_in _ (by omega)
        rw [hs]
        clear he hL hme hm hp h hg hl h0 ht
        go_enter Try.func33, Try.ntmps33
        go_wp2_with fail
        refine HM.out.mono ?_
        rintro e w1 ⟨rfl, hb⟩
        have HB := Lib.hid hb
        have HC := Lib.hid (put_there o s w1 (HP.out.under hb) HR.out HL.out HN.out)
        clear hb
        go_wp2_with fail
        refine HC.out.mono ?_
        rintro e w3 ⟨rfl, R', h1, h2⟩
        have HE : Hid (∃ R', PT w3 Q R' (setM l (pos l o) s) ∧ Up w w3 Q R R') := Lib.hid ⟨R', h1, (Up.of_below HB.out).trans h2⟩
        clear h1 h2
        go_wp2_with fail
        go_ret
        exact ⟨rfl, HE.out⟩
  · have hme : monE l o = 3 := by unfold monE; rw [if_neg hp]
    have he : takeE l o n = 3 := by unfold takeE; rw [if_neg hp]
    have hL : takeL l o n = l := by unfold takeL; rw [he]; rfl
    rw [he, hL]
    rw [hme] at HM
    obtain ⟨m, hm⟩ : ∃ m, monV l o = m := ⟨_, rfl⟩
    rw [hm] at HM
    have HP := Lib.hid h
    clear he hL hme hm hp h hg hl
    go_enter Try.func33, Try.ntmps33
    go_wp2_with fail
    refine HM.out.mono ?_
    rintro e w' ⟨rfl, hb⟩
    have HB : Hid (∃ R', PT w' Q R' l ∧ Up w w' Q R R') := Lib.hid ⟨R, HP.out.under hb, Up.of_below hb⟩
    clear hb
    go_wp2_with fail
    go_ret
    exact ⟨rfl, HB.out⟩
end Go.Proofs.Yteglahogimdnfaa.Purse
