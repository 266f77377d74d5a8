/- The program's Move, Clone, Moves. -/
import Derived.Test.YteglahogimdnfaaPurImC
namespace Go.Proofs.Yteglahogimdnfaa.Purse
open Go.RowKit Go.Lib

/-- What was just taken has room. -/
theorem give_back {l : List Ac} (hg : Good l) {f t n : Int} (h : moveE l f t n = 0) : giveE (takeL l f n) t n = 0 ∧ giveL (takeL l f n) t n = moveL l f t n := by
  obtain ⟨_, h2⟩ := moveE_zero h
  obtain ⟨_, h3, _⟩ := takeE_zero h2
  have h4 := tot_take h2
  have h5 := hg.tot
  have e : giveE (takeL l f n) t n = 0 := by
    unfold giveE
    rw [if_pos (move_in h), if_neg (by omega), if_neg (by omega)]
  exact ⟨e, by unfold giveL moveL; rw [if_pos e, if_pos h]⟩
set_option maxRecDepth 100000 in
set_option maxHeartbeats 1000000 in
theorem move_im {Q : Nat} {R : Nat → Prop} {l : List Ac} (f t n : Int) (w : World) (h : PT w Q R l) (hg : Good l) (hl : l.length ≤ 1000) (hn : n ≤ 9223372036854775807) :
    Calls Try.prog 19 #[ptr Q, .int .i64 f, .int .i64 t, .int .i64 n] w fun e w' => e = .returned (.int .i64 (moveE l f t n)) ∧ ∃ R', PT w' Q R' (moveL l f t n) ∧ Up w w' Q R R' := by
  have HM := Lib.hid (money_im t w h hg.rise hl)
  obtain ⟨m, hm⟩ : ∃ m, monV l t = m := ⟨_, rfl⟩
  rw [hm] at HM
  by_cases hp : pos l t < l.length
  · have hme : monE l t = 0 := by unfold monE; rw [if_pos hp]
    rw [hme] at HM
    have HT : Hid (∀ W, Below w.heap.size w W → Calls Try.prog 33 #[ptr Q, .int .i64 f, .int .i64 n] W fun e w' => e = .returned (.int .i64 (takeE l f n)) ∧ Hid (∃ R', PT w' Q R' (takeL l f n) ∧ Up w w' Q R R')) := Lib.hid fun W hW =>
      (take_im f n W (h.under hW) hg hl).mono fun _ _ ⟨e, R', h1, h2⟩ => ⟨e, Lib.hid ⟨R', h1, (Up.of_below hW).trans h2⟩⟩
    have hmt : moveE l f t n = takeE l f n := by
      unfold moveE takeE
      by_cases hf : pos l f < l.length
      · rw [if_pos ⟨hf, hp⟩]
      · rw [if_neg (fun e => hf e.1), if_neg hf]
    by_cases h0 : takeE l f n = 0
    · have hb := give_back hg (f := f) (t := t) (n := n) (by rw [hmt]; exact h0)
      have HG : Hid (∀ W R', PT W Q R' (takeL l f n) → Calls Try.prog 21 #[ptr Q, .int .i64 t, .int .i64 n] W fun e w' => e = .returned (.int .i64 0) ∧ ∃ R2, PT w' Q R2 (moveL l f t n) ∧ Up W w' Q R' R2) := Lib.hid fun W R' hW => by
        have := give_im t n W hW (good_take hg f n) (by rw [takeL_length]; exact hl) hn
        rw [hb.1, hb.2] at this
        exact this
      rw [hmt, h0]
      rw [h0] at HT
      clear hb hmt h0 hme hm hp h hg hl hn
      go_enter Try.func19, Try.ntmps19
      go_wp2_with fail
      refine HM.out.mono ?_
      rintro e w1 ⟨rfl, hb⟩
      have HB := Lib.hid hb
      clear hb
      go_wp2_with fail
      refine (HT.out _ HB.out).mono ?_
      rintro e w2 ⟨rfl, H2⟩
      go_wp2_with fail
      obtain ⟨R2, h1, h2⟩ := H2.out
      have H3 := Lib.hid h2
      refine (HG.out _ _ h1).mono ?_
      rintro e w3 ⟨rfl, R3, h3, h4⟩
      have HE : Hid (∃ R', PT w3 Q R' (moveL l f t n) ∧ Up w w3 Q R R') := Lib.hid ⟨R3, h3, H3.out.trans h4⟩
      clear h1 h2 h3 h4
      go_wp2_with fail
      go_ret
      exact ⟨rfl, HE.out⟩
    · have hL1 : takeL l f n = l := by unfold takeL; rw [if_neg h0]
      have hL2 : moveL l f t n = l := move_refused (by rw [hmt]; exact h0)
      rw [hmt, hL2]
      rw [hL1] at HT
      obtain ⟨r, hr⟩ : ∃ r, takeE l f n = r := ⟨_, rfl⟩
      rw [hr] at HT h0 ⊢
      have hb1 : (r == 0) = false := by simpa using h0
      have hb2 : (r != 0) = true := by simpa using h0
      clear hL1 hL2 hmt hme hm hp h hg hl hn hr
      go_enter Try.func19, Try.ntmps19
      go_wp2_with fail
      refine HM.out.mono ?_
      rintro e w1 ⟨rfl, hb⟩
      have HB := Lib.hid hb
      clear hb
      go_wp2_with fail
      refine (HT.out _ HB.out).mono ?_
      rintro e w2 ⟨rfl, H2⟩
      go_wp2_with fail
      go_ret
      exact ⟨rfl, H2.out⟩
  · have hme : monE l t = 3 := by unfold monE; rw [if_neg hp]
    have he : moveE l f t n = 3 := by unfold moveE; rw [if_neg (fun e => hp e.2)]
    have hL : moveL l f t n = l := move_refused (by rw [he]; decide)
    rw [he, hL]
    rw [hme] at HM
    have HP := Lib.hid h
    clear he hL hme hm hp h hg hl hn
    go_enter Try.func19, Try.ntmps19
    go_wp2_with fail
    refine HM.out.mono ?_
    rintro e w' ⟨rfl, hb⟩
    have HB : Hid (∃ R', PT w' Q R' l ∧ Up w w' Q R R') := Lib.hid ⟨R, HP.out.under hb, Up.of_below hb⟩
    clear hb
    go_wp2_with fail
    go_ret
    exact ⟨rfl, HB.out⟩
/-! Clone -/
set_option maxRecDepth 100000 in
set_option maxHeartbeats 1000000 in
theorem clone_im {Q : Nat} {R : Nat → Prop} {l : List Ac} (w : World) (h : PT w Q R l) :
    Calls Try.prog 18 #[ptr Q] w fun e w' => ∃ Q2, e = .returned (ptr Q2) ∧ ∃ R2, PT w' Q2 R2 l ∧ w.heap.size ≤ Q2 ∧ Below w.heap.size w w' ∧ ∀ k, R2 k → (R k ∧ k ≠ Q) ∨ w.heap.size ≤ k := by
  obtain ⟨ks, vs, hv⟩ := h
  have HV := Lib.hid hv
  have HC := Lib.hid (Tab.Im.clone_tl w hv.tl)
  obtain ⟨a, c, rfl, _, _, _, _⟩ := Tab.Im.rowK hv.keys
  obtain ⟨b, d, rfl, _, _, _, _⟩ := Tab.Im.rowI hv.vals
  obtain ⟨n, hn⟩ : ∃ n, (Tab.keys (prs l)).length = n := ⟨_, rfl⟩
  obtain ⟨m, hm⟩ : ∃ m, (Tab.Im.vals (prs l)).length = m := ⟨_, rfl⟩
  rw [hn, hm] at HC HV
  clear hv hn hm
  go_enter Try.func18, Try.ntmps18
  go_wp2_with fail
  refine HC.out.mono ?_
  rintro e w1 ⟨Q1, F1, rfl, h1, h2, hb⟩
  obtain ⟨c0, c1⟩ := h1.cells
  have HE : Hid (∃ R2, PT (w1.alloc (.cells #[.slice a n c, .slice b m d] 59)) w1.heap.size R2 l ∧ w.heap.size ≤ w1.heap.size ∧ Below w.heap.size w (w1.alloc (.cells #[.slice a n c, .slice b m d] 59)) ∧ ∀ k, R2 k → (R k ∧ k ≠ Q) ∨ w.heap.size ≤ k) := Lib.hid (by
    have hbl := hb.alloc hb.size (.cells #[.slice a n c, .slice b m d] 59)
    have hk := Tab.Im.own_under HV.out.keys hbl
    have hv := Tab.Im.own_under HV.out.vals hbl
    refine ⟨fun k => k = w1.heap.size ∨ (Value.slice a n c).ownBlock = some k ∨ (Value.slice b m d).ownBlock = some k, ⟨_, _, ⟨⟨_, heap_alloc_new w1 _⟩, hk, hv, .inl rfl, fun q hq => ⟨.inr (.inl hq), ?_⟩, fun q hq => ⟨.inr (.inr hq), ?_⟩, ?_⟩⟩, hb.size, hbl, ?_⟩
    · have := (HV.out.keys.lt q hq).2
      have := hb.size
      omega
    · have := (HV.out.vals.lt q hq).2
      have := hb.size
      omega
    · rintro k (rfl | hk' | hk')
      · simp
      · exact (hk.lt k hk').2
      · exact (hv.lt k hk').2
    · rintro k (rfl | hk' | hk')
      · exact .inr hb.size
      · exact .inl (HV.out.kb k hk')
      · exact .inl (HV.out.vb k hk'))
  clear h1 h2 hb
  go_wp2_with fail
  go_ret
  exact ⟨_, rfl, HE.out⟩
end Go.Proofs.Yteglahogimdnfaa.Purse
