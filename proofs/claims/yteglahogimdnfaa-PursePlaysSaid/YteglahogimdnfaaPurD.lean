/- The document's Open, Give, Take. -/
import Derived.Test.YteglahogimdnfaaPurC
namespace Go.Proofs.Yteglahogimdnfaa.Purse
open Go.RowKit Go.Lib

/-- A row that is what it was, or new. -/
def Was (w : World) (v v' : Value) : Prop := ∀ k, v'.ownBlock = some k → v.ownBlock = some k ∨ w.heap.size ≤ k
structure Res (w w' : World) (v v' : Value) (l' : List Ac) : Prop where
  own : OwnA w' 0 v' l'
  below : Below w.heap.size w w'
  was : Was w v v'
theorem res_same {w : World} {v : Value} {l : List Ac} (h : OwnA w 0 v l) : Res w w v v l := ⟨h, Below.refl _ _, fun _ hk => .inl hk⟩
theorem res_new {w w' : World} {v v' : Value} {l : List Ac} (h : OwnA w' w.heap.size v' l) (hb : Below w.heap.size w w') : Res w w' v v' l := ⟨World.ownsRow.mono h (Nat.zero_le _), hb, fun k hk => .inr (h.lt k hk).1⟩
theorem Res.then {w w1 w2 : World} {v v1 v2 : Value} {l1 l2 : List Ac} (h : Res w w1 v v1 l1) (k : Res w1 w2 v1 v2 l2) : Res w w2 v v2 l2 :=
  ⟨k.own, below_then h.below k.below, fun q hq => by
    rcases k.was q hq with h1 | h1
    · exact h.was q h1
    · exact .inr (Nat.le_trans h.below.size h1)⟩
theorem ret_sl {a : Option Addr} {n c : Nat} {x y : Int} (h : x = y) : Ending.returned (.tuple #[.slice a n c, .int .i64 x]) = .returned (.tuple #[.slice a n c, .int .i64 y]) := by rw [h]
set_option maxRecDepth 100000 in
set_option maxHeartbeats 2000000 in
theorem dopen {a : Option Addr} {n c : Nat} {l : List Ac} (o : Int) (w : World) (hr : OwnA w 0 (.slice a n c) l) (hn : n ≤ 1000) :
    Calls Try.prog 28 #[.slice a n c, .int .i64 o] w fun e w' => ∃ a' n' c', e = .returned (.tuple #[.slice a' n' c', .int .i64 (openE l o)]) ∧ Hid (Res w w' (.slice a n c) (.slice a' n' c') (openL l o)) := by
  obtain ⟨hl, _, _, _, hs⟩ := own_form hr
  have HF := Lib.hid (dfind (c := c) o w hs hl (by omega))
  by_cases h1 : o < 0
  · have he : openE l o = 1 := by unfold openE; rw [if_pos (.inl h1)]
    have hL : openL l o = l := by unfold openL; rw [he]; rfl
    rw [he, hL]
    have d1 : decide (o < 0) = true := decide_eq_true h1
    have HR := Lib.hid (res_same hr)
    clear hr hl hs hn HF h1 he hL
    go_enter Try.func28, Try.ntmps28
    go_wp2_with fail
    go_ret2
    exact ⟨a, n, c, rfl, HR⟩
  have d1 : decide (o < 0) = false := decide_eq_false h1
  by_cases h2 : 1099511627776 < o
  · have he : openE l o = 1 := by unfold openE; rw [if_pos (.inr (by unfold mt; exact h2))]
    have hL : openL l o = l := by unfold openL; rw [he]; rfl
    rw [he, hL]
    have d2 : decide (1099511627776 < o) = true := decide_eq_true h2
    have HR := Lib.hid (res_same hr)
    clear hr hl hs hn HF h1 h2 he hL
    go_enter Try.func28, Try.ntmps28
    go_wp2_with fail
    go_ret2
    exact ⟨a, n, c, rfl, HR⟩
  have d2 : decide (1099511627776 < o) = false := decide_eq_false h2
  have hno : ¬ (o < 0 ∨ mt < o) := by unfold mt; omega
  by_cases hp : pos l o < l.length
  · have he : openE l o = 9 := by unfold openE; rw [if_neg hno, if_pos hp]
    have hL : openL l o = l := by unfold openL; rw [he]; rfl
    rw [he, hL]
    rw [fnd_yes hp] at HF
    have HR := Lib.hid (res_same hr)
    obtain ⟨p, hpp⟩ : ∃ p, pos l o = p := ⟨_, rfl⟩
    rw [hpp] at HF
    have d3 : decide ((0 : Int) ≤ (p : Int)) = true := decide_eq_true (by omega)
    clear hr hl hs hn h1 h2 he hL hno hp hpp
    go_enter Try.func28, Try.ntmps28
    go_wp2_with fail
    refine HF.out.mono ?_
    rintro e w1 ⟨rfl, rfl⟩
    go_wp2_with fail
    go_ret2
    exact ⟨a, n, c, rfl, HR⟩
  · have he : openE l o = 0 := by unfold openE; rw [if_neg hno, if_neg hp]
    have hL : openL l o = put l ⟨o, 0⟩ := by unfold openL; rw [if_pos he]
    rw [he, hL]
    rw [fnd_no hp] at HF
    have HP := Lib.hid (dput ⟨o, 0⟩ w hr (by omega))
    clear hr hl hs hn h1 h2 he hL hno hp
    go_enter Try.func28, Try.ntmps28
    go_wp2_with fail
    refine HF.out.mono ?_
    rintro e w1 ⟨rfl, rfl⟩
    go_wp2_with fail
    refine HP.out.mono ?_
    rintro e w2 ⟨a', c', rfl, H2⟩
    go_wp2_with fail
    go_ret2
    exact ⟨a', n + 1, c', rfl, Lib.hid (res_new H2.out.1 H2.out.2)⟩
set_option maxRecDepth 100000 in
set_option maxHeartbeats 2000000 in
theorem dgive {a : Option Addr} {n c : Nat} {l : List Ac} (o m : Int) (w : World) (hr : OwnA w 0 (.slice a n c) l) (hn : n ≤ 1000) (hg : Good l) :
    Calls Try.prog 29 #[.slice a n c, .int .i64 o, .int .i64 m] w fun e w' => ∃ a' n' c', e = .returned (.tuple #[.slice a' n' c', .int .i64 (giveE l o m)]) ∧ Hid (Res w w' (.slice a n c) (.slice a' n' c') (giveL l o m)) := by
  obtain ⟨hl, _, _, _, hs⟩ := own_form hr
  have HF := Lib.hid (dfind (c := c) o w hs hl (by omega))
  have HTO := Lib.hid (dtotal (c := c) w hs hl (by omega) hg)
  have HR := Lib.hid (res_same hr)
  by_cases hp : pos l o < l.length
  · have hW : ∀ x, 0 ≤ x → Hid (Calls Try.prog 39 #[.slice a n c, .int .i64 (pos l o : Nat), .int .i64 x] w fun e w' => ∃ a' c', e = .returned (.slice a' n c') ∧ Hid (OwnA w' w.heap.size (.slice a' n c') (setM l (pos l o) x) ∧ Below w.heap.size w w')) := fun x _ => Lib.hid (dwith (pos l o) x w hr (by omega) (by omega))
    obtain ⟨g, off, t, rfl, ht, k0, k1⟩ := (accs_at hs).out w _ (Below.refl _ _) hp
    have hma := monAt_of ht.out
    have hmi := monAt_in hg.mon hp
    have htt := hg.tot
    unfold mm at htt
    rw [fnd_yes hp] at HF
    by_cases h1 : m < 0
    · have he : giveE l o m = 1 := by unfold giveE; rw [if_pos hp, if_pos h1]
      have hL : giveL l o m = l := by unfold giveL; rw [he]; rfl
      rw [he, hL]
      have d1 : decide (m < 0) = true := decide_eq_true h1
      obtain ⟨p, hpp⟩ : ∃ p, pos l o = p := ⟨_, rfl⟩
      rw [hpp] at HF
      have d3 : decide ((p : Int) < 0) = false := decide_eq_false (by omega)
      clear hr hl hs hn h1 he hL hp hpp hg hW k0 k1 hma hmi htt HTO
      go_enter Try.func29, Try.ntmps29
      go_wp2_with fail
      refine HF.out.mono ?_
      rintro e w1 ⟨rfl, rfl⟩
      go_wp2_with fail
      go_ret2
      exact ⟨_, n, c, rfl, HR⟩
    have d1 : decide (m < 0) = false := decide_eq_false h1
    by_cases h2 : 1152921504606846976 - tot l < m
    · have he : giveE l o m = 5 := by unfold giveE; rw [if_pos hp, if_neg h1, if_pos (by unfold mm; exact h2)]
      have hL : giveL l o m = l := by unfold giveL; rw [he]; rfl
      rw [he, hL]
      obtain ⟨z, hz⟩ : ∃ z, tot l = z := ⟨_, rfl⟩
      rw [hz] at HTO h2 htt hmi
      have d2 : decide (1152921504606846976 - z < m) = true := decide_eq_true h2
      have z0 : 0 ≤ z := by omega
      obtain ⟨p, hpp⟩ : ∃ p, pos l o = p := ⟨_, rfl⟩
      rw [hpp] at HF
      have d3 : decide ((p : Int) < 0) = false := decide_eq_false (by omega)
      clear hr hl hs hn h1 h2 he hL hp hpp hg hW k0 k1 hma hmi hz
      go_enter Try.func29, Try.ntmps29
      go_wp2_with fail
      refine HF.out.mono ?_
      rintro e w1 ⟨rfl, rfl⟩
      go_wp2_with fail
      refine HTO.out.mono ?_
      rintro e w2 ⟨rfl, rfl⟩
      go_wp2_with fail
      go_ret2
      exact ⟨_, n, c, rfl, HR⟩
    · have he : giveE l o m = 0 := by unfold giveE; rw [if_pos hp, if_neg h1, if_neg (by unfold mm; exact h2)]
      have hL : giveL l o m = setM l (pos l o) (monAt l (pos l o) + m) := by unfold giveL; rw [if_pos he]
      rw [he, hL]
      have HWW := hW (monAt l (pos l o) + m) (by omega)
      rw [hma] at HWW hmi ⊢
      obtain ⟨z, hz⟩ : ∃ z, tot l = z := ⟨_, rfl⟩
      rw [hz] at HTO h2 htt hmi
      have d2 : decide (1152921504606846976 - z < m) = false := decide_eq_false h2
      have z0 : 0 ≤ z := by omega
      obtain ⟨m0, m1⟩ := hmi
      have w1' : IntKind.i64.wrap (t.mon + m) = t.mon + m := IntWalk.i64_in _ (by omega)
      obtain ⟨p, hpp⟩ : ∃ p, pos l o = p := ⟨_, rfl⟩
      rw [hpp] at HF HWW hp k0 k1
      have d3 : decide ((p : Int) < 0) = false := decide_eq_false (by omega)
      have hp0 : (0 : Int) ≤ (p : Int) := by omega
      have hp1 : (p : Int) < (n : Int) := by omega
      rw [hpp]
      clear hr hl hs hn h1 h2 he hL hp hpp hg hW hma hz
      go_enter Try.func29, Try.ntmps29
      go_wp2_with fail
      refine HF.out.mono ?_
      rintro e w1 ⟨rfl, rfl⟩
      go_wp2_with fail
      refine HTO.out.mono ?_
      rintro e w2 ⟨rfl, rfl⟩
      go_wp2_with fail
      refine HWW.out.mono ?_
      rintro e w3 ⟨a', c', rfl, H3⟩
      go_wp2_with fail
      go_ret2
      exact ⟨a', n, c', rfl, Lib.hid (res_new H3.out.1 H3.out.2)⟩
  · have he : giveE l o m = 3 := by unfold giveE; rw [if_neg hp]
    have hL : giveL l o m = l := by unfold giveL; rw [he]; rfl
    rw [he, hL]
    rw [fnd_no hp] at HF
    clear hr hl hs hn he hL hp hg HTO
    go_enter Try.func29, Try.ntmps29
    go_wp2_with fail
    refine HF.out.mono ?_
    rintro e w1 ⟨rfl, rfl⟩
    go_wp2_with fail
    go_ret2
    exact ⟨_, n, c, rfl, HR⟩
set_option maxRecDepth 100000 in
set_option maxHeartbeats 2000000 in
theorem dtake {a : Option Addr} {n c : Nat} {l : List Ac} (o m : Int) (w : World) (hr : OwnA w 0 (.slice a n c) l) (hn : n ≤ 1000) (hg : Good l) :
    Calls Try.prog 30 #[.slice a n c, .int .i64 o, .int .i64 m] w fun e w' => ∃ a' n' c', e = .returned (.tuple #[.slice a' n' c', .int .i64 (takeE l o m)]) ∧ Hid (Res w w' (.slice a n c) (.slice a' n' c') (takeL l o m)) := by
  obtain ⟨hl, _, _, _, hs⟩ := own_form hr
  have HF := Lib.hid (dfind (c := c) o w hs hl (by omega))
  have HR := Lib.hid (res_same hr)
  by_cases hp : pos l o < l.length
  · have hW : ∀ x, 0 ≤ x → Hid (Calls Try.prog 39 #[.slice a n c, .int .i64 (pos l o : Nat), .int .i64 x] w fun e w' => ∃ a' c', e = .returned (.slice a' n c') ∧ Hid (OwnA w' w.heap.size (.slice a' n c') (setM l (pos l o) x) ∧ Below w.heap.size w w')) := fun x _ => Lib.hid (dwith (pos l o) x w hr (by omega) (by omega))
    obtain ⟨g, off, t, rfl, ht, k0, k1⟩ := (accs_at hs).out w _ (Below.refl _ _) hp
    have hma := monAt_of ht.out
    have hmi := monAt_in hg.mon hp
    have htt := hg.tot
    unfold mm at htt
    rw [fnd_yes hp] at HF
    by_cases h1 : m < 0
    · have he : takeE l o m = 1 := by unfold takeE; rw [if_pos hp, if_pos h1]
      have hL : takeL l o m = l := by unfold takeL; rw [he]; rfl
      rw [he, hL]
      have d1 : decide (m < 0) = true := decide_eq_true h1
      obtain ⟨p, hpp⟩ : ∃ p, pos l o = p := ⟨_, rfl⟩
      rw [hpp] at HF
      have d3 : decide ((p : Int) < 0) = false := decide_eq_false (by omega)
      clear hr hl hs hn h1 he hL hp hpp hg hW k0 k1 hma hmi htt
      go_enter Try.func30, Try.ntmps30
      go_wp2_with fail
      refine HF.out.mono ?_
      rintro e w1 ⟨rfl, rfl⟩
      go_wp2_with fail
      go_ret2
      exact ⟨_, n, c, rfl, HR⟩
    have d1 : decide (m < 0) = false := decide_eq_false h1
    by_cases h2 : t.mon < m
    · have he : takeE l o m = 6 := by unfold takeE; rw [if_pos hp, if_neg h1, if_pos (by rw [hma]; exact h2)]
      have hL : takeL l o m = l := by unfold takeL; rw [he]; rfl
      rw [he, hL]
      have d2 : decide (t.mon < m) = true := decide_eq_true h2
      obtain ⟨p, hpp⟩ : ∃ p, pos l o = p := ⟨_, rfl⟩
      rw [hpp] at HF hp k0 k1
      have d3 : decide ((p : Int) < 0) = false := decide_eq_false (by omega)
      have hp0 : (0 : Int) ≤ (p : Int) := by omega
      have hp1 : (p : Int) < (n : Int) := by omega
      clear hr hl hs hn h1 h2 he hL hp hpp hg hW hma hmi
      go_enter Try.func30, Try.ntmps30
      go_wp2_with fail
      refine HF.out.mono ?_
      rintro e w1 ⟨rfl, rfl⟩
      go_wp2_with fail
      go_ret2
      exact ⟨_, n, c, rfl, HR⟩
    · have he : takeE l o m = 0 := by unfold takeE; rw [if_pos hp, if_neg h1, if_neg (by rw [hma]; exact h2)]
      have hL : takeL l o m = setM l (pos l o) (monAt l (pos l o) - m) := by unfold takeL; rw [if_pos he]
      rw [he, hL]
      rw [hma] at hmi ⊢
      have HWW := hW (t.mon - m) (by omega)
      have d2 : decide (t.mon < m) = false := decide_eq_false h2
      obtain ⟨m0, m1⟩ := hmi
      have w1' : IntKind.i64.wrap (t.mon - m) = t.mon - m := IntWalk.i64_in _ (by omega)
      obtain ⟨p, hpp⟩ : ∃ p, pos l o = p := ⟨_, rfl⟩
      rw [hpp] at HF HWW hp k0 k1
      have d3 : decide ((p : Int) < 0) = false := decide_eq_false (by omega)
      have hp0 : (0 : Int) ≤ (p : Int) := by omega
      have hp1 : (p : Int) < (n : Int) := by omega
      rw [hpp]
      clear hr hl hs hn h1 h2 he hL hp hpp hg hW hma
      go_enter Try.func30, Try.ntmps30
      go_wp2_with fail
      refine HF.out.mono ?_
      rintro e w1 ⟨rfl, rfl⟩
      go_wp2_with fail
      refine HWW.out.mono ?_
      rintro e w3 ⟨a', c', rfl, H3⟩
      go_wp2_with fail
      go_ret2
      exact ⟨a', n, c', rfl, Lib.hid (res_new H3.out.1 H3.out.2)⟩
  · have he : takeE l o m = 3 := by unfold takeE; rw [if_neg hp]
    have hL : takeL l o m = l := by unfold takeL; rw [he]; rfl
    rw [he, hL]
    rw [fnd_no hp] at HF
    clear hr hl hs hn he hL hp hg
    go_enter Try.func30, Try.ntmps30
    go_wp2_with fail
    refine HF.out.mono ?_
    rintro e w1 ⟨rfl, rfl⟩
    go_wp2_with fail
    go_ret2
    exact ⟨_, n, c, rfl, HR⟩
end Go.Proofs.Yteglahogimdnfaa.Purse
