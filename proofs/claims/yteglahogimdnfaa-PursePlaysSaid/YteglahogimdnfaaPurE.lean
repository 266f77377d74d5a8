/- The document's Move, Moves. -/
import Derived.Test.YteglahogimdnfaaPurD
import Derived.Deep.RegionHeld3
namespace Go.Proofs.Yteglahogimdnfaa.Purse
open Go.RowKit Go.Lib

theorem goM_cons (l : List Ac) (p : Pay) (ps : List Pay) (i : Nat) : goM l (p :: ps) i = if moveE l p.src p.dst p.num = 0 then goM (moveL l p.src p.dst p.num) ps (i + 1) else (l, i, moveE l p.src p.dst p.num) := rfl
theorem takeE_in (l : List Ac) (o m : Int) (h : pos l o < l.length) : takeE l o m = 0 ∨ takeE l o m = 1 ∨ takeE l o m = 6 := by
  unfold takeE
  rw [if_pos h]
  split
  · exact .inr (.inl rfl)
  · split
    · exact .inr (.inr rfl)
    · exact .inl rfl
set_option maxRecDepth 100000 in
set_option maxHeartbeats 2000000 in
theorem dmove {a : Option Addr} {n c : Nat} {l : List Ac} (f t m : Int) (w : World) (hr : OwnA w 0 (.slice a n c) l) (hn : n ≤ 1000) (hg : Good l) :
    Calls Try.prog 31 #[.slice a n c, .int .i64 f, .int .i64 t, .int .i64 m] w fun e w' => ∃ a' n' c', e = .returned (.tuple #[.slice a' n' c', .int .i64 (moveE l f t m)]) ∧ Hid (Res w w' (.slice a n c) (.slice a' n' c') (moveL l f t m)) := by
  obtain ⟨hl, _, _, _, hs⟩ := own_form hr
  have HF := Lib.hid (dfind (c := c) f w hs hl (by omega))
  have HF2 := Lib.hid (dfind (c := c) t w hs hl (by omega))
  have HR := Lib.hid (res_same hr)
  by_cases hf : pos l f < l.length
  · rw [fnd_yes hf] at HF
    obtain ⟨p, hp⟩ : ∃ p, pos l f = p := ⟨_, rfl⟩
    rw [hp] at HF
    have d1 : decide ((p : Int) < 0) = false := decide_eq_false (by omega)
    by_cases ht : pos l t < l.length
    · rw [fnd_yes ht] at HF2
      obtain ⟨q, hq⟩ : ∃ q, pos l t = q := ⟨_, rfl⟩
      have HQ := Lib.hid hq
      rw [hq] at HF2
      have d2 : decide ((q : Int) < 0) = false := decide_eq_false (by omega)
      have hme : moveE l f t m = takeE l f m := by unfold moveE; rw [if_pos ⟨hf, ht⟩]
      have HTK := Lib.hid (dtake f m w hr hn hg)
      by_cases he : takeE l f m = 0
      · have hmz : moveE l f t m = 0 := by rw [hme, he]
        have hL : moveL l f t m = setM (takeL l f m) (pos (takeL l f m) t) (monAt (takeL l f m) (pos (takeL l f m) t) + m) := by unfold moveL; rw [if_pos hmz]
        have hin := move_in hmz
        have hg2 := good_take hg f m
        have hpq : pos (takeL l f m) t = q := by rw [pos_congr (takeL_own l f m), hq]
        have hmi := monAt_in hg2.mon hin
        have htot := tot_take he
        have htt := hg.tot
        obtain ⟨_, k1, k2⟩ := takeE_zero he
        have hlt := takeL_length l f m
        unfold mm at htt
        rw [hpq] at hin hmi hL
        rw [he] at HTK
        rw [hmz, hL]
        obtain ⟨l2, hl2⟩ : ∃ l2, takeL l f m = l2 := ⟨_, rfl⟩
        rw [hl2] at hin hmi hpq hlt HTK htot hg2 ⊢
        have H2 : Hid (∀ W a' n' c', Res w W (.slice a n c) (.slice a' n' c') l2 → (Calls Try.prog 26 #[.slice a' n' c', .int .i64 t] W fun e w' => e = .returned (.int .i64 (q : Nat)) ∧ W = w') ∧
            (∃ g off t, a' = some ⟨g, off, none⟩ ∧ W.cell? ⟨g, off + q * 2 + 1, none⟩ = some (.int .i64 t) ∧ monAt l2 q = t) ∧ (q : Int) < (n' : Int) ∧
            (∀ x, Calls Try.prog 39 #[.slice a' n' c', .int .i64 (q : Nat), .int .i64 x] W fun e w' => ∃ a3 n3 c3, e = .returned (.slice a3 n3 c3) ∧ Hid (Res w w' (.slice a n c) (.slice a3 n3 c3) (setM l2 q x)))) := Lib.hid (fun W a' n' c' hR => by
          obtain ⟨e1, _, _, _, hs2⟩ := own_form hR.own
          have e2 : n' ≤ 1000 := by omega
          have hfd := dfind (c := c') t W hs2 e1 (by omega)
          rw [fnd_yes (by rw [hpq]; exact hin), hpq] at hfd
          obtain ⟨g, off, t1, rfl, ht1, _, k1⟩ := (accs_at hs2).out W q (Below.refl _ _) hin
          refine ⟨hfd, ⟨g, off, t1.mon, rfl, k1, monAt_of ht1.out⟩, by omega, fun x => ?_⟩
          refine (dwith q x W hR.own (by omega) (by omega)).mono ?_
          rintro e w' ⟨a3, c3, rfl, h3⟩
          exact ⟨a3, n', c3, rfl, Lib.hid (hR.then (res_new h3.out.1 h3.out.2))⟩)
        obtain ⟨m0, m1⟩ := hmi
        have hq0 : (0 : Int) ≤ (q : Int) := by omega
        clear hr hl hs hn hg hf ht hp hq hme he hmz hL hin hg2 hpq hlt hl2 HR
        go_enter Try.func31, Try.ntmps31
        go_wp2_with fail
        refine HF.out.mono ?_
        rintro e w1 ⟨rfl, rfl⟩
        go_wp2_with fail
        refine HF2.out.mono ?_
        rintro e w1 ⟨rfl, rfl⟩
        go_wp2_with fail
        refine HTK.out.mono ?_
        rintro e w2 ⟨a', n', c', rfl, HR2⟩
        obtain ⟨hfd, ⟨g, off, tm, rfl, k1, hmt⟩, hqn, hwi⟩ := H2.out w2 a' n' c' HR2.out
        rw [hmt] at m0 m1
        have HMT := Lib.hid hmt
        have HFD := Lib.hid hfd
        have HWI := Lib.hid (hwi (tm + m))
        have w1' : IntKind.i64.wrap (tm + m) = tm + m := IntWalk.i64_in _ (by omega)
        clear hfd hwi hmt
        go_wp2_with fail
        refine HFD.out.mono ?_
        rintro e w3 ⟨rfl, rfl⟩
        go_wp2_with fail
        refine HWI.out.mono ?_
        rintro e w3 ⟨a3, n3, c3, rfl, H3⟩
        go_wp2_with fail
        go_ret2
        exact ⟨a3, n3, c3, rfl, by rw [HMT.out]; exact H3⟩
      · have hmz : moveE l f t m ≠ 0 := by rw [hme]; exact he
        rw [move_refused hmz, hme]
        obtain ⟨er, her⟩ : ∃ er, takeE l f m = er := ⟨_, rfl⟩
        rw [her] at he HTK ⊢
        have hne : (er == 0) = false := by simpa using he
        have HK : Hid (∀ W a' n' c', Res w W (.slice a n c) (.slice a' n' c') (takeL l f m) → Res w W (.slice a n c) (.slice a n c) l) := Lib.hid (fun W a' n' c' hR => ⟨own_under hr hR.below, hR.below, fun _ hk => .inl hk⟩)
        clear hr hl hs hn hg hf ht hp hq hme her hmz HR
        go_enter Try.func31, Try.ntmps31
        go_wp2_with fail
        refine HF.out.mono ?_
        rintro e w1 ⟨rfl, rfl⟩
        go_wp2_with fail
        refine HF2.out.mono ?_
        rintro e w1 ⟨rfl, rfl⟩
        go_wp2_with fail
        refine HTK.out.mono ?_
        rintro e w2 ⟨a', n', c', rfl, HR2⟩
        have HR3 := Lib.hid (HK.out w2 a' n' c' HR2.out)
        go_wp2_with fail
        go_ret2
        exact ⟨a, n, c, rfl, HR3⟩
    · have he : moveE l f t m = 3 := by unfold moveE; rw [if_neg fun h => ht h.2]
      rw [move_refused (by rw [he]; decide), he]
      rw [fnd_no ht] at HF2
      clear hr hl hs hn hg hf ht hp he
      go_enter Try.func31, Try.ntmps31
      go_wp2_with fail
      refine HF.out.mono ?_
      rintro e w1 ⟨rfl, rfl⟩
      go_wp2_with fail
      refine HF2.out.mono ?_
      rintro e w1 ⟨rfl, rfl⟩
      go_wp2_with fail
      go_ret2
      exact ⟨a, n, c, rfl, HR⟩
  · have he : moveE l f t m = 3 := by unfold moveE; rw [if_neg fun h => hf h.1]
    rw [move_refused (by rw [he]; decide), he]
    rw [fnd_no hf] at HF
    clear hr hl hs hn hg hf he HF2
    go_enter Try.func31, Try.ntmps31
    go_wp2_with fail
    refine HF.out.mono ?_
    rintro e w1 ⟨rfl, rfl⟩
    go_wp2_with fail
    go_ret2
    exact ⟨a, n, c, rfl, HR⟩
/-- Payments that lie somewhere. -/
def Pays (w : World) (a : Option Addr) (ps : List Pay) : Prop := ∀ (i : Nat) (p : Pay), ps[i]? = some p → ∃ g off, a = some ⟨g, off, none⟩ ∧ g < w.heap.size ∧ w.cell? ⟨g, off + i * 3, none⟩ = some (.int .i64 p.src) ∧ w.cell? ⟨g, off + i * 3 + 1, none⟩ = some (.int .i64 p.dst) ∧ w.cell? ⟨g, off + i * 3 + 2, none⟩ = some (.int .i64 p.num)
theorem Pays.under {w w' : World} {a : Option Addr} {ps : List Pay} (h : Pays w a ps) (hb : Below w.heap.size w w') : Pays w' a ps := fun i p hi => by
  obtain ⟨g, off, e, hg, k0, k1, k2⟩ := h i p hi
  exact ⟨g, off, e, Nat.lt_of_lt_of_le hg hb.size, ((bcell hb).1 g _ hg).trans k0, ((bcell hb).1 g _ hg).trans k1, ((bcell hb).1 g _ hg).trans k2⟩
theorem pays_at {w : World} {a : Option Addr} {ps : List Pay} (h : Pays w a ps) : Hid (∀ W i, Below w.heap.size w W → i < ps.length → ∃ g off p, a = some ⟨g, off, none⟩ ∧ Hid (ps[i]? = some p) ∧ W.cell? ⟨g, off + i * 3, none⟩ = some (.int .i64 p.src) ∧ W.cell? ⟨g, off + i * 3 + 1, none⟩ = some (.int .i64 p.dst) ∧ W.cell? ⟨g, off + i * 3 + 2, none⟩ = some (.int .i64 p.num)) := Lib.hid (fun W i hW hi => by
  obtain ⟨g, off, e, _, k0, k1, k2⟩ := (h.under hW) i ps[i] (List.getElem?_eq_getElem hi)
  exact ⟨g, off, ps[i], e, Lib.hid (List.getElem?_eq_getElem hi), k0, k1, k2⟩)
set_option maxRecDepth 100000 in
set_option maxHeartbeats 4000000 in
theorem dmoves {a : Option Addr} {n c : Nat} {l : List Ac} (b : Option Addr) (m d : Nat) (ps : List Pay) (w : World) (hr : OwnA w 0 (.slice a n c) l) (hn : n ≤ 1000) (hg : Good l) (hp : Pays w b ps) (hm : ps.length = m) (hm2 : m ≤ 1000) :
    Calls Try.prog 17 #[.slice a n c, .slice b m d] w fun e w' => ∃ a' n' c', e = .returned (.tuple #[.slice a' n' c', .int .i64 (movesN l ps : Nat), .int .i64 (movesE l ps)]) ∧ Hid (Res w w' (.slice a n c) (.slice a' n' c') (movesL l ps)) := by
  obtain ⟨hl, _, _, _, _⟩ := own_form hr
  have HP := pays_at hp
  have HM := Lib.hid hm
  have hm1 : (m : Int) ≤ 1048576 := by omega
  have HR := Lib.hid (res_same hr)
  have HO := Lib.hid hr
  have HG := Lib.hid hg
  have HN := Lib.hid (show l.length ≤ 1000 by omega)
  clear hr hl hn hg hp hm hm2
  go_enter Try.func17, Try.ntmps17
  go_wp2_with fail
  go_loopw [7, 8] (fun s t wr => ∃ (a1 : Option Addr) (n1 c1 i : Nat), s = .slice a1 n1 c1 ∧ t = .int .i64 i ∧ i ≤ m ∧ Hid (∃ l1, Res w wr (.slice a n c) (.slice a1 n1 c1) l1 ∧ Good l1 ∧ l1.length = l.length ∧ goM l ps 0 = goM l1 (ps.drop i) i)) (fun _ t _ => m - (RowKit.intOf t).toNat)
  case atStart => exact ⟨a, n, c, 0, rfl, rfl, by omega, Lib.hid ⟨l, HR.out, HG.out, rfl, by rw [List.drop_zero]⟩⟩
  case round =>
    obtain ⟨a1, n1, c1, i, rfl, rfl, hi, HI⟩ := hrel
    have hi0 : (0 : Int) ≤ (i : Int) := by omega
    obtain ⟨l1, hR1, hg1, hl1, hgo⟩ := HI.out
    by_cases hlt : i < m
    · have hlt2 : (i : Int) < (m : Int) := by omega
      obtain ⟨g, off, p, rfl, hpi, k0, k1, k2⟩ := HP.out wr i hR1.below (by rw [HM.out]; exact hlt)
      have HPC : Hid (∀ W, Below w.heap.size w W → W.cell? ⟨g, off + i * 3, none⟩ = some (.int .i64 p.src) ∧ W.cell? ⟨g, off + i * 3 + 1, none⟩ = some (.int .i64 p.dst) ∧ W.cell? ⟨g, off + i * 3 + 2, none⟩ = some (.int .i64 p.num)) := Lib.hid (fun W hW => by
        obtain ⟨g2, off2, p2, e, hpi2, j0, j1, j2⟩ := HP.out W i hW (by rw [HM.out]; exact hlt)
        have e2 := hpi2.out
        rw [hpi.out] at e2
        cases e
        cases e2
        exact ⟨j0, j1, j2⟩)
      have HB0 : Hid (Below w.heap.size w wr.drew) := Lib.hid hR1.below.drew
      have hdrop : ps.drop i = p :: ps.drop (i + 1) := by
        obtain ⟨hh, e⟩ := List.getElem?_eq_some_iff.1 hpi.out
        rw [List.drop_eq_getElem_cons hh, e]
      have hn1 : n1 ≤ 1000 := by
        have h1 := (own_form hR1.own).1
        have := HN.out
        omega
      have HMV : Hid (∀ er, moveE l1 p.src p.dst p.num = er → Calls Try.prog 31 #[.slice a1 n1 c1, .int .i64 p.src, .int .i64 p.dst, .int .i64 p.num] wr.drew fun e w' => ∃ a' n' c', e = .returned (.tuple #[.slice a' n' c', .int .i64 er]) ∧ Hid (Res w w' (.slice a n c) (.slice a' n' c') (moveL l1 p.src p.dst p.num))) := Lib.hid (fun er her => by
        rw [← her]
        refine (dmove p.src p.dst p.num wr.drew (World.ownsRow.drew hR1.own) hn1 hg1).mono ?_
        rintro e w' ⟨a', n', c', rfl, h⟩
        refine ⟨a', n', c', rfl, Lib.hid ⟨h.out.own, below_then hR1.below ⟨h.out.below.os, h.out.below.tape, h.out.below.output, h.out.below.size, h.out.below.block⟩, fun q hq => ?_⟩⟩
        rcases h.out.was q hq with h1 | h1
        · exact hR1.was q h1
        · exact .inr (Nat.le_trans hR1.below.size h1))
      rw [hdrop, goM_cons] at hgo
      by_cases he : moveE l1 p.src p.dst p.num = 0
      · rw [if_pos he] at hgo
        have HC := Lib.hid (HMV.out 0 he)
        have HI2 : Hid (Good (moveL l1 p.src p.dst p.num) ∧ (moveL l1 p.src p.dst p.num).length = l.length ∧ goM l ps 0 = goM (moveL l1 p.src p.dst p.num) (ps.drop (i + 1)) (i + 1)) := Lib.hid ⟨good_move hg1 _ _ _, by rw [move_length, hl1], hgo⟩
        clear hR1 hg1 hl1 hgo hdrop hn1 HMV HI he
        go_wp2_with fail
        go_region_held3 (fun X => X.cell? ⟨g, off + i * 3, none⟩ = some (.int .i64 p.src) ∧ X.cell? ⟨g, off + i * 3 + 1, none⟩ = some (.int .i64 p.dst) ∧ X.cell? ⟨g, off + i * 3 + 2, none⟩ = some (.int .i64 p.num)) 
          (first | exact HPC.out _ HB0.out | exact HPC.out _ H3.out.below)
          (first
            | (go_at_call 31; refine HC.out.mono ?_; rintro e w3 ⟨a', n', c', rfl, H3⟩))
        all_goals
          go_wp2_with fail
          go_roundw
          case rel => exact ⟨a', n', c', i + 1, rfl, by go_num, by omega, Lib.hid ⟨_, H3.out, HI2.out.1, HI2.out.2.1, HI2.out.2.2⟩⟩
          case measure => simp [RowKit.intOf]; omega
      · rw [if_neg he] at hgo
        obtain ⟨er, her⟩ : ∃ er, moveE l1 p.src p.dst p.num = er := ⟨_, rfl⟩
        have HC := Lib.hid (HMV.out er her)
        rw [her] at he hgo
        have hne : (er == 0) = false := by simpa using he
        have HE : Hid (movesN l ps = i ∧ movesE l ps = er ∧ movesL l ps = l) := Lib.hid (by
          have e1 : movesE l ps = er := by unfold movesE; rw [hgo]
          refine ⟨by unfold movesN; rw [hgo], e1, ?_⟩
          unfold movesL
          rw [if_neg (by rw [e1]; exact he)])
        clear hR1 hg1 hl1 hgo hdrop hn1 HMV HI he her
        go_wp2_with fail
        go_region_held3 (fun X => X.cell? ⟨g, off + i * 3, none⟩ = some (.int .i64 p.src) ∧ X.cell? ⟨g, off + i * 3 + 1, none⟩ = some (.int .i64 p.dst) ∧ X.cell? ⟨g, off + i * 3 + 2, none⟩ = some (.int .i64 p.num)) 
          (first | exact HPC.out _ HB0.out | exact HPC.out _ H3.out.below)
          (first
            | (go_at_call 31; refine HC.out.mono ?_; rintro e w3 ⟨a', n', c', rfl, H3⟩))
        all_goals
          go_wp2_with fail
          go_ret3
          exact ⟨a, n, c, by rw [HE.out.1, HE.out.2.1]; rfl, Lib.hid (by rw [HE.out.2.2]; exact ⟨own_under HO.out H3.out.below, H3.out.below, fun _ hk => .inl hk⟩)⟩
    · obtain rfl : i = m := by omega
      have hd : ps.drop i = [] := List.drop_eq_nil_of_le (by have := HM.out; omega)
      rw [hd] at hgo
      have HE : Hid (movesN l ps = i ∧ movesE l ps = 0 ∧ movesL l ps = l1) := Lib.hid (by
        have e0 : goM l1 [] i = (l1, i, 0) := rfl
        rw [e0] at hgo
        have e1 : movesE l ps = 0 := by unfold movesE; rw [hgo]
        refine ⟨by unfold movesN; rw [hgo], e1, ?_⟩
        unfold movesL
        rw [if_pos e1, hgo])
      have HR1 := Lib.hid hR1
      clear hR1 hg1 hl1 hgo hd HI
      go_wp2_with fail
      go_ret3
      exact ⟨a1, n1, c1, by rw [HE.out.1, HE.out.2.1]; rfl, Lib.hid (by rw [HE.out.2.2]; exact HR1.out)⟩
end Go.Proofs.Yteglahogimdnfaa.Purse
