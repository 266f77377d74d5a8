/- The document's TakeAll. -/
import Derived.Test.YtkljaaeeocghjaaBinE
namespace Go.Proofs.Ytkljaaeeocghjaa.Bins
open Go.RowKit Go.Lib
open Goods (St Sts)

theorem goT_cons {x : Bn} {l : List Lt} {s : List St} {i : Nat} {t : St} (h : s[i]? = some t) : goT x l (s.drop i) = if takeE l (withB x t.kind) t.qty = 0 then goT x (takeL l (withB x t.kind) t.qty) (s.drop (i + 1)) else (l, takeE l (withB x t.kind) t.qty) := by
  obtain ⟨hi, e⟩ := List.getElem?_eq_some_iff.1 h
  rw [List.drop_eq_getElem_cons hi, e]
  rfl
set_option maxRecDepth 100000 in
set_option maxHeartbeats 8000000 in
theorem dtakes {a : Option Addr} {n c : Nat} {l : List Lt} (x : Bn) (b : Option Addr) (ms cs : Nat) (s : List St) (w : World) (hr : OwnL w 0 (.slice a n c) l) (hn : n ≤ 3000) (hg : Good l) (hb : Sts w b s) (hms : s.length = ms) (hm8 : ms ≤ 900) :
    Calls Try.prog 36 #[.slice a n c, bV x, .slice b ms cs] w fun e w' => ∃ a' m' c', e = .returned (.tuple #[.slice a' m' c', .int .i64 (takesE l x s)]) ∧ Hid (Res w w' (.slice a n c) (.slice a' m' c') (takesL l x s)) := by
  have hln := (own_form hr).1
  obtain ⟨V, X, hV, hX, HP⟩ := box_bin w x
  have HXB : Hid (Below w.heap.size w X) := Lib.hid (by rw [← hX]; exact (Below.refl _ w).alloc (Nat.le_refl _) _)
  obtain ⟨⟨b0, b1, b2, b3⟩, _⟩ := HP.out X (Below.refl _ _)
  have HW : Hid (∀ W k, Below X.heap.size X W → Calls Try.prog 44 #[bV x, .int .i64 k] W fun e w' => e = .returned (bV (withB x k)) ∧ Hid (Below X.heap.size X w' ∧ Below W.heap.size W w')) := Lib.hid (fun W k hW => (dwith x k W).mono fun _ _ ⟨e, h⟩ => ⟨e, Lib.hid ⟨below_then hW h, h⟩⟩)
  have HMY := may_at (withB x 1) X
  have HCK : Hid (∀ W z, Below X.heap.size X W → Goods.chk s 32 = z → Calls Try.prog 53 #[.slice b ms cs, .int .i64 32] W fun e w' => e = .returned (.int .i64 z) ∧ Hid (Below X.heap.size X w')) := Lib.hid (fun W z hW hz => by
    subst hz
    exact (Goods.dcheck b ms cs s 32 W hms (hb.under (below_then HXB.out hW)) (by omega)).mono fun _ _ ⟨e, h⟩ => ⟨e, Lib.hid (below_then hW h)⟩)
  have HSA : Hid (∀ W, Below X.heap.size X W → takesL l x s = l → Res w W (.slice a n c) (.slice a n c) (takesL l x s)) := Lib.hid (fun W hW e => by rw [e]; exact res_same hr (below_then HXB.out hW))
  by_cases hm : MayB (withB x 1)
  case neg =>
    have HM : Hid (∀ W, Below X.heap.size X W → Calls Try.prog 30 #[bV (withB x 1)] W fun e w' => e = .returned (.bool false) ∧ Hid (Below X.heap.size X w')) := Lib.hid (fun W hW => HMY.out W hW false (decide_eq_false hm))
    have he : takesE l x s = 1 := by unfold takesE; rw [if_neg fun h => hm h.1]
    have hp : takesL l x s = l := by unfold takesL; rw [if_neg (by rw [he]; decide)]
    have HRR : Hid (∀ W, Below X.heap.size X W → Res w W (.slice a n c) (.slice a n c) (takesL l x s)) := Lib.hid (fun W hW => HSA.out W hW hp)
    rw [he]
    clear hr hn hg hm he hp hb hms hm8 hln
    go_enter Try.func36, Try.ntmps36
    go_wp2_with fail
    clear hX hV
    refine (HW.out X 1 (Below.refl _ _)).mono ?_
    rintro e w0 ⟨rfl, H0⟩
    go_wp2_with fail
    refine (HM.out w0 H0.out.1).mono ?_
    rintro e w1 ⟨rfl, H1⟩
    go_wp2_with fail
    go_ret2
    exact ⟨_, _, _, rfl, Lib.hid (HRR.out _ H1.out)⟩
  have HM : Hid (∀ W, Below X.heap.size X W → Calls Try.prog 30 #[bV (withB x 1)] W fun e w' => e = .returned (.bool true) ∧ Hid (Below X.heap.size X w')) := Lib.hid (fun W hW => HMY.out W hW true (decide_eq_true hm))
  by_cases hls : Goods.Listed s 32
  case neg =>
    have HC : Hid (∀ W, Below X.heap.size X W → Calls Try.prog 53 #[.slice b ms cs, .int .i64 32] W fun e w' => e = .returned (.int .i64 1) ∧ Hid (Below X.heap.size X w')) := Lib.hid (fun W hW => HCK.out W 1 hW (Goods.chk_no hls))
    have he : takesE l x s = 1 := by unfold takesE; rw [if_neg fun h => hls h.2]
    have hp : takesL l x s = l := by unfold takesL; rw [if_neg (by rw [he]; decide)]
    have HRR : Hid (∀ W, Below X.heap.size X W → Res w W (.slice a n c) (.slice a n c) (takesL l x s)) := Lib.hid (fun W hW => HSA.out W hW hp)
    rw [he]
    clear hr hn hg hm he hp hb hms hm8 hls hln
    go_enter Try.func36, Try.ntmps36
    go_wp2_with fail
    clear hX hV
    refine (HW.out X 1 (Below.refl _ _)).mono ?_
    rintro e w0 ⟨rfl, H0⟩
    go_wp2_with fail
    refine (HM.out w0 H0.out.1).mono ?_
    rintro e w1 ⟨rfl, H1⟩
    go_wp2_with fail
    refine (HC.out w1 H1.out).mono ?_
    rintro e w2 ⟨rfl, H2⟩
    go_wp2_with fail
    go_ret2
    exact ⟨_, _, _, rfl, Lib.hid (HRR.out _ H2.out)⟩
  have HC : Hid (∀ W, Below X.heap.size X W → Calls Try.prog 53 #[.slice b ms cs, .int .i64 32] W fun e w' => e = .returned (.int .i64 0) ∧ Hid (Below X.heap.size X w')) := Lib.hid (fun W hW => HCK.out W 0 hW (Goods.chk_yes hls))
  have HE : Hid (takesE l x s = (goT x l s).2 ∧ ((goT x l s).2 = 0 → takesL l x s = (goT x l s).1) ∧ ((goT x l s).2 ≠ 0 → takesL l x s = l)) := Lib.hid (by
    have h1 : takesE l x s = (goT x l s).2 := by unfold takesE; rw [if_pos ⟨hm, hls⟩]
    refine ⟨h1, fun h => ?_, fun h => ?_⟩
    · unfold takesL
      rw [h1, if_pos h]
    · unfold takesL
      rw [h1, if_neg h])
  have HT := Goods.sts_at hb
  have HL := Lib.hid hms
  have HN : Hid (n ≤ 3000 ∧ l.length = n) := Lib.hid ⟨hn, hln⟩
  have hm1 : (ms : Int) ≤ 900 := by omega
  have HM8 : Hid (ms ≤ 900) := Lib.hid hm8
  have HG := Lib.hid hg
  have H00 : Hid (Res w X (.slice a n c) (.slice a n c) l) := Lib.hid (res_same hr HXB.out)
  clear hr hn hg hm hb hms hm8 hls hln
  go_enter Try.func36, Try.ntmps36
  go_wp2_with fail
  clear hX hV
  refine (HW.out X 1 (Below.refl _ _)).mono ?_
  rintro e w0 ⟨rfl, H0⟩
  go_wp2_with fail
  refine (HM.out w0 H0.out.1).mono ?_
  rintro e w1 ⟨rfl, H1⟩
  go_wp2_with fail
  refine (HC.out w1 H1.out).mono ?_
  rintro e w2 ⟨rfl, H2⟩
  clear b0 b1 b2 b3
  go_wp2_with fail
  go_loopw [8, 9] (fun v t wr => ∃ (i : Nat) (a' : Option Addr) (m' c' : Nat) (li : List Lt), v = .slice a' m' c' ∧ t = .int .i64 i ∧ i ≤ ms ∧ Hid (Res w wr (.slice a n c) (.slice a' m' c') li ∧ Below X.heap.size X wr) ∧ Hid (Good li ∧ li.length ≤ n + i) ∧ Hid (goT x li (s.drop i) = goT x l s)) (fun _ t _ => ms - (RowKit.intOf t).toNat)
  case atStart => exact ⟨0, a, n, c, l, rfl, rfl, by omega, Lib.hid ⟨⟨own_under H00.out.own H2.out, below_then HXB.out H2.out, fun k hk => .inl hk⟩, H2.out⟩, Lib.hid ⟨HG.out, by have := HN.out; omega⟩, Lib.hid (by rw [List.drop_zero])⟩
  case round =>
    obtain ⟨i, a', m', c', li, rfl, rfl, hi, HRS, HGI, HGO⟩ := hrel
    obtain ⟨⟨b0, b1, b2, b3⟩, _⟩ := HP.out wr HRS.out.2
    have hi0 : (0 : Int) ≤ (i : Int) := by omega
    by_cases hlt : i < ms
    · have hlt2 : (i : Int) < (ms : Int) := by omega
      obtain ⟨g, off, t, rfl, ht, k0, k1⟩ := HT.out wr i HRS.out.1.below (by rw [HL.out]; exact hlt)
      have HTC : Hid (∀ W, Below wr.heap.size wr W → (W.cell? ⟨V, 0, none⟩ = some (.int .i64 x.o) ∧ W.cell? ⟨V, 1, none⟩ = some (.int .i64 x.d) ∧ W.cell? ⟨V, 2, none⟩ = some (.int .i64 x.p) ∧ W.cell? ⟨V, 3, none⟩ = some (.int .i64 x.t)) ∧ W.cell? ⟨g, off + i * 2, none⟩ = some (.int .i64 t.kind) ∧ W.cell? ⟨g, off + i * 2 + 1, none⟩ = some (.int .i64 t.qty)) := Lib.hid (fun W hW => by
        obtain ⟨g', off', t', e, ht', h3, h4⟩ := HT.out W i (below_then HRS.out.1.below hW) (by rw [HL.out]; exact hlt)
        cases e
        have e2 := ht'.out
        rw [ht.out] at e2
        cases e2
        exact ⟨(HP.out W (below_then HRS.out.2 hW)).1, h3, h4⟩)
      have hgo := goT_cons (x := x) (l := li) ht.out
      obtain ⟨er, her⟩ : ∃ er, takeE li (withB x t.kind) t.qty = er := ⟨_, rfl⟩
      obtain ⟨lj, hlj⟩ : ∃ lj, takeL li (withB x t.kind) t.qty = lj := ⟨_, rfl⟩
      have HPT : Hid (∀ W, Below wr.heap.size wr W → Calls Try.prog 33 #[.slice a' m' c', bV (withB x t.kind), .int .i64 t.qty] W fun e w' => ∃ a2 m2 c2, e = .returned (.tuple #[.slice a2 m2 c2, .int .i64 er]) ∧ Hid (Res w w' (.slice a n c) (.slice a2 m2 c2) lj ∧ Below X.heap.size X w' ∧ Below wr.heap.size wr w')) := Lib.hid (fun W hW => by
        have hm' := (own_form HRS.out.1.own).1
        have := dtake (withB x t.kind) t.qty W (own_under HRS.out.1.own hW) (by have := HGI.out.2; have := HN.out.1; have := HM8.out; omega) HGI.out.1
        rw [her, hlj] at this
        refine this.mono ?_
        rintro e w' ⟨a2, m2, c2, rfl, h2⟩
        exact ⟨a2, m2, c2, rfl, Lib.hid ⟨HRS.out.1.then (Res.late hW h2.out), below_then HRS.out.2 (below_then hW h2.out.below), below_then hW h2.out.below⟩⟩)
      have HWW : Hid (∀ W, Below wr.heap.size wr W → Calls Try.prog 44 #[bV x, .int .i64 t.kind] W fun e w' => e = .returned (bV (withB x t.kind)) ∧ Hid (Below wr.heap.size wr w')) := Lib.hid (fun W hW => (HW.out W t.kind (below_then HRS.out.2 hW)).mono fun _ _ ⟨e, h⟩ => ⟨e, Lib.hid (below_then hW h.out.2)⟩)
      have HWD : Hid (Below wr.heap.size wr wr.drew) := Lib.hid (Below.refl _ wr).drew
      rw [her, hlj] at hgo
      rw [HGO.out] at hgo
      by_cases h0 : er = 0
      · subst h0
        rw [if_pos rfl] at hgo
        have HGO2 : Hid (goT x lj (s.drop (i + 1)) = goT x l s) := Lib.hid hgo.symm
        have HGJ : Hid (Good lj ∧ lj.length ≤ n + (i + 1)) := Lib.hid (by
          rw [← hlj]
          have := take_length li (withB x t.kind) t.qty
          have := HGI.out.2
          exact ⟨good_take HGI.out.1 _ _, by omega⟩)
        clear hgo her hlj HGO
        go_wp2_with fail
        go_region_held3 (fun W => (W.cell? ⟨V, 0, none⟩ = some (.int .i64 x.o) ∧ W.cell? ⟨V, 1, none⟩ = some (.int .i64 x.d) ∧ W.cell? ⟨V, 2, none⟩ = some (.int .i64 x.p) ∧ W.cell? ⟨V, 3, none⟩ = some (.int .i64 x.t)) ∧ W.cell? ⟨g, off + i * 2, none⟩ = some (.int .i64 t.kind) ∧ W.cell? ⟨g, off + i * 2 + 1, none⟩ = some (.int .i64 t.qty))
          (first | exact HTC.out _ HWD.out | exact HTC.out _ H3.out | exact HTC.out _ H4.out.2.2)
          (first
            | (go_at_call 44; refine (HWW.out _ HWD.out).mono ?_; rintro e w3 ⟨rfl, H3⟩)
            | (go_at_call 33; refine (HPT.out _ H3.out).mono ?_; rintro e w4 ⟨a4, m4, c4, rfl, H4⟩))
        all_goals
          go_wp2_with fail
          go_roundw
          case rel => exact ⟨i + 1, a4, m4, c4, lj, rfl, by go_num, by omega, Lib.hid ⟨H4.out.1, H4.out.2.1⟩, HGJ, HGO2⟩
          case measure => simp [RowKit.intOf]; omega
      · rw [if_neg h0] at hgo
        have HEE : Hid (takesE l x s = er ∧ ∀ W, Below X.heap.size X W → Res w W (.slice a n c) (.slice a n c) (takesL l x s)) := Lib.hid (by
          obtain ⟨h1, _, h3⟩ := HE.out
          rw [hgo] at h1 h3
          exact ⟨h1, fun W hW => HSA.out W hW (h3 h0)⟩)
        have z1 : (er == 0) = false := by simpa using h0
        have z2 : (er != 0) = true := by simpa using h0
        clear hgo her hlj HGO
        go_wp2_with fail
        go_region_held3 (fun W => (W.cell? ⟨V, 0, none⟩ = some (.int .i64 x.o) ∧ W.cell? ⟨V, 1, none⟩ = some (.int .i64 x.d) ∧ W.cell? ⟨V, 2, none⟩ = some (.int .i64 x.p) ∧ W.cell? ⟨V, 3, none⟩ = some (.int .i64 x.t)) ∧ W.cell? ⟨g, off + i * 2, none⟩ = some (.int .i64 t.kind) ∧ W.cell? ⟨g, off + i * 2 + 1, none⟩ = some (.int .i64 t.qty))
          (first | exact HTC.out _ HWD.out | exact HTC.out _ H3.out | exact HTC.out _ H4.out.2.2)
          (first
            | (go_at_call 44; refine (HWW.out _ HWD.out).mono ?_; rintro e w3 ⟨rfl, H3⟩)
            | (go_at_call 33; refine (HPT.out _ H3.out).mono ?_; rintro e w4 ⟨a4, m4, c4, rfl, H4⟩))
        all_goals
          go_wp2_with fail
          go_ret2
          exact ⟨_, _, _, by rw [HEE.out.1]; rfl, Lib.hid (HEE.out.2 _ H4.out.2.1)⟩
    · obtain rfl : i = ms := by omega
      have HEE : Hid (takesE l x s = 0 ∧ Res w wr (.slice a n c) (.slice a' m' c') (takesL l x s)) := Lib.hid (by
        have h4 := HGO.out
        rw [List.drop_of_length_le (by rw [HL.out]; exact Nat.le_refl _)] at h4
        have h5 : goT x l s = (li, 0) := by rw [← h4]; rfl
        obtain ⟨h1, h2, _⟩ := HE.out
        rw [h5] at h1 h2
        exact ⟨h1, by rw [h2 rfl]; exact HRS.out.1⟩)
      clear HGO HGI
      go_wp2_with fail
      go_ret2
      exact ⟨_, _, _, by rw [HEE.out.1]; rfl, Lib.hid HEE.out.2⟩
end Go.Proofs.Ytkljaaeeocghjaa.Bins
