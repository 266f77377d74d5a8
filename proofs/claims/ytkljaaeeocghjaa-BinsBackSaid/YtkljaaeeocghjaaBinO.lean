/- BinsBack, for any bins that keep their contracts. -/
import Derived.Test.YtkljaaeeocghjaaBinM
import Derived.StillTailTactics
namespace Go.Proofs.Ytkljaaeeocghjaa.Bins
open Go.RowKit Go.Lib
open Goods (St Sts OwnS)

variable {I : Impl}
theorem amt_drop {x y : Bn} {s : List St} {i : Nat} {t : St} (h : s[i]? = some t) : amt x y (s.drop i) = (if y = withB x t.kind then t.qty else 0) + amt x y (s.drop (i + 1)) := by
  obtain ⟨hi, e⟩ := List.getElem?_eq_some_iff.1 h
  rw [List.drop_eq_getElem_cons hi, e]
  rfl
theorem listed_in {s : List St} (h : Goods.Listed s 32) : ∀ t ∈ s, (1 ≤ t.kind ∧ t.kind ≤ 32) ∧ 0 ≤ t.qty := fun t ht => by
  obtain ⟨_, h1, _, h2⟩ := h
  obtain ⟨hf, _⟩ := Goods.errN_zero h1
  exact ⟨⟨(hf t ht).1, h2 t ht⟩, (hf t ht).2⟩
/-- On the way back: so many are still there. -/
def Left (L : List Lt) (x : Bn) (s : List St) (li : List Lt) (i : Nat) : Prop := Good li ∧ li.length ≤ L.length + s.length + i ∧ ∀ y, qty li y = qty L y + amt x y (s.drop i)
theorem left_start {L : List Lt} {x : Bn} {s : List St} (h : Good L) (he : putsE L x s = 0) : Left L x s (putsL L x s) 0 := by
  obtain ⟨_, _, h3, h4⟩ := puts_ok he
  have h5 := good_puts h x s
  refine ⟨h5.1, by omega, fun y => ?_⟩
  rw [List.drop_zero, h4, qty_goP x s h h3]
theorem left_take {L : List Lt} {x : Bn} {s : List St} {li : List Lt} {i : Nat} {t : St} (hL : Good L) (he : putsE L x s = 0) (h : Left L x s li i) (ht : s[i]? = some t) : takeE li (withB x t.kind) t.qty = 0 ∧ Left L x s (takeL li (withB x t.kind) t.qty) (i + 1) := by
  obtain ⟨h1, h2, _, _⟩ := puts_ok he
  obtain ⟨hg, hlen, hq⟩ := h
  obtain ⟨⟨t1, t2⟩, t3⟩ := listed_in h2 t (List.mem_of_getElem? ht)
  have hm : MayB (withB x t.kind) := by
    unfold MayB withB at *
    simp only at *
    omega
  have h5 := hq (withB x t.kind)
  rw [amt_drop ht, if_pos rfl] at h5
  have h6 := amt_nonneg (x := x) (y := withB x t.kind) (s := s.drop (i + 1)) fun a ha => (listed_in h2 a (List.mem_of_mem_drop ha)).2
  have h7 := (hL.qty (withB x t.kind)).1
  have h8 : takeE li (withB x t.kind) t.qty = 0 := by unfold takeE; rw [if_pos ⟨hm, t3⟩, if_neg (by omega)]
  refine ⟨h8, good_take hg _ _, by have := take_length li (withB x t.kind) t.qty; omega, fun y => ?_⟩
  rw [qty_take hg h8, hq y, amt_drop ht]
  split <;> omega
theorem left_end {L : List Lt} {x : Bn} {s : List St} {li : List Lt} (hL : Good L) (h : Left L x s li s.length) : li = L := by
  obtain ⟨hg, _, hq⟩ := h
  refine good_ext hg.rise hL.rise hg.pos hL.pos fun y => ?_
  rw [hq y, List.drop_length]
  simp [amt]
set_option maxRecDepth 100000 in
set_option maxHeartbeats 16000000 in
theorem binsBack_in (I : Impl) (a : Option Addr) (n c : Nat) (l : List Lt) (x : Bn) (b : Option Addr) (m d : Nat) (s : List St) (w : World) (hl : l.length = n) (hs : Lots w a l) (hi : InL l) (hb : InB x) (hm : s.length = m) (hx : Sts w b s) (hix : InS s) :
    Calls Try.prog 5 #[.slice a n c, bV x, .slice b m d] w fun e w' => e = .returned (.bool true) ∧ Below w.heap.size w w' := by
  obtain ⟨V, X, hV, hX, HP⟩ := box_bin w x
  have HXB : Hid (Below w.heap.size w X) := Lib.hid (by rw [← hX]; exact (Below.refl _ w).alloc (Nat.le_refl _) _)
  have HAW0 := awake_at I w
  have HAW : Hid (∀ W, Below X.heap.size X W → Calls Try.prog 8 #[] W fun e w' => e = .returned (.bool true) ∧ Hid (Below w.heap.size w w')) := Lib.hid (fun W hW => HAW0.out W (below_then HXB.out hW))
  clear HAW0
  by_cases h12 : (12 : Int) < (n : Int)
  · have H0 := Lib.hid (HAW.out X (Below.refl _ _))
    have d1 : decide ((12 : Int) < (n : Int)) = true := decide_eq_true h12
    clear hl hs hi hm hx hix HAW hb
    go_enter Try.func5, Try.ntmps5
    go_wp2_with fail
    clear hX hV
    refine H0.out.mono ?_
    rintro e w1 ⟨rfl, B1⟩
    go_wp2_with fail
    go_ret
    exact ⟨rfl, B1.out⟩
  have d1 : decide ((12 : Int) < (n : Int)) = false := decide_eq_false h12
  by_cases h13 : (12 : Int) < (m : Int)
  · have H0 := Lib.hid (HAW.out X (Below.refl _ _))
    have d2 : decide ((12 : Int) < (m : Int)) = true := decide_eq_true h13
    clear hl hs hi hm hx hix HAW hb
    go_enter Try.func5, Try.ntmps5
    go_wp2_with fail
    clear hX hV
    refine H0.out.mono ?_
    rintro e w1 ⟨rfl, B1⟩
    go_wp2_with fail
    go_ret
    exact ⟨rfl, B1.out⟩
  have d2 : decide ((12 : Int) < (m : Int)) = false := decide_eq_false h13
  obtain ⟨hyes, hno⟩ := pl_load I a n c l X (hs.under HXB.out) hl (by omega) hi
  have hn : n ≤ 12 := by omega
  have hm12 : m ≤ 12 := by omega
  by_cases h0 : loadE l = 0
  · have HLD := Lib.hid (hyes h0)
    obtain ⟨hg0, hl0⟩ := good_load h0
    obtain ⟨L, hL⟩ : ∃ L, loadL l = L := ⟨_, rfl⟩
    rw [hL] at HLD hg0 hl0
    have HG0 : Hid (Good L ∧ L.length ≤ 12) := Lib.hid ⟨hg0, by omega⟩
    have HLI : Hid (∀ W Q lx rows, PS I X W Q lx rows [] [] → Good lx → lx.length ≤ 1000 → Calls Try.prog 14 #[ptr Q] W fun e w' => ∃ a n c, e = .returned (.slice a n c) ∧ Hid (PS I X w' Q lx ((.slice a n c, lx) :: rows) [] [])) := Lib.hid (fun W Q lx rows h hg hl => (bs_list h hg hl).mono fun _ _ ⟨a, n, c, e, h2⟩ => ⟨a, n, c, e, Lib.hid h2.out.1⟩)
    have HSA : Hid (∀ W Q lx a n c b m d, PS I X W Q lx [(.slice a n c, L), (.slice b m d, L)] [] [] → Calls Try.prog 13 #[.slice a n c, .slice b m d] W fun e w' => e = .returned (.bool true) ∧ Hid (Below X.heap.size X w')) := Lib.hid (fun W Q lx a n c b m d h => (pl_same h (by simp) (by have := HG0.out.2; omega)).mono fun _ _ ⟨e, h2⟩ => ⟨e, Lib.hid h2.out.below⟩)
    obtain ⟨er, her⟩ : ∃ er, putsE L x s = er := ⟨_, rfl⟩
    have HPU : Hid (∀ W Q rows, PS I X W Q L rows [] [] → Calls Try.prog 23 #[ptr Q, bV x, .slice b m d] W fun e w' => e = .returned (.int .i64 er) ∧ Hid (PS I X w' Q (putsL L x s) rows [] [])) := Lib.hid (fun W Q rows h => by
      rw [← her]
      exact bs_puts x b m d s h HG0.out.1 (by have := HG0.out.2; omega) hb (hx.under HXB.out) hm (by omega) hix)
    by_cases he : er = 0
    · subst he
      have HST := Lib.hid (left_start hg0 her)
      have HT := Goods.sts_at (hx.under HXB.out)
      have HM := Lib.hid hm
      have HBI := Lib.hid hb
      have HIX := Lib.hid hix
      have HLT : Hid (∀ li i t, Left L x s li i → s[i]? = some t → takeE li (withB x t.kind) t.qty = 0 ∧ Left L x s (takeL li (withB x t.kind) t.qty) (i + 1)) := Lib.hid (fun li i t h ht => left_take hg0 her h ht)
      have hm1 : (m : Int) ≤ 12 := by omega
      have HM12 : Hid (m ≤ 12) := Lib.hid hm12
      have HPB : Hid (∀ W l rows Q, PS I X W Q l rows [] [] → W.cell? ⟨V, 0, none⟩ = some (.int .i64 x.o) ∧ W.cell? ⟨V, 1, none⟩ = some (.int .i64 x.d) ∧ W.cell? ⟨V, 2, none⟩ = some (.int .i64 x.p) ∧ W.cell? ⟨V, 3, none⟩ = some (.int .i64 x.t)) := Lib.hid (fun W l rows Q h => (HP.out W h.below).1)
      clear hl hs hi hm hx hix hyes hno h0 hg0 hl0 h12 h13 hL hn hm12 hb her
      go_enter Try.func5, Try.ntmps5
      go_wp2_with fail
      clear hX hV
      refine HLD.out.mono ?_
      rintro e w1 ⟨Q, rfl, P1⟩
      go_wp2_with fail
      refine (HLI.out w1 Q L [] P1.out HG0.out.1 (by have := HG0.out.2; omega)).mono ?_
      rintro e w2 ⟨a2, n2, c2, rfl, P2⟩
      obtain ⟨b0, b1, b2, b3⟩ := HPB.out _ _ _ _ P2.out
      go_wp2_with fail
      refine (HPU.out w2 Q _ P2.out).mono ?_
      rintro e w3 ⟨rfl, P3⟩
      clear P1 P2 HPU HLD b0 b1 b2 b3
      go_wp2_with fail
      go_loopw [10] (fun t wr => ∃ i : Nat, t = .int .i64 i ∧ i ≤ m ∧ Hid (∃ li, PS I X wr Q li [(.slice a2 n2 c2, L)] [] [] ∧ Left L x s li i)) (fun t _ => m - (RowKit.intOf t).toNat)
      case atStart => exact ⟨0, rfl, by omega, Lib.hid ⟨_, P3.out, HST.out⟩⟩
      case round =>
        clear P3 HST
        obtain ⟨i, rfl, hi, HI⟩ := hrel
        have hi0 : (0 : Int) ≤ (i : Int) := by omega
        obtain ⟨li, hP, hLF⟩ := HI.out
        clear HI
        by_cases hlt : i < m
        · have hlt2 : (i : Int) < (m : Int) := by omega
          have dlt : decide ((i : Int) < (m : Int)) = true := decide_eq_true hlt2
          obtain ⟨g, off, t, rfl, ht, k0, k1⟩ := HT.out wr i hP.below (by rw [HM.out]; exact hlt)
          obtain ⟨hte, hLF2⟩ := HLT.out li i t hLF ht.out
          obtain ⟨it1, it2⟩ := HIX.out t (List.mem_of_getElem? ht.out)
          have HLF := Lib.hid hLF2
          obtain ⟨b0, b1, b2, b3⟩ := HPB.out _ _ _ _ hP
          have HTK : Hid (Calls Try.prog 24 #[ptr Q, bV (withB x t.kind), .int .i64 t.qty] wr.drew fun e w' => e = .returned (.int .i64 0) ∧ Hid (PS I X w' Q (takeL li (withB x t.kind) t.qty) [(.slice a2 n2 c2, L)] [] [])) := Lib.hid (by
            have := bs_take (withB x t.kind) t.qty (hP.under (Below.refl _ wr).drew) hLF.1 (by have := hLF.2.1; have := HG0.out.2; have := HM12.out; have := HM.out; omega) ⟨HBI.out.1, HBI.out.2.1, HBI.out.2.2.1, it1⟩ it2
            rw [hte] at this
            exact this)
          clear hP hLF hLF2 hte it1 it2
          go_wp2_with fail
          go_still_tail 18, (by kernel_rfl)
          change wpList _ _ _ _ _ wr.drew
          go_wp2_with (go_at_call 24; refine HTK.out.mono ?_; rintro e w4 ⟨rfl, P4⟩)
          go_roundw
          case rel => exact ⟨i + 1, by go_num, by omega, Lib.hid ⟨_, P4.out, HLF.out⟩⟩
          case measure => simp [RowKit.intOf]; omega
        · obtain rfl : i = m := by omega
          have hli : li = L := left_end HG0.out.1 (by rw [HM.out]; exact hLF)
          subst hli
          have HPX := Lib.hid hP
          clear hP hLF
          go_wp2_with fail
          refine (HLI.out wr Q _ _ HPX.out HG0.out.1 (by have := HG0.out.2; omega)).mono ?_
          rintro e w5 ⟨a5, n5, c5, rfl, P5⟩
          go_wp2_with fail
          refine (HSA.out _ _ _ _ _ _ _ _ _ P5.out).mono ?_
          rintro e w6 ⟨rfl, P6⟩
          go_wp2_with fail
          refine (HAW.out _ P6.out).mono ?_
          rintro e w8 ⟨rfl, B8⟩
          go_wp2_with fail
          go_ret
          exact ⟨rfl, B8.out⟩
    · have hne : (er == 0) = false := by simpa using he
      have hnb : (er != 0) = true := by simpa using he
      have hnz : ¬ er = 0 := he
      have hsame : putsL L x s = L := by unfold putsL; rw [her, if_neg he]
      rw [hsame] at HPU
      have HPB : Hid (∀ W l rows Q, PS I X W Q l rows [] [] → W.cell? ⟨V, 0, none⟩ = some (.int .i64 x.o) ∧ W.cell? ⟨V, 1, none⟩ = some (.int .i64 x.d) ∧ W.cell? ⟨V, 2, none⟩ = some (.int .i64 x.p) ∧ W.cell? ⟨V, 3, none⟩ = some (.int .i64 x.t)) := Lib.hid (fun W l rows Q h => (HP.out W h.below).1)
      clear hl hs hi hm hx hix hyes hno h0 hg0 hl0 h12 h13 hL hn hm12 hb her he hsame
      go_enter Try.func5, Try.ntmps5
      go_wp2_with fail
      clear hX hV
      refine HLD.out.mono ?_
      rintro e w1 ⟨Q, rfl, P1⟩
      go_wp2_with fail
      refine (HLI.out w1 Q L [] P1.out HG0.out.1 (by have := HG0.out.2; omega)).mono ?_
      rintro e w2 ⟨a2, n2, c2, rfl, P2⟩
      obtain ⟨b0, b1, b2, b3⟩ := HPB.out _ _ _ _ P2.out
      go_wp2_with fail
      refine (HPU.out w2 Q _ P2.out).mono ?_
      rintro e w3 ⟨rfl, P3⟩
      clear b0 b1 b2 b3
      go_wp2_with fail
      refine (HLI.out w3 Q L _ P3.out HG0.out.1 (by have := HG0.out.2; omega)).mono ?_
      rintro e w5 ⟨a5, n5, c5, rfl, P5⟩
      go_wp2_with fail
      refine (HSA.out _ _ _ _ _ _ _ _ _ P5.out).mono ?_
      rintro e w6 ⟨rfl, P6⟩
      go_wp2_with fail
      refine (HAW.out _ P6.out).mono ?_
      rintro e w8 ⟨rfl, B8⟩
      go_wp2_with fail
      go_ret
      exact ⟨rfl, B8.out⟩
  · have HLD := Lib.hid (hno h0)
    obtain ⟨er, her⟩ : ∃ er, loadE l = er := ⟨_, rfl⟩
    rw [her] at HLD h0
    have hne : (er == 0) = false := by simpa using h0
    have hnb : (er != 0) = true := by simpa using h0
    have hnz : ¬ er = 0 := h0
    clear hl hs hi hm hx hix hyes hno h0 h12 h13 her hn hm12 hb
    go_enter Try.func5, Try.ntmps5
    go_wp2_with fail
    clear hX hV
    refine HLD.out.mono ?_
    rintro e w1 ⟨rfl, B1⟩
    go_wp2_with fail
    refine (HAW.out w1 B1.out).mono ?_
    rintro e w5 ⟨rfl, B5⟩
    go_wp2_with fail
    go_ret
    exact ⟨rfl, B5.out⟩
end Go.Proofs.Ytkljaaeeocghjaa.Bins
