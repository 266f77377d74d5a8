/- The document's Load. -/
import Derived.Test.YtkljaaeeocghjaaBinG
namespace Go.Proofs.Ytkljaaeeocghjaa.Bins
open Go.RowKit Go.Lib

theorem ld_cons {out l : List Lt} {i : Nat} {t : Lt} (h : l[i]? = some t) : ld out (l.drop i) = if LotOk out t then ld (setL out t.b t.q) (l.drop (i + 1)) else none := by
  obtain ⟨hi, e⟩ := List.getElem?_eq_some_iff.1 h
  rw [List.drop_eq_getElem_cons hi, e]
  rfl
/-- Lots as Load has them so far. -/
def Sofar (out : List Lt) : Prop := Rise out ∧ (∀ a ∈ out, MayB a.b) ∧ ∀ a ∈ out, 1 ≤ a.q ∧ a.q ≤ mq
theorem sofar_set {out : List Lt} {t : Lt} (h : Sofar out) (ht : LotOk out t) : Sofar (setL out t.b t.q) := by
  refine ⟨rise_set h.1 _ _, fun c hc => ?_, fun c hc => ?_⟩
  · rcases mem_set.1 hc with h4 | h4
    · exact h.2.1 c h4.1
    · rw [h4.2]; exact ht.1
  · rcases mem_set.1 hc with h4 | h4
    · exact h.2.2 c h4.1
    · rw [h4.2]; exact ht.2.1
theorem load_none {l : List Lt} (h : ld [] l = none) : loadE l = 1 ∧ loadL l = [] := by
  have e : loadE l = 1 := by unfold loadE; rw [h]
  exact ⟨e, loadL_no (by rw [e]; decide)⟩
theorem load_over {l out : List Lt} (h : ld [] l = some out) (ho : Over out) : loadE l = 5 ∧ loadL l = [] := by
  have e : loadE l = 5 := by unfold loadE; rw [h]; exact if_pos ho
  exact ⟨e, loadL_no (by rw [e]; decide)⟩
theorem load_fine {l out : List Lt} (h : ld [] l = some out) (ho : ¬ Over out) : loadE l = 0 ∧ loadL l = out := by
  have e : loadE l = 0 := by unfold loadE; rw [h]; exact if_neg ho
  refine ⟨e, ?_⟩
  unfold loadL
  rw [if_pos e, h]
  rfl
theorem tot_none {l : List Lt} {k : Int} (h : ∀ a ∈ l, a.b.t ≠ k) : tot l k = 0 := by
  induction l with
  | nil => rfl
  | cons a l ih =>
    rw [tot, if_neg (h a (by simp)), ih fun b hb => h b (by simp [hb])]
    rfl
set_option maxRecDepth 100000 in
set_option maxHeartbeats 16000000 in
theorem dload (a : Option Addr) (n c : Nat) (l : List Lt) (w : World) (hs : Lots w a l) (hl : l.length = n) (hn : n ≤ 1000) :
    Calls Try.prog 10 #[.slice a n c] w fun e w' => ∃ a' m' c', e = .returned (.tuple #[.slice a' m' c', .int .i64 (loadE l)]) ∧ Hid (OwnL w' w.heap.size (.slice a' m' c') (loadL l) ∧ Below w.heap.size w w') := by
  have HT := lots_at hs
  have HL := Lib.hid hl
  have HN : Hid (n ≤ 1000) := Lib.hid hn
  have hn1 : (n : Int) ≤ 1000 := by omega
  have H0 : Hid (OwnL w w.heap.size (.slice none 0 0) []) := Lib.hid (World.ownsRow_nil w w.heap.size 66 5)
  have HNIL : Hid (∀ W, Below w.heap.size w W → loadL l = [] → OwnL W w.heap.size (.slice none 0 0) (loadL l) ∧ Below w.heap.size w W) := Lib.hid (fun W hW e => by rw [e]; exact ⟨World.ownsRow_nil _ _ _ _, hW⟩)
  clear hl hs hn
  go_enter Try.func10, Try.ntmps10
  go_wp2_with fail
  go_loopw [4, 5] (fun v t wr => ∃ (i : Nat) (b : Option Addr) (m k : Nat) (out : List Lt), v = .slice b m k ∧ t = .int .i64 i ∧ i ≤ n ∧ Hid (OwnL wr w.heap.size (.slice b m k) out ∧ Below w.heap.size w wr) ∧ Hid (Sofar out ∧ out.length ≤ i) ∧ Hid (ld out (l.drop i) = ld [] l)) (fun _ t _ => n - (RowKit.intOf t).toNat)
  case atStart => exact ⟨0, none, 0, 0, [], rfl, rfl, by omega, Lib.hid ⟨H0.out, Below.refl _ _⟩, Lib.hid ⟨⟨.nil, fun _ h => (by cases h), fun _ h => (by cases h)⟩, Nat.le_refl _⟩, Lib.hid (by rw [List.drop_zero])⟩
  case round =>
    clear H0
    obtain ⟨i, b, m, k, out, rfl, rfl, hi, HO, HSF, HLD⟩ := hrel
    have hi0 : (0 : Int) ≤ (i : Int) := by omega
    have HM : Hid (out.length = m) := Lib.hid (own_form HO.out.1).1
    by_cases hlt : i < n
    · have hlt2 : (i : Int) < (n : Int) := by omega
      obtain ⟨g, off, t, rfl, ht, k0, k1, k2, k3, k4⟩ := HT.out wr i HO.out.2 (by rw [HL.out]; exact hlt)
      have HTC : Hid (∀ W, Below wr.heap.size wr W → CellsL W g (off + i * 5) t) := Lib.hid (fun W hW => by
        obtain ⟨g', off', t', e, ht', h3⟩ := HT.out W i (below_then HO.out.2 hW) (by rw [HL.out]; exact hlt)
        cases e
        have e2 := ht'.out
        rw [ht.out] at e2
        cases e2
        exact h3)
      have hcons := ld_cons (out := out) ht.out
      rw [HLD.out] at hcons
      have HMY := may_at t.b wr
      by_cases hm : MayB t.b
      case neg =>
        have HM2 := Lib.hid (HMY.out wr (Below.refl _ _) false (decide_eq_false hm))
        rw [if_neg fun h => hm h.1] at hcons
        have HE := Lib.hid (load_none hcons)
        clear hcons hm
        go_wp2_with fail
        refine HM2.out.mono ?_
        rintro e w1 ⟨rfl, H1⟩
        go_wp2_with fail
        go_ret2
        exact ⟨_, _, _, by rw [HE.out.1]; rfl, Lib.hid (HNIL.out _ (below_then HO.out.2 H1.out) HE.out.2)⟩
      have HM2 := Lib.hid (HMY.out wr (Below.refl _ _) true (decide_eq_true hm))
      by_cases hq1 : t.q < 1
      · rw [if_neg fun h => by have := h.2.1.1; omega] at hcons
        have HE := Lib.hid (load_none hcons)
        have d1 : decide (t.q < 1) = true := decide_eq_true hq1
        clear hcons hm hq1
        go_wp2_with fail
        refine HM2.out.mono ?_
        rintro e w1 ⟨rfl, H1⟩
        obtain ⟨j0, j1, j2, j3, j4⟩ := HTC.out w1 H1.out
        clear k0 k1 k2 k3 k4
        go_wp2_with fail
        go_ret2
        exact ⟨_, _, _, by rw [HE.out.1]; rfl, Lib.hid (HNIL.out _ (below_then HO.out.2 H1.out) HE.out.2)⟩
      have d1 : decide (t.q < 1) = false := decide_eq_false hq1
      by_cases hq2 : mq < t.q
      · rw [if_neg fun h => by have := h.2.1.2; omega] at hcons
        have HE := Lib.hid (load_none hcons)
        have d2 : decide (1125899906842624 < t.q) = true := decide_eq_true hq2
        clear hcons hm hq1 hq2
        go_wp2_with fail
        refine HM2.out.mono ?_
        rintro e w1 ⟨rfl, H1⟩
        obtain ⟨j0, j1, j2, j3, j4⟩ := HTC.out w1 H1.out
        clear k0 k1 k2 k3 k4
        go_wp2_with fail
        go_ret2
        exact ⟨_, _, _, by rw [HE.out.1]; rfl, Lib.hid (HNIL.out _ (below_then HO.out.2 H1.out) HE.out.2)⟩
      have d2 : decide (1125899906842624 < t.q) = false := decide_eq_false hq2
      obtain ⟨z, hz⟩ : ∃ z, qty out t.b = z := ⟨_, rfl⟩
      have HQ : Hid (∀ W, Below wr.heap.size wr W → Calls Try.prog 16 #[.slice b m k, bV t.b] W fun e w' => e = .returned (.int .i64 z) ∧ Hid (Below wr.heap.size wr w')) := Lib.hid (fun W hW => by
        rw [← hz]
        have hlo := (own_form (own_under HO.out.1 hW)).2.2.2.2
        exact (dqty t.b W hlo HM.out (by have := HM.out; have := HSF.out.2; have := HN.out; omega)).mono fun _ _ ⟨e, h⟩ => ⟨e, Lib.hid (below_then hW h)⟩)
      by_cases hz0 : 0 < z
      · rw [if_neg fun h => by have := h.2.2; omega] at hcons
        have HE := Lib.hid (load_none hcons)
        have d3 : decide (0 < z) = true := decide_eq_true hz0
        clear hcons hm hq1 hq2 hz hz0
        go_wp2_with fail
        refine HM2.out.mono ?_
        rintro e w1 ⟨rfl, H1⟩
        obtain ⟨j0, j1, j2, j3, j4⟩ := HTC.out w1 H1.out
        clear k0 k1 k2 k3 k4
        go_wp2_with fail
        refine (HQ.out w1 H1.out).mono ?_
        rintro e w2 ⟨rfl, H2⟩
        go_wp2_with fail
        go_ret2
        exact ⟨_, _, _, by rw [HE.out.1]; rfl, Lib.hid (HNIL.out _ (below_then HO.out.2 H2.out) HE.out.2)⟩
      · have hok : LotOk out t := ⟨hm, ⟨by omega, by omega⟩, by rw [hz]; exact hz0⟩
        rw [if_pos hok] at hcons
        have HLD2 : Hid (ld (setL out t.b t.q) (l.drop (i + 1)) = ld [] l) := Lib.hid hcons.symm
        have hsl := set_length out t.b t.q
        have HSF2 : Hid (Sofar (setL out t.b t.q) ∧ (setL out t.b t.q).length ≤ i + 1) := Lib.hid ⟨sofar_set HSF.out.1 hok, by have := HSF.out.2; omega⟩
        have d3 : decide (0 < z) = false := decide_eq_false hz0
        have HS : Hid (∀ W, Below wr.heap.size wr W → Calls Try.prog 31 #[.slice b m k, bV t.b, .int .i64 t.q] W fun e w' => ∃ a' m' c', e = .returned (.slice a' m' c') ∧ Hid (OwnL w' w.heap.size (.slice a' m' c') (setL out t.b t.q) ∧ Below w.heap.size w w')) := Lib.hid (fun W hW => by
          refine (dset t.b t.q W (World.ownsRow.mono (own_under HO.out.1 hW) (Nat.zero_le _)) (by have := HM.out; have := HSF.out.2; have := HN.out; omega) HSF.out.1.1).mono ?_
          rintro e w' ⟨a', m', c', rfl, h⟩
          have hb := below_then HO.out.2 hW
          exact ⟨a', m', c', rfl, Lib.hid ⟨World.ownsRow.mono h.out.1 hb.size, below_then hb h.out.2⟩⟩)
        clear hcons hm hq1 hq2 hz hz0 hok hsl HLD HSF
        go_wp2_with fail
        refine HM2.out.mono ?_
        rintro e w1 ⟨rfl, H1⟩
        obtain ⟨j0, j1, j2, j3, j4⟩ := HTC.out w1 H1.out
        clear k0 k1 k2 k3 k4
        go_wp2_with fail
        refine (HQ.out w1 H1.out).mono ?_
        rintro e w2 ⟨rfl, H2⟩
        obtain ⟨k0, k1, k2, k3, k4⟩ := HTC.out w2 H2.out
        clear j0 j1 j2 j3 j4
        go_wp2_with fail
        go_still_tail 11, (by kernel_rfl)
        change wpList _ _ _ _ _ w2.drew
        go_wp2_with (go_at_call 31; refine (HS.out _ H2.out.drew).mono ?_; rintro e w3 ⟨a3, m3, c3, rfl, H3⟩)
        go_roundw
        case rel => exact ⟨i + 1, a3, m3, c3, _, rfl, by go_num, by omega, H3, HSF2, HLD2⟩
        case measure => simp [RowKit.intOf]; omega
    · obtain rfl : i = n := by omega
      have hld : ld [] l = some out := by
        have h4 := HLD.out
        rw [List.drop_of_length_le (by rw [HL.out]; exact Nat.le_refl _)] at h4
        rw [← h4]
        rfl
      have HLD2 := Lib.hid hld
      have HTO := lots_at (own_form HO.out.1).2.2.2.2
      have HM5 : Hid (m ≤ 1000) := Lib.hid (by have := HM.out; have := HSF.out.2; have := HN.out; omega)
      have hm5 : (m : Int) ≤ 1000 := by have := HM5.out; omega
      have HPOS : Hid (∀ a ∈ out, 0 ≤ a.q) := Lib.hid (fun a ha => by have := (HSF.out.1.2.2 a ha).1; omega)
      clear hld HLD hi0
      go_wp2_with fail
      go_loopw [6] (fun t wx => ∃ j : Nat, t = .int .i64 ((j : Int) + 1) ∧ j ≤ 32 ∧ wr = wx ∧ Hid (∀ y : Nat, y < j → tot out ((y : Int) + 1) ≤ mq)) (fun t _ => 33 - (RowKit.intOf t).toNat)
      case atStart => exact ⟨0, rfl, by omega, rfl, Lib.hid (fun y hy => by omega)⟩
      case round =>
        obtain ⟨j, rfl, hj, rfl, HJ⟩ := hrel
        by_cases hj32 : j < 32
        · have dj : decide ((j : Int) + 1 ≤ 32) = true := decide_eq_true (by omega)
          have wj : IntKind.i64.wrap ((j : Int) + 1 + 1) = (j : Int) + 1 + 1 := IntWalk.i64_in _ (by omega)
          go_wp2_with fail
          go_loopw [7, 8] (fun s t wx => ∃ (z : Int) (u : Nat), s = .int .i64 z ∧ t = .int .i64 u ∧ u ≤ m ∧ wr = wx ∧ 0 ≤ z ∧ z ≤ 1125899906842624 ∧ Hid (tot (out.take u) ((j : Int) + 1) = z)) (fun _ t _ => m - (RowKit.intOf t).toNat)
          case atStart => exact ⟨0, 0, rfl, rfl, by omega, rfl, by omega, by omega, Lib.hid rfl⟩
          case round =>
            obtain ⟨z, u, rfl, rfl, hu, rfl, z0, z1, HZ⟩ := hrel
            have hu0 : (0 : Int) ≤ (u : Int) := by omega
            by_cases hult : u < m
            · have hult2 : (u : Int) < (m : Int) := by omega
              obtain ⟨g, off, t, rfl, ht, k0, k1, k2, k3, k4⟩ := HTO.out wr u (Below.refl _ _) (by rw [HM.out]; exact hult)
              have hts := tot_take_succ ht.out ((j : Int) + 1)
              have htq := HSF.out.1.2.2 t (List.mem_of_getElem? ht.out)
              rw [HZ.out] at hts
              by_cases c1 : t.b.t = (j : Int) + 1
              · rw [if_pos c1] at hts
                have e1 : (t.b.t == (j : Int) + 1) = true := by simpa using c1
                by_cases c2 : 1125899906842624 - z < t.q
                · have HE := Lib.hid (load_over HLD2.out ⟨(j : Int) + 1, by
                    have h1 := (tot_take_le HPOS.out (u + 1) ((j : Int) + 1)).2
                    rw [hts] at h1
                    unfold mq
                    omega⟩)
                  have e2 : decide (1125899906842624 - z < t.q) = true := decide_eq_true c2
                  clear c1 c2 hts htq
                  go_wp2_with fail
                  go_ret2
                  exact ⟨_, _, _, by rw [HE.out.1]; rfl, Lib.hid (HNIL.out _ HO.out.2 HE.out.2)⟩
                · have e2 : decide (1125899906842624 - z < t.q) = false := decide_eq_false c2
                  have HZ2 : Hid (tot (out.take (u + 1)) ((j : Int) + 1) = z + t.q) := Lib.hid hts
                  have q0 : 0 ≤ z + t.q := by omega
                  have q1 : z + t.q ≤ 1125899906842624 := by omega
                  have wz : IntKind.i64.wrap (z + t.q) = z + t.q := IntWalk.i64_in _ (by omega)
                  clear c1 c2 hts htq
                  go_wp2_with fail
                  go_roundw
                  case rel => exact ⟨z + t.q, u + 1, by go_num, by go_num, by omega, by first | rfl | trivial, q0, q1, HZ2⟩
                  case measure => simp [RowKit.intOf]; omega
              · rw [if_neg c1, Int.add_zero] at hts
                have e1 : (t.b.t == (j : Int) + 1) = false := by simpa using c1
                have HZ2 : Hid (tot (out.take (u + 1)) ((j : Int) + 1) = z) := Lib.hid hts
                clear c1 hts htq
                go_wp2_with fail
                go_roundw
                case rel => exact ⟨z, u + 1, rfl, by go_num, by omega, by first | rfl | trivial, z0, z1, HZ2⟩
                case measure => simp [RowKit.intOf]; omega
            · obtain rfl : u = m := by omega
              have HJ2 : Hid (∀ y : Nat, y < j + 1 → tot out ((y : Int) + 1) ≤ mq) := Lib.hid (fun y hy => by
                rcases Nat.lt_or_ge y j with h1 | h1
                · exact HJ.out y h1
                · obtain rfl : y = j := by omega
                  have h2 := HZ.out
                  rw [List.take_of_length_le (by rw [HM.out]; exact Nat.le_refl _)] at h2
                  rw [h2]
                  unfold mq
                  exact z1)
              go_wp2_with fail
              go_roundw
              case rel => exact ⟨j + 1, by go_num, by omega, by first | rfl | trivial, HJ2⟩
              case measure => simp [RowKit.intOf]; omega
        · obtain rfl : j = 32 := by omega
          have HE := Lib.hid (load_fine HLD2.out (by
            rintro ⟨y, hy⟩
            by_cases hr : 1 ≤ y ∧ y ≤ 32
            · have := HJ.out (y.toNat - 1) (by omega)
              rw [show ((y.toNat - 1 : Nat) : Int) + 1 = y by omega] at this
              omega
            · rw [tot_none fun a ha e => hr (by have := (HSF.out.1.2.1 a ha).2.2.2; omega)] at hy
              unfold mq at hy
              omega))
          have HFIN : Hid (OwnL wr w.heap.size (.slice b m k) (loadL l) ∧ Below w.heap.size w wr) := Lib.hid ⟨by rw [HE.out.2]; exact HO.out.1, HO.out.2⟩
          go_wp2_with fail
          go_ret2
          exact ⟨_, _, _, by rw [HE.out.1]; rfl, HFIN⟩
end Go.Proofs.Ytkljaaeeocghjaa.Bins
