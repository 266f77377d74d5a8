/- The closure of the program's Ways. -/
import Derived.Test.YtghjcefigdkhnaaGraphImI
import Derived.Test.YtghjcefigdkhnaaGraphF
import Derived.Test.YtghjcefigdkhnaaCalcAddP
namespace Go.Proofs.Ytghjcefigdkhnaa.Graph.Im
open Go.RowKit Go.Lib IRows

/-- Where there is a way needs lead. -/
theorem nw_pos {n : Int} {l : List Nd} {to : Int} (he : ordE n l = 0) : ∀ (i : Nat) (x : Int), (ordV n l)[i]? = some x → 0 < nw n l to x → x = to ∨ Lead l x to := by
  obtain ⟨hm, hst, hlen⟩ := ord_zero he
  intro i
  induction i using Nat.strongRecOn with
  | _ i ih =>
    intro x hx h
    have hb := hst.node x (List.mem_of_getElem? hx)
    rw [nw_rec he hb.1 hb.2] at h
    by_cases e : x = to
    · exact .inl e
    · right
      have h1 : one to x = 0 := by unfold one; rw [if_neg e]
      obtain ⟨t, ht, ea, h2⟩ := sumA_pos (x := x) (g := nw n l to) (l := l) (by omega)
      have h5 := hst.behind i x hx t ht ea
      obtain ⟨j, hj, hjx⟩ := List.getElem_of_mem h5
      rw [List.length_take] at hj
      rw [List.getElem_take] at hjx
      rcases ih j (by omega) t.b (by rw [← hjx]; exact List.getElem?_eq_getElem (by omega)) h2 with h6 | h6
      · rw [← h6]
        exact .one ht ea
      · exact (Lead.one ht ea).trans h6
theorem nw_to {n : Int} {l : List Nd} {to : Int} (he : ordE n l = 0) (h1 : 1 ≤ to) (h2 : to ≤ n) : nw n l to to = 1 := by
  obtain ⟨hm, hst, hlen⟩ := ord_zero he
  rw [nw_rec he h1 h2]
  have h3 : one to to = 1 := by unfold one; rw [if_pos rfl]
  have h4 : sumA to (nw n l to) l = 0 := by
    rcases Nat.eq_zero_or_pos (sumA to (nw n l to) l) with h | h
    · exact h
    · obtain ⟨t, ht, ea, h5⟩ := sumA_pos h
      have hb := (hm.2.2 t ht).2
      obtain ⟨i, hi, e⟩ := List.mem_iff_getElem.1 (stands_all hst hlen hb.1 hb.2)
      rcases nw_pos he i t.b (by rw [List.getElem?_eq_getElem hi, e]) h5 with h6 | h6
      · have h7 : Lead l to t.b := .one ht ea
        rw [h6] at h7
        exact absurd h7 ((order_iff hm).1 he to)
      · exact absurd ((Lead.one ht ea).trans h6) ((order_iff hm).1 he to)
  omega
theorem sum_yes (a m : Int) (h : 0 ≤ a) (h0 : 0 ≤ m) (hi : a + m ≤ 9223372036854775807) (W : World) :
    Calls Try.prog 25 #[.int .i64 a, .int .i64 m] W fun e w' => e = .returned (.tuple #[.int .i64 (a + m), .int .i64 0]) ∧ W = w' := by
  have := Calc.add_any a m W (by omega) (by omega) (by omega) (by omega)
  rw [Calc.valN_in (by omega) hi, Calc.valE_in (by omega) hi] at this
  exact this
theorem sum_no (a m : Int) (h : 0 ≤ a) (h0 : 0 ≤ m) (ha : a ≤ 9223372036854775807) (hm : m ≤ 9223372036854775807) (hi : 9223372036854775807 < a + m) (W : World) :
    Calls Try.prog 25 #[.int .i64 a, .int .i64 m] W fun e w' => e = .returned (.tuple #[.int .i64 0, .int .i64 5]) ∧ W = w' := by
  have := Calc.add_any a m W (by omega) (by omega) (by omega) (by omega)
  rw [Calc.valN_out (.inr hi), Calc.valE_out (.inr hi)] at this
  exact this
/-- What is known is right, and of the end something is. -/
structure Fw (n : Int) (G : Int → Nat) (to : Int) (b : Nat → Bool) (f : Nat → Int) : Prop where
  yes : ∀ k : Nat, 1 ≤ (k : Int) → (k : Int) ≤ n → b k = true → f k = ((G k : Nat) : Int) ∧ G k ≤ mi
  to : b to.toNat = true
theorem Fw.set {n : Int} {G : Int → Nat} {to : Int} {b : Nat → Bool} {f : Nat → Int} {p : Nat} {s : Int} (h : Fw n G to b f) (hs : s = ((G p : Nat) : Int)) (hp : G p ≤ mi) : Fw n G to (up b p true) (up f p s) := by
  refine ⟨fun k h1 h2 h3 => ?_, ?_⟩
  · unfold up at h3 ⊢
    by_cases e : k = p
    · subst e
      rw [if_pos rfl]
      exact ⟨hs, hp⟩
    · rw [if_neg e] at h3 ⊢
      exact h.yes k h1 h2 h3
  · unfold up
    split
    · rfl
    · exact h.to
def rv (S : Nat) : Int := if S ≤ mi then (S : Int) else 0
def re (S : Nat) : Int := if S ≤ mi then 0 else 5
theorem rv_yes {S : Nat} (h : S ≤ mi) : rv S = (S : Int) ∧ re S = 0 := by unfold rv re; rw [if_pos h, if_pos h]; exact ⟨rfl, rfl⟩
theorem rv_no {S : Nat} (h : ¬ S ≤ mi) : rv S = 0 ∧ re S = 5 := by unfold rv re; rw [if_neg h, if_neg h]; exact ⟨rfl, rfl⟩
abbrev wayF (P Q C D : Nat) : Value := .func (.func 24) #[] #[.pointer (some ⟨P, 0, none⟩), .pointer (some ⟨Q, 0, none⟩), .pointer (some ⟨C, 0, none⟩), .pointer (some ⟨D, 0, none⟩)]
set_option maxRecDepth 100000 in
set_option maxHeartbeats 8000000 in
theorem way_im (w0 : World) (n : Int) (a : Option Addr) (m c : Nat) (l : List Nd) (to : Int) (hl : l.length = m) (hs : Nds w0 a l) (he : ordE n l = 0) (hto : 1 ≤ to ∧ to ≤ n) (C D P Q : Nat) :
    ∀ (i : Nat) (p : Nat) (b : Nat → Bool) (f : Nat → Int) (w : World), (ordV n l)[i]? = some (p : Int) → Dw w0 w C D P Q (.slice a m c) (wayF P Q C D) b f → Fw n (nw n l to) to b f →
      Calls Try.prog 24 #[.int .i64 p, .pointer (some ⟨P, 0, none⟩), .pointer (some ⟨Q, 0, none⟩), .pointer (some ⟨C, 0, none⟩), .pointer (some ⟨D, 0, none⟩)] w fun e w' => e = .returned (.tuple #[.int .i64 (rv (nw n l to p)), .int .i64 (re (nw n l to p))]) ∧ Hid (Gr w w' P Q ∧ (nw n l to p ≤ mi → ∃ b' f', Dw w0 w' C D P Q (.slice a m c) (wayF P Q C D) b' f' ∧ Fw n (nw n l to) to b' f')) := by
  obtain ⟨hmay, hst, hlen⟩ := ord_zero he
  obtain ⟨G, hG⟩ : ∃ G : Int → Nat, nw n l to = G := ⟨_, rfl⟩
  have HREC : Hid (∀ x, 1 ≤ x → x ≤ n → x ≠ to → G x = sumA x G l) := Lib.hid fun x h1 h2 h3 => by
    rw [← hG, nw_rec he h1 h2]
    unfold one
    rw [if_neg h3, Nat.zero_add]
  have HOK := Lib.hid hmay
  have HST := Lib.hid hst
  obtain ⟨o, ho⟩ : ∃ o, ordV n l = o := ⟨_, rfl⟩
  rw [hG, ho]
  rw [ho] at HST
  have HL := Lib.hid hl
  have HT := nds_at hs
  have hm1 : (m : Int) ≤ 256 := by have := hmay.2.1; omega
  have HTO := Lib.hid hto
  have hmi : ((mi : Nat) : Int) = 9223372036854775807 := rfl
  have HMI := Lib.hid hmi
  clear hl hs he hmay hst hlen hG ho hto hmi
  intro i
  induction i using Nat.strongRecOn with
  | _ i ih =>
    intro p b f w hp hd hg
    have HIH : Hid (∀ (t : Nd) (y : Nat) (b1 : Nat → Bool) (f1 : Nat → Int) (w1 : World), t ∈ l → t.a = (p : Int) → t.b = (y : Int) → Dw w0 w1 C D P Q (.slice a m c) (wayF P Q C D) b1 f1 → Fw n G to b1 f1 →
      Calls Try.prog 24 #[.int .i64 y, .pointer (some ⟨P, 0, none⟩), .pointer (some ⟨Q, 0, none⟩), .pointer (some ⟨C, 0, none⟩), .pointer (some ⟨D, 0, none⟩)] w1 fun e w' => e = .returned (.tuple #[.int .i64 (rv (G y)), .int .i64 (re (G y))]) ∧ Hid (Gr w1 w' P Q ∧ (G y ≤ mi → ∃ b' f', Dw w0 w' C D P Q (.slice a m c) (wayF P Q C D) b' f' ∧ Fw n G to b' f'))) := Lib.hid fun t y b1 f1 w1 ht ha hb h1 h2 => by
      have h5 := HST.out.behind i (p : Int) hp t ht ha
      obtain ⟨j, hj, hjx⟩ := List.getElem_of_mem h5
      rw [List.length_take] at hj
      rw [List.getElem_take] at hjx
      exact ih j (by omega) y b1 f1 w1 (by rw [← hb, ← hjx]; exact List.getElem?_eq_getElem (by omega)) h1 h2
    have hpb := HST.out.node (p : Int) (List.mem_of_getElem? hp)
    have hn64 := HOK.out.1.2
    have hp0 : (0 : Int) ≤ (p : Int) := by omega
    have hp65 : (p : Int) < 65 := by omega
    have HP65 : Hid (p < 65) := Lib.hid (by omega)
    have HD := Lib.hid hd
    have HG := Lib.hid hg
    obtain ⟨x0, x1⟩ := hd.kn p (by omega)
    obtain ⟨y0, y1⟩ := hd.de p (by omega)
    have c0 := hd.ev.atC
    cases hb : b p with
    | true =>
      obtain ⟨hf1, hf2⟩ := hg.yes p hpb.1 hpb.2 hb
      obtain ⟨r1, r2⟩ := rv_yes hf2
      rw [hb] at x0
      rw [hf1] at y0
      rw [r1, r2]
      have HE : Hid (Gr w w P Q ∧ (G p ≤ mi → ∃ b' f', Dw w0 w C D P Q (.slice a m c) (wayF P Q C D) b' f' ∧ Fw n G to b' f')) := Lib.hid ⟨Gr.refl _ _ _, fun _ => ⟨b, f, hd, hg⟩⟩
      obtain ⟨r, hr⟩ : ∃ r, ((G (p : Int) : Nat) : Int) = r := ⟨_, rfl⟩
      rw [hr] at y0 ⊢
      clear ih hp hd hg hb hpb hn64 hr hf1 hf2 r1 r2
      go_enter Try.func24, Try.ntmps24
      go_wp2_with fail
      go_ret2
      exact ⟨rfl, HE⟩
    | false =>
      have hpt : (p : Int) ≠ to := fun e => by
        have := hg.to
        rw [← e] at this
        simp [hb] at this
      have HPR := Lib.hid (HREC.out p hpb.1 hpb.2 hpt)
      have HPB := Lib.hid hpb
      rw [hb] at x0
      have HNO : Hid (∀ w', ¬ G p ≤ mi → Gr w w' P Q → Ending.returned (.tuple #[.int .i64 0, .int .i64 5]) = Ending.returned (.tuple #[.int .i64 (rv (G p)), .int .i64 (re (G p))]) ∧ Hid (Gr w w' P Q ∧ (G p ≤ mi → ∃ b' f', Dw w0 w' C D P Q (.slice a m c) (wayF P Q C D) b' f' ∧ Fw n G to b' f'))) := Lib.hid fun w' h1 h2 => by
        obtain ⟨r1, r2⟩ := rv_no h1
        rw [r1, r2]
        exact ⟨rfl, Lib.hid ⟨h2, fun h => absurd h h1⟩⟩
      clear ih hp hd hg hb hpb hn64 hpt
      go_enter Try.func24, Try.ntmps24
      go_wp2_with fail
      clear x0 x1 y0 y1 c0
      go_loopw [8, 21] (fun s t wr => ∃ (i : Nat) (b1 : Nat → Bool) (f1 : Nat → Int) (z : Int), s = .int .i64 z ∧ t = .int .i64 (i : Int) ∧ i ≤ m ∧ Hid (Dw w0 wr C D P Q (.slice a m c) (wayF P Q C D) b1 f1 ∧ Fw n G to b1 f1 ∧ Gr w wr P Q) ∧ Hid (z = ((sumA p G (l.take i) : Nat) : Int) ∧ sumA p G (l.take i) ≤ mi)) (fun _ t _ => m - (RowKit.intOf t).toNat)
      case atStart => exact ⟨0, b, f, 0, rfl, rfl, by omega, Lib.hid ⟨HD.out, HG.out, Gr.refl _ _ _⟩, Lib.hid ⟨rfl, Nat.zero_le _⟩⟩
      case round =>
        obtain ⟨i, b1, f1, z, rfl, rfl, hi, HR, HS⟩ := hrel
        have hi0 : (0 : Int) ≤ (i : Int) := by omega
        by_cases hlt : i < m
        · have hlt2 : (i : Int) < (m : Int) := by omega
          obtain ⟨g, off, t, rfl, ht, q0, q1⟩ := HT.out wr i HR.out.1.ev.below (by rw [HL.out]; exact hlt)
          obtain ⟨U, Y, hU, hY, u0, u1, HU⟩ := box_nd wr t
          have HRY : Hid (Dw w0 Y C D P Q (.slice (some ⟨g, off, none⟩) m c) (wayF P Q C D) b1 f1 ∧ Fw n G to b1 f1 ∧ Gr w Y P Q) := Lib.hid ⟨HR.out.1.under HU.out.1, HR.out.2.1, HR.out.2.2.trans (gr_below HU.out.1)⟩
          have hok := HOK.out.2.2 t (List.mem_of_getElem? ht.out)
          obtain ⟨y, hy⟩ := Int.eq_ofNat_of_zero_le (show 0 ≤ t.b by have := hok.2.1; omega)
          have HYB : Hid (t.b = (y : Int)) := Lib.hid hy
          rw [hy] at q1 u1 hY
          clear hok hy
          by_cases ca : t.a = (p : Int)
          · have ca2 : (t.a != (p : Int)) = false := by simpa using ca
            have ca3 : (t.a == (p : Int)) = true := by simpa using ca
            have HC := Lib.hid (HIH.out t y b1 f1 Y (List.mem_of_getElem? ht.out) ca HYB.out HRY.out.1 HRY.out.2.1)
            have d0 := HRY.out.1.ev.atD
            have HTK : Hid (sumA p G (l.take (i + 1)) = sumA p G (l.take i) + G y) := Lib.hid (by rw [sumA_take ht.out, if_pos ca, HYB.out])
            by_cases hgy : G y ≤ mi
            · obtain ⟨r1, r2⟩ := rv_yes hgy
              rw [r1, r2] at HC
              have HGY := Lib.hid hgy
              obtain ⟨v, hv⟩ : ∃ v, ((G (y : Int) : Nat) : Int) = v := ⟨_, rfl⟩
              have HV := Lib.hid hv
              have hz0 : 0 ≤ z ∧ z ≤ 9223372036854775807 := by have := HS.out; have := HMI.out; omega
              have hv0 : 0 ≤ v ∧ v ≤ 9223372036854775807 := by have := HMI.out; omega
              rw [hv] at HC
              by_cases hsum : z + v ≤ 9223372036854775807
              · have HADD := Lib.hid (fun W => sum_yes z v hz0.1 hv0.1 hsum W)
                obtain ⟨s, hs⟩ : ∃ s, z + v = s := ⟨_, rfl⟩
                rw [hs] at HADD
                have HS2 : Hid (s = ((sumA p G (l.take (i + 1)) : Nat) : Int) ∧ sumA p G (l.take (i + 1)) ≤ mi) := Lib.hid (by
                  have := HS.out; have := HMI.out; rw [HTK.out]; omega)
                clear ca hgy r1 r2 hv hz0 hv0 hsum hs
                go_wp2_with fail
                clear hY hU q0 q1
                refine HC.out.mono ?_
                rintro e w6 ⟨rfl, H6⟩
                obtain ⟨b2, f2, HR2⟩ : ∃ b2 f2, Hid (Dw w0 w6 C D P Q (.slice (some ⟨g, off, none⟩) m c) (wayF P Q C D) b2 f2 ∧ Fw n G to b2 f2 ∧ Gr w w6 P Q) := by
                  obtain ⟨k1, k2⟩ := H6.out
                  obtain ⟨b2, f2, k3, k4⟩ := k2 HGY.out
                  exact ⟨b2, f2, Lib.hid ⟨k3, k4, HRY.out.2.2.trans k1⟩⟩
                clear H6
                go_wp2_with fail
                refine (HADD.out _).mono ?_
                rintro e w' ⟨rfl, rfl⟩
                go_wp2_with fail
                go_roundw
                case rel => exact ⟨i + 1, b2, f2, s, rfl, by go_num, by omega, HR2, HS2⟩
                case measure => simp [RowKit.intOf]; omega
              · have HADD := Lib.hid (fun W => sum_no z v hz0.1 hv0.1 hz0.2 hv0.2 (by omega) W)
                have HBIG : Hid (¬ G p ≤ mi) := Lib.hid (by
                  have h1 := HPR.out
                  have h2 := sumA_le (x := (p : Int)) (g := G) l (i + 1)
                  rw [← h1, HTK.out] at h2
                  have := HS.out; have := HMI.out; omega)
                clear ca hgy r1 r2 hv hz0 hv0 hsum
                go_wp2_with fail
                clear hY hU q0 q1
                refine HC.out.mono ?_
                rintro e w6 ⟨rfl, H6⟩
                have HGR := Lib.hid (HRY.out.2.2.trans H6.out.1)
                clear H6
                go_wp2_with fail
                refine (HADD.out _).mono ?_
                rintro e w' ⟨rfl, rfl⟩
                go_wp2_with fail
                go_ret2
                exact HNO.out _ HBIG.out HGR.out
            · obtain ⟨r1, r2⟩ := rv_no hgy
              rw [r1, r2] at HC
              have HBIG : Hid (¬ G p ≤ mi) := Lib.hid (by
                have h1 := HPR.out
                have h2 := sumA_mem (x := (p : Int)) (g := G) (List.mem_of_getElem? ht.out) ca
                rw [← h1, HYB.out] at h2
                omega)
              clear ca hgy r1 r2
              go_wp2_with fail
              clear hY hU q0 q1
              refine HC.out.mono ?_
              rintro e w6 ⟨rfl, H6⟩
              have HGR := Lib.hid (HRY.out.2.2.trans H6.out.1)
              clear H6
              go_wp2_with fail
              go_ret2
              exact HNO.out _ HBIG.out HGR.out
          · have ca2 : (t.a != (p : Int)) = true := by simpa using ca
            have ca3 : (t.a == (p : Int)) = false := by simpa using ca
            have HS2 : Hid (z = ((sumA p G (l.take (i + 1)) : Nat) : Int) ∧ sumA p G (l.take (i + 1)) ≤ mi) := Lib.hid (by rw [sumA_take ht.out, if_neg ca, Nat.add_zero]; exact HS.out)
            clear ca
            go_wp2_with fail
            clear hY hU
            go_roundw
            case rel => exact ⟨i + 1, b1, f1, z, rfl, by go_num, by omega, HRY, HS2⟩
            case measure => simp [RowKit.intOf]; omega
        · obtain rfl : i = m := by omega
          have hfull : sumA p G (l.take i) = G p := by rw [List.take_of_length_le (by rw [HL.out]; exact Nat.le_refl _)]; exact HPR.out.symm
          have hsz := HS.out
          rw [hfull] at hsz
          obtain ⟨x0, x1⟩ := HR.out.1.kn p HP65.out
          obtain ⟨y0, y1⟩ := (HR.out.1.setB p true).de p HP65.out
          have HE : Hid (Ending.returned (.tuple #[.int .i64 z, .int .i64 0]) = Ending.returned (.tuple #[.int .i64 (rv (G p)), .int .i64 (re (G p))])) := Lib.hid (by
            obtain ⟨r1, r2⟩ := rv_yes hsz.2
            rw [r1, r2, ← hsz.1])
          have HF : Hid (Gr w ((wr.setCell ⟨P, p, none⟩ (.bool true)).setCell ⟨Q, p, none⟩ (.int .i64 z)) P Q ∧ (G p ≤ mi → ∃ b' f', Dw w0 ((wr.setCell ⟨P, p, none⟩ (.bool true)).setCell ⟨Q, p, none⟩ (.int .i64 z)) C D P Q (.slice a i c) (wayF P Q C D) b' f' ∧ Fw n G to b' f')) := Lib.hid ⟨(HR.out.2.2.trans (gr_setP _ _ _ _ _)).trans (gr_setQ _ _ _ _ _), fun _ => ⟨_, _, (HR.out.1.setB p true).setI p z, HR.out.2.1.set hsz.1 hsz.2⟩⟩
          clear hfull hsz
          go_wp2_with fail
          go_ret2
          exact ⟨HE.out, HF⟩
end Go.Proofs.Ytghjcefigdkhnaa.Graph.Im
