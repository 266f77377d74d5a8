/- The closure of the program's Deep. -/
import Derived.Test.YtghjcefigdkhnaaGraphImG
import Derived.Deep.RegionWith
import Derived.Deep.RegionHeld3
import Derived.BigRegion
namespace Go.Proofs.Ytghjcefigdkhnaa.Graph.Im
open Go.RowKit Go.Lib IRows

abbrev digV (P Q C D : Nat) : Value := .func (.func 21) #[] #[.pointer (some ⟨P, 0, none⟩), .pointer (some ⟨Q, 0, none⟩), .pointer (some ⟨C, 0, none⟩), .pointer (some ⟨D, 0, none⟩)]
/-- All that lies in memory while it goes on. -/
structure Dw (w0 W : World) (C D P Q : Nat) (s f : Value) (b : Nat → Bool) (g : Nat → Int) : Prop where
  ev : Ev w0 W C D P Q s f
  kn : RB W P b
  de : RI W Q g
  ne : P ≠ Q
theorem Dw.under {w0 W W' : World} {C D P Q : Nat} {s f : Value} {b : Nat → Bool} {g : Nat → Int} (h : Dw w0 W C D P Q s f b g) (hb : Below W.heap.size W W') : Dw w0 W' C D P Q s f b g := ⟨h.ev.under hb, h.kn.under h.ev.hiP hb, h.de.under h.ev.hiQ hb, h.ne⟩
theorem Dw.setB {w0 W : World} {C D P Q : Nat} {s f : Value} {b : Nat → Bool} {g : Nat → Int} (h : Dw w0 W C D P Q s f b g) (k : Nat) (v : Bool) : Dw w0 (W.setCell ⟨P, k, none⟩ (.bool v)) C D P Q s f (up b k v) g := ⟨h.ev.gr (gr_setP _ _ _ _ _), h.kn.set k v, h.de.other h.ne.symm _ _, h.ne⟩
theorem Dw.setI {w0 W : World} {C D P Q : Nat} {s f : Value} {b : Nat → Bool} {g : Nat → Int} (h : Dw w0 W C D P Q s f b g) (k : Nat) (v : Int) : Dw w0 (W.setCell ⟨Q, k, none⟩ (.int .i64 v)) C D P Q s f b (up g k v) := ⟨h.ev.gr (gr_setQ _ _ _ _ _), h.kn.other h.ne _ _, h.de.set k v, h.ne⟩
set_option maxRecDepth 100000 in
set_option maxHeartbeats 8000000 in
theorem dig_im (w0 : World) (n : Int) (a : Option Addr) (m c : Nat) (l : List Nd) (hl : l.length = m) (hs : Nds w0 a l) (he : ordE n l = 0) (C D P Q : Nat) :
    ∀ (i : Nat) (p : Nat) (b : Nat → Bool) (f : Nat → Int) (w : World), (ordV n l)[i]? = some (p : Int) → Dw w0 w C D P Q (.slice a m c) (digV P Q C D) b f → (∀ k : Nat, Rch l p k → Gd (dp (degV n l)) b f k) →
      Calls Try.prog 21 #[.int .i64 p, .pointer (some ⟨P, 0, none⟩), .pointer (some ⟨Q, 0, none⟩), .pointer (some ⟨C, 0, none⟩), .pointer (some ⟨D, 0, none⟩)] w fun e w' => e = .returned (.int .i64 (dp (degV n l) p)) ∧ Hid (∃ b' f', Dw w0 w' C D P Q (.slice a m c) (digV P Q C D) b' f' ∧ Gr w w' P Q ∧ Dug l (dp (degV n l)) p b f b' f') := by
  obtain ⟨hmay, hst, hlen⟩ := ord_zero he
  obtain ⟨G, hG⟩ : ∃ G : Int → Int, dp (degV n l) = G := ⟨_, rfl⟩
  have HREC : Hid (∀ x, 1 ≤ x → x ≤ n → G x = mxA x G l ∧ 0 ≤ G x ∧ G x ≤ 64) := Lib.hid fun x h1 h2 => by
    rw [← hG]
    exact ⟨deg_rec he h1 h2, deg_64 he h1 h2⟩
  have HNO : Hid (∀ x, ¬ Lead l x x) := Lib.hid ((order_iff hmay).1 he)
  have HOK := Lib.hid hmay
  have HST := Lib.hid hst
  obtain ⟨o, ho⟩ : ∃ o, ordV n l = o := ⟨_, rfl⟩
  rw [hG, ho]
  rw [ho] at HST
  have HL := Lib.hid hl
  have HT := nds_at hs
  have hm1 : (m : Int) ≤ 256 := by have := hmay.2.1; omega
  clear hl hs he hmay hst hlen hG ho
  intro i
  induction i using Nat.strongRecOn with
  | _ i ih =>
    intro p b f w hp hd hg
    have HIH : Hid (∀ (t : Nd) (y : Nat) (b1 : Nat → Bool) (f1 : Nat → Int) (w1 : World), t ∈ l → t.a = (p : Int) → t.b = (y : Int) → Dw w0 w1 C D P Q (.slice a m c) (digV P Q C D) b1 f1 → (∀ k : Nat, Rch l y k → Gd G b1 f1 k) →
      Calls Try.prog 21 #[.int .i64 y, .pointer (some ⟨P, 0, none⟩), .pointer (some ⟨Q, 0, none⟩), .pointer (some ⟨C, 0, none⟩), .pointer (some ⟨D, 0, none⟩)] w1 fun e w' => e = .returned (.int .i64 (G y)) ∧ Hid (∃ b' f', Dw w0 w' C D P Q (.slice a m c) (digV P Q C D) b' f' ∧ Gr w1 w' P Q ∧ Dug l G y b1 f1 b' f')) := Lib.hid fun t y b1 f1 w1 ht ha hb h1 h2 => by
      have h5 := HST.out.behind i (p : Int) hp t ht ha
      obtain ⟨j, hj, hjx⟩ := List.getElem_of_mem h5
      rw [List.length_take] at hj
      rw [List.getElem_take] at hjx
      exact ih j (by omega) y b1 f1 w1 (by rw [← hb, ← hjx]; exact List.getElem?_eq_getElem (by omega)) h1 h2
    have hpb := HST.out.node (p : Int) (List.mem_of_getElem? hp)
    have HPB := Lib.hid hpb
    have hn64 := HOK.out.1.2
    have hp0 : (0 : Int) ≤ (p : Int) := by omega
    have hp65 : (p : Int) < 65 := by omega
    have HP65 : Hid (p < 65) := Lib.hid (by omega)
    have HD := Lib.hid hd
    have HG := Lib.hid hg
    obtain ⟨x0, x1⟩ := hd.kn p (by omega)
    obtain ⟨y0, y1⟩ := hd.de p (by omega)
    have c0 := hd.ev.atC
    cases hb : b p with
    | true =>
      have HF : Hid (f p = G p) := Lib.hid ((hg p (.inl rfl)).yes hb)
      rw [hb] at x0
      rw [HF.out] at y0
      have HE : Hid (∃ b' f', Dw w0 w C D P Q (.slice a m c) (digV P Q C D) b' f' ∧ Gr w w P Q ∧ Dug l G p b f b' f') := Lib.hid ⟨b, f, hd, Gr.refl _ _ _, hg, fun _ _ => ⟨rfl, rfl⟩, hb⟩
      obtain ⟨r, hr⟩ : ∃ r, G (p : Int) = r := ⟨_, rfl⟩
      rw [hr] at y0 ⊢
      clear ih hp hd hg hb hpb hn64 hr
      go_enter Try.func21, Try.ntmps21
      go_wp2_with fail
      go_ret
      exact ⟨rfl, HE⟩
    | false =>
      have HBG : Hid (Digs l G p b f 0 b f) := Lib.hid (Digs.begin hg hb)
      rw [hb] at x0
      clear ih hp hd hg hb hpb hn64
      go_enter Try.func21, Try.ntmps21
      go_wp2_with fail
      clear x0 x1 y0 y1 c0
      go_loopw [17] (fun s wr => ∃ (i : Nat) (b1 : Nat → Bool) (f1 : Nat → Int), s = .int .i64 i ∧ i ≤ m ∧ Hid (Dw w0 wr C D P Q (.slice a m c) (digV P Q C D) b1 f1 ∧ Gr w wr P Q) ∧ Hid (Digs l G p b f i b1 f1)) (fun s _ => m - (RowKit.intOf s).toNat)
      case atStart => exact ⟨0, b, f, rfl, by omega, Lib.hid ⟨HD.out, Gr.refl _ _ _⟩, HBG⟩
      case round =>
        clear HBG
        obtain ⟨i, b1, f1, rfl, hi, HR, HS⟩ := hrel
        have hi0 : (0 : Int) ≤ (i : Int) := by omega
        by_cases hlt : i < m
        · have hlt2 : (i : Int) < (m : Int) := by omega
          obtain ⟨g, off, t, rfl, ht, q0, q1⟩ := HT.out wr i HR.out.1.ev.below (by rw [HL.out]; exact hlt)
          obtain ⟨U, Y, hU, hY, u0, u1, HU⟩ := box_nd wr t
          have HRY : Hid (Dw w0 Y C D P Q (.slice (some ⟨g, off, none⟩) m c) (digV P Q C D) b1 f1 ∧ Gr w Y P Q) := Lib.hid ⟨HR.out.1.under HU.out.1, HR.out.2.trans (gr_below HU.out.1)⟩
          have hok := HOK.out.2.2 t (List.mem_of_getElem? ht.out)
          obtain ⟨y, hy⟩ := Int.eq_ofNat_of_zero_le (show 0 ≤ t.b by have := hok.2.1; omega)
          have HYB : Hid (t.b = (y : Int)) := Lib.hid hy
          have HYG := Lib.hid (HREC.out (y : Int) (by have := hok.2.1; omega) (by have := hok.2.2; omega))
          rw [hy] at q1 u1 hY
          have HUB : Hid (U ≠ P ∧ U ≠ Q ∧ U < Y.heap.size) := Lib.hid ⟨by have := HR.out.1.ev.hiP; omega, by have := HR.out.1.ev.hiQ; omega, by have := HU.out.2; omega⟩
          clear hok hy
          by_cases ca : t.a = (p : Int)
          · have ca2 : (t.a == (p : Int)) = true := by simpa using ca
            have HC : Hid (Calls Try.prog 21 #[.int .i64 y, .pointer (some ⟨P, 0, none⟩), .pointer (some ⟨Q, 0, none⟩), .pointer (some ⟨C, 0, none⟩), .pointer (some ⟨D, 0, none⟩)] Y.drew fun e w' => e = .returned (.int .i64 (G y)) ∧ Hid (∃ b' f', (Dw w0 w' C D P Q (.slice (some ⟨g, off, none⟩) m c) (digV P Q C D) b' f' ∧ Gr w w' P Q) ∧ Gr Y w' P Q ∧ Digs l G p b f i b' f')) := Lib.hid (by
              refine (HIH.out t y b1 f1 Y.drew (List.mem_of_getElem? ht.out) ca HYB.out (HRY.out.1.under (Below.refl _ _).drew) (HS.out.pre (List.mem_of_getElem? ht.out) ca HYB.out)).mono ?_
              rintro e w' ⟨rfl, H⟩
              obtain ⟨b', f', k1, k2, k3⟩ := H.out
              have hgr := (gr_drew Y P Q).trans k2
              exact ⟨rfl, Lib.hid ⟨b', f', ⟨k1, HRY.out.2.trans hgr⟩, hgr, (HS.out.dug HNO.out (List.mem_of_getElem? ht.out) ca HYB.out k3).1⟩⟩)
            obtain ⟨v, hv⟩ : ∃ v, mxA (p : Int) G (l.take i) = v := ⟨_, rfl⟩
            obtain ⟨z, hz⟩ : ∃ z, G (y : Int) = z := ⟨_, rfl⟩
            have HZ := Lib.hid hz
            have z0 : 0 ≤ z ∧ z ≤ 64 := by rw [← hz]; exact HYG.out.2
            obtain ⟨z1, hz1⟩ : ∃ z1, z + 1 = z1 := ⟨_, rfl⟩
            have wz : IntKind.i64.wrap (z + 1) = z1 := by rw [hz1]; exact IntWalk.i64_in _ (by omega)
            have wz3 : IntKind.i64.wrap z1 = z1 := IntWalk.i64_in _ (by omega)
            have wz2 : wrap64 z1 = z1 := IntWalk.wrap64_in _ (by omega)
            obtain ⟨M, hM⟩ : ∃ M, max v z1 = M := ⟨_, rfl⟩
            have hM2 : (if v < z1 then z1 else v) = M := by rw [← hM]; split <;> omega
            have HMX : Hid (max (mxA (p : Int) G (l.take i)) (G (y : Int) + 1) = M) := Lib.hid (by rw [hv, hz, hz1, hM])
            have HV : Hid (f1 p = v) := Lib.hid (by rw [HS.out.now.2, hv])
            obtain ⟨y0, y1⟩ := HRY.out.1.de p HP65.out
            rw [HV.out] at y0
            have d0 := HRY.out.1.ev.atD
            have HST2 : Hid (∀ w' b2 f2, (Dw w0 w' C D P Q (.slice (some ⟨g, off, none⟩) m c) (digV P Q C D) b2 f2 ∧ Gr w w' P Q) → Digs l G p b f i b2 f2 → (Dw w0 (w'.setCell ⟨Q, p, none⟩ (.int .i64 M)) C D P Q (.slice (some ⟨g, off, none⟩) m c) (digV P Q C D) b2 (up f2 p M) ∧ Gr w (w'.setCell ⟨Q, p, none⟩ (.int .i64 M)) P Q) ∧ Digs l G p b f (i + 1) b2 (up f2 p M)) := Lib.hid fun w' b2 f2 h1 h2 => by
              refine ⟨⟨h1.1.setI p M, h1.2.trans (gr_setQ _ _ _ _ _)⟩, ?_⟩
              have := h2.step HNO.out ht.out ca HYB.out (HYG.out.2.1)
              rw [HMX.out] at this
              exact this
            rw [hz] at HC
            have HW : Hid (∀ w', Gr Y w' P Q → w'.cell? ⟨D, 0, none⟩ = some (digV P Q C D) ∧ w'.cell? ⟨U, 1, none⟩ = some (.int .i64 (y : Int))) := Lib.hid fun w' h => ⟨(h.cell 0 HRY.out.1.ev.hiD HRY.out.1.ev.neD.1 HRY.out.1.ev.neD.2).trans d0, (h.cell 1 HUB.out.2.2 HUB.out.1 HUB.out.2.1).trans u1⟩
            have HVV : Hid (∀ w' b2 f2, Dw w0 w' C D P Q (.slice (some ⟨g, off, none⟩) m c) (digV P Q C D) b2 f2 → Digs l G p b f i b2 f2 → w'.cell? ⟨Q, p, none⟩ = some (.int .i64 v) ∧ w'.frozen? ⟨Q, p, none⟩ = false) := Lib.hid fun w' b2 f2 h1 h2 => by
              obtain ⟨k0, k1⟩ := h1.de p HP65.out
              rw [h2.now.2, hv] at k0
              exact ⟨k0, k1⟩
            have D0 : Gr Y Y.drew P Q := gr_drew Y P Q
            clear ca hv hz z0 D0
            go_wp2_with fail
            clear hY hU q0 q1
            go_region_with (go_at_call 21; refine HC.out.mono ?_; rintro e w6 ⟨rfl, H6⟩; obtain ⟨b2, f2, K1, D1, K2⟩ : ∃ b2 f2, Hid (Dw w0 w6 C D P Q (.slice (some ⟨g, off, none⟩) m c) (digV P Q C D) b2 f2 ∧ Gr w w6 P Q) ∧ Hid (Gr Y w6 P Q) ∧ Hid (Digs l G p b f i b2 f2) := (by obtain ⟨b2, f2, K1, D1, K2⟩ := H6.out; exact ⟨b2, f2, Lib.hid K1, Lib.hid D1, Lib.hid K2⟩); obtain ⟨o0, o1⟩ := HVV.out w6 b2 f2 K1.out.1 K2.out)
            all_goals
              go_wp2_with fail
              go_roundw
              case rel => exact ⟨i + 1, b2, up f2 p M, by go_num, by omega, Lib.hid (HST2.out _ _ _ K1.out K2.out).1, Lib.hid (HST2.out _ _ _ K1.out K2.out).2⟩
              case measure => simp [RowKit.intOf]; omega
          · have ca2 : (t.a == (p : Int)) = false := by simpa using ca
            have HS2 := Lib.hid (HS.out.skip ht.out ca)
            clear ca
            go_wp2_with fail
            clear hY hU
            go_roundw
            case rel => exact ⟨i + 1, b1, f1, by go_num, by omega, HRY, HS2⟩
            case measure => simp [RowKit.intOf]; omega
        · obtain rfl : i = m := by omega
          have hEND := HS.out
          rw [← HL.out] at hEND
          obtain ⟨e1, e2⟩ := hEND.end HNO.out (HREC.out p HPB.out.1 HPB.out.2).1
          have HE1 := Lib.hid e1
          obtain ⟨x0, x1⟩ := HR.out.1.kn p HP65.out
          have y0 := ((HR.out.1.setB p true).de p HP65.out).1
          rw [e2] at y0
          obtain ⟨r, hr⟩ : ∃ r, G (p : Int) = r := ⟨_, rfl⟩
          have HRR := Lib.hid hr
          rw [hr] at y0
          have HF : Hid (∃ b' f', Dw w0 (wr.setCell ⟨P, p, none⟩ (.bool true)) C D P Q (.slice a i c) (digV P Q C D) b' f' ∧ Gr w (wr.setCell ⟨P, p, none⟩ (.bool true)) P Q ∧ Dug l G p b f b' f') := Lib.hid ⟨_, f1, HR.out.1.setB p true, HR.out.2.trans (gr_setP _ _ _ _ _), HE1.out⟩
          clear hEND e1 e2 hr
          go_wp2_with fail
          go_ret
          exact ⟨by rw [HRR.out]; rfl, HF⟩
end Go.Proofs.Ytghjcefigdkhnaa.Graph.Im
