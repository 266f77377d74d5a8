/- The closure of the program's Deep. The row of what was seen. The program's Deep: the whole. -/
import Derived.Test.YtdbhdlgoecpeaaaZGraphImD
import Derived.Deep.RegionWith
import Derived.Deep.RegionHeld3
import Derived.BigRegion
namespace Go.Proofs.Ytdbhdlgoecpeaaa.Graph.Im
open Go.RowKit Go.Lib IRows

abbrev digV (P Q C D : Nat) : Value := .func (.func 77) #[] #[.pointer (some ⟨P, 0, none⟩), .pointer (some ⟨Q, 0, none⟩), .pointer (some ⟨C, 0, none⟩), .pointer (some ⟨D, 0, none⟩)]
/-- All that lies in memory while it goes on. -/
structure Dw (w0 W : World) (C D P Q : Nat) (s f : Value) (b : Nat → Bool) (g : Nat → Int) : Prop where
  ev : Ev w0 W C D P Q s f
  kn : RB W P b
  de : RI W Q g
  ne : P ≠ Q
theorem Dw.under {w0 W W' : World} {C D P Q : Nat} {s f : Value} {b : Nat → Bool} {g : Nat → Int} (h : Dw w0 W C D P Q s f b g) (hb : Below W.heap.size W W') : Dw w0 W' C D P Q s f b g := ⟨h.ev.under hb, h.kn.under h.ev.hiP hb, h.de.under h.ev.hiQ hb, h.ne⟩
theorem Dw.setB {w0 W : World} {C D P Q : Nat} {s f : Value} {b : Nat → Bool} {g : Nat → Int} (h : Dw w0 W C D P Q s f b g) (k : Nat) (v : Bool) : Dw w0 (W.setCell ⟨P, k, none⟩ (.bool v)) C D P Q s f (up b k v) g := ⟨h.ev.gr (gr_setP _ _ _ _ _), h.kn.set k v, h.de.other h.ne.symm _ _, h.ne⟩
theorem Dw.setI {w0 W : World} {C D P Q : Nat} {s f : Value} {b : Nat → Bool} {g : Nat → Int} (h : Dw w0 W C D P Q s f b g) (k : Nat) (v : Int) : Dw w0 (W.setCell ⟨Q, k, none⟩ (.int .i64 v)) C D P Q s f b (up g k v) := ⟨h.ev.gr (gr_setQ _ _ _ _ _), h.kn.other h.ne _ _, h.de.set k v, h.ne⟩
set_option maxRecDepth 100000 in
set_option maxHeartbeats 8000000 in
theorem dig_im (w0 : World) (n : Int) (a : Option Addr) (m c : Nat) (l : List Nd) (hl : l.length = m) (hs : Nds w0 a l) (he : ordE n l = 0) (C D P Q : Nat) :
    ∀ (i : Nat) (p : Nat) (b : Nat → Bool) (f : Nat → Int) (w : World), (ordV n l)[i]? = some (p : Int) → Dw w0 w C D P Q (.slice a m c) (digV P Q C D) b f → (∀ k : Nat, Rch l p k → Gd (dp (degV n l)) b f k) →
      Calls Try.prog 77 #[.int .i64 p, .pointer (some ⟨P, 0, none⟩), .pointer (some ⟨Q, 0, none⟩), .pointer (some ⟨C, 0, none⟩), .pointer (some ⟨D, 0, none⟩)] w fun e w' => e = .returned (.int .i64 (dp (degV n l) p)) ∧ Hid (∃ b' f', Dw w0 w' C D P Q (.slice a m c) (digV P Q C D) b' f' ∧ Gr w w' P Q ∧ Dug l (dp (degV n l)) p b f b' f') := by
  obtain ⟨hmay, hst, hlen⟩ := ord_zero he
  obtain ⟨G, hG⟩ : ∃ G : Int → Int, dp (degV n l) = G := ⟨_, rfl⟩
  have HREC : Hid (∀ x, 1 ≤ x → x ≤ n → G x = mxA x G l ∧ 0 ≤ G x ∧ G x ≤ 64) := Lib.hid fun x h1 h2 => by
    rw [← hG]
    exact ⟨deg_rec he h1 h2, deg_64 he h1 h2⟩
  have HNO : Hid (∀ x, ¬ Lead l x x) := Lib.hid ((order_iff hmay).1 he)
  have HOK := Lib.hid hmay
  have HST := Lib.hid hst
  obtain ⟨o, ho⟩ : ∃ o, ordV n l = o := ⟨_, rfl⟩
  rw [hG, ho]
  rw [ho] at HST
  have HL := Lib.hid hl
  have HT := nds_at hs
  have hm1 : (m : Int) ≤ 256 := by have := hmay.2.1; omega
  clear hl hs he hmay hst hlen hG ho
  intro i
  induction i using Nat.strongRecOn with
  | _ i ih =>
    intro p b f w hp hd hg
    have HIH : Hid (∀ (t : Nd) (y : Nat) (b1 : Nat → Bool) (f1 : Nat → Int) (w1 : World), t ∈ l → t.a = (p : Int) → t.b = (y : Int) → Dw w0 w1 C D P Q (.slice a m c) (digV P Q C D) b1 f1 → (∀ k : Nat, Rch l y k → Gd G b1 f1 k) →
      Calls Try.prog 77 #[.int .i64 y, .pointer (some ⟨P, 0, none⟩), .pointer (some ⟨Q, 0, none⟩), .pointer (some ⟨C, 0, none⟩), .pointer (some ⟨D, 0, none⟩)] w1 fun e w' => e = .returned (.int .i64 (G y)) ∧ Hid (∃ b' f', Dw w0 w' C D P Q (.slice a m c) (digV P Q C D) b' f' ∧ Gr w1 w' P Q ∧ Dug l G y b1 f1 b' f')) := Lib.hid fun t y b1 f1 w1 ht ha hb h1 h2 => by
      have h5 := HST.out.behind i (p : Int) hp t ht ha
      obtain ⟨j, hj, hjx⟩ := List.getElem_of_mem h5
      rw [List.length_take] at hj
      rw [List.getElem_take] at hjx
      exact ih j (by omega) y b1 f1 w1 (by rw [← hb, ← hjx]; exact List.getElem?_eq_getElem (by omega)) h1 h2
    have hpb := HST.out.node (p : Int) (List.mem_of_getElem? hp)
    have HPB := Lib.hid hpb
    have hn64 := HOK.out.1.2
    have hp0 : (0 : Int) ≤ (p : Int) := by omega
    have hp65 : (p : Int) < 65 := by omega
    have HP65 : Hid (p < 65) := Lib.hid (by omega)
    have HD := Lib.hid hd
    have HG := Lib.hid hg
    obtain ⟨x0, x1⟩ := hd.kn p (by omega)
    obtain ⟨y0, y1⟩ := hd.de p (by omega)
    have c0 := hd.ev.atC
    cases hb : b p with
    | true =>
      have HF : Hid (f p = G p) := Lib.hid ((hg p (.inl rfl)).yes hb)
      rw [hb] at x0
      rw [HF.out] at y0
      have HE : Hid (∃ b' f', Dw w0 w C D P Q (.slice a m c) (digV P Q C D) b' f' ∧ Gr w w P Q ∧ Dug l G p b f b' f') := Lib.hid ⟨b, f, hd, Gr.refl _ _ _, hg, fun _ _ => ⟨rfl, rfl⟩, hb⟩
      obtain ⟨r, hr⟩ : ∃ r, G (p : Int) = r := ⟨_, rfl⟩
      rw [hr] at y0 ⊢
      clear ih hp hd hg hb hpb hn64 hr
      go_enter Try.func77, Try.ntmps77
      go_wp2_with fail
      go_ret
      exact ⟨rfl, HE⟩
    | false =>
      have HBG : Hid (Digs l G p b f 0 b f) := Lib.hid (Digs.begin hg hb)
      rw [hb] at x0
      clear ih hp hd hg hb hpb hn64
      go_enter Try.func77, Try.ntmps77
      go_wp2_with fail
      clear x0 x1 y0 y1 c0
      go_loopw [17] (fun s wr => ∃ (i : Nat) (b1 : Nat → Bool) (f1 : Nat → Int), s = .int .i64 i ∧ i ≤ m ∧ Hid (Dw w0 wr C D P Q (.slice a m c) (digV P Q C D) b1 f1 ∧ Gr w wr P Q) ∧ Hid (Digs l G p b f i b1 f1)) (fun s _ => m - (RowKit.intOf s).toNat)
      case atStart => exact ⟨0, b, f, rfl, by omega, Lib.hid ⟨HD.out, Gr.refl _ _ _⟩, HBG⟩
      case round =>
        clear HBG
        obtain ⟨i, b1, f1, rfl, hi, HR, HS⟩ := hrel
        have hi0 : (0 : Int) ≤ (i : Int) := by omega
        by_cases hlt : i < m
        · have hlt2 : (i : Int) < (m : Int) := by omega
          obtain ⟨g, off, t, rfl, ht, q0, q1⟩ := HT.out wr i HR.out.1.ev.below (by rw [HL.out]; exact hlt)
          obtain ⟨U, Y, hU, hY, u0, u1, HU⟩ := box_nd wr t
          have HRY : Hid (Dw w0 Y C D P Q (.slice (some ⟨g, off, none⟩) m c) (digV P Q C D) b1 f1 ∧ Gr w Y P Q) := Lib.hid ⟨HR.out.1.under HU.out.1, HR.out.2.trans (gr_below HU.out.1)⟩
          have hok := HOK.out.2.2 t (List.mem_of_getElem? ht.out)
          obtain ⟨y, hy⟩ := Int.eq_ofNat_of_zero_le (show 0 ≤ t.b by have := hok.2.1; omega)
          have HYB : Hid (t.b = (y : Int)) := Lib.hid hy
          have HYG := Lib.hid (HREC.out (y : Int) (by have := hok.2.1; omega) (by have := hok.2.2; omega))
          rw [hy] at q1 u1 hY
          have HUB : Hid (U ≠ P ∧ U ≠ Q ∧ U < Y.heap.size) := Lib.hid ⟨by have := HR.out.1.ev.hiP; omega, by have := HR.out.1.ev.hiQ; omega, by have := HU.out.2; omega⟩
          clear hok hy
          by_cases ca : t.a = (p : Int)
          · have ca2 : (t.a == (p : Int)) = true := by simpa using ca
            have HC : Hid (Calls Try.prog 77 #[.int .i64 y, .pointer (some ⟨P, 0, none⟩), .pointer (some ⟨Q, 0, none⟩), .pointer (some ⟨C, 0, none⟩), .pointer (some ⟨D, 0, none⟩)] Y.drew fun e w' => e = .returned (.int .i64 (G y)) ∧ Hid (∃ b' f', (Dw w0 w' C D P Q (.slice (some ⟨g, off, none⟩) m c) (digV P Q C D) b' f' ∧ Gr w w' P Q) ∧ Gr Y w' P Q ∧ Digs l G p b f i b' f')) := Lib.hid (by
              refine (HIH.out t y b1 f1 Y.drew (List.mem_of_getElem? ht.out) ca HYB.out (HRY.out.1.under (Below.refl _ _).drew) (HS.out.pre (List.mem_of_getElem? ht.out) ca HYB.out)).mono ?_
              rintro e w' ⟨rfl, H⟩
              obtain ⟨b', f', k1, k2, k3⟩ := H.out
              have hgr := (gr_drew Y P Q).trans k2
              exact ⟨rfl, Lib.hid ⟨b', f', ⟨k1, HRY.out.2.trans hgr⟩, hgr, (HS.out.dug HNO.out (List.mem_of_getElem? ht.out) ca HYB.out k3).1⟩⟩)
            obtain ⟨v, hv⟩ : ∃ v, mxA (p : Int) G (l.take i) = v := ⟨_, rfl⟩
            obtain ⟨z, hz⟩ : ∃ z, G (y : Int) = z := ⟨_, rfl⟩
            have HZ := Lib.hid hz
            have z0 : 0 ≤ z ∧ z ≤ 64 := by rw [← hz]; exact HYG.out.2
            obtain ⟨z1, hz1⟩ : ∃ z1, z + 1 = z1 := ⟨_, rfl⟩
            have wz : IntKind.i64.wrap (z + 1) = z1 := by rw [hz1]; exact IntWalk.i64_in _ (by omega)
            have wz3 : IntKind.i64.wrap z1 = z1 := IntWalk.i64_in _ (by omega)
            have wz2 : wrap64 z1 = z1 := IntWalk.wrap64_in _ (by omega)
            obtain ⟨M, hM⟩ : ∃ M, max v z1 = M := ⟨_, rfl⟩
            have hM2 : (if v < z1 then z1 else v) = M := by rw [← hM]; split <;> omega
            have HMX : Hid (max (mxA (p : Int) G (l.take i)) (G (y : Int) + 1) = M) := Lib.hid (by rw [hv, hz, hz1, hM])
            have HV : Hid (f1 p = v) := Lib.hid (by rw [HS.out.now.2, hv])
            obtain ⟨y0, y1⟩ := HRY.out.1.de p HP65.out
            rw [HV.out] at y0
            have d0 := HRY.out.1.ev.atD
            have HST2 : Hid (∀ w' b2 f2, (Dw w0 w' C D P Q (.slice (some ⟨g, off, none⟩) m c) (digV P Q C D) b2 f2 ∧ Gr w w' P Q) → Digs l G p b f i b2 f2 → (Dw w0 (w'.setCell ⟨Q, p, none⟩ (.int .i64 M)) C D P Q (.slice (some ⟨g, off, none⟩) m c) (digV P Q C D) b2 (up f2 p M) ∧ Gr w (w'.setCell ⟨Q, p, none⟩ (.int .i64 M)) P Q) ∧ Digs l G p b f (i + 1) b2 (up f2 p M)) := Lib.hid fun w' b2 f2 h1 h2 => by
              refine ⟨⟨h1.1.setI p M, h1.2.trans (gr_setQ _ _ _ _ _)⟩, ?_⟩
              have := h2.step HNO.out ht.out ca HYB.out (HYG.out.2.1)
              rw [HMX.out] at this
              exact this
            rw [hz] at HC
            have HW : Hid (∀ w', Gr Y w' P Q → w'.cell? ⟨D, 0, none⟩ = some (digV P Q C D) ∧ w'.cell? ⟨U, 1, none⟩ = some (.int .i64 (y : Int))) := Lib.hid fun w' h => ⟨(h.cell 0 HRY.out.1.ev.hiD HRY.out.1.ev.neD.1 HRY.out.1.ev.neD.2).trans d0, (h.cell 1 HUB.out.2.2 HUB.out.1 HUB.out.2.1).trans u1⟩
            have HVV : Hid (∀ w' b2 f2, Dw w0 w' C D P Q (.slice (some ⟨g, off, none⟩) m c) (digV P Q C D) b2 f2 → Digs l G p b f i b2 f2 → w'.cell? ⟨Q, p, none⟩ = some (.int .i64 v) ∧ w'.frozen? ⟨Q, p, none⟩ = false) := Lib.hid fun w' b2 f2 h1 h2 => by
              obtain ⟨k0, k1⟩ := h1.de p HP65.out
              rw [h2.now.2, hv] at k0
              exact ⟨k0, k1⟩
            have D0 : Gr Y Y.drew P Q := gr_drew Y P Q
            clear ca hv hz z0 D0
            go_wp2_with fail
            clear hY hU q0 q1
            go_region_with (go_at_call 77; refine HC.out.mono ?_; rintro e w6 ⟨rfl, H6⟩; obtain ⟨b2, f2, K1, D1, K2⟩ : ∃ b2 f2, Hid (Dw w0 w6 C D P Q (.slice (some ⟨g, off, none⟩) m c) (digV P Q C D) b2 f2 ∧ Gr w w6 P Q) ∧ Hid (Gr Y w6 P Q) ∧ Hid (Digs l G p b f i b2 f2) := (by obtain ⟨b2, f2, K1, D1, K2⟩ := H6.out; exact ⟨b2, f2, Lib.hid K1, Lib.hid D1, Lib.hid K2⟩); obtain ⟨o0, o1⟩ := HVV.out w6 b2 f2 K1.out.1 K2.out)
            all_goals
              go_wp2_with fail
              go_roundw
              case rel => exact ⟨i + 1, b2, up f2 p M, by go_num, by omega, Lib.hid (HST2.out _ _ _ K1.out K2.out).1, Lib.hid (HST2.out _ _ _ K1.out K2.out).2⟩
              case measure => simp [RowKit.intOf]; omega
          · have ca2 : (t.a == (p : Int)) = false := by simpa using ca
            have HS2 := Lib.hid (HS.out.skip ht.out ca)
            clear ca
            go_wp2_with fail
            clear hY hU
            go_roundw
            case rel => exact ⟨i + 1, b1, f1, by go_num, by omega, HRY, HS2⟩
            case measure => simp [RowKit.intOf]; omega
        · obtain rfl : i = m := by omega
          have hEND := HS.out
          rw [← HL.out] at hEND
          obtain ⟨e1, e2⟩ := hEND.end HNO.out (HREC.out p HPB.out.1 HPB.out.2).1
          have HE1 := Lib.hid e1
          obtain ⟨x0, x1⟩ := HR.out.1.kn p HP65.out
          have y0 := ((HR.out.1.setB p true).de p HP65.out).1
          rw [e2] at y0
          obtain ⟨r, hr⟩ : ∃ r, G (p : Int) = r := ⟨_, rfl⟩
          have HRR := Lib.hid hr
          rw [hr] at y0
          have HF : Hid (∃ b' f', Dw w0 (wr.setCell ⟨P, p, none⟩ (.bool true)) C D P Q (.slice a i c) (digV P Q C D) b' f' ∧ Gr w (wr.setCell ⟨P, p, none⟩ (.bool true)) P Q ∧ Dug l G p b f b' f') := Lib.hid ⟨_, f1, HR.out.1.setB p true, HR.out.2.trans (gr_setP _ _ _ _ _), HE1.out⟩
          clear hEND e1 e2 hr
          go_wp2_with fail
          go_ret
          exact ⟨by rw [HRR.out]; rfl, HF⟩
end Go.Proofs.Ytdbhdlgoecpeaaa.Graph.Im
namespace Go.Proofs.Ytdbhdlgoecpeaaa.Graph.Im
open Go.RowKit Go.Lib

theorem info_seen : (Try.prog.info? 105).map (fun i => (i.zero, i.size)) = some (some (.agg (Array.replicate 65 (.bool false))), 65) := by kernel_rfl
end Go.Proofs.Ytdbhdlgoecpeaaa.Graph.Im
namespace Go.Proofs.Ytdbhdlgoecpeaaa.Graph.Im
open Go.RowKit Go.Lib IRows

theorem rch_in {n : Int} {l : List Nd} {x y : Int} (hm : May n l) (hx : 1 ≤ x ∧ x ≤ n) (h : Rch l x y) : 1 ≤ y ∧ y ≤ n := by
  rcases h with rfl | h
  · exact hx
  · exact lead_in hm h
theorem dp_at {D : List Int} {j : Nat} (h : j < D.length) : D[j]? = some (dp D ((j : Int) + 1)) := by
  unfold dp
  rw [List.getD_eq_getElem?_getD, show ((j : Int) + 1 - 1).toNat = j by omega, List.getElem?_eq_getElem h]
  rfl
/-- What is known is right, of all nodes. -/
def Fit (n : Int) (G : Int → Int) (b : Nat → Bool) (f : Nat → Int) : Prop := ∀ k : Nat, 1 ≤ (k : Int) → (k : Int) ≤ n → Gd G b f k
theorem Fit.dug {n : Int} {l : List Nd} {G : Int → Int} {p : Nat} {b b' : Nat → Bool} {f f' : Nat → Int} (h : Fit n G b f) (k : Dug l G p b f b' f') : Fit n G b' f' := fun i h1 h2 => by
  by_cases e : Rch l p i
  · exact k.good i e
  · obtain ⟨e1, e2⟩ := k.same i e
    have := h i h1 h2
    exact ⟨fun hh => by rw [e2]; exact this.yes (by rw [← e1]; exact hh), fun hh => by rw [e2]; exact this.no (by rw [← e1]; exact hh)⟩
theorem ks_gr {W W' : World} {P Q B : Nat} {v : Value} {l : List Int} (h : KS W B v l) (g : Gr W W' P Q) (hP : P < B) (hQ : Q < B) : KS W' B v l := h.moved fun k hk => by
  obtain ⟨h1, h2⟩ := h.lt k hk
  exact g.block k h2 (by omega) (by omega)
theorem kcell {W W' : World} {K : Nat} (hb : Below K W W') {b : Nat} (h : b < K) (o : Nat) : W'.cell? ⟨b, o, none⟩ = W.cell? ⟨b, o, none⟩ ∧ W'.frozen? ⟨b, o, none⟩ = W.frozen? ⟨b, o, none⟩ := by
  have e := hb.block b h
  unfold World.cell? World.frozen?
  simp only [e]
  exact ⟨trivial, trivial⟩
theorem Dw.app {w0 W W' : World} {C D P Q K : Nat} {s f : Value} {b : Nat → Bool} {g : Nat → Int} (h : Dw w0 W C D P Q s f b g) (hb : Below K W W') (hC : C < K) (hD : D < K) (hP : P < K) (hQ : Q < K) : Dw w0 W' C D P Q s f b g := by
  have e := h.ev
  have hz := hb.size
  refine ⟨⟨e.below.trans (hb.mono (by have := e.loP; omega)), e.loP, e.loQ, by have := e.hiP; omega, by have := e.hiQ; omega, by have := e.hiC; omega, by have := e.hiD; omega, e.neC, e.neD, (kcell hb hC 0).1.trans e.atC, (kcell hb hD 0).1.trans e.atD⟩, fun i hi => ?_, fun i hi => ?_, h.ne⟩
  · exact ⟨(kcell hb hP i).1.trans (h.kn i hi).1, (kcell hb hP i).2.trans (h.kn i hi).2⟩
  · exact ⟨(kcell hb hQ i).1.trans (h.de i hi).1, (kcell hb hQ i).2.trans (h.de i hi).2⟩
open Classical in
set_option maxRecDepth 100000 in
set_option maxHeartbeats 8000000 in
theorem deep_im (n : Int) (a : Option Addr) (m c : Nat) (l : List Nd) (w : World) (hl : l.length = m) (hs : Nds w a l) (hm : m ≤ 1000) :
    Calls Try.prog 56 #[.int .i64 n, .slice a m c] w fun e w' => ∃ a' m' c', e = .returned (.tuple #[.slice a' m' c', .int .i64 (ordE n l)]) ∧ Hid ((degV n l).length = m' ∧ KS w' w.heap.size (.slice a' m' c') (degV n l) ∧ Below w.heap.size w w') := by
  obtain ⟨C, hC⟩ : ∃ C, w.heap.size = C := ⟨_, rfl⟩
  obtain ⟨W1, hW1⟩ : ∃ W1, w.alloc (.cells #[.slice a m c] 94) = W1 := ⟨_, rfl⟩
  have hb1 : Below w.heap.size w W1 := by rw [← hW1]; exact (Below.refl _ w).alloc (Nat.le_refl _) _
  have c0 : W1.cell? ⟨C, 0, none⟩ = some (.slice a m c) := by rw [← hW1, ← hC]; exact cell_block (heap_alloc_new w _) rfl
  have HS1 : Hid (C < W1.heap.size ∧ w.heap.size = C) := Lib.hid ⟨by rw [← hW1, ← hC]; simp, hC⟩
  have HB1 := Lib.hid hb1
  have HO := Lib.hid (order_im n a m c l W1 hl (hs.under hb1) (by omega))
  by_cases he : ordE n l = 0
  case neg =>
    obtain ⟨er, her⟩ : ∃ er, ordE n l = er := ⟨_, rfl⟩
    have HD : Hid (degV n l = []) := Lib.hid (by unfold degV; rw [if_neg he])
    rw [her] at HO he
    rw [her]
    have n1 : (er == 0) = false := by simpa using he
    have n2 : (er != 0) = true := by simpa using he
    clear hl hs hm her hb1
    go_enter Try.func56, Try.ntmps56
    go_wp2_with fail
    clear hW1 hC
    refine HO.out.mono ?_
    rintro e w1 ⟨a1, j, c1, rfl, H1⟩
    go_wp2_with fail
    go_ret2
    exact ⟨none, 0, 0, rfl, Lib.hid (by rw [HD.out]; exact ⟨rfl, ks_nil _ _, below_then HB1.out H1.out.2.2⟩)⟩
  obtain ⟨hok, hst, hol⟩ := ord_zero he
  have HE := Lib.hid he
  obtain ⟨N, rfl⟩ := Int.eq_ofNat_of_zero_le hok.1.1
  have hN : N ≤ 64 := by have := hok.1.2; omega
  have hN2 : (N : Int) ≤ 64 := by omega
  have HLEN : Hid ((degV N l).length = N) := Lib.hid (by rw [degV_len he]; omega)
  have HALL : Hid (∀ p : Nat, 1 ≤ p → p ≤ N → ∃ i : Nat, (ordV N l)[i]? = some (p : Int)) := Lib.hid fun p h1 h2 => by
    obtain ⟨i, hi, e⟩ := List.mem_iff_getElem.1 (stands_all hst hol (show 1 ≤ (p : Int) by omega) (by omega))
    exact ⟨i, by rw [List.getElem?_eq_getElem hi, e]⟩
  have HOK := Lib.hid hok
  have HL := Lib.hid hl
  have HNS := Lib.hid hs
  rw [he] at HO ⊢
  have hz := (zero_of_info info_seen).1
  obtain ⟨Z, hZ⟩ : ∃ Z, (Array.replicate 65 (.bool false) : Array Value) = Z := ⟨_, rfl⟩
  rw [hZ] at hz
  have HZ := Lib.hid hZ
  have hzi := (zero_of_info info_arr).1
  obtain ⟨ZI, hZI⟩ : ∃ ZI, (Array.replicate 65 (.int .i64 0) : Array Value) = ZI := ⟨_, rfl⟩
  rw [hZI] at hzi
  have HZI := Lib.hid hZI
  clear hl hs hm hok hst hol he hb1 hZ hZI
  go_enter Try.func56, Try.ntmps56
  go_wp2_with fail
  clear hW1 hC
  refine HO.out.mono ?_
  rintro e w2 ⟨a1, j1, c1, rfl, H1⟩
  have HB2 := Lib.hid H1.out.2.2
  obtain ⟨P, W3, hP, hW3, H3⟩ := box_row w2 Z 105
  obtain ⟨Q, W4, hQ, hW4, H4⟩ := box_row W3 ZI 107
  obtain ⟨D, W5, hD, hW5, n0, n1, H5⟩ := box_fn W4 108
  have HSZ : Hid (w.heap.size = C ∧ C < W1.heap.size ∧ W1.heap.size ≤ w2.heap.size ∧ w2.heap.size = P ∧ Q = P + 1 ∧ D = P + 2 ∧ W3.heap.size = P + 1 ∧ W4.heap.size = P + 2 ∧ W5.heap.size = P + 3) := Lib.hid (by
    have := H3.out.2.1; have := H4.out.2.1; have := H5.out.2; have := HS1.out; have := HB2.out.size
    omega)
  have HW5 : Hid (Below w2.heap.size w2 W5) := Lib.hid (below_then (below_then H3.out.1 H4.out.1) H5.out.1)
  have HW6 : Hid (Dw w (W5.setCell ⟨D, 0, none⟩ (digV P Q C D)) C D P Q (.slice a m c) (digV P Q C D) (fun _ => false) (fun _ => 0)) := Lib.hid (by
    have hz := HSZ.out
    have hs6 : (W5.setCell ⟨D, 0, none⟩ (digV P Q C D)).heap.size = W5.heap.size := by simp [World.setCell]
    have hb6 : Below w2.heap.size W5 (W5.setCell ⟨D, 0, none⟩ (digV P Q C D)) := (set_below W5 D 0 (digV P Q C D)).mono (by omega)
    have hb26 : Below w2.heap.size w2 (W5.setCell ⟨D, 0, none⟩ (digV P Q C D)) := HW5.out.trans hb6
    refine ⟨⟨below_then (below_then HB1.out HB2.out) hb26, by omega, by omega, by omega, by omega, by omega, by omega, ⟨by omega, by omega⟩, ⟨by omega, by omega⟩, ?_, ?_⟩, fun i hi => ?_, fun i hi => ?_, by omega⟩
    · exact ((bcell (below_then HB2.out hb26)).1 C 0 HS1.out.1).trans c0
    · exact World.cell?_setCell_same (h := n0) ..
    · obtain ⟨k0, k1⟩ := H3.out.2.2 i (.bool false) (by rw [← HZ.out, Array.getElem?_replicate, if_pos hi])
      have h35 := below_then H4.out.1 H5.out.1
      rw [World.frozen?_setCell, World.cell?_setCell_other (h := addr_ne (.inl (by omega)))]
      exact ⟨((bcell h35).1 P i (by omega)).trans k0, ((bcell h35).2 P i (by omega)).trans k1⟩
    · obtain ⟨k0, k1⟩ := H4.out.2.2 i (.int .i64 0) (by rw [← HZI.out, Array.getElem?_replicate, if_pos hi])
      rw [World.frozen?_setCell, World.cell?_setCell_other (h := addr_ne (.inl (by omega)))]
      exact ⟨((bcell H5.out.1).1 Q i (by omega)).trans k0, ((bcell H5.out.1).2 Q i (by omega)).trans k1⟩)
  have hsf := run_fn Try.prog W5 D (digV P Q C D) rfl n0 n1
  obtain ⟨G, hG⟩ : ∃ G : Int → Int, dp (degV N l) = G := ⟨_, rfl⟩
  have HGE := Lib.hid hG
  have HC : Hid (∀ (p : Nat) b f W, 1 ≤ p → p ≤ N → Dw w W C D P Q (.slice a m c) (digV P Q C D) b f → Fit N G b f → Calls Try.prog 77 #[.int .i64 p, .pointer (some ⟨P, 0, none⟩), .pointer (some ⟨Q, 0, none⟩), .pointer (some ⟨C, 0, none⟩), .pointer (some ⟨D, 0, none⟩)] W fun e w' => e = .returned (.int .i64 (G p)) ∧ Hid (∃ b' f', Dw w w' C D P Q (.slice a m c) (digV P Q C D) b' f' ∧ Fit N G b' f' ∧ Gr W w' P Q)) := Lib.hid fun p b f W h1 h2 h3 h4 => by
    obtain ⟨i, hi⟩ := HALL.out p h1 h2
    have := dig_im w N a m c l HL.out HNS.out HE.out C D P Q i p b f W hi h3 (by
      rw [hG]
      intro k hk
      have := rch_in HOK.out (show 1 ≤ (p : Int) ∧ (p : Int) ≤ N by omega) hk
      exact h4 k this.1 this.2)
    rw [hG] at this
    refine this.mono ?_
    rintro e w' ⟨rfl, H⟩
    obtain ⟨b', f', k1, k2, k3⟩ := H.out
    exact ⟨rfl, Lib.hid ⟨b', f', k1, h4.dug k3, k2⟩⟩
  clear hG
  go_wp2_with fail
  clear hW3 hW4 hW5 hP hQ hD n0 n1 hz hzi hsf
  go_loopw [11, 12] (fun v t wr => ∃ (a2 : Option Addr) (j2 c2 : Nat) (o : List Int) (b : Nat → Bool) (f : Nat → Int), v = .slice a2 j2 c2 ∧ t = .int .i64 ((j2 : Int) + 1) ∧ j2 ≤ N ∧ Hid (o.length = j2 ∧ KS wr (D + 1) (.slice a2 j2 c2) o) ∧ Hid (Dw w wr C D P Q (.slice a m c) (digV P Q C D) b f ∧ Fit N G b f) ∧ Hid (o = (degV N l).take j2)) (fun _ t _ => N + 1 - (RowKit.intOf t).toNat)
  case atStart => exact ⟨none, 0, 0, [], _, _, rfl, rfl, by omega, Lib.hid ⟨rfl, ks_nil _ _⟩, Lib.hid ⟨HW6.out, fun k _ _ => ⟨fun h => (by cases h), fun _ => rfl⟩⟩, Lib.hid rfl⟩
  case round =>
    clear HW6
    obtain ⟨a2, j2, c2, o, b, f, rfl, rfl, hj, HO2, HS, HF⟩ := hrel
    have hj0 : (0 : Int) ≤ (j2 : Int) := by omega
    by_cases hjl : j2 < N
    · have d1 : decide ((j2 : Int) + 1 ≤ (N : Int)) = true := decide_eq_true (by omega)
      have wj : IntKind.i64.wrap ((j2 : Int) + 1 + 1) = (j2 : Int) + 1 + 1 := IntWalk.i64_in _ (by omega)
      have wj2 : IntKind.i64.wrap ((j2 : Int) + 1) = (j2 : Int) + 1 := IntWalk.i64_in _ (by omega)
      have d0 := HS.out.1.ev.atD
      have HC1 := Lib.hid (HC.out (j2 + 1) b f wr (by omega) (by omega) HS.out.1 HS.out.2)
      have hcast : ((j2 + 1 : Nat) : Int) = (j2 : Int) + 1 := by omega
      rw [hcast] at HC1
      clear hcast
      obtain ⟨z, hz⟩ : ∃ z, G ((j2 : Int) + 1) = z := ⟨_, rfl⟩
      have HF2 : Hid (o ++ [z] = (degV N l).take (j2 + 1)) := Lib.hid (by
        rw [List.take_add_one, dp_at (by rw [HLEN.out]; exact hjl), HGE.out, hz, ← HF.out]
        rfl)
      rw [hz] at HC1
      clear hz
      go_wp2_with fail
      refine HC1.out.mono ?_
      rintro e w6 ⟨rfl, H6⟩
      obtain ⟨b2, f2, a3, c3, W7, HRUN, HO3, HS3⟩ : ∃ b2 f2 a3 c3 W7, Hid ((Builtin.append_ #[29, 29] 29 #[.slice a2 j2 c2, .slice (some ⟨w6.heap.size, 0, none⟩) 1 1]).run Try.prog (w6.alloc (.cells #[.int .i64 z] 3)) = .ok (.slice a3 (j2 + 1) c3) W7) ∧ Hid ((o ++ [z]).length = j2 + 1 ∧ KS W7 (D + 1) (.slice a3 (j2 + 1) c3) (o ++ [z])) ∧ Hid (Dw w W7 C D P Q (.slice a m c) (digV P Q C D) b2 f2 ∧ Fit N G b2 f2) := by
        obtain ⟨b2, f2, k1, k2, k3⟩ := H6.out
        have hz := HSZ.out
        obtain ⟨a3, c3, W7, h1, h2, h3, h4⟩ := app1 z HO2.out.1 (ks_gr HO2.out.2 k3 (by omega) (by omega)) (by omega) (by have := k1.ev.hiD; omega)
        exact ⟨b2, f2, a3, c3, W7, h1, Lib.hid ⟨h2, h3⟩, Lib.hid ⟨k1.app h4 (by omega) (by omega) (by omega) (by omega), k2⟩⟩
      clear H6 d0
      go_wp2_with (at_builtin; refine walk_run (v' := .slice a3 (j2 + 1) c3) (w' := W7) rfl _ _ _ _ rfl _ _ rfl rfl HRUN.out ?_)
      go_roundw
      case rel => exact ⟨a3, j2 + 1, c3, o ++ [z], b2, f2, rfl, by go_num, by omega, HO3, HS3, HF2⟩
      case measure => simp [RowKit.intOf]; omega
    · obtain rfl : j2 = N := by omega
      have d1 : decide ((j2 : Int) + 1 ≤ (j2 : Int)) = false := decide_eq_false (by omega)
      have HE : Hid ((degV j2 l).length = j2 ∧ KS wr w.heap.size (.slice a2 j2 c2) (degV j2 l) ∧ Below w.heap.size w wr) := Lib.hid (by
        have h := HF.out
        rw [List.take_of_length_le (by rw [HLEN.out]; exact Nat.le_refl _)] at h
        have hz := HSZ.out
        rw [← h]
        exact ⟨HO2.out.1, ks_low HO2.out.2 (by omega), HS.out.1.ev.below⟩)
      go_wp2_with fail
      go_ret2
      exact ⟨a2, j2, c2, rfl, HE⟩
end Go.Proofs.Ytdbhdlgoecpeaaa.Graph.Im
