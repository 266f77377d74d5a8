/- The program's Deep: the whole. The program's Check of a catalogue: numbers, blueprints, bays, and how deep types stand. -/
import Derived.Test.YtohlkaoophbinaaZGraphDeeper
import Derived.Test.YtohlkaoophbinaaZCatImA
import Derived.Test.YtohlkaoophbinaaZRecImCk
namespace Go.Proofs.Ytohlkaoophbinaa.Graph.Im
open Go.RowKit Go.Lib IRows

theorem rch_in {n : Int} {l : List Nd} {x y : Int} (hm : May n l) (hx : 1 ≤ x ∧ x ≤ n) (h : Rch l x y) : 1 ≤ y ∧ y ≤ n := by
  rcases h with rfl | h
  · exact hx
  · exact lead_in hm h
theorem dp_at {D : List Int} {j : Nat} (h : j < D.length) : D[j]? = some (dp D ((j : Int) + 1)) := by
  unfold dp
  rw [List.getD_eq_getElem?_getD, show ((j : Int) + 1 - 1).toNat = j by omega, List.getElem?_eq_getElem h]
  rfl
/-- What is known is right, of all nodes. -/
def Fit (n : Int) (G : Int → Int) (b : Nat → Bool) (f : Nat → Int) : Prop := ∀ k : Nat, 1 ≤ (k : Int) → (k : Int) ≤ n → Gd G b f k
theorem Fit.dug {n : Int} {l : List Nd} {G : Int → Int} {p : Nat} {b b' : Nat → Bool} {f f' : Nat → Int} (h : Fit n G b f) (k : Dug l G p b f b' f') : Fit n G b' f' := fun i h1 h2 => by
  by_cases e : Rch l p i
  · exact k.good i e
  · obtain ⟨e1, e2⟩ := k.same i e
    have := h i h1 h2
    exact ⟨fun hh => by rw [e2]; exact this.yes (by rw [← e1]; exact hh), fun hh => by rw [e2]; exact this.no (by rw [← e1]; exact hh)⟩
theorem ks_gr {W W' : World} {P Q B : Nat} {v : Value} {l : List Int} (h : KS W B v l) (g : Gr W W' P Q) (hP : P < B) (hQ : Q < B) : KS W' B v l := h.moved fun k hk => by
  obtain ⟨h1, h2⟩ := h.lt k hk
  exact g.block k h2 (by omega) (by omega)
theorem kcell {W W' : World} {K : Nat} (hb : Below K W W') {b : Nat} (h : b < K) (o : Nat) : W'.cell? ⟨b, o, none⟩ = W.cell? ⟨b, o, none⟩ ∧ W'.frozen? ⟨b, o, none⟩ = W.frozen? ⟨b, o, none⟩ := by
  have e := hb.block b h
  unfold World.cell? World.frozen?
  simp only [e]
  exact ⟨trivial, trivial⟩
theorem Dw.app {w0 W W' : World} {C D P Q K : Nat} {s f : Value} {b : Nat → Bool} {g : Nat → Int} (h : Dw w0 W C D P Q s f b g) (hb : Below K W W') (hC : C < K) (hD : D < K) (hP : P < K) (hQ : Q < K) : Dw w0 W' C D P Q s f b g := by
  have e := h.ev
  have hz := hb.size
  refine ⟨⟨e.below.trans (hb.mono (by have := e.loP; omega)), e.loP, e.loQ, by have := e.hiP; omega, by have := e.hiQ; omega, by have := e.hiC; omega, by have := e.hiD; omega, e.neC, e.neD, (kcell hb hC 0).1.trans e.atC, (kcell hb hD 0).1.trans e.atD⟩, fun i hi => ?_, fun i hi => ?_, h.ne⟩
  · exact ⟨(kcell hb hP i).1.trans (h.kn i hi).1, (kcell hb hP i).2.trans (h.kn i hi).2⟩
  · exact ⟨(kcell hb hQ i).1.trans (h.de i hi).1, (kcell hb hQ i).2.trans (h.de i hi).2⟩
open Classical in
set_option maxRecDepth 100000 in
set_option maxHeartbeats 8000000 in
theorem deep_im (n : Int) (a : Option Addr) (m c : Nat) (l : List Nd) (w : World) (hl : l.length = m) (hs : Nds w a l) (hm : m ≤ 1000) :
    Calls Try.prog 72 #[.int .i64 n, .slice a m c] w fun e w' => ∃ a' m' c', e = .returned (.tuple #[.slice a' m' c', .int .i64 (ordE n l)]) ∧ Hid ((degV n l).length = m' ∧ KS w' w.heap.size (.slice a' m' c') (degV n l) ∧ Below w.heap.size w w') := by
  obtain ⟨C, hC⟩ : ∃ C, w.heap.size = C := ⟨_, rfl⟩
  obtain ⟨W1, hW1⟩ : ∃ W1, w.alloc (.cells #[.slice a m c] 93) = W1 := ⟨_, rfl⟩
  have hb1 : Below w.heap.size w W1 := by rw [← hW1]; exact (Below.refl _ w).alloc (Nat.le_refl _) _
  have c0 : W1.cell? ⟨C, 0, none⟩ = some (.slice a m c) := by rw [← hW1, ← hC]; exact cell_block (heap_alloc_new w _) rfl
  have HS1 : Hid (C < W1.heap.size ∧ w.heap.size = C) := Lib.hid ⟨by rw [← hW1, ← hC]; simp, hC⟩
  have HB1 := Lib.hid hb1
  have HO := Lib.hid (order_im n a m c l W1 hl (hs.under hb1) (by omega))
  by_cases he : ordE n l = 0
  case neg =>
    obtain ⟨er, her⟩ : ∃ er, ordE n l = er := ⟨_, rfl⟩
    have HD : Hid (degV n l = []) := Lib.hid (by unfold degV; rw [if_neg he])
    rw [her] at HO he
    rw [her]
    have n1 : (er == 0) = false := by simpa using he
    have n2 : (er != 0) = true := by simpa using he
    clear hl hs hm her hb1
    go_enter Try.func72, Try.ntmps72
    go_wp2_with fail
    clear hW1 hC
    refine HO.out.mono ?_
    rintro e w1 ⟨a1, j, c1, rfl, H1⟩
    go_wp2_with fail
    go_ret2
    exact ⟨none, 0, 0, rfl, Lib.hid (by rw [HD.out]; exact ⟨rfl, ks_nil _ _, below_then HB1.out H1.out.2.2⟩)⟩
  obtain ⟨hok, hst, hol⟩ := ord_zero he
  have HE := Lib.hid he
  obtain ⟨N, rfl⟩ := Int.eq_ofNat_of_zero_le hok.1.1
  have hN : N ≤ 64 := by have := hok.1.2; omega
  have hN2 : (N : Int) ≤ 64 := by omega
  have HLEN : Hid ((degV N l).length = N) := Lib.hid (by rw [degV_len he]; omega)
  have HALL : Hid (∀ p : Nat, 1 ≤ p → p ≤ N → ∃ i : Nat, (ordV N l)[i]? = some (p : Int)) := Lib.hid fun p h1 h2 => by
    obtain ⟨i, hi, e⟩ := List.mem_iff_getElem.1 (stands_all hst hol (show 1 ≤ (p : Int) by omega) (by omega))
    exact ⟨i, by rw [List.getElem?_eq_getElem hi, e]⟩
  have HOK := Lib.hid hok
  have HL := Lib.hid hl
  have HNS := Lib.hid hs
  rw [he] at HO ⊢
  have hz := (zero_of_info info_seen).1
  obtain ⟨Z, hZ⟩ : ∃ Z, (Array.replicate 65 (.bool false) : Array Value) = Z := ⟨_, rfl⟩
  rw [hZ] at hz
  have HZ := Lib.hid hZ
  have hzi := (zero_of_info info_arr).1
  obtain ⟨ZI, hZI⟩ : ∃ ZI, (Array.replicate 65 (.int .i64 0) : Array Value) = ZI := ⟨_, rfl⟩
  rw [hZI] at hzi
  have HZI := Lib.hid hZI
  clear hl hs hm hok hst hol he hb1 hZ hZI
  go_enter Try.func72, Try.ntmps72
  go_wp2_with fail
  clear hW1 hC
  refine HO.out.mono ?_
  rintro e w2 ⟨a1, j1, c1, rfl, H1⟩
  have HB2 := Lib.hid H1.out.2.2
  obtain ⟨P, W3, hP, hW3, H3⟩ := box_row w2 Z 118
  obtain ⟨Q, W4, hQ, hW4, H4⟩ := box_row W3 ZI 110
  obtain ⟨D, W5, hD, hW5, n0, n1, H5⟩ := box_fn W4 119
  have HSZ : Hid (w.heap.size = C ∧ C < W1.heap.size ∧ W1.heap.size ≤ w2.heap.size ∧ w2.heap.size = P ∧ Q = P + 1 ∧ D = P + 2 ∧ W3.heap.size = P + 1 ∧ W4.heap.size = P + 2 ∧ W5.heap.size = P + 3) := Lib.hid (by
    have := H3.out.2.1; have := H4.out.2.1; have := H5.out.2; have := HS1.out; have := HB2.out.size
    omega)
  have HW5 : Hid (Below w2.heap.size w2 W5) := Lib.hid (below_then (below_then H3.out.1 H4.out.1) H5.out.1)
  have HW6 : Hid (Dw w (W5.setCell ⟨D, 0, none⟩ (digV P Q C D)) C D P Q (.slice a m c) (digV P Q C D) (fun _ => false) (fun _ => 0)) := Lib.hid (by
    have hz := HSZ.out
    have hs6 : (W5.setCell ⟨D, 0, none⟩ (digV P Q C D)).heap.size = W5.heap.size := by simp [World.setCell]
    have hb6 : Below w2.heap.size W5 (W5.setCell ⟨D, 0, none⟩ (digV P Q C D)) := (set_below W5 D 0 (digV P Q C D)).mono (by omega)
    have hb26 : Below w2.heap.size w2 (W5.setCell ⟨D, 0, none⟩ (digV P Q C D)) := HW5.out.trans hb6
    refine ⟨⟨below_then (below_then HB1.out HB2.out) hb26, by omega, by omega, by omega, by omega, by omega, by omega, ⟨by omega, by omega⟩, ⟨by omega, by omega⟩, ?_, ?_⟩, fun i hi => ?_, fun i hi => ?_, by omega⟩
    · exact ((bcell (below_then HB2.out hb26)).1 C 0 HS1.out.1).trans c0
    · exact World.cell?_setCell_same (h := n0) ..
    · obtain ⟨k0, k1⟩ := H3.out.2.2 i (.bool false) (by rw [← HZ.out, Array.getElem?_replicate, if_pos hi])
      have h35 := below_then H4.out.1 H5.out.1
      rw [World.frozen?_setCell, World.cell?_setCell_other (h := addr_ne (.inl (by omega)))]
      exact ⟨((bcell h35).1 P i (by omega)).trans k0, ((bcell h35).2 P i (by omega)).trans k1⟩
    · obtain ⟨k0, k1⟩ := H4.out.2.2 i (.int .i64 0) (by rw [← HZI.out, Array.getElem?_replicate, if_pos hi])
      rw [World.frozen?_setCell, World.cell?_setCell_other (h := addr_ne (.inl (by omega)))]
      exact ⟨((bcell H5.out.1).1 Q i (by omega)).trans k0, ((bcell H5.out.1).2 Q i (by omega)).trans k1⟩)
  have hsf := run_fn Try.prog W5 D (digV P Q C D) rfl n0 n1
  obtain ⟨G, hG⟩ : ∃ G : Int → Int, dp (degV N l) = G := ⟨_, rfl⟩
  have HGE := Lib.hid hG
  have HC : Hid (∀ (p : Nat) b f W, 1 ≤ p → p ≤ N → Dw w W C D P Q (.slice a m c) (digV P Q C D) b f → Fit N G b f → Calls Try.prog 92 #[.int .i64 p, .pointer (some ⟨P, 0, none⟩), .pointer (some ⟨Q, 0, none⟩), .pointer (some ⟨C, 0, none⟩), .pointer (some ⟨D, 0, none⟩)] W fun e w' => e = .returned (.int .i64 (G p)) ∧ Hid (∃ b' f', Dw w w' C D P Q (.slice a m c) (digV P Q C D) b' f' ∧ Fit N G b' f' ∧ Gr W w' P Q)) := Lib.hid fun p b f W h1 h2 h3 h4 => by
    obtain ⟨i, hi⟩ := HALL.out p h1 h2
    have := dig_im w N a m c l HL.out HNS.out HE.out C D P Q i p b f W hi h3 (by
      rw [hG]
      intro k hk
      have := rch_in HOK.out (show 1 ≤ (p : Int) ∧ (p : Int) ≤ N by omega) hk
      exact h4 k this.1 this.2)
    rw [hG] at this
    refine this.mono ?_
    rintro e w' ⟨rfl, H⟩
    obtain ⟨b', f', k1, k2, k3⟩ := H.out
    exact ⟨rfl, Lib.hid ⟨b', f', k1, h4.dug k3, k2⟩⟩
  clear hG
  go_wp2_with fail
  clear hW3 hW4 hW5 hP hQ hD n0 n1 hz hzi hsf
  go_loopw [11, 12] (fun v t wr => ∃ (a2 : Option Addr) (j2 c2 : Nat) (o : List Int) (b : Nat → Bool) (f : Nat → Int), v = .slice a2 j2 c2 ∧ t = .int .i64 ((j2 : Int) + 1) ∧ j2 ≤ N ∧ Hid (o.length = j2 ∧ KS wr (D + 1) (.slice a2 j2 c2) o) ∧ Hid (Dw w wr C D P Q (.slice a m c) (digV P Q C D) b f ∧ Fit N G b f) ∧ Hid (o = (degV N l).take j2)) (fun _ t _ => N + 1 - (RowKit.intOf t).toNat)
  case atStart => exact ⟨none, 0, 0, [], _, _, rfl, rfl, by omega, Lib.hid ⟨rfl, ks_nil _ _⟩, Lib.hid ⟨HW6.out, fun k _ _ => ⟨fun h => (by cases h), fun _ => rfl⟩⟩, Lib.hid rfl⟩
  case round =>
    clear HW6
    obtain ⟨a2, j2, c2, o, b, f, rfl, rfl, hj, HO2, HS, HF⟩ := hrel
    have hj0 : (0 : Int) ≤ (j2 : Int) := by omega
    by_cases hjl : j2 < N
    · have d1 : decide ((j2 : Int) + 1 ≤ (N : Int)) = true := decide_eq_true (by omega)
      have wj : IntKind.i64.wrap ((j2 : Int) + 1 + 1) = (j2 : Int) + 1 + 1 := IntWalk.i64_in _ (by omega)
      have wj2 : IntKind.i64.wrap ((j2 : Int) + 1) = (j2 : Int) + 1 := IntWalk.i64_in _ (by omega)
      have d0 := HS.out.1.ev.atD
      have HC1 := Lib.hid (HC.out (j2 + 1) b f wr (by omega) (by omega) HS.out.1 HS.out.2)
      have hcast : ((j2 + 1 : Nat) : Int) = (j2 : Int) + 1 := by omega
      rw [hcast] at HC1
      clear hcast
      obtain ⟨z, hz⟩ : ∃ z, G ((j2 : Int) + 1) = z := ⟨_, rfl⟩
      have HF2 : Hid (o ++ [z] = (degV N l).take (j2 + 1)) := Lib.hid (by
        rw [List.take_add_one, dp_at (by rw [HLEN.out]; exact hjl), HGE.out, hz, ← HF.out]
        rfl)
      rw [hz] at HC1
      clear hz
      go_wp2_with fail
      refine HC1.out.mono ?_
      rintro e w6 ⟨rfl, H6⟩
      obtain ⟨b2, f2, a3, c3, W7, HRUN, HO3, HS3⟩ : ∃ b2 f2 a3 c3 W7, Hid ((Builtin.append_ #[33, 33] 33 #[.slice a2 j2 c2, .slice (some ⟨w6.heap.size, 0, none⟩) 1 1]).run Try.prog (w6.alloc (.cells #[.int .i64 z] 3)) = .ok (.slice a3 (j2 + 1) c3) W7) ∧ Hid ((o ++ [z]).length = j2 + 1 ∧ KS W7 (D + 1) (.slice a3 (j2 + 1) c3) (o ++ [z])) ∧ Hid (Dw w W7 C D P Q (.slice a m c) (digV P Q C D) b2 f2 ∧ Fit N G b2 f2) := by
        obtain ⟨b2, f2, k1, k2, k3⟩ := H6.out
        have hz := HSZ.out
        obtain ⟨a3, c3, W7, h1, h2, h3, h4⟩ := app1 z HO2.out.1 (ks_gr HO2.out.2 k3 (by omega) (by omega)) (by omega) (by have := k1.ev.hiD; omega)
        exact ⟨b2, f2, a3, c3, W7, h1, Lib.hid ⟨h2, h3⟩, Lib.hid ⟨k1.app h4 (by omega) (by omega) (by omega) (by omega), k2⟩⟩
      clear H6 d0
      go_wp2_with (at_builtin; refine walk_run (v' := .slice a3 (j2 + 1) c3) (w' := W7) rfl _ _ _ _ rfl _ _ rfl rfl HRUN.out ?_)
      go_roundw
      case rel => exact ⟨a3, j2 + 1, c3, o ++ [z], b2, f2, rfl, by go_num, by omega, HO3, HS3, HF2⟩
      case measure => simp [RowKit.intOf]; omega
    · obtain rfl : j2 = N := by omega
      have d1 : decide ((j2 : Int) + 1 ≤ (j2 : Int)) = false := decide_eq_false (by omega)
      have HE : Hid ((degV j2 l).length = j2 ∧ KS wr w.heap.size (.slice a2 j2 c2) (degV j2 l) ∧ Below w.heap.size w wr) := Lib.hid (by
        have h := HF.out
        rw [List.take_of_length_le (by rw [HLEN.out]; exact Nat.le_refl _)] at h
        have hz := HSZ.out
        rw [← h]
        exact ⟨HO2.out.1, ks_low HO2.out.2 (by omega), HS.out.1.ev.below⟩)
      go_wp2_with fail
      go_ret2
      exact ⟨a2, j2, c2, rfl, HE⟩
end Go.Proofs.Ytohlkaoophbinaa.Graph.Im
namespace Go.Proofs.Ytohlkaoophbinaa.Cat.Im
open Go.RowKit Go.Lib
open Goods (St Sts OwnS)
open Recipe (Bl BlIn blV)
open Graph (Nd Nds OwnN)

def NumOk (C : CM) : Prop := (1 ≤ C.ty ∧ C.ty ≤ 32) ∧ (1 ≤ C.pl ∧ C.pl ≤ 8) ∧ (1 ≤ C.ch ∧ C.ch ≤ 16) ∧ C.bn ≤ 16 ∧ C.yn ≤ 8
set_option maxRecDepth 100000 in
set_option maxHeartbeats 4000000 in
theorem nums_im (C : CM) (hb : C.bn ≤ 20) (hy : C.yn ≤ 12) : ∃ t : Bool, Hid (∀ w, Calls Try.prog 68 #[C.v] w fun e w' => e = .returned (.bool t) ∧ Hid (Below w.heap.size w w')) ∧ Hid ((t = true → NumOk C) ∧ (t = false → ¬ NumOk C)) := by
  obtain ⟨t0, H0, E0⟩ := in_at C.ty 1 32
  obtain ⟨t1, H1, E1⟩ := in_at C.pl 1 8
  obtain ⟨t2, H2, E2⟩ := in_at C.ch 1 16
  have hb1 : (C.bn : Int) ≤ 20 := by omega
  have hy1 : (C.yn : Int) ≤ 12 := by omega
  rcases t0 with _ | _
  · refine ⟨false, Lib.hid fun w => ?_, Lib.hid ⟨fun h => (by cases h), fun _ h => E0.out.2 rfl h.1⟩⟩
    obtain ⟨V, X, hV, hX, HXB, HP⟩ := box_cat w C
    obtain ⟨k0, k1, k2, k3, k4, k5, k6, k7⟩ := HP.out X (Below.refl _ _)
    go_enter Try.func68, Try.ntmps68
    go_wp2_with fail
    clear hX hV
    refine (H0.out _).mono ?_
    rintro e w' ⟨rfl, rfl⟩
    go_wp2_with fail
    go_ret
    exact ⟨rfl, HXB⟩
  rcases t1 with _ | _
  · refine ⟨false, Lib.hid fun w => ?_, Lib.hid ⟨fun h => (by cases h), fun _ h => E1.out.2 rfl h.2.1⟩⟩
    obtain ⟨V, X, hV, hX, HXB, HP⟩ := box_cat w C
    obtain ⟨k0, k1, k2, k3, k4, k5, k6, k7⟩ := HP.out X (Below.refl _ _)
    go_enter Try.func68, Try.ntmps68
    go_wp2_with fail
    clear hX hV
    refine (H0.out _).mono ?_
    rintro e w' ⟨rfl, rfl⟩
    go_wp2_with fail
    refine (H1.out _).mono ?_
    rintro e w' ⟨rfl, rfl⟩
    go_wp2_with fail
    go_ret
    exact ⟨rfl, HXB⟩
  rcases t2 with _ | _
  · refine ⟨false, Lib.hid fun w => ?_, Lib.hid ⟨fun h => (by cases h), fun _ h => E2.out.2 rfl h.2.2.1⟩⟩
    obtain ⟨V, X, hV, hX, HXB, HP⟩ := box_cat w C
    obtain ⟨k0, k1, k2, k3, k4, k5, k6, k7⟩ := HP.out X (Below.refl _ _)
    go_enter Try.func68, Try.ntmps68
    go_wp2_with fail
    clear hX hV
    refine (H0.out _).mono ?_
    rintro e w' ⟨rfl, rfl⟩
    go_wp2_with fail
    refine (H1.out _).mono ?_
    rintro e w' ⟨rfl, rfl⟩
    go_wp2_with fail
    refine (H2.out _).mono ?_
    rintro e w' ⟨rfl, rfl⟩
    go_wp2_with fail
    go_ret
    exact ⟨rfl, HXB⟩
  by_cases hb6 : C.bn ≤ 16
  case neg =>
    have HNO : Hid (¬ NumOk C) := Lib.hid fun h => hb6 h.2.2.2.1
    have d4 : decide ((C.bn : Int) ≤ 16) = false := decide_eq_false (by omega)
    have d5 : ¬ (C.bn : Int) ≤ 16 := by omega
    have d6 : decide (C.bn ≤ 16) = false := decide_eq_false hb6
    refine ⟨false, Lib.hid fun w => ?_, Lib.hid ⟨fun h => (by cases h), fun _ => HNO.out⟩⟩
    obtain ⟨V, X, hV, hX, HXB, HP⟩ := box_cat w C
    obtain ⟨k0, k1, k2, k3, k4, k5, k6, k7⟩ := HP.out X (Below.refl _ _)
    go_enter Try.func68, Try.ntmps68
    go_wp2_with fail
    clear hX hV
    refine (H0.out _).mono ?_
    rintro e w' ⟨rfl, rfl⟩
    go_wp2_with fail
    refine (H1.out _).mono ?_
    rintro e w' ⟨rfl, rfl⟩
    go_wp2_with fail
    refine (H2.out _).mono ?_
    rintro e w' ⟨rfl, rfl⟩
    go_wp2_with fail
    go_ret
    exact ⟨rfl, HXB⟩
  have d4 : decide ((C.bn : Int) ≤ 16) = true := decide_eq_true (by omega)
  have d5 : (C.bn : Int) ≤ 16 := by omega
  have d6 : decide (C.bn ≤ 16) = true := decide_eq_true hb6
  by_cases hy8 : C.yn ≤ 8
  case neg =>
    have HNO : Hid (¬ NumOk C) := Lib.hid fun h => hy8 h.2.2.2.2
    have e4 : decide ((C.yn : Int) ≤ 8) = false := decide_eq_false (by omega)
    have e5 : ¬ (C.yn : Int) ≤ 8 := by omega
    have e6 : decide (C.yn ≤ 8) = false := decide_eq_false hy8
    refine ⟨false, Lib.hid fun w => ?_, Lib.hid ⟨fun h => (by cases h), fun _ => HNO.out⟩⟩
    obtain ⟨V, X, hV, hX, HXB, HP⟩ := box_cat w C
    obtain ⟨k0, k1, k2, k3, k4, k5, k6, k7⟩ := HP.out X (Below.refl _ _)
    go_enter Try.func68, Try.ntmps68
    go_wp2_with fail
    clear hX hV
    refine (H0.out _).mono ?_
    rintro e w' ⟨rfl, rfl⟩
    go_wp2_with fail
    refine (H1.out _).mono ?_
    rintro e w' ⟨rfl, rfl⟩
    go_wp2_with fail
    refine (H2.out _).mono ?_
    rintro e w' ⟨rfl, rfl⟩
    go_wp2_with fail
    go_ret
    exact ⟨rfl, HXB⟩
  have e4 : decide ((C.yn : Int) ≤ 8) = true := decide_eq_true (by omega)
  have e5 : (C.yn : Int) ≤ 8 := by omega
  have e6 : decide (C.yn ≤ 8) = true := decide_eq_true hy8
  have HYES : Hid (NumOk C) := Lib.hid ⟨E0.out.1 rfl, E1.out.1 rfl, E2.out.1 rfl, hb6, hy8⟩
  refine ⟨true, Lib.hid fun w => ?_, Lib.hid ⟨fun _ => HYES.out, fun h => (by cases h)⟩⟩
  obtain ⟨V, X, hV, hX, HXB, HP⟩ := box_cat w C
  obtain ⟨k0, k1, k2, k3, k4, k5, k6, k7⟩ := HP.out X (Below.refl _ _)
  go_enter Try.func68, Try.ntmps68
  go_wp2_with fail
  clear hX hV
  refine (H0.out _).mono ?_
  rintro e w' ⟨rfl, rfl⟩
  go_wp2_with fail
  refine (H1.out _).mono ?_
  rintro e w' ⟨rfl, rfl⟩
  go_wp2_with fail
  refine (H2.out _).mono ?_
  rintro e w' ⟨rfl, rfl⟩
  go_wp2_with fail
  go_ret
  exact ⟨rfl, HXB⟩
/-! blueprints -/
set_option maxRecDepth 100000 in
set_option maxHeartbeats 4000000 in
theorem blues_im (C : CM) (w : World) (h : CatAt w C) (hl : Lim C) (t : Bool) (ht : t = true ↔ ∀ b ∈ C.p.bs, Recipe.BlOk b.b C.ty) :
    Calls Try.prog 69 #[C.v] w fun e w' => e = .returned (.bool t) ∧ Hid (Below w.heap.size w w') := by
  obtain ⟨V, X, hV, hX, HXB, HP⟩ := box_cat w C
  obtain ⟨k0, k1, k2, k3, k4, k5, k6, k7⟩ := HP.out X (Below.refl _ _)
  have HB := blue_at (h.under HXB.out)
  have HSM : Hid (∀ b ∈ C.bs, b.sm ≤ 12) := Lib.hid hl.1
  have HL := Lib.hid h.1.1
  have hb1 : C.bn ≤ 20 := hl.2.1
  have hb2 : (C.bn : Int) ≤ 20 := by omega
  have HNO : Hid (∀ i b, C.bs[i]? = some b → ¬ Recipe.BlOk b C.ty → false = t) := Lib.hid fun i b hi hk => by
    cases t with
    | false => rfl
    | true => exact absurd (ht.1 rfl (pOf b) (by unfold CM.p; exact List.mem_map.2 ⟨b, List.mem_of_getElem? hi, rfl⟩)) hk
  have HYES : Hid ((∀ b ∈ C.bs, Recipe.BlOk b C.ty) → true = t) := Lib.hid fun hk => (ht.2 fun b hb => by
    unfold CM.p at hb
    obtain ⟨b1, h1, rfl⟩ := List.mem_map.1 hb
    exact hk b1 h1).symm
  clear h hl ht
  go_enter Try.func69, Try.ntmps69
  go_wp2_with fail
  clear hX hV k0 k1 k2 k3 k4 k5 k6 k7
  go_loopw [8] (fun s wr => ∃ i : Nat, s = .int .i64 i ∧ i ≤ C.bn ∧ Hid (Below X.heap.size X wr) ∧ Hid (∀ b ∈ C.bs.take i, Recipe.BlOk b C.ty)) (fun s _ => C.bn - (RowKit.intOf s).toNat)
  case atStart => exact ⟨0, rfl, by omega, Lib.hid (Below.refl _ _), Lib.hid (by simp)⟩
  case round =>
    obtain ⟨i, rfl, hi, HW, HI⟩ := hrel
    have hi0 : (0 : Int) ≤ (i : Int) := by omega
    by_cases hlt : i < C.bn
    · have hlt2 : (i : Int) < (C.bn : Int) := by omega
      obtain ⟨g, off, b, hba, ht, q0, q1, q2, q3, q4, q5, q6⟩ := HB.out wr i HW.out hlt
      have wi : IntKind.i64.wrap ((i : Int) + 1) = (i : Int) + 1 := IntWalk.i64_in _ (by omega)
      obtain ⟨U, Y, hU, hY, HY⟩ := box_bl wr b
      obtain ⟨y0, y1, y2, y3, y4, y5, y6⟩ := cellsU HY.out.2
      have HWY := Lib.hid (below_then HW.out HY.out.1)
      obtain ⟨k0, k1, k2, k3, k4, k5, k6, k7⟩ := HP.out Y HWY.out
      have HC : Hid (∀ z, Recipe.chkB b C.ty = z → Calls Try.prog 90 #[blV b, .int .i64 C.ty] Y fun e w' => e = .returned (.int .i64 z) ∧ Hid (Below X.heap.size X w')) := Lib.hid fun z hz => by
        subst hz
        have hin : BlIn Y b := ⟨ht.out.2.1, ht.out.2.2.under HY.out.1, by have := HSM.out b (List.mem_of_getElem? ht.out.1); omega⟩
        exact (Recipe.Im.check_im b C.ty Y hin).mono fun _ _ ⟨e, h⟩ => ⟨e, Lib.hid (below_then HWY.out h)⟩
      rw [hba]
      clear hba
      by_cases hk : Recipe.BlOk b C.ty
      · have HC0 := Lib.hid (HC.out 0 (Recipe.chkB_yes hk))
        have HF : Hid (∀ x ∈ C.bs.take (i + 1), Recipe.BlOk x C.ty) := Lib.hid (fun x hx => by
          rcases (mem_take_succ ht.out.1).1 hx with hx | rfl
          · exact HI.out x hx
          · exact hk)
        clear hk HC
        go_wp2_with fail
        clear hY hU q0 q1 q2 q3 q4 q5 q6
        refine HC0.out.mono ?_
        rintro e w2 ⟨rfl, H2⟩
        clear k0 k1 k2 k3 k4 k5 k6 k7 y0 y1 y2 y3 y4 y5 y6
        go_wp2_with fail
        go_roundw
        case rel => exact ⟨i + 1, by go_num, by omega, H2, HF⟩
        case measure => simp [RowKit.intOf]; omega
      · have HC1 := Lib.hid (HC.out 1 (Recipe.chkB_no hk))
        have HF := Lib.hid (HNO.out i b ht.out.1 hk)
        clear hk HC
        go_wp2_with fail
        clear hY hU q0 q1 q2 q3 q4 q5 q6
        refine HC1.out.mono ?_
        rintro e w2 ⟨rfl, H2⟩
        clear k0 k1 k2 k3 k4 k5 k6 k7 y0 y1 y2 y3 y4 y5 y6
        go_wp2_with fail
        go_ret
        exact ⟨ret_bool HF.out, Lib.hid (below_then HXB.out H2.out)⟩
    · obtain rfl : i = C.bn := by omega
      have HF := Lib.hid (HYES.out (by
        have := HI.out
        rw [List.take_of_length_le (by rw [HL.out]; exact Nat.le_refl _)] at this
        exact this))
      go_wp2_with fail
      go_ret
      exact ⟨ret_bool HF.out, Lib.hid (below_then HXB.out HW.out)⟩
/-! bays -/
theorem box_ba (w : World) (y : Ba) : ∃ U Y, w.heap.size = U ∧ w.alloc (.cells #[.int .i64 y.pl, .int .i64 y.mf, .int .i64 y.lb, .int .i64 y.rt] 115) = Y ∧ Y.cell? ⟨U, 0, none⟩ = some (.int .i64 y.pl) ∧ Y.cell? ⟨U, 1, none⟩ = some (.int .i64 y.mf) ∧ Y.cell? ⟨U, 2, none⟩ = some (.int .i64 y.lb) ∧ Y.cell? ⟨U, 3, none⟩ = some (.int .i64 y.rt) ∧ Hid (Below w.heap.size w Y) := by
  have h := heap_alloc_new w (.cells #[.int .i64 y.pl, .int .i64 y.mf, .int .i64 y.lb, .int .i64 y.rt] 115)
  exact ⟨_, _, rfl, rfl, cell_block (j := 0) h rfl, cell_block (j := 1) h rfl, cell_block (j := 2) h rfl, cell_block (j := 3) h rfl, Lib.hid ((Below.refl _ w).alloc (Nat.le_refl _) _)⟩
set_option maxRecDepth 100000 in
set_option maxHeartbeats 8000000 in
theorem bays_im (C : CM) (w : World) (h : CatAt w C) (hl : Lim C) (t : Bool) (ht : t = true ↔ ∀ y ∈ C.ys, BaOk C.pl y) :
    Calls Try.prog 70 #[C.v] w fun e w' => e = .returned (.bool t) ∧ Hid (Below w.heap.size w w') := by
  obtain ⟨V, X, hV, hX, HXB, HP⟩ := box_cat w C
  obtain ⟨k0, k1, k2, k3, k4, k5, k6, k7⟩ := HP.out X (Below.refl _ _)
  have HB := bay_at (h.under HXB.out)
  have HL := Lib.hid h.2.1
  have hb1 : C.yn ≤ 12 := hl.2.2
  have hb2 : (C.yn : Int) ≤ 12 := by omega
  have HNO : Hid (∀ i y, C.ys[i]? = some y → ¬ BaOk C.pl y → false = t) := Lib.hid fun i y hi hk => by
    cases t with
    | false => rfl
    | true => exact absurd (ht.1 rfl y (List.mem_of_getElem? hi)) hk
  have HYES : Hid ((∀ y ∈ C.ys, BaOk C.pl y) → true = t) := Lib.hid fun hk => (ht.2 hk).symm
  clear h hl ht
  go_enter Try.func70, Try.ntmps70
  go_wp2_with fail
  clear hX hV k0 k1 k2 k3 k4 k5 k6 k7
  go_loopw [8] (fun s wr => ∃ i : Nat, s = .int .i64 i ∧ i ≤ C.yn ∧ Hid (Below X.heap.size X wr) ∧ Hid (∀ y ∈ C.ys.take i, BaOk C.pl y)) (fun s _ => C.yn - (RowKit.intOf s).toNat)
  case atStart => exact ⟨0, rfl, by omega, Lib.hid (Below.refl _ _), Lib.hid (by simp)⟩
  case round =>
    obtain ⟨i, rfl, hi, HW, HI⟩ := hrel
    have hi0 : (0 : Int) ≤ (i : Int) := by omega
    by_cases hlt : i < C.yn
    · have hlt2 : (i : Int) < (C.yn : Int) := by omega
      obtain ⟨g, off, y, hya, ht, q0, q1, q2, q3⟩ := HB.out wr i HW.out hlt
      have wi : IntKind.i64.wrap ((i : Int) + 1) = (i : Int) + 1 := IntWalk.i64_in _ (by omega)
      obtain ⟨U, Y, hU, hY, y0, y1, y2, y3, HY⟩ := box_ba wr y
      have HWY := Lib.hid (below_then HW.out HY.out)
      obtain ⟨k0, k1, k2, k3, k4, k5, k6, k7⟩ := HP.out Y HWY.out
      obtain ⟨t0, H0, E0⟩ := in_at y.pl 1 C.pl
      obtain ⟨t1, H1, E1⟩ := in_at y.mf 0 8
      obtain ⟨t2, H2, E2⟩ := in_at y.lb 0 8
      obtain ⟨t3, H3, E3⟩ := in_at y.rt 0 10000
      rw [hya]
      clear hya
      rcases t0 with _ | _
      · have HF := Lib.hid (HNO.out i y ht.out fun h => E0.out.2 rfl h.1)
        go_wp2_with fail
        clear hY hU
        refine (H0.out _).mono ?_
        rintro e w' ⟨rfl, rfl⟩
        go_wp2_with fail
        go_ret
        exact ⟨ret_bool HF.out, Lib.hid (below_then HXB.out HWY.out)⟩
      rcases t1 with _ | _
      · have HF := Lib.hid (HNO.out i y ht.out fun h => E1.out.2 rfl h.2.1)
        go_wp2_with fail
        clear hY hU
        refine (H0.out _).mono ?_
        rintro e w' ⟨rfl, rfl⟩
        go_wp2_with fail
        refine (H1.out _).mono ?_
        rintro e w' ⟨rfl, rfl⟩
        go_wp2_with fail
        go_ret
        exact ⟨ret_bool HF.out, Lib.hid (below_then HXB.out HWY.out)⟩
      rcases t2 with _ | _
      · have HF := Lib.hid (HNO.out i y ht.out fun h => E2.out.2 rfl h.2.2.1)
        go_wp2_with fail
        clear hY hU
        refine (H0.out _).mono ?_
        rintro e w' ⟨rfl, rfl⟩
        go_wp2_with fail
        refine (H1.out _).mono ?_
        rintro e w' ⟨rfl, rfl⟩
        go_wp2_with fail
        refine (H2.out _).mono ?_
        rintro e w' ⟨rfl, rfl⟩
        go_wp2_with fail
        go_ret
        exact ⟨ret_bool HF.out, Lib.hid (below_then HXB.out HWY.out)⟩
      rcases t3 with _ | _
      · have HF := Lib.hid (HNO.out i y ht.out fun h => E3.out.2 rfl h.2.2.2)
        go_wp2_with fail
        clear hY hU
        refine (H0.out _).mono ?_
        rintro e w' ⟨rfl, rfl⟩
        go_wp2_with fail
        refine (H1.out _).mono ?_
        rintro e w' ⟨rfl, rfl⟩
        go_wp2_with fail
        refine (H2.out _).mono ?_
        rintro e w' ⟨rfl, rfl⟩
        go_wp2_with fail
        refine (H3.out _).mono ?_
        rintro e w' ⟨rfl, rfl⟩
        go_wp2_with fail
        go_ret
        exact ⟨ret_bool HF.out, Lib.hid (below_then HXB.out HWY.out)⟩
      have HF : Hid (∀ x ∈ C.ys.take (i + 1), BaOk C.pl x) := Lib.hid (fun x hx => by
        rcases (mem_take_succ ht.out).1 hx with hx | rfl
        · exact HI.out x hx
        · exact ⟨E0.out.1 rfl, E1.out.1 rfl, E2.out.1 rfl, E3.out.1 rfl⟩)
      go_wp2_with fail
      clear hY hU
      refine (H0.out _).mono ?_
      rintro e w' ⟨rfl, rfl⟩
      go_wp2_with fail
      refine (H1.out _).mono ?_
      rintro e w' ⟨rfl, rfl⟩
      go_wp2_with fail
      refine (H2.out _).mono ?_
      rintro e w' ⟨rfl, rfl⟩
      go_wp2_with fail
      refine (H3.out _).mono ?_
      rintro e w' ⟨rfl, rfl⟩
      go_wp2_with fail
      clear y0 y1 y2 y3 k0 k1 k2 k3 k4 k5 k6 k7 q0 q1 q2 q3
      go_roundw
      case rel => exact ⟨i + 1, by go_num, by omega, HWY, HF⟩
      case measure => simp [RowKit.intOf]; omega
    · obtain rfl : i = C.yn := by omega
      have HF := Lib.hid (HYES.out (by
        have := HI.out
        rw [List.take_of_length_le (by rw [HL.out]; exact Nat.le_refl _)] at this
        exact this))
      go_wp2_with fail
      go_ret
      exact ⟨ret_bool HF.out, Lib.hid (below_then HXB.out HW.out)⟩
end Go.Proofs.Ytohlkaoophbinaa.Cat.Im
