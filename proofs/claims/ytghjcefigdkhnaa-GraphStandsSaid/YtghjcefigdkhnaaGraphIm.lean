/- The program's Ways; the program's graph answers as the document's. -/
import Derived.Test.YtghjcefigdkhnaaGraphImJ
import Derived.Test.YtghjcefigdkhnaaGraphG
namespace Go.Proofs.Ytghjcefigdkhnaa.Graph.Im
open Go.RowKit Go.Lib IRows

open Classical in
set_option maxRecDepth 100000 in
set_option maxHeartbeats 8000000 in
theorem ways_im (n : Int) (a : Option Addr) (m c : Nat) (l : List Nd) (x y : Int) (w : World) (hl : l.length = m) (hs : Nds w a l) (hm : m ≤ 1000) :
    Calls Try.prog 15 #[.int .i64 n, .slice a m c, .int .i64 x, .int .i64 y] w fun e w' => e = .returned (.tuple #[.int .i64 (wayV n l x y), .int .i64 (wayE n l x y)]) ∧ Below w.heap.size w w' := by
  obtain ⟨C, hC⟩ : ∃ C, w.heap.size = C := ⟨_, rfl⟩
  obtain ⟨W1, hW1⟩ : ∃ W1, w.alloc (.cells #[.slice a m c] 22) = W1 := ⟨_, rfl⟩
  have hb1 : Below w.heap.size w W1 := by rw [← hW1]; exact (Below.refl _ w).alloc (Nat.le_refl _) _
  have c0 : W1.cell? ⟨C, 0, none⟩ = some (.slice a m c) := by rw [← hW1, ← hC]; exact cell_block (heap_alloc_new w _) rfl
  have HS1 : Hid (C < W1.heap.size ∧ w.heap.size = C) := Lib.hid ⟨by rw [← hW1, ← hC]; simp, hC⟩
  have HB1 := Lib.hid hb1
  have HO := Lib.hid (order_im n a m c l W1 hl (hs.under hb1) (by omega))
  by_cases q0 : 1 ≤ x ∧ x ≤ n
  case neg =>
    obtain ⟨e1, e2⟩ := way_arg (n := n) (l := l) (x := x) (y := y) (fun h => q0 h.2.1)
    have HI := Lib.hid (fun W => in_no x 1 n W q0)
    rw [e1, e2]
    clear hl hs hm HO hb1 q0 e1 e2
    go_enter Try.func15, Try.ntmps15
    go_wp2_with fail
    clear hW1 hC
    refine (HI.out _).mono ?_
    rintro e w' ⟨rfl, rfl⟩
    go_wp2_with fail
    go_ret2
    exact ⟨rfl, HB1.out⟩
  have HI := Lib.hid (fun W => in_yes x 1 n W q0)
  by_cases q1 : 1 ≤ y ∧ y ≤ n
  case neg =>
    obtain ⟨e1, e2⟩ := way_arg (n := n) (l := l) (x := x) (y := y) (fun h => q1 h.2.2)
    have HI2 := Lib.hid (fun W => in_no y 1 n W q1)
    rw [e1, e2]
    clear hl hs hm HO hb1 q0 q1 e1 e2
    go_enter Try.func15, Try.ntmps15
    go_wp2_with fail
    clear hW1 hC
    refine (HI.out _).mono ?_
    rintro e w' ⟨rfl, rfl⟩
    go_wp2_with fail
    refine (HI2.out _).mono ?_
    rintro e w' ⟨rfl, rfl⟩
    go_wp2_with fail
    go_ret2
    exact ⟨rfl, HB1.out⟩
  have HI2 := Lib.hid (fun W => in_yes y 1 n W q1)
  by_cases he : ordE n l = 0
  case neg =>
    have hw : wayE n l x y = ordE n l ∧ wayV n l x y = 0 := by
      by_cases hk : May n l
      · exact way_round ⟨hk, q0, q1⟩ he
      · obtain ⟨e1, e2⟩ := way_arg (n := n) (l := l) (x := x) (y := y) (fun h => hk h.1)
        exact ⟨by rw [e1, (ord_arg hk).1], e2⟩
    rw [hw.1, hw.2]
    obtain ⟨er, her⟩ : ∃ er, ordE n l = er := ⟨_, rfl⟩
    rw [her] at HO he ⊢
    have n1 : (er == 0) = false := by simpa using he
    have n2 : (er != 0) = true := by simpa using he
    clear hl hs hm her hb1 q0 q1 hw
    go_enter Try.func15, Try.ntmps15
    go_wp2_with fail
    clear hW1 hC
    refine (HI.out _).mono ?_
    rintro e w' ⟨rfl, rfl⟩
    go_wp2_with fail
    refine (HI2.out _).mono ?_
    rintro e w' ⟨rfl, rfl⟩
    go_wp2_with fail
    refine HO.out.mono ?_
    rintro e w1 ⟨a1, j, c1, rfl, H1⟩
    go_wp2_with fail
    go_ret2
    exact ⟨rfl, below_then HB1.out H1.out.2.2⟩
  obtain ⟨hok, hst, hol⟩ := ord_zero he
  have HE := Lib.hid he
  obtain ⟨X, rfl⟩ := Int.eq_ofNat_of_zero_le (show 0 ≤ x by omega)
  obtain ⟨Y, rfl⟩ := Int.eq_ofNat_of_zero_le (show 0 ≤ y by omega)
  have hn64 := hok.1.2
  have hY0 : (0 : Int) ≤ (Y : Int) := by omega
  have hY65 : (Y : Int) < 65 := by omega
  have HY65 : Hid (Y < 65) := Lib.hid (by omega)
  have HX : Hid (∃ i : Nat, (ordV n l)[i]? = some (X : Int)) := Lib.hid (by
    obtain ⟨i, hi, e⟩ := List.mem_iff_getElem.1 (stands_all hst hol q0.1 q0.2)
    exact ⟨i, by rw [List.getElem?_eq_getElem hi, e]⟩)
  have HQY := Lib.hid q1
  have HTO := Lib.hid (nw_to he q1.1 q1.2)
  have HL := Lib.hid hl
  have HNS := Lib.hid hs
  have HRES : Hid (rv (nw n l Y X) = wayV n l X Y ∧ re (nw n l Y X) = wayE n l X Y) := Lib.hid (by
    by_cases h : nw n l Y X ≤ mi
    · obtain ⟨r1, r2⟩ := rv_yes h
      obtain ⟨e1, e2⟩ := way_fine (x := (X : Int)) (y := (Y : Int)) ⟨hok, q0, q1⟩ he h
      exact ⟨r1.trans e2.symm, r2.trans e1.symm⟩
    · obtain ⟨r1, r2⟩ := rv_no h
      obtain ⟨e1, e2⟩ := way_over (x := (X : Int)) (y := (Y : Int)) ⟨hok, q0, q1⟩ he (by omega)
      exact ⟨r1.trans e2.symm, r2.trans e1.symm⟩)
  rw [he] at HO
  have hz := (zero_of_info info_seen).1
  obtain ⟨Z, hZ⟩ : ∃ Z, (Array.replicate 65 (.bool false) : Array Value) = Z := ⟨_, rfl⟩
  rw [hZ] at hz
  have HZ := Lib.hid hZ
  have hzi := (zero_of_info info_arr).1
  obtain ⟨ZI, hZI⟩ : ∃ ZI, (Array.replicate 65 (.int .i64 0) : Array Value) = ZI := ⟨_, rfl⟩
  rw [hZI] at hzi
  have HZI := Lib.hid hZI
  clear hl hs hm hok hst hol he hb1 hZ hZI q0 q1 hn64
  go_enter Try.func15, Try.ntmps15
  go_wp2_with fail
  clear hW1 hC
  refine (HI.out _).mono ?_
  rintro e w' ⟨rfl, rfl⟩
  go_wp2_with fail
  refine (HI2.out _).mono ?_
  rintro e w' ⟨rfl, rfl⟩
  go_wp2_with fail
  refine HO.out.mono ?_
  rintro e w2 ⟨a1, j1, c1, rfl, H1⟩
  have HB2 := Lib.hid H1.out.2.2
  obtain ⟨P, W3, hP, hW3, H3⟩ := box_row w2 Z 45
  obtain ⟨Q, W4, hQ, hW4, H4⟩ := box_row W3 ZI 41
  have HROW : Hid (RB W4 P (fun _ => false) ∧ RI W4 Q (fun _ => 0)) := Lib.hid ⟨fun i hi => by
    obtain ⟨k0, k1⟩ := H3.out.2.2 i (.bool false) (by rw [← HZ.out, Array.getElem?_replicate, if_pos hi])
    have := H3.out.2.1
    exact ⟨((bcell H4.out.1).1 P i (by omega)).trans k0, ((bcell H4.out.1).2 P i (by omega)).trans k1⟩, fun i hi => H4.out.2.2 i (.int .i64 0) (by rw [← HZI.out, Array.getElem?_replicate, if_pos hi])⟩
  have HPQ : Hid (P ≠ Q) := Lib.hid (by have := H3.out.2.1; omega)
  obtain ⟨p0, p1⟩ := HROW.out.1 Y HY65.out
  obtain ⟨i0, i1⟩ := (HROW.out.2.other HPQ.out.symm Y (.bool true)) Y HY65.out
  obtain ⟨W5, hW5⟩ : ∃ W5, (W4.setCell ⟨P, Y, none⟩ (.bool true)).setCell ⟨Q, Y, none⟩ (.int .i64 1) = W5 := ⟨_, rfl⟩
  have HW5 : Hid (RB W5 P (up (fun _ => false) Y true) ∧ RI W5 Q (up (fun _ => 0) Y 1) ∧ W5.heap.size = W4.heap.size ∧ Below P W4 W5) := Lib.hid (by
    rw [← hW5]
    have hq : P ≤ Q := by have := H3.out.2.1; omega
    exact ⟨(HROW.out.1.set Y true).other HPQ.out _ _, (HROW.out.2.other HPQ.out.symm _ _).set Y 1, by simp [World.setCell], (set_below W4 P Y (.bool true)).trans ((set_below _ Q Y (.int .i64 1)).mono hq)⟩)
  obtain ⟨D, W6, hD, hW6, n0, n1, H6⟩ := box_fn W5 49
  have HSZ : Hid (w.heap.size = C ∧ C < W1.heap.size ∧ W1.heap.size ≤ w2.heap.size ∧ w2.heap.size = P ∧ Q = P + 1 ∧ D = P + 2 ∧ W3.heap.size = P + 1 ∧ W4.heap.size = P + 2 ∧ W5.heap.size = P + 2 ∧ W6.heap.size = P + 3) := Lib.hid (by
    have := H3.out.2.1; have := H4.out.2.1; have := HW5.out.2.2.1; have := H6.out.2; have := HS1.out; have := HB2.out.size
    omega)
  have HW7 : Hid (Dw w (W6.setCell ⟨D, 0, none⟩ (wayF P Q C D)) C D P Q (.slice a m c) (wayF P Q C D) (up (fun _ => false) Y true) (up (fun _ => 0) Y 1)) := Lib.hid (by
    have hz := HSZ.out
    have hs7 : (W6.setCell ⟨D, 0, none⟩ (wayF P Q C D)).heap.size = W6.heap.size := by simp [World.setCell]
    have hb7 : Below P W5 (W6.setCell ⟨D, 0, none⟩ (wayF P Q C D)) := (H6.out.1.mono (by omega)).trans ((set_below W6 D 0 (wayF P Q C D)).mono (by omega))
    have hb24 : Below P w2 W4 := (H3.out.1.mono (by omega)).trans (H4.out.1.mono (by omega))
    have hb27 : Below w2.heap.size w2 (W6.setCell ⟨D, 0, none⟩ (wayF P Q C D)) := by
      rw [hz.2.2.2.1]
      exact (hb24.trans HW5.out.2.2.2).trans hb7
    refine ⟨⟨below_then (below_then HB1.out HB2.out) hb27, by omega, by omega, by omega, by omega, by omega, by omega, ⟨by omega, by omega⟩, ⟨by omega, by omega⟩, ?_, ?_⟩, fun i hi => ?_, fun i hi => ?_, by omega⟩
    · exact ((bcell (below_then HB2.out hb27)).1 C 0 HS1.out.1).trans c0
    · exact World.cell?_setCell_same (h := n0) ..
    · obtain ⟨k0, k1⟩ := HW5.out.1 i hi
      rw [World.frozen?_setCell, World.cell?_setCell_other (h := addr_ne (.inl (by omega)))]
      exact ⟨((bcell H6.out.1).1 P i (by omega)).trans k0, ((bcell H6.out.1).2 P i (by omega)).trans k1⟩
    · obtain ⟨k0, k1⟩ := HW5.out.2.1 i hi
      rw [World.frozen?_setCell, World.cell?_setCell_other (h := addr_ne (.inl (by omega)))]
      exact ⟨((bcell H6.out.1).1 Q i (by omega)).trans k0, ((bcell H6.out.1).2 Q i (by omega)).trans k1⟩)
  have hsf := run_fn Try.prog W6 D (wayF P Q C D) rfl n0 n1
  have HC : Hid (Calls Try.prog 24 #[.int .i64 X, .pointer (some ⟨P, 0, none⟩), .pointer (some ⟨Q, 0, none⟩), .pointer (some ⟨C, 0, none⟩), .pointer (some ⟨D, 0, none⟩)] (W6.setCell ⟨D, 0, none⟩ (wayF P Q C D)) fun e w' => e = .returned (.tuple #[.int .i64 (wayV n l X Y), .int .i64 (wayE n l X Y)]) ∧ Hid (Below w.heap.size w w')) := Lib.hid (by
    obtain ⟨i, hi⟩ := HX.out
    have := way_im w n a m c l Y HL.out HNS.out HE.out HQY.out C D P Q i X _ _ _ hi HW7.out ⟨fun k h1 h2 h3 => (by
      unfold up at h3 ⊢
      by_cases e : k = Y
      · subst e
        rw [if_pos rfl, HTO.out]
        exact ⟨rfl, by decide⟩
      · rw [if_neg e] at h3
        cases h3), by unfold up; simp⟩
    rw [HRES.out.1, HRES.out.2] at this
    refine this.mono ?_
    rintro e w' ⟨rfl, H⟩
    exact ⟨rfl, Lib.hid (HW7.out.ev.gr H.out.1).below⟩)
  have d0 := HW7.out.ev.atD
  obtain ⟨rV, hrV⟩ : ∃ r, wayV n l X Y = r := ⟨_, rfl⟩
  obtain ⟨rE, hrE⟩ : ∃ r, wayE n l X Y = r := ⟨_, rfl⟩
  rw [hrV, hrE] at HC
  have HRV := Lib.hid hrV
  have HRE := Lib.hid hrE
  clear hrV hrE
  go_wp2_with fail
  clear hW3 hW4 hW5 hW6 hP hQ hD n0 n1 hz hzi hsf
  refine HC.out.mono ?_
  rintro e w8 ⟨rfl, H8⟩
  go_wp2_with fail
  go_ret2
  exact ⟨by rw [HRV.out, HRE.out]; rfl, H8.out⟩
theorem impl : Impl where
  order n a m c l w hl hs hm _ _ := order_im n a m c l w hl hs (by omega)
  deep n a m c l w hl hs hm _ _ := deep_im n a m c l w hl hs hm
  below n a m c l x w hl hs hm _ _ _ := below_im n a m c l x w hl hs hm
  ways n a m c l x y w hl hs hm _ _ _ _ := ways_im n a m c l x y w hl hs hm
end Go.Proofs.Ytghjcefigdkhnaa.Graph.Im
namespace Go.Proofs.Ytghjcefigdkhnaa.Graph
theorem impl : Impl := Im.impl
end Go.Proofs.Ytghjcefigdkhnaa.Graph
