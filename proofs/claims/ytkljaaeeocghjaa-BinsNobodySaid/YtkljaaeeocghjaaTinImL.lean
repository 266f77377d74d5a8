/- The program's Delete. -/
import Derived.Test.YtkljaaeeocghjaaTinImK
import Derived.Test.YtkljaaeeocghjaaTinImI
import Derived.Test.YtkljaaeeocghjaaTinImJ
namespace Go.Proofs.Ytkljaaeeocghjaa.Tab.Im
open Go.RowKit Go.Lib

theorem keys_del {l : List Pair} {k : Key} (h : has l k = true) : keys (del l k) = (keys l).take (place l k) ++ (keys l).drop (place l k + 1) := by
  unfold del keys
  rw [if_pos h, List.map_append, List.map_take, List.map_drop]
theorem vals_del {l : List Pair} {k : Key} (h : has l k = true) : vals (del l k) = (vals l).take (place l k) ++ (vals l).drop (place l k + 1) := by
  show (del l k).map Pair.v = (l.map Pair.v).take _ ++ (l.map Pair.v).drop _
  unfold del
  rw [if_pos h, List.map_append, List.map_take, List.map_drop]
set_option maxRecDepth 100000 in
set_option maxHeartbeats 4000000 in
theorem del_no {q : Option Addr} {l : List Pair} {ks vs : Value} (k : Key) (w : World) (h : TL w q l ks vs) (hr : Rising l) (hl : l.length ≤ 1000) (hh : has l k = false) :
    Calls Try.prog 50 #[.pointer q, kV k] w fun e w' => e = .returned (.bool false) ∧ Below w.heap.size w w' := by
  obtain ⟨X, hX⟩ : ∃ X, w.alloc (.cells #[.int .i64 k.a, .int .i64 k.b, .int .i64 k.c, .int .i64 k.d] 81) = X := ⟨_, rfl⟩
  have hbX : Below w.heap.size w X := by rw [← hX]; exact (Below.refl _ w).alloc (Nat.le_refl _) _
  have hkX : X.heap[w.heap.size]? = some (.cells k.cells 81 (0, 0)) := by rw [← hX]; exact heap_alloc_new w _
  have k0 := key_at hkX 0 (by omega); have k1 := key_at hkX 1 (by omega); have k2 := key_at hkX 2 (by omega); have k3 := key_at hkX 3 (by omega)
  simp only [Key.at] at k0 k1 k2 k3
  obtain ⟨n, hn⟩ : ∃ n, place l k = n := ⟨_, rfl⟩
  have HP := Lib.hid (place_tl k X (h.under hbX) hr hl)
  unfold placeV at HP
  rw [hn, hh] at HP
  have HB := Lib.hid hbX
  clear hbX hkX h hn hh hl hr
  go_enter Try.func50, Try.ntmps50
  go_wp2_with fail
  clear hX
  refine HP.out.mono ?_
  rintro e w2 ⟨rfl, hb2⟩
  have HB2 := Lib.hid (below_then HB.out hb2)
  clear hb2
  go_wp2_with fail
  go_ret
  exact ⟨rfl, HB2.out⟩
set_option maxRecDepth 100000 in
set_option maxHeartbeats 8000000 in
theorem del_yes {Q : Nat} {F : Nat → Prop} {l : List Pair} (k : Key) (w : World) (h : PT w Q F l) (hr : Rising l) (hl : l.length ≤ 1000) (hh : has l k = true) :
    Calls Try.prog 50 #[ptr Q, kV k] w fun e w' => e = .returned (.bool true) ∧ ∃ F', PT w' Q F' (del l k) ∧ w.grownBy w' (some Q) ∧ ∀ j, F' j → F j ∨ w.heap.size ≤ j := by
  obtain ⟨X, hX⟩ : ∃ X, w.alloc (.cells #[.int .i64 k.a, .int .i64 k.b, .int .i64 k.c, .int .i64 k.d] 81) = X := ⟨_, rfl⟩
  have hbX : Below w.heap.size w X := by rw [← hX]; exact (Below.refl _ w).alloc (Nat.le_refl _) _
  have hkX : X.heap[w.heap.size]? = some (.cells k.cells 81 (0, 0)) := by rw [← hX]; exact heap_alloc_new w _
  have k0 := key_at hkX 0 (by omega); have k1 := key_at hkX 1 (by omega); have k2 := key_at hkX 2 (by omega); have k3 := key_at hkX 3 (by omega)
  simp only [Key.at] at k0 k1 k2 k3
  have hPX : PT X Q F l := h.keep hbX.size (fun k hk => hbX.block k (h.lt k hk))
  obtain ⟨n, hn⟩ : ∃ n, place l k = n := ⟨_, rfl⟩
  have HP := Lib.hid (place_im k X hPX hr hl)
  unfold placeV at HP
  rw [hn, hh] at HP
  obtain ⟨ks, vs, hv⟩ := h
  have HV := Lib.hid hv; have HB := Lib.hid hbX; have HN := Lib.hid hn; have HH := Lib.hid hh; have HR := Lib.hid hr
  have hnl : n + 1 ≤ l.length := place_lt hn hh
  have HNL := Lib.hid hnl; have HL := Lib.hid hl
  have hn1 : (n : Int) ≤ 1048576 := by omega
  have hn0 : (0 : Int) ≤ (n : Int) := by omega
  clear hbX hkX hPX hv hn hh hl hr hnl
  go_enter Try.func50, Try.ntmps50
  go_wp2_with fail
  clear hX
  refine HP.out.mono ?_
  rintro e w2 ⟨rfl, hb2⟩
  have HB2 := Lib.hid (below_then HB.out hb2)
  have HV2 := Lib.hid (HV.out.under HB2.out)
  have HS : Hid (∀ W, Below w2.heap.size w2 W → (W.cell? ⟨Q, 0, none⟩ = some ks ∧ W.cell? ⟨Q, 1, none⟩ = some vs) ∧ (W.frozen? ⟨Q, 0, none⟩ = false ∧ W.frozen? ⟨Q, 1, none⟩ = false)) := Lib.hid (fun W hW => by
    obtain ⟨T, hT⟩ := HV2.out.head
    have h1 := (hW.block Q (HV2.out.lt Q HV2.out.self)).trans hT
    exact ⟨⟨cell_block (j := 0) h1 rfl, cell_block (j := 1) h1 rfl⟩, free_block 0 h1, free_block 1 h1⟩)
  have HWK : Hid (∀ W, Below w2.heap.size w2 W → Calls Try.prog 60 #[ks, .int .i64 (n : Nat)] W fun e w' => ∃ ka kn kc, e = .returned (.slice ka kn kc) ∧ Hid (OwnK w' w2.heap.size (.slice ka kn kc) (keys (del l k)) ∧ Below W.heap.size W w' ∧ Below w2.heap.size w2 w')) := Lib.hid (fun W hW => by
    refine (without_key ks (keys l) n W (HV2.out.under hW).keys (by rw [len_keys]; exact HNL.out) (by rw [len_keys]; exact HL.out)).mono ?_
    rintro e w' ⟨v', rfl, ho, hb⟩
    obtain ⟨ka, kc, rfl, _⟩ := rowK ho
    refine ⟨ka, _, kc, rfl, Lib.hid ⟨?_, hb, below_then hW hb⟩⟩
    rw [keys_del HH.out, HN.out]
    exact World.ownsRow.mono ho hW.size)
  have HWI : Hid (∀ W, Below w2.heap.size w2 W → Calls Try.prog 61 #[vs, .int .i64 (n : Nat)] W fun e w' => ∃ va vn vc, e = .returned (.slice va vn vc) ∧ Hid (OwnI w' w2.heap.size (.slice va vn vc) (vals (del l k)) ∧ Below W.heap.size W w' ∧ Below w2.heap.size w2 w')) := Lib.hid (fun W hW => by
    refine (without_int vs (vals l) n W (HV2.out.under hW).vals (by rw [len_vals]; exact HNL.out) (by rw [len_vals]; exact HL.out)).mono ?_
    rintro e w' ⟨v', rfl, ho, hb⟩
    obtain ⟨va, vc, rfl, _⟩ := rowI ho
    refine ⟨va, _, vc, rfl, Lib.hid ⟨?_, hb, below_then hW hb⟩⟩
    rw [vals_del HH.out, HN.out]
    exact World.ownsRow.mono ho hW.size)
  have HD : Hid (∀ W v3 v4, Below w2.heap.size w2 W → OwnK W w2.heap.size v3 (keys (del l k)) → OwnI W w2.heap.size v4 (vals (del l k)) →
      ∃ F', PT ((W.setCell ⟨Q, 0, none⟩ v3).setCell ⟨Q, 1, none⟩ v4) Q F' (del l k) ∧ w.grownBy ((W.setCell ⟨Q, 0, none⟩ v3).setCell ⟨Q, 1, none⟩ v4) (some Q) ∧ ∀ j, F' j → F j ∨ w.heap.size ≤ j) := Lib.hid (fun W v3 v4 hW h3 h4 => by
    obtain ⟨T, hT⟩ := HV2.out.head
    have h1 := (hW.block Q (HV2.out.lt Q HV2.out.self)).trans hT
    exact turned HV.out (below_then HB2.out hW) (World.ownsRow.mono h3 (Nat.zero_le _)) (World.ownsRow.mono h4 (Nat.zero_le _)) (fun q hq => .inr (Nat.le_trans HB2.out.size (h3.lt q hq).1)) (fun q hq => .inr (Nat.le_trans HB2.out.size (h4.lt q hq).1))
      (heap_setCell_same _ Q 1 _ _ v4 (heap_setCell_same W Q 0 _ _ v3 h1)) (only_setCell (only_setCell (only_refl W (some Q)) _ _) _ _))
  obtain ⟨⟨c0, c1⟩, -, -⟩ := HS.out w2 (Below.refl _ _)
  clear hb2 k0 k1 k2 k3
  go_wp2_with fail
  go_region_with (first
    | (go_at_call 60; first
        | (with_reducible (refine (HWK.out _ ((Below.refl _ w2).drew)).mono ?_); rintro e w3 ⟨ka, kn, kc, rfl, HK⟩; obtain ⟨⟨p0, p1⟩, p2, p3⟩ := HS.out w3 HK.out.2.2)
        | (refine (HWK.out _ HI.out.2.2).mono ?_; rintro e w3 ⟨ka, kn, kc, rfl, HK⟩; obtain ⟨⟨p0, p1⟩, p2, p3⟩ := HS.out w3 HK.out.2.2; have HZ := Lib.hid (HD.out w3 (.slice ka kn kc) (.slice va vn vc) HK.out.2.2 HK.out.1 (own_under HI.out.1 HK.out.2.1))))
    | (go_at_call 61; first
        | (with_reducible (refine (HWI.out _ ((Below.refl _ w2).drew)).mono ?_); rintro e w4 ⟨va, vn, vc, rfl, HI⟩; obtain ⟨⟨q0, q1⟩, q2, q3⟩ := HS.out w4 HI.out.2.2)
        | (refine (HWI.out _ HK.out.2.2).mono ?_; rintro e w4 ⟨va, vn, vc, rfl, HI⟩; obtain ⟨⟨q0, q1⟩, q2, q3⟩ := HS.out w4 HI.out.2.2; have HZ := Lib.hid (HD.out w4 (.slice ka kn kc) (.slice va vn vc) HI.out.2.2 (own_under HK.out.1 HI.out.2.1) HI.out.1))))
  all_goals
    go_wp2_with fail
    go_ret
    exact ⟨rfl, HZ.out⟩
end Go.Proofs.Ytkljaaeeocghjaa.Tab.Im
