/- The program's Put. -/
import Derived.Test.YtkljaaeeocghjaaTinImG
import Derived.Test.YtkljaaeeocghjaaTinImH
namespace Go.Proofs.Ytkljaaeeocghjaa.Tab.Im
open Go.RowKit Go.Lib

theorem keys_put {l : List Pair} (hr : Rising l) (k : Key) (x : Int) : keys (put l k x) = if has l k then keys l else (keys l).take (place l k) ++ k :: (keys l).drop (place l k) := by
  cases hh : has l k with
  | false =>
    unfold put keys
    rw [hh, if_neg (by simp), if_neg (by simp), List.map_append, List.map_cons, List.map_take, List.map_drop]
  | true =>
    obtain ⟨p, hp, hpk⟩ := (has_at hr k).1 hh
    have hlt := (List.getElem?_eq_some_iff.1 hp).1
    unfold put
    rw [hh, if_pos rfl, if_pos rfl]
    unfold keys
    rw [List.map_append, List.map_cons, List.map_take, List.map_drop]
    have h1 : (l.map Pair.k)[place l k]? = some k := by rw [List.getElem?_map, hp, ← hpk]; rfl
    have h2 := List.getElem?_eq_some_iff.1 h1
    have h3 := List.drop_eq_getElem_cons h2.1
    rw [h2.2] at h3
    rw [← h3, List.take_append_drop]
theorem vals_put (l : List Pair) (k : Key) (x : Int) : vals (put l k x) = (vals l).take (place l k) ++ x :: (vals l).drop (if has l k then place l k + 1 else place l k) := by
  show (put l k x).map Pair.v = (l.map Pair.v).take _ ++ x :: (l.map Pair.v).drop _
  unfold put
  cases has l k with
  | false => rw [if_neg (by simp), if_neg (by simp), List.map_append, List.map_cons, List.map_take, List.map_drop]
  | true => rw [if_pos rfl, if_pos rfl, List.map_append, List.map_cons, List.map_take, List.map_drop]
/-- The table's block has turned to new lists. -/
theorem turned {w W : World} {Q : Nat} {F : Nat → Prop} {l l' : List Pair} {ks vs k2 v2 : Value} (h : PTV w Q F l ks vs) (hb : Below w.heap.size w W) (hk : OwnK W 0 k2 (keys l')) (hv : OwnI W 0 v2 (vals l'))
    (hkn : ∀ q, k2.ownBlock = some q → ks.ownBlock = some q ∨ w.heap.size ≤ q) (hvn : ∀ q, v2.ownBlock = some q → vs.ownBlock = some q ∨ w.heap.size ≤ q) {W' : World} {T : TypeId} (hW' : W'.heap[Q]? = some (.cells #[k2, v2] T (0, 0))) (hg : W.grownBy W' (some Q)) :
    ∃ F', PT W' Q F' l' ∧ w.grownBy W' (some Q) ∧ ∀ j, F' j → F j ∨ w.heap.size ≤ j := by
  have hQ := h.lt Q h.self
  have nk : ∀ q, k2.ownBlock = some q → q ≠ Q := fun q hq => by
    rcases hkn q hq with h1 | h1
    · exact (h.kb q h1).2
    · omega
  have nv : ∀ q, v2.ownBlock = some q → q ≠ Q := fun q hq => by
    rcases hvn q hq with h1 | h1
    · exact (h.vb q h1).2
    · omega
  have bk : ∀ q, q < W.heap.size → q ≠ Q → W'.heap[q]? = W.heap[q]? := fun q h1 h2 => hg.block q h1 (fun e => h2 (by cases e; rfl))
  refine ⟨fun j => j = Q ∨ k2.ownBlock = some j ∨ v2.ownBlock = some j, ⟨k2, v2, ⟨_, hW'⟩, own_same hk (fun q hq => bk q (hk.lt q hq).2 (nk q hq)), own_same hv (fun q hq => bk q (hv.lt q hq).2 (nv q hq)), .inl rfl, fun q hq => ⟨.inr (.inl hq), nk q hq⟩, fun q hq => ⟨.inr (.inr hq), nv q hq⟩, ?_⟩, ?_, ?_⟩
  · rintro j (rfl | hj | hj)
    · exact (Array.getElem?_eq_some_iff.1 hW').1
    · exact Nat.lt_of_lt_of_le (hk.lt j hj).2 hg.size
    · exact Nat.lt_of_lt_of_le (hv.lt j hj).2 hg.size
  · exact ⟨hg.os.trans hb.os, hg.tape.trans hb.tape, hg.output.trans hb.output, Nat.le_trans hb.size hg.size, fun i hi hne => (hg.block i (Nat.lt_of_lt_of_le hi hb.size) hne).trans (hb.block i hi)⟩
  · rintro j (rfl | hj | hj)
    · exact .inl h.self
    · rcases hkn j hj with h1 | h1
      · exact .inl (h.kb j h1).1
      · exact .inr h1
    · rcases hvn j hj with h1 | h1
      · exact .inl (h.vb j h1).1
      · exact .inr h1
set_option maxRecDepth 100000 in
set_option maxHeartbeats 4000000 in
theorem put_yes {Q : Nat} {F : Nat → Prop} {l : List Pair} (k : Key) (x : Int) (w : World) (h : PT w Q F l) (hr : Rising l) (hl : l.length ≤ 1000) (hh : has l k = true) :
    Calls Try.prog 51 #[ptr Q, kV k, .int .i64 x] w fun e w' => e = .returned (.bool false) ∧ ∃ F', PT w' Q F' (put l k x) ∧ w.grownBy w' (some Q) ∧ ∀ j, F' j → F j ∨ w.heap.size ≤ j := by
  obtain ⟨X, hX⟩ : ∃ X, w.alloc (.cells #[.int .i64 k.a, .int .i64 k.b, .int .i64 k.c, .int .i64 k.d] 81) = X := ⟨_, rfl⟩
  have hbX : Below w.heap.size w X := by rw [← hX]; exact (Below.refl _ w).alloc (Nat.le_refl _) _
  have hkX : X.heap[w.heap.size]? = some (.cells k.cells 81 (0, 0)) := by rw [← hX]; exact heap_alloc_new w _
  have k0 := key_at hkX 0 (by omega); have k1 := key_at hkX 1 (by omega); have k2 := key_at hkX 2 (by omega); have k3 := key_at hkX 3 (by omega)
  simp only [Key.at] at k0 k1 k2 k3
  have hPX : PT X Q F l := h.keep hbX.size (fun k hk => hbX.block k (h.lt k hk))
  obtain ⟨n, hn⟩ : ∃ n, place l k = n := ⟨_, rfl⟩
  have HP := Lib.hid (place_im k X hPX hr hl)
  unfold placeV at HP
  rw [hn, hh] at HP
  obtain ⟨ks, vs, hv⟩ := h
  have HV := Lib.hid hv; have HB := Lib.hid hbX; have HN := Lib.hid hn; have HH := Lib.hid hh; have HR := Lib.hid hr
  have hnl : n + 1 ≤ l.length := place_lt hn hh
  have HNL := Lib.hid hnl; have HL := Lib.hid hl
  have hn1 : (n : Int) ≤ 1048576 := by omega
  have hn0 : (0 : Int) ≤ (n : Int) := by omega
  clear hbX hkX hPX hv hn hh hl hr hnl
  go_enter Try.func51, Try.ntmps51
  go_wp2_with fail
  clear hX
  refine HP.out.mono ?_
  rintro e w2 ⟨rfl, hb2⟩
  have HB2 := Lib.hid (below_then HB.out hb2)
  have hv2 := HV.out.under HB2.out
  obtain ⟨c0, c1⟩ := hv2.cells
  have HW : Hid (Calls Try.prog 62 #[vs, .int .i64 (n : Nat), .int .i64 ((n : Int) + 1), .int .i64 x] w2 fun e w' => ∃ va vn vc, e = .returned (.slice va vn vc) ∧ Hid (OwnI w' w2.heap.size (.slice va vn vc) (vals (put l k x)) ∧ Below w2.heap.size w2 w')) := Lib.hid (by
    have h1 := with_int vs (vals l) n (n + 1) x w2 hv2.vals (by omega) (by rw [len_vals]; exact HNL.out) (by rw [len_vals]; exact HL.out)
    rw [show ((n + 1 : Nat) : Int) = (n : Int) + 1 by omega] at h1
    refine h1.mono ?_
    rintro e w' ⟨v', rfl, ho, hb⟩
    obtain ⟨va, vc, rfl, _⟩ := rowI ho
    refine ⟨va, _, vc, rfl, Lib.hid ⟨?_, hb⟩⟩
    rw [vals_put, HN.out, HH.out, if_pos rfl]
    exact ho)
  have HV2 := Lib.hid hv2
  have hQ := hv2.lt Q hv2.self
  clear hb2 hv2
  go_wp2_with fail
  refine HW.out.mono ?_
  rintro e w3 ⟨va, vn, vc, rfl, H3⟩
  obtain ⟨T, hT⟩ := HV2.out.head
  have hh3 := (H3.out.2.block Q hQ).trans hT
  have d0 : w3.cell? ⟨Q, 0, none⟩ = some ks := cell_block (j := 0) hh3 rfl
  have d1 : w3.cell? ⟨Q, 1, none⟩ = some vs := cell_block (j := 1) hh3 rfl
  have f1 := free_block 1 hh3
  have HE : Hid (∃ F', PT (w3.setCell ⟨Q, 1, none⟩ (.slice va vn vc)) Q F' (put l k x) ∧ w.grownBy (w3.setCell ⟨Q, 1, none⟩ (.slice va vn vc)) (some Q) ∧ ∀ j, F' j → F j ∨ w.heap.size ≤ j) := Lib.hid (by
    have hw3 := below_then HB2.out H3.out.2
    refine turned (T := T) HV.out hw3 (l' := put l k x) (k2 := ks) (v2 := .slice va vn vc) ?_ (World.ownsRow.mono H3.out.1 (Nat.zero_le _)) (fun q hq => .inl hq) (fun q hq => .inr (Nat.le_trans HB2.out.size (H3.out.1.lt q hq).1)) ?_ (only_setCell (only_refl w3 (some Q)) _ _)
    · rw [keys_put HR.out, HH.out, if_pos rfl]
      exact (HV.out.under hw3).keys
    · exact heap_setCell_same w3 Q 1 _ _ (.slice va vn vc) hh3)
  clear hh3
  go_wp2_with fail
  go_ret
  exact ⟨rfl, HE.out⟩
set_option maxRecDepth 100000 in
set_option maxHeartbeats 8000000 in
theorem put_no {Q : Nat} {F : Nat → Prop} {l : List Pair} (k : Key) (x : Int) (w : World) (h : PT w Q F l) (hr : Rising l) (hl : l.length ≤ 1000) (hh : has l k = false) :
    Calls Try.prog 51 #[ptr Q, kV k, .int .i64 x] w fun e w' => e = .returned (.bool true) ∧ ∃ F', PT w' Q F' (put l k x) ∧ w.grownBy w' (some Q) ∧ ∀ j, F' j → F j ∨ w.heap.size ≤ j := by
  obtain ⟨X, hX⟩ : ∃ X, w.alloc (.cells #[.int .i64 k.a, .int .i64 k.b, .int .i64 k.c, .int .i64 k.d] 81) = X := ⟨_, rfl⟩
  have hbX : Below w.heap.size w X := by rw [← hX]; exact (Below.refl _ w).alloc (Nat.le_refl _) _
  have hkX : X.heap[w.heap.size]? = some (.cells k.cells 81 (0, 0)) := by rw [← hX]; exact heap_alloc_new w _
  have k0 := key_at hkX 0 (by omega); have k1 := key_at hkX 1 (by omega); have k2 := key_at hkX 2 (by omega); have k3 := key_at hkX 3 (by omega)
  simp only [Key.at] at k0 k1 k2 k3
  have hPX : PT X Q F l := h.keep hbX.size (fun k hk => hbX.block k (h.lt k hk))
  obtain ⟨n, hn⟩ : ∃ n, place l k = n := ⟨_, rfl⟩
  have HP := Lib.hid (place_im k X hPX hr hl)
  unfold placeV at HP
  rw [hn, hh] at HP
  obtain ⟨ks, vs, hv⟩ := h
  have HV := Lib.hid hv; have HB := Lib.hid hbX; have HN := Lib.hid hn; have HH := Lib.hid hh; have HR := Lib.hid hr; have HKX := Lib.hid hkX
  have hnl : n ≤ l.length := by rw [← hn]; exact place_le l k
  have HNL := Lib.hid hnl; have HL := Lib.hid hl
  have hn1 : (n : Int) ≤ 1048576 := by omega
  have hn0 : (0 : Int) ≤ (n : Int) := by omega
  clear hbX hkX hPX hv hn hh hl hr hnl
  go_enter Try.func51, Try.ntmps51
  go_wp2_with fail
  clear hX
  refine HP.out.mono ?_
  rintro e w2 ⟨rfl, hb2⟩
  have HB2 := Lib.hid (below_then HB.out hb2)
  have HV2 := Lib.hid (HV.out.under HB2.out)
  have hkw := (hb2.block _ (Array.getElem?_eq_some_iff.1 HKX.out).1).trans HKX.out
  have HS : Hid (∀ W, Below w2.heap.size w2 W → (W.cell? ⟨Q, 0, none⟩ = some ks ∧ W.cell? ⟨Q, 1, none⟩ = some vs) ∧ (W.frozen? ⟨Q, 0, none⟩ = false ∧ W.frozen? ⟨Q, 1, none⟩ = false) ∧
      W.cell? ⟨w.heap.size, 0, none⟩ = some (.int .i64 k.a) ∧ W.cell? ⟨w.heap.size, 1, none⟩ = some (.int .i64 k.b) ∧ W.cell? ⟨w.heap.size, 2, none⟩ = some (.int .i64 k.c) ∧ W.cell? ⟨w.heap.size, 3, none⟩ = some (.int .i64 k.d)) := Lib.hid (fun W hW => by
    obtain ⟨T, hT⟩ := HV2.out.head
    have h1 := (hW.block Q (HV2.out.lt Q HV2.out.self)).trans hT
    have h2 := (hW.block _ (Array.getElem?_eq_some_iff.1 hkw).1).trans hkw
    exact ⟨⟨cell_block (j := 0) h1 rfl, cell_block (j := 1) h1 rfl⟩, ⟨free_block 0 h1, free_block 1 h1⟩, key_at h2 0 (by omega), key_at h2 1 (by omega), key_at h2 2 (by omega), key_at h2 3 (by omega)⟩)
  have HWK : Hid (∀ W, Below w2.heap.size w2 W → Calls Try.prog 63 #[ks, .int .i64 (n : Nat), .int .i64 (n : Nat), kV k] W fun e w' => ∃ ka kn kc, e = .returned (.slice ka kn kc) ∧ Hid (OwnK w' w2.heap.size (.slice ka kn kc) (keys (put l k x)) ∧ Below W.heap.size W w' ∧ Below w2.heap.size w2 w')) := Lib.hid (fun W hW => by
    refine (with_key ks (keys l) n n k W (HV2.out.under hW).keys (Nat.le_refl _) (by rw [len_keys]; exact HNL.out) (by rw [len_keys]; exact HL.out)).mono ?_
    rintro e w' ⟨v', rfl, ho, hb⟩
    obtain ⟨ka, kc, rfl, _⟩ := rowK ho
    refine ⟨ka, _, kc, rfl, Lib.hid ⟨?_, hb, below_then hW hb⟩⟩
    rw [keys_put HR.out, HH.out, if_neg (by simp), HN.out]
    exact World.ownsRow.mono ho hW.size)
  have HWI : Hid (∀ W, Below w2.heap.size w2 W → Calls Try.prog 62 #[vs, .int .i64 (n : Nat), .int .i64 (n : Nat), .int .i64 x] W fun e w' => ∃ va vn vc, e = .returned (.slice va vn vc) ∧ Hid (OwnI w' w2.heap.size (.slice va vn vc) (vals (put l k x)) ∧ Below W.heap.size W w' ∧ Below w2.heap.size w2 w')) := Lib.hid (fun W hW => by
    refine (with_int vs (vals l) n n x W (HV2.out.under hW).vals (Nat.le_refl _) (by rw [len_vals]; exact HNL.out) (by rw [len_vals]; exact HL.out)).mono ?_
    rintro e w' ⟨v', rfl, ho, hb⟩
    obtain ⟨va, vc, rfl, _⟩ := rowI ho
    refine ⟨va, _, vc, rfl, Lib.hid ⟨?_, hb, below_then hW hb⟩⟩
    rw [vals_put, HH.out, if_neg (by simp), HN.out]
    exact World.ownsRow.mono ho hW.size)
  have HD : Hid (∀ W v3 v4, Below w2.heap.size w2 W → OwnK W w2.heap.size v3 (keys (put l k x)) → OwnI W w2.heap.size v4 (vals (put l k x)) →
      ∃ F', PT ((W.setCell ⟨Q, 0, none⟩ v3).setCell ⟨Q, 1, none⟩ v4) Q F' (put l k x) ∧ w.grownBy ((W.setCell ⟨Q, 0, none⟩ v3).setCell ⟨Q, 1, none⟩ v4) (some Q) ∧ ∀ j, F' j → F j ∨ w.heap.size ≤ j) := Lib.hid (fun W v3 v4 hW h3 h4 => by
    obtain ⟨T, hT⟩ := HV2.out.head
    have h1 := (hW.block Q (HV2.out.lt Q HV2.out.self)).trans hT
    exact turned HV.out (below_then HB2.out hW) (World.ownsRow.mono h3 (Nat.zero_le _)) (World.ownsRow.mono h4 (Nat.zero_le _)) (fun q hq => .inr (Nat.le_trans HB2.out.size (h3.lt q hq).1)) (fun q hq => .inr (Nat.le_trans HB2.out.size (h4.lt q hq).1))
      (heap_setCell_same _ Q 1 _ _ v4 (heap_setCell_same W Q 0 _ _ v3 h1)) (only_setCell (only_setCell (only_refl W (some Q)) _ _) _ _))
  obtain ⟨⟨c0, c1⟩, -, e0, e1, e2, e3⟩ := HS.out w2 (Below.refl _ _)
  clear hb2 hkw k0 k1 k2 k3
  go_wp2_with fail
  go_region_with (first
    | (go_at_call 63; first
        | (with_reducible (refine (HWK.out _ ((Below.refl _ w2).drew)).mono ?_); rintro e w3 ⟨ka, kn, kc, rfl, HK⟩; obtain ⟨⟨p0, p1⟩, ⟨p2, p3⟩, p4, p5, p6, p7⟩ := HS.out w3 HK.out.2.2)
        | (refine (HWK.out _ HI.out.2.2).mono ?_; rintro e w3 ⟨ka, kn, kc, rfl, HK⟩; obtain ⟨⟨p0, p1⟩, ⟨p2, p3⟩, p4, p5, p6, p7⟩ := HS.out w3 HK.out.2.2; have HZ := Lib.hid (HD.out w3 (.slice ka kn kc) (.slice va vn vc) HK.out.2.2 HK.out.1 (own_under HI.out.1 HK.out.2.1))))
    | (go_at_call 62; first
        | (with_reducible (refine (HWI.out _ ((Below.refl _ w2).drew)).mono ?_); rintro e w4 ⟨va, vn, vc, rfl, HI⟩; obtain ⟨⟨q0, q1⟩, ⟨q2, q3⟩, q4, q5, q6, q7⟩ := HS.out w4 HI.out.2.2)
        | (refine (HWI.out _ HK.out.2.2).mono ?_; rintro e w4 ⟨va, vn, vc, rfl, HI⟩; obtain ⟨⟨q0, q1⟩, ⟨q2, q3⟩, q4, q5, q6, q7⟩ := HS.out w4 HI.out.2.2; have HZ := Lib.hid (HD.out w4 (.slice ka kn kc) (.slice va vn vc) HI.out.2.2 (own_under HK.out.1 HI.out.2.1) HI.out.1))))
  all_goals
    go_wp2_with fail
    go_ret
    exact ⟨rfl, HZ.out⟩
set_option maxRecDepth 100000 in
set_option maxHeartbeats 2000000 in
theorem put_nil (k : Key) (x : Int) (w : World) :
    Calls Try.prog 51 #[.pointer none, kV k, .int .i64 x] w fun e w' => e = .returned (.bool false) ∧ Below w.heap.size w w' := by
  obtain ⟨X, hX⟩ : ∃ X, w.alloc (.cells #[.int .i64 k.a, .int .i64 k.b, .int .i64 k.c, .int .i64 k.d] 81) = X := ⟨_, rfl⟩
  have HB : Hid (Below w.heap.size w X) := Lib.hid (by rw [← hX]; exact (Below.refl _ w).alloc (Nat.le_refl _) _)
  go_enter Try.func51, Try.ntmps51
  go_wp2_with fail
  go_ret
  exact ⟨rfl, HB.out⟩
end Go.Proofs.Ytkljaaeeocghjaa.Tab.Im
