/- The program's Put of a key that is not there. -/
import Derived.Test.YtfebaiefoonncaaTdrJ
namespace Go.Proofs.Ytfebaiefoonncaa.Tb.Dr
open Go.RowKit Go.Lib Draft

set_option maxRecDepth 100000 in
set_option maxHeartbeats 8000000 in
theorem put_no {Q : Nat} {F : Nat → Prop} {l : List Pr} {rest : List Value} (k : Key) (x : Dr) (w : World) (h : PT w Q F l rest) (hr : Rising l) (hl : l.length ≤ 1000) (hh : has l k = false) :
    Calls Try.prog 36 #[ptr Q, kV k, elV x] w fun e w' => e = .returned (.bool true) ∧ ∃ F', PT w' Q F' (put l k x) rest ∧ w.grownBy w' (some Q) ∧ ∀ j, F' j → F j ∨ w.heap.size ≤ j := by
  obtain ⟨V, hV⟩ : ∃ V, (w.alloc (.cells #[.int .i64 k.a, .int .i64 k.b, .int .i64 k.c, .int .i64 k.d] 65)).heap.size = V := ⟨_, rfl⟩
  obtain ⟨X, hX⟩ : ∃ X, (w.alloc (.cells #[.int .i64 k.a, .int .i64 k.b, .int .i64 k.c, .int .i64 k.d] 65)).alloc (.cells #[.int .i64 x.id, .int .i64 x.owner, .int .i64 x.div, .int .i64 x.place, .int .i64 x.blue, .int .i64 x.me, .int .i64 x.te, .int .i64 x.runs, .int .i64 x.busy] 36) = X := ⟨_, rfl⟩
  have hbX : Below w.heap.size w X := by rw [← hX]; exact ((Below.refl _ w).alloc (Nat.le_refl _) _).alloc (by simp) _
  have hkX : X.heap[w.heap.size]? = some (.cells k.cells 65 (0, 0)) := by rw [← hX, heap_alloc_old _ _ (by simp)]; exact heap_alloc_new w _
  have hvX : X.heap[V]? = some (.cells x.cells 36 (0, 0)) := by rw [← hX, ← hV]; exact heap_alloc_new _ _
  have HBX : Hid (∀ W, Below X.heap.size X W → W.cell? ⟨w.heap.size, 0, none⟩ = some (.int .i64 k.a) ∧ W.cell? ⟨w.heap.size, 1, none⟩ = some (.int .i64 k.b) ∧ W.cell? ⟨w.heap.size, 2, none⟩ = some (.int .i64 k.c) ∧ W.cell? ⟨w.heap.size, 3, none⟩ = some (.int .i64 k.d) ∧ W.cell? ⟨V, 0, none⟩ = some (.int .i64 x.id) ∧ W.cell? ⟨V, 1, none⟩ = some (.int .i64 x.owner) ∧ W.cell? ⟨V, 2, none⟩ = some (.int .i64 x.div) ∧ W.cell? ⟨V, 3, none⟩ = some (.int .i64 x.place) ∧ W.cell? ⟨V, 4, none⟩ = some (.int .i64 x.blue) ∧ W.cell? ⟨V, 5, none⟩ = some (.int .i64 x.me) ∧ W.cell? ⟨V, 6, none⟩ = some (.int .i64 x.te) ∧ W.cell? ⟨V, 7, none⟩ = some (.int .i64 x.runs) ∧ W.cell? ⟨V, 8, none⟩ = some (.int .i64 x.busy)) := Lib.hid (fun W hW => by
    have h1 := (hW.block _ (Array.getElem?_eq_some_iff.1 hkX).1).trans hkX
    obtain ⟨v0, v1, v2, v3, v4, v5, v6, v7, v8⟩ := el_at ((hW.block _ (Array.getElem?_eq_some_iff.1 hvX).1).trans hvX)
    exact ⟨key_at h1 0 (by omega), key_at h1 1 (by omega), key_at h1 2 (by omega), key_at h1 3 (by omega), v0, v1, v2, v3, v4, v5, v6, v7, v8⟩)
  obtain ⟨b0, b1, b2, b3, b4, b5, b6, b7, b8, b9, b10, b11, b12⟩ := HBX.out X (Below.refl _ _)
  have HNE : Hid (w.heap.size ≠ Q ∧ V ≠ Q) := Lib.hid (by
    have h1 := h.lt Q h.self
    have h2 : w.heap.size < V := by rw [← hV]; simp
    exact ⟨by omega, by omega⟩)
  have hPX := h.under hbX
  obtain ⟨n, hn⟩ : ∃ n, place l k = n := ⟨_, rfl⟩
  have HP := Lib.hid (place_im k X hPX hr hl)
  unfold placeV at HP
  rw [hn, hh] at HP
  obtain ⟨ks, vs, hv⟩ := h
  have HV := Lib.hid hv; have HB := Lib.hid hbX; have HN := Lib.hid hn; have HH := Lib.hid hh; have HR := Lib.hid hr
  have hnl : n ≤ l.length := by rw [← hn]; exact place_le l k
  have HNL := Lib.hid hnl; have HL := Lib.hid hl
  have hn1 : (n : Int) ≤ 1048576 := by omega
  have hn0 : (0 : Int) ≤ (n : Int) := by omega
  clear hbX hkX hvX hPX hv hn hh hl hr hnl
  go_enter Try.func36, Try.ntmps36
  go_wp2_with fail
  clear hX hV
  refine HP.out.mono ?_
  rintro e w2 ⟨rfl, hb2⟩
  have HB2 := Lib.hid (below_then HB.out hb2)
  have HV2 := Lib.hid (HV.out.under HB2.out)
  have HS : Hid (∀ W, Below w2.heap.size w2 W → (W.cell? ⟨Q, 0, none⟩ = some ks ∧ W.cell? ⟨Q, 1, none⟩ = some vs) ∧ (W.frozen? ⟨Q, 0, none⟩ = false ∧ W.frozen? ⟨Q, 1, none⟩ = false) ∧
      W.cell? ⟨w.heap.size, 0, none⟩ = some (.int .i64 k.a) ∧ W.cell? ⟨w.heap.size, 1, none⟩ = some (.int .i64 k.b) ∧ W.cell? ⟨w.heap.size, 2, none⟩ = some (.int .i64 k.c) ∧ W.cell? ⟨w.heap.size, 3, none⟩ = some (.int .i64 k.d) ∧ W.cell? ⟨V, 0, none⟩ = some (.int .i64 x.id) ∧ W.cell? ⟨V, 1, none⟩ = some (.int .i64 x.owner) ∧ W.cell? ⟨V, 2, none⟩ = some (.int .i64 x.div) ∧ W.cell? ⟨V, 3, none⟩ = some (.int .i64 x.place) ∧ W.cell? ⟨V, 4, none⟩ = some (.int .i64 x.blue) ∧ W.cell? ⟨V, 5, none⟩ = some (.int .i64 x.me) ∧ W.cell? ⟨V, 6, none⟩ = some (.int .i64 x.te) ∧ W.cell? ⟨V, 7, none⟩ = some (.int .i64 x.runs) ∧ W.cell? ⟨V, 8, none⟩ = some (.int .i64 x.busy)) := Lib.hid (fun W hW => by
    obtain ⟨T, hT⟩ := HV2.out.head
    have h1 := (hW.block Q (HV2.out.lt Q HV2.out.self)).trans hT
    exact ⟨⟨cell_block (j := 0) h1 (by simp), cell_block (j := 1) h1 (by simp)⟩, ⟨free_block 0 h1, free_block 1 h1⟩, HBX.out W (below_then hb2 hW)⟩)
  have HWK : Hid (∀ W, Below w2.heap.size w2 W → Calls Try.prog 43 #[ks, .int .i64 (n : Nat), .int .i64 (n : Nat), kV k] W fun e w' => ∃ ka kn kc, e = .returned (.slice ka kn kc) ∧ Hid (OwnK w' w2.heap.size (.slice ka kn kc) (keys (put l k x)) ∧ Below W.heap.size W w' ∧ Below w2.heap.size w2 w')) := Lib.hid (fun W hW => by
    refine (with_key ks (keys l) n n k W (HV2.out.under hW).keys (Nat.le_refl _) (by rw [len_keys]; exact HNL.out) (by rw [len_keys]; exact HL.out)).mono ?_
    rintro e w' ⟨v', rfl, ho, hb⟩
    obtain ⟨ka, kc, rfl, _⟩ := rowK ho
    refine ⟨ka, _, kc, rfl, Lib.hid ⟨?_, hb, below_then hW hb⟩⟩
    rw [keys_put HR.out, HH.out, if_neg (by simp), HN.out]
    exact World.ownsRow.mono ho hW.size)
  have HWI : Hid (∀ W, Below w2.heap.size w2 W → Calls Try.prog 42 #[vs, .int .i64 (n : Nat), .int .i64 (n : Nat), elV x] W fun e w' => ∃ va vn vc, e = .returned (.slice va vn vc) ∧ Hid (OwnV w' w2.heap.size (.slice va vn vc) (vals (put l k x)) ∧ Below W.heap.size W w' ∧ Below w2.heap.size w2 w')) := Lib.hid (fun W hW => by
    refine (with_el vs (vals l) n n x W (HV2.out.under hW).vals (Nat.le_refl _) (by rw [len_vals]; exact HNL.out) (by rw [len_vals]; exact HL.out)).mono ?_
    rintro e w' ⟨v', rfl, ho, hb⟩
    obtain ⟨va, vc, rfl, _⟩ := rowV ho
    refine ⟨va, _, vc, rfl, Lib.hid ⟨?_, hb, below_then hW hb⟩⟩
    rw [vals_put, HH.out, if_neg (by simp), HN.out]
    exact World.ownsRow.mono ho hW.size)
  have HD : Hid (∀ W v3 v4, Below w2.heap.size w2 W → OwnK W w2.heap.size v3 (keys (put l k x)) → OwnV W w2.heap.size v4 (vals (put l k x)) →
      ∃ F', PT ((W.setCell ⟨Q, 0, none⟩ v3).setCell ⟨Q, 1, none⟩ v4) Q F' (put l k x) rest ∧ w.grownBy ((W.setCell ⟨Q, 0, none⟩ v3).setCell ⟨Q, 1, none⟩ v4) (some Q) ∧ ∀ j, F' j → F j ∨ w.heap.size ≤ j) := Lib.hid (fun W v3 v4 hW h3 h4 => by
    obtain ⟨T, hT⟩ := HV2.out.head
    have h1 := (hW.block Q (HV2.out.lt Q HV2.out.self)).trans hT
    have h2 := heap_setCell_same _ Q 1 _ _ v4 (heap_setCell_same W Q 0 _ _ v3 h1)
    exact turned (T := T) HV.out (below_then HB2.out hW) (World.ownsRow.mono h3 (Nat.zero_le _)) (World.ownsRow.mono h4 (Nat.zero_le _)) (fun q hq => .inr (Nat.le_trans HB2.out.size (h3.lt q hq).1)) (fun q hq => .inr (Nat.le_trans HB2.out.size (h4.lt q hq).1))
      (by simpa using h2) (only_setCell (only_setCell (only_refl W (some Q)) _ _) _ _))
  obtain ⟨⟨c0, c1⟩, -, e0, e1, e2, e3, e4, e5, e6, e7, e8, e9, e10, e11, e12⟩ := HS.out w2 (Below.refl _ _)
  clear hb2 b0 b1 b2 b3 b4 b5 b6 b7 b8 b9 b10 b11 b12
  go_wp2_with fail
  have HSS : Hid (∀ W, Below w2.heap.size w2 W → ∀ (j : Nat) (u : Value), (W.setCell ⟨Q, j, none⟩ u).cell? ⟨w.heap.size, 0, none⟩ = some (.int .i64 k.a) ∧ (W.setCell ⟨Q, j, none⟩ u).cell? ⟨w.heap.size, 1, none⟩ = some (.int .i64 k.b) ∧ (W.setCell ⟨Q, j, none⟩ u).cell? ⟨w.heap.size, 2, none⟩ = some (.int .i64 k.c) ∧ (W.setCell ⟨Q, j, none⟩ u).cell? ⟨w.heap.size, 3, none⟩ = some (.int .i64 k.d) ∧ (W.setCell ⟨Q, j, none⟩ u).cell? ⟨V, 0, none⟩ = some (.int .i64 x.id) ∧ (W.setCell ⟨Q, j, none⟩ u).cell? ⟨V, 1, none⟩ = some (.int .i64 x.owner) ∧ (W.setCell ⟨Q, j, none⟩ u).cell? ⟨V, 2, none⟩ = some (.int .i64 x.div) ∧ (W.setCell ⟨Q, j, none⟩ u).cell? ⟨V, 3, none⟩ = some (.int .i64 x.place) ∧ (W.setCell ⟨Q, j, none⟩ u).cell? ⟨V, 4, none⟩ = some (.int .i64 x.blue) ∧ (W.setCell ⟨Q, j, none⟩ u).cell? ⟨V, 5, none⟩ = some (.int .i64 x.me) ∧ (W.setCell ⟨Q, j, none⟩ u).cell? ⟨V, 6, none⟩ = some (.int .i64 x.te) ∧ (W.setCell ⟨Q, j, none⟩ u).cell? ⟨V, 7, none⟩ = some (.int .i64 x.runs) ∧ (W.setCell ⟨Q, j, none⟩ u).cell? ⟨V, 8, none⟩ = some (.int .i64 x.busy)) := Lib.hid (fun W hW j u => by
    obtain ⟨-, -, y0, y1, y2, y3, y4, y5, y6, y7, y8, y9, y10, y11, y12⟩ := HS.out W hW
    have far : ∀ (g o : Nat) (v : Value), g ≠ Q → W.cell? ⟨g, o, none⟩ = some v → (W.setCell ⟨Q, j, none⟩ u).cell? ⟨g, o, none⟩ = some v := fun g o v hg h => (World.cell?_setCell_far W ⟨Q, j, none⟩ ⟨g, o, none⟩ u (fun e => hg e.symm)).trans h
    exact ⟨far _ _ _ HNE.out.1 y0, far _ _ _ HNE.out.1 y1, far _ _ _ HNE.out.1 y2, far _ _ _ HNE.out.1 y3, far _ _ _ HNE.out.2 y4, far _ _ _ HNE.out.2 y5, far _ _ _ HNE.out.2 y6, far _ _ _ HNE.out.2 y7, far _ _ _ HNE.out.2 y8, far _ _ _ HNE.out.2 y9, far _ _ _ HNE.out.2 y10, far _ _ _ HNE.out.2 y11, far _ _ _ HNE.out.2 y12⟩)
  have HST : Hid (∀ W, Below w2.heap.size w2 W → ∀ (u v : Value), ((W.setCell ⟨Q, 0, none⟩ u).setCell ⟨Q, 1, none⟩ v).cell? ⟨w.heap.size, 0, none⟩ = some (.int .i64 k.a) ∧ ((W.setCell ⟨Q, 0, none⟩ u).setCell ⟨Q, 1, none⟩ v).cell? ⟨w.heap.size, 1, none⟩ = some (.int .i64 k.b) ∧ ((W.setCell ⟨Q, 0, none⟩ u).setCell ⟨Q, 1, none⟩ v).cell? ⟨w.heap.size, 2, none⟩ = some (.int .i64 k.c) ∧ ((W.setCell ⟨Q, 0, none⟩ u).setCell ⟨Q, 1, none⟩ v).cell? ⟨w.heap.size, 3, none⟩ = some (.int .i64 k.d) ∧ ((W.setCell ⟨Q, 0, none⟩ u).setCell ⟨Q, 1, none⟩ v).cell? ⟨V, 0, none⟩ = some (.int .i64 x.id) ∧ ((W.setCell ⟨Q, 0, none⟩ u).setCell ⟨Q, 1, none⟩ v).cell? ⟨V, 1, none⟩ = some (.int .i64 x.owner) ∧ ((W.setCell ⟨Q, 0, none⟩ u).setCell ⟨Q, 1, none⟩ v).cell? ⟨V, 2, none⟩ = some (.int .i64 x.div) ∧ ((W.setCell ⟨Q, 0, none⟩ u).setCell ⟨Q, 1, none⟩ v).cell? ⟨V, 3, none⟩ = some (.int .i64 x.place) ∧ ((W.setCell ⟨Q, 0, none⟩ u).setCell ⟨Q, 1, none⟩ v).cell? ⟨V, 4, none⟩ = some (.int .i64 x.blue) ∧ ((W.setCell ⟨Q, 0, none⟩ u).setCell ⟨Q, 1, none⟩ v).cell? ⟨V, 5, none⟩ = some (.int .i64 x.me) ∧ ((W.setCell ⟨Q, 0, none⟩ u).setCell ⟨Q, 1, none⟩ v).cell? ⟨V, 6, none⟩ = some (.int .i64 x.te) ∧ ((W.setCell ⟨Q, 0, none⟩ u).setCell ⟨Q, 1, none⟩ v).cell? ⟨V, 7, none⟩ = some (.int .i64 x.runs) ∧ ((W.setCell ⟨Q, 0, none⟩ u).setCell ⟨Q, 1, none⟩ v).cell? ⟨V, 8, none⟩ = some (.int .i64 x.busy)) := Lib.hid (fun W hW u v => by
    obtain ⟨y0, y1, y2, y3, y4, y5, y6, y7, y8, y9, y10, y11, y12⟩ := HSS.out W hW 0 u
    have far : ∀ (g o : Nat) (x : Value), g ≠ Q → (W.setCell ⟨Q, 0, none⟩ u).cell? ⟨g, o, none⟩ = some x → ((W.setCell ⟨Q, 0, none⟩ u).setCell ⟨Q, 1, none⟩ v).cell? ⟨g, o, none⟩ = some x := fun g o x hg h => (World.cell?_setCell_far _ ⟨Q, 1, none⟩ ⟨g, o, none⟩ v (fun e => hg e.symm)).trans h
    exact ⟨far _ _ _ HNE.out.1 y0, far _ _ _ HNE.out.1 y1, far _ _ _ HNE.out.1 y2, far _ _ _ HNE.out.1 y3, far _ _ _ HNE.out.2 y4, far _ _ _ HNE.out.2 y5, far _ _ _ HNE.out.2 y6, far _ _ _ HNE.out.2 y7, far _ _ _ HNE.out.2 y8, far _ _ _ HNE.out.2 y9, far _ _ _ HNE.out.2 y10, far _ _ _ HNE.out.2 y11, far _ _ _ HNE.out.2 y12⟩)
  refine wp_region_held_drew (S := fun W => W.cell? ⟨w.heap.size, 0, none⟩ = some (.int .i64 k.a) ∧ W.cell? ⟨w.heap.size, 1, none⟩ = some (.int .i64 k.b) ∧ W.cell? ⟨w.heap.size, 2, none⟩ = some (.int .i64 k.c) ∧ W.cell? ⟨w.heap.size, 3, none⟩ = some (.int .i64 k.d) ∧ W.cell? ⟨V, 0, none⟩ = some (.int .i64 x.id) ∧ W.cell? ⟨V, 1, none⟩ = some (.int .i64 x.owner) ∧ W.cell? ⟨V, 2, none⟩ = some (.int .i64 x.div) ∧ W.cell? ⟨V, 3, none⟩ = some (.int .i64 x.place) ∧ W.cell? ⟨V, 4, none⟩ = some (.int .i64 x.blue) ∧ W.cell? ⟨V, 5, none⟩ = some (.int .i64 x.me) ∧ W.cell? ⟨V, 6, none⟩ = some (.int .i64 x.te) ∧ W.cell? ⟨V, 7, none⟩ = some (.int .i64 x.runs) ∧ W.cell? ⟨V, 8, none⟩ = some (.int .i64 x.busy)) (by kernel_rfl) (HS.out _ (Below.refl _ w2).drew).2.2 (fun hHeld => ?_)
  clear e0 e1 e2 e3 e4 e5 e6 e7 e8 e9 e10 e11 e12
  refine wpAnyH_take (i := 0) (v := .pointer (some ⟨Q, 0, none⟩)) rfl (by kernel_rfl) (by kernel_rfl) (by kernel_rfl) (fun _ _ _ h => h) (Or.inl ⟨by rfl, fun V hSV => ?_⟩) (by assumption) ?_
  · obtain ⟨y0, y1, y2, y3, y4, y5, y6, y7, y8, y9, y10, y11, y12⟩ := hSV
    go_simp
  (try simp only [Act.put, List.getElem_toArray, List.getElem_cons_zero, List.setIfInBounds_toArray, List.set_cons_zero, List.set_cons_succ])
  refine wpAnyH_take (i := 1) (v := .pointer (some ⟨Q, 0, none⟩)) rfl (by kernel_rfl) (by kernel_rfl) (by kernel_rfl) (fun _ _ _ h => h) (Or.inl ⟨by rfl, fun V hSV => ?_⟩) (by assumption) ?_
  · obtain ⟨y0, y1, y2, y3, y4, y5, y6, y7, y8, y9, y10, y11, y12⟩ := hSV
    go_simp
  (try simp only [Act.put, List.getElem_toArray, List.getElem_cons_succ, List.getElem_cons_zero, List.setIfInBounds_toArray, List.set_cons_zero, List.set_cons_succ])
  refine wpAnyH_take (i := 2) (v := .pointer (some ⟨Q, 0, none⟩)) rfl (by kernel_rfl) (by kernel_rfl) (by kernel_rfl) (fun _ _ _ h => h) (Or.inl ⟨by rfl, fun V hSV => ?_⟩) (by assumption) ?_
  · obtain ⟨y0, y1, y2, y3, y4, y5, y6, y7, y8, y9, y10, y11, y12⟩ := hSV
    go_simp
  (try simp only [Act.put, List.getElem_toArray, List.getElem_cons_succ, List.getElem_cons_zero, List.setIfInBounds_toArray, List.set_cons_zero, List.set_cons_succ])
  refine wpAnyH_take (i := 3) (v := .pointer (some ⟨Q, 0, none⟩)) rfl (by kernel_rfl) (by kernel_rfl) (by kernel_rfl) (fun _ _ _ h => h) (Or.inl ⟨by rfl, fun V hSV => ?_⟩) (by assumption) ?_
  · obtain ⟨y0, y1, y2, y3, y4, y5, y6, y7, y8, y9, y10, y11, y12⟩ := hSV
    go_simp
  (try simp only [Act.put, List.getElem_toArray, List.getElem_cons_succ, List.getElem_cons_zero, List.setIfInBounds_toArray, List.set_cons_zero, List.set_cons_succ])
  refine wpAnyH_take (i := 4) (v := .pointer (some ⟨Q, 0, none⟩)) rfl (by kernel_rfl) (by kernel_rfl) (by kernel_rfl) (fun _ _ _ h => h) (Or.inl ⟨by rfl, fun V hSV => ?_⟩) (by assumption) ?_
  · obtain ⟨y0, y1, y2, y3, y4, y5, y6, y7, y8, y9, y10, y11, y12⟩ := hSV
    go_simp
  (try simp only [Act.put, List.getElem_toArray, List.getElem_cons_succ, List.getElem_cons_zero, List.setIfInBounds_toArray, List.set_cons_zero, List.set_cons_succ])
  refine wpAnyH_take (i := 6) (v := .int .i64 (n : Nat)) rfl (by kernel_rfl) (by kernel_rfl) (by kernel_rfl) (fun _ _ _ h => h) (Or.inl ⟨by rfl, fun V hSV => ?_⟩) (by assumption) ?_
  · obtain ⟨y0, y1, y2, y3, y4, y5, y6, y7, y8, y9, y10, y11, y12⟩ := hSV
    go_simp
  (try simp only [Act.put, List.getElem_toArray, List.getElem_cons_succ, List.getElem_cons_zero, List.setIfInBounds_toArray, List.set_cons_zero, List.set_cons_succ])
  refine wpAnyH_take (i := 7) (v := .int .i64 (n : Nat)) rfl (by kernel_rfl) (by kernel_rfl) (by kernel_rfl) (fun _ _ _ h => h) (Or.inl ⟨by rfl, fun V hSV => ?_⟩) (by assumption) ?_
  · obtain ⟨y0, y1, y2, y3, y4, y5, y6, y7, y8, y9, y10, y11, y12⟩ := hSV
    go_simp
  (try simp only [Act.put, List.getElem_toArray, List.getElem_cons_succ, List.getElem_cons_zero, List.setIfInBounds_toArray, List.set_cons_zero, List.set_cons_succ])
  refine wpAnyH_take (i := 8) (v := .agg #[.int .i64 k.a, .int .i64 k.b, .int .i64 k.c, .int .i64 k.d]) rfl (by kernel_rfl) (by kernel_rfl) (by kernel_rfl) (fun _ _ _ h => h) (Or.inl ⟨by rfl, fun V hSV => ?_⟩) (by assumption) ?_
  · obtain ⟨y0, y1, y2, y3, y4, y5, y6, y7, y8, y9, y10, y11, y12⟩ := hSV
    go_simp
  (try simp only [Act.put, List.getElem_toArray, List.getElem_cons_succ, List.getElem_cons_zero, List.setIfInBounds_toArray, List.set_cons_zero, List.set_cons_succ])
  refine wpAnyH_take (i := 10) (v := .pointer (some ⟨Q, 0, none⟩)) rfl (by kernel_rfl) (by kernel_rfl) (by kernel_rfl) (fun _ _ _ h => h) (Or.inl ⟨by rfl, fun V hSV => ?_⟩) (by assumption) ?_
  · obtain ⟨y0, y1, y2, y3, y4, y5, y6, y7, y8, y9, y10, y11, y12⟩ := hSV
    go_simp
  (try simp only [Act.put, List.getElem_toArray, List.getElem_cons_succ, List.getElem_cons_zero, List.setIfInBounds_toArray, List.set_cons_zero, List.set_cons_succ])
  refine wpAnyH_take (i := 11) (v := .pointer (some ⟨Q, 0, none⟩)) rfl (by kernel_rfl) (by kernel_rfl) (by kernel_rfl) (fun _ _ _ h => h) (Or.inl ⟨by rfl, fun V hSV => ?_⟩) (by assumption) ?_
  · obtain ⟨y0, y1, y2, y3, y4, y5, y6, y7, y8, y9, y10, y11, y12⟩ := hSV
    go_simp
  (try simp only [Act.put, List.getElem_toArray, List.getElem_cons_succ, List.getElem_cons_zero, List.setIfInBounds_toArray, List.set_cons_zero, List.set_cons_succ])
  refine wpAnyH_take (i := 12) (v := .pointer (some ⟨Q, 1, none⟩)) rfl (by kernel_rfl) (by kernel_rfl) (by kernel_rfl) (fun _ _ _ h => h) (Or.inl ⟨by rfl, fun V hSV => ?_⟩) (by assumption) ?_
  · obtain ⟨y0, y1, y2, y3, y4, y5, y6, y7, y8, y9, y10, y11, y12⟩ := hSV
    go_simp
  (try simp only [Act.put, List.getElem_toArray, List.getElem_cons_succ, List.getElem_cons_zero, List.setIfInBounds_toArray, List.set_cons_zero, List.set_cons_succ])
  refine wpAnyH_take (i := 14) (v := .int .i64 (n : Nat)) rfl (by kernel_rfl) (by kernel_rfl) (by kernel_rfl) (fun _ _ _ h => h) (Or.inl ⟨by rfl, fun V hSV => ?_⟩) (by assumption) ?_
  · obtain ⟨y0, y1, y2, y3, y4, y5, y6, y7, y8, y9, y10, y11, y12⟩ := hSV
    go_simp
  (try simp only [Act.put, List.getElem_toArray, List.getElem_cons_succ, List.getElem_cons_zero, List.setIfInBounds_toArray, List.set_cons_zero, List.set_cons_succ])
  refine wpAnyH_take (i := 15) (v := .int .i64 (n : Nat)) rfl (by kernel_rfl) (by kernel_rfl) (by kernel_rfl) (fun _ _ _ h => h) (Or.inl ⟨by rfl, fun V hSV => ?_⟩) (by assumption) ?_
  · obtain ⟨y0, y1, y2, y3, y4, y5, y6, y7, y8, y9, y10, y11, y12⟩ := hSV
    go_simp
  (try simp only [Act.put, List.getElem_toArray, List.getElem_cons_succ, List.getElem_cons_zero, List.setIfInBounds_toArray, List.set_cons_zero, List.set_cons_succ])
  refine wpAnyH_take (i := 16) (v := .agg #[.int .i64 x.id, .int .i64 x.owner, .int .i64 x.div, .int .i64 x.place, .int .i64 x.blue, .int .i64 x.me, .int .i64 x.te, .int .i64 x.runs, .int .i64 x.busy]) rfl (by kernel_rfl) (by kernel_rfl) (by kernel_rfl) (fun _ _ _ h => h) (Or.inl ⟨by rfl, fun V hSV => ?_⟩) (by assumption) ?_
  · obtain ⟨y0, y1, y2, y3, y4, y5, y6, y7, y8, y9, y10, y11, y12⟩ := hSV
    go_simp
  (try simp only [Act.put, List.getElem_toArray, List.getElem_cons_succ, List.getElem_cons_zero, List.setIfInBounds_toArray, List.set_cons_zero, List.set_cons_succ])
  refine wpAnyH_ready (rs := [5, 13]) (by kernel_rfl) (by simp) ?_
  refine AllReadyH.cons (o := _) rfl (fun K hK => ?_) (AllReadyH.cons (o := _) rfl (fun K hK => ?_) AllReadyH.nil)
  · go_simp
    refine hK.out _ _ hHeld (fun hHeld => ?_)
    clear hK K
    (try simp only [Act.put, List.getElem_toArray, List.getElem_cons_succ, List.getElem_cons_zero, List.setIfInBounds_toArray, List.set_cons_zero, List.set_cons_succ])
    refine wpAnyH_ready (rs := [9, 13]) (by kernel_rfl) (by simp) ?_
    refine AllReadyH.cons (o := _) rfl (fun K hK => ?_) (AllReadyH.cons (o := _) rfl (fun K hK => ?_) AllReadyH.nil)
    · go_simp
      refine (HWK.out _ ((Below.refl _ w2).drew)).mono ?_
      rintro e w3 ⟨ka, kn, kc, rfl, HK⟩
      (try dsimp only)
      obtain ⟨⟨p0, p1⟩, ⟨p2, p3⟩, GK⟩ := HS.out w3 HK.out.2.2
      refine hK.out _ _ GK (fun hHeld => ?_)
      clear hK K GK
      (try simp only [Act.put, List.getElem_toArray, List.getElem_cons_succ, List.getElem_cons_zero, List.setIfInBounds_toArray, List.set_cons_zero, List.set_cons_succ])
      refine wpAnyH_ready (rs := [13]) (by kernel_rfl) (by simp) ?_
      refine AllReadyH.cons (o := _) rfl (fun K hK => ?_) AllReadyH.nil
      · go_simp
        refine hK.out _ _ hHeld (fun hHeld => ?_)
        clear hK K
        (try simp only [Act.put, List.getElem_toArray, List.getElem_cons_succ, List.getElem_cons_zero, List.setIfInBounds_toArray, List.set_cons_zero, List.set_cons_succ])
        refine wpAnyH_ready (rs := [17]) (by kernel_rfl) (by simp) ?_
        refine AllReadyH.cons (o := _) rfl (fun K hK => ?_) AllReadyH.nil
        · go_simp
          refine (HWI.out _ (HK.out.2.2)).mono ?_
          rintro e w4 ⟨va, vn, vc, rfl, HI⟩
          (try dsimp only)
          obtain ⟨⟨q0, q1⟩, ⟨q2, q3⟩, GI⟩ := HS.out w4 HI.out.2.2
          refine hK.out _ _ GI (fun hHeld => ?_)
          clear hK K GI
          (try simp only [Act.put, List.getElem_toArray, List.getElem_cons_succ, List.getElem_cons_zero, List.setIfInBounds_toArray, List.set_cons_zero, List.set_cons_succ])
          have HZ := Lib.hid (HD.out w4 (.slice ka kn kc) (.slice va vn vc) HI.out.2.2 (own_under HK.out.1 HI.out.2.1) HI.out.1)
          have G1 := HSS.out w4 HI.out.2.2 0 (.slice ka kn kc)
          have G2 := HST.out w4 HI.out.2.2 (.slice ka kn kc) (.slice va vn vc)
          refine wpAnyH_take (i := 18) (v := .pointer (some ⟨Q, 0, none⟩)) rfl (by kernel_rfl) (by kernel_rfl) (by kernel_rfl) (fun _ _ _ h => h) (Or.inl ⟨by rfl, fun V hSV => ?_⟩) (by assumption) ?_
          · obtain ⟨y0, y1, y2, y3, y4, y5, y6, y7, y8, y9, y10, y11, y12⟩ := hSV
            go_simp
          (try simp only [Act.put, List.getElem_toArray, List.getElem_cons_succ, List.getElem_cons_zero, List.setIfInBounds_toArray, List.set_cons_zero, List.set_cons_succ])
          refine wpAnyH_take (i := 19) (v := .pointer (some ⟨Q, 0, none⟩)) rfl (by kernel_rfl) (by kernel_rfl) (by kernel_rfl) (fun _ _ _ h => h) (Or.inl ⟨by rfl, fun V hSV => ?_⟩) (by assumption) ?_
          · obtain ⟨y0, y1, y2, y3, y4, y5, y6, y7, y8, y9, y10, y11, y12⟩ := hSV
            go_simp
          (try simp only [Act.put, List.getElem_toArray, List.getElem_cons_succ, List.getElem_cons_zero, List.setIfInBounds_toArray, List.set_cons_zero, List.set_cons_succ])
          refine wpAnyH_ready (rs := [20]) (by kernel_rfl) (by simp) ?_
          refine AllReadyH.cons (o := _) rfl (fun K hK => ?_) AllReadyH.nil
          go_simp
          refine hK.out _ _ G1 (fun hHeld => ?_)
          clear hK K
          (try simp only [Act.put, List.getElem_toArray, List.getElem_cons_succ, List.getElem_cons_zero, List.setIfInBounds_toArray, List.set_cons_zero, List.set_cons_succ])
          refine wpAnyH_take (i := 21) (v := .pointer (some ⟨Q, 0, none⟩)) rfl (by kernel_rfl) (by kernel_rfl) (by kernel_rfl) (fun _ _ _ h => h) (Or.inl ⟨by rfl, fun V hSV => ?_⟩) (by assumption) ?_
          · obtain ⟨y0, y1, y2, y3, y4, y5, y6, y7, y8, y9, y10, y11, y12⟩ := hSV
            go_simp
          (try simp only [Act.put, List.getElem_toArray, List.getElem_cons_succ, List.getElem_cons_zero, List.setIfInBounds_toArray, List.set_cons_zero, List.set_cons_succ])
          refine wpAnyH_take (i := 22) (v := .pointer (some ⟨Q, 1, none⟩)) rfl (by kernel_rfl) (by kernel_rfl) (by kernel_rfl) (fun _ _ _ h => h) (Or.inl ⟨by rfl, fun V hSV => ?_⟩) (by assumption) ?_
          · obtain ⟨y0, y1, y2, y3, y4, y5, y6, y7, y8, y9, y10, y11, y12⟩ := hSV
            go_simp
          (try simp only [Act.put, List.getElem_toArray, List.getElem_cons_succ, List.getElem_cons_zero, List.setIfInBounds_toArray, List.set_cons_zero, List.set_cons_succ])
          refine wpAnyH_ready (rs := [23]) (by kernel_rfl) (by simp) ?_
          refine AllReadyH.cons (o := _) rfl (fun K hK => ?_) AllReadyH.nil
          go_simp
          refine hK.out _ _ G2 (fun hHeld => ?_)
          clear hK K
          (try simp only [Act.put, List.getElem_toArray, List.getElem_cons_succ, List.getElem_cons_zero, List.setIfInBounds_toArray, List.set_cons_zero, List.set_cons_succ])
          refine wpAnyH_done (by kernel_rfl) ?_ _
          go_wp2_with fail
          go_ret
          exact ⟨rfl, HZ.out⟩
    · go_simp
      refine hK.out _ _ hHeld (fun hHeld => ?_)
      clear hK K
      (try simp only [Act.put, List.getElem_toArray, List.getElem_cons_succ, List.getElem_cons_zero, List.setIfInBounds_toArray, List.set_cons_zero, List.set_cons_succ])
      refine wpAnyH_ready (rs := [9]) (by kernel_rfl) (by simp) ?_
      refine AllReadyH.cons (o := _) rfl (fun K hK => ?_) AllReadyH.nil
      · go_simp
        refine (HWK.out _ ((Below.refl _ w2).drew)).mono ?_
        rintro e w3 ⟨ka, kn, kc, rfl, HK⟩
        (try dsimp only)
        obtain ⟨⟨p0, p1⟩, ⟨p2, p3⟩, GK⟩ := HS.out w3 HK.out.2.2
        refine hK.out _ _ GK (fun hHeld => ?_)
        clear hK K GK
        (try simp only [Act.put, List.getElem_toArray, List.getElem_cons_succ, List.getElem_cons_zero, List.setIfInBounds_toArray, List.set_cons_zero, List.set_cons_succ])
        refine wpAnyH_ready (rs := [17]) (by kernel_rfl) (by simp) ?_
        refine AllReadyH.cons (o := _) rfl (fun K hK => ?_) AllReadyH.nil
        · go_simp
          refine (HWI.out _ (HK.out.2.2)).mono ?_
          rintro e w4 ⟨va, vn, vc, rfl, HI⟩
          (try dsimp only)
          obtain ⟨⟨q0, q1⟩, ⟨q2, q3⟩, GI⟩ := HS.out w4 HI.out.2.2
          refine hK.out _ _ GI (fun hHeld => ?_)
          clear hK K GI
          (try simp only [Act.put, List.getElem_toArray, List.getElem_cons_succ, List.getElem_cons_zero, List.setIfInBounds_toArray, List.set_cons_zero, List.set_cons_succ])
          have HZ := Lib.hid (HD.out w4 (.slice ka kn kc) (.slice va vn vc) HI.out.2.2 (own_under HK.out.1 HI.out.2.1) HI.out.1)
          have G1 := HSS.out w4 HI.out.2.2 0 (.slice ka kn kc)
          have G2 := HST.out w4 HI.out.2.2 (.slice ka kn kc) (.slice va vn vc)
          refine wpAnyH_take (i := 18) (v := .pointer (some ⟨Q, 0, none⟩)) rfl (by kernel_rfl) (by kernel_rfl) (by kernel_rfl) (fun _ _ _ h => h) (Or.inl ⟨by rfl, fun V hSV => ?_⟩) (by assumption) ?_
          · obtain ⟨y0, y1, y2, y3, y4, y5, y6, y7, y8, y9, y10, y11, y12⟩ := hSV
            go_simp
          (try simp only [Act.put, List.getElem_toArray, List.getElem_cons_succ, List.getElem_cons_zero, List.setIfInBounds_toArray, List.set_cons_zero, List.set_cons_succ])
          refine wpAnyH_take (i := 19) (v := .pointer (some ⟨Q, 0, none⟩)) rfl (by kernel_rfl) (by kernel_rfl) (by kernel_rfl) (fun _ _ _ h => h) (Or.inl ⟨by rfl, fun V hSV => ?_⟩) (by assumption) ?_
          · obtain ⟨y0, y1, y2, y3, y4, y5, y6, y7, y8, y9, y10, y11, y12⟩ := hSV
            go_simp
          (try simp only [Act.put, List.getElem_toArray, List.getElem_cons_succ, List.getElem_cons_zero, List.setIfInBounds_toArray, List.set_cons_zero, List.set_cons_succ])
          refine wpAnyH_ready (rs := [20]) (by kernel_rfl) (by simp) ?_
          refine AllReadyH.cons (o := _) rfl (fun K hK => ?_) AllReadyH.nil
          go_simp
          refine hK.out _ _ G1 (fun hHeld => ?_)
          clear hK K
          (try simp only [Act.put, List.getElem_toArray, List.getElem_cons_succ, List.getElem_cons_zero, List.setIfInBounds_toArray, List.set_cons_zero, List.set_cons_succ])
          refine wpAnyH_take (i := 21) (v := .pointer (some ⟨Q, 0, none⟩)) rfl (by kernel_rfl) (by kernel_rfl) (by kernel_rfl) (fun _ _ _ h => h) (Or.inl ⟨by rfl, fun V hSV => ?_⟩) (by assumption) ?_
          · obtain ⟨y0, y1, y2, y3, y4, y5, y6, y7, y8, y9, y10, y11, y12⟩ := hSV
            go_simp
          (try simp only [Act.put, List.getElem_toArray, List.getElem_cons_succ, List.getElem_cons_zero, List.setIfInBounds_toArray, List.set_cons_zero, List.set_cons_succ])
          refine wpAnyH_take (i := 22) (v := .pointer (some ⟨Q, 1, none⟩)) rfl (by kernel_rfl) (by kernel_rfl) (by kernel_rfl) (fun _ _ _ h => h) (Or.inl ⟨by rfl, fun V hSV => ?_⟩) (by assumption) ?_
          · obtain ⟨y0, y1, y2, y3, y4, y5, y6, y7, y8, y9, y10, y11, y12⟩ := hSV
            go_simp
          (try simp only [Act.put, List.getElem_toArray, List.getElem_cons_succ, List.getElem_cons_zero, List.setIfInBounds_toArray, List.set_cons_zero, List.set_cons_succ])
          refine wpAnyH_ready (rs := [23]) (by kernel_rfl) (by simp) ?_
          refine AllReadyH.cons (o := _) rfl (fun K hK => ?_) AllReadyH.nil
          go_simp
          refine hK.out _ _ G2 (fun hHeld => ?_)
          clear hK K
          (try simp only [Act.put, List.getElem_toArray, List.getElem_cons_succ, List.getElem_cons_zero, List.setIfInBounds_toArray, List.set_cons_zero, List.set_cons_succ])
          refine wpAnyH_done (by kernel_rfl) ?_ _
          go_wp2_with fail
          go_ret
          exact ⟨rfl, HZ.out⟩
  · go_simp
    refine hK.out _ _ hHeld (fun hHeld => ?_)
    clear hK K
    (try simp only [Act.put, List.getElem_toArray, List.getElem_cons_succ, List.getElem_cons_zero, List.setIfInBounds_toArray, List.set_cons_zero, List.set_cons_succ])
    refine wpAnyH_ready (rs := [5]) (by kernel_rfl) (by simp) ?_
    refine AllReadyH.cons (o := _) rfl (fun K hK => ?_) AllReadyH.nil
    · go_simp
      refine hK.out _ _ hHeld (fun hHeld => ?_)
      clear hK K
      (try simp only [Act.put, List.getElem_toArray, List.getElem_cons_succ, List.getElem_cons_zero, List.setIfInBounds_toArray, List.set_cons_zero, List.set_cons_succ])
      refine wpAnyH_ready (rs := [9]) (by kernel_rfl) (by simp) ?_
      refine AllReadyH.cons (o := _) rfl (fun K hK => ?_) AllReadyH.nil
      · go_simp
        refine (HWK.out _ ((Below.refl _ w2).drew)).mono ?_
        rintro e w3 ⟨ka, kn, kc, rfl, HK⟩
        (try dsimp only)
        obtain ⟨⟨p0, p1⟩, ⟨p2, p3⟩, GK⟩ := HS.out w3 HK.out.2.2
        refine hK.out _ _ GK (fun hHeld => ?_)
        clear hK K GK
        (try simp only [Act.put, List.getElem_toArray, List.getElem_cons_succ, List.getElem_cons_zero, List.setIfInBounds_toArray, List.set_cons_zero, List.set_cons_succ])
        refine wpAnyH_ready (rs := [17]) (by kernel_rfl) (by simp) ?_
        refine AllReadyH.cons (o := _) rfl (fun K hK => ?_) AllReadyH.nil
        · go_simp
          refine (HWI.out _ (HK.out.2.2)).mono ?_
          rintro e w4 ⟨va, vn, vc, rfl, HI⟩
          (try dsimp only)
          obtain ⟨⟨q0, q1⟩, ⟨q2, q3⟩, GI⟩ := HS.out w4 HI.out.2.2
          refine hK.out _ _ GI (fun hHeld => ?_)
          clear hK K GI
          (try simp only [Act.put, List.getElem_toArray, List.getElem_cons_succ, List.getElem_cons_zero, List.setIfInBounds_toArray, List.set_cons_zero, List.set_cons_succ])
          have HZ := Lib.hid (HD.out w4 (.slice ka kn kc) (.slice va vn vc) HI.out.2.2 (own_under HK.out.1 HI.out.2.1) HI.out.1)
          have G1 := HSS.out w4 HI.out.2.2 0 (.slice ka kn kc)
          have G2 := HST.out w4 HI.out.2.2 (.slice ka kn kc) (.slice va vn vc)
          refine wpAnyH_take (i := 18) (v := .pointer (some ⟨Q, 0, none⟩)) rfl (by kernel_rfl) (by kernel_rfl) (by kernel_rfl) (fun _ _ _ h => h) (Or.inl ⟨by rfl, fun V hSV => ?_⟩) (by assumption) ?_
          · obtain ⟨y0, y1, y2, y3, y4, y5, y6, y7, y8, y9, y10, y11, y12⟩ := hSV
            go_simp
          (try simp only [Act.put, List.getElem_toArray, List.getElem_cons_succ, List.getElem_cons_zero, List.setIfInBounds_toArray, List.set_cons_zero, List.set_cons_succ])
          refine wpAnyH_take (i := 19) (v := .pointer (some ⟨Q, 0, none⟩)) rfl (by kernel_rfl) (by kernel_rfl) (by kernel_rfl) (fun _ _ _ h => h) (Or.inl ⟨by rfl, fun V hSV => ?_⟩) (by assumption) ?_
          · obtain ⟨y0, y1, y2, y3, y4, y5, y6, y7, y8, y9, y10, y11, y12⟩ := hSV
            go_simp
          (try simp only [Act.put, List.getElem_toArray, List.getElem_cons_succ, List.getElem_cons_zero, List.setIfInBounds_toArray, List.set_cons_zero, List.set_cons_succ])
          refine wpAnyH_ready (rs := [20]) (by kernel_rfl) (by simp) ?_
          refine AllReadyH.cons (o := _) rfl (fun K hK => ?_) AllReadyH.nil
          go_simp
          refine hK.out _ _ G1 (fun hHeld => ?_)
          clear hK K
          (try simp only [Act.put, List.getElem_toArray, List.getElem_cons_succ, List.getElem_cons_zero, List.setIfInBounds_toArray, List.set_cons_zero, List.set_cons_succ])
          refine wpAnyH_take (i := 21) (v := .pointer (some ⟨Q, 0, none⟩)) rfl (by kernel_rfl) (by kernel_rfl) (by kernel_rfl) (fun _ _ _ h => h) (Or.inl ⟨by rfl, fun V hSV => ?_⟩) (by assumption) ?_
          · obtain ⟨y0, y1, y2, y3, y4, y5, y6, y7, y8, y9, y10, y11, y12⟩ := hSV
            go_simp
          (try simp only [Act.put, List.getElem_toArray, List.getElem_cons_succ, List.getElem_cons_zero, List.setIfInBounds_toArray, List.set_cons_zero, List.set_cons_succ])
          refine wpAnyH_take (i := 22) (v := .pointer (some ⟨Q, 1, none⟩)) rfl (by kernel_rfl) (by kernel_rfl) (by kernel_rfl) (fun _ _ _ h => h) (Or.inl ⟨by rfl, fun V hSV => ?_⟩) (by assumption) ?_
          · obtain ⟨y0, y1, y2, y3, y4, y5, y6, y7, y8, y9, y10, y11, y12⟩ := hSV
            go_simp
          (try simp only [Act.put, List.getElem_toArray, List.getElem_cons_succ, List.getElem_cons_zero, List.setIfInBounds_toArray, List.set_cons_zero, List.set_cons_succ])
          refine wpAnyH_ready (rs := [23]) (by kernel_rfl) (by simp) ?_
          refine AllReadyH.cons (o := _) rfl (fun K hK => ?_) AllReadyH.nil
          go_simp
          refine hK.out _ _ G2 (fun hHeld => ?_)
          clear hK K
          (try simp only [Act.put, List.getElem_toArray, List.getElem_cons_succ, List.getElem_cons_zero, List.setIfInBounds_toArray, List.set_cons_zero, List.set_cons_succ])
          refine wpAnyH_done (by kernel_rfl) ?_ _
          go_wp2_with fail
          go_ret
          exact ⟨rfl, HZ.out⟩

end Go.Proofs.Ytfebaiefoonncaa.Tb.Dr
