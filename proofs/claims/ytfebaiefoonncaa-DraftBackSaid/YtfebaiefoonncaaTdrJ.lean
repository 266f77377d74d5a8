/- The program's Put of a key that is there, and into nothing. -/
import Derived.Test.YtfebaiefoonncaaTbG
import Derived.Test.YtfebaiefoonncaaTdrH
namespace Go.Proofs.Ytfebaiefoonncaa.Tb.Dr
open Go.RowKit Go.Lib Draft

theorem vals_put (l : List Pr) (k : Key) (x : Dr) : vals (put l k x) = (vals l).take (place l k) ++ x :: (vals l).drop (if has l k then place l k + 1 else place l k) := by
  show (put l k x).map Pair.v = (l.map Pair.v).take _ ++ x :: (l.map Pair.v).drop _
  unfold put
  cases has l k with
  | false => rw [if_neg (by simp), if_neg (by simp), List.map_append, List.map_cons, List.map_take, List.map_drop]
  | true => rw [if_pos rfl, if_pos rfl, List.map_append, List.map_cons, List.map_take, List.map_drop]
/-- The table's block has turned to new lists. -/
theorem turned {w W : World} {Q : Nat} {F : Nat → Prop} {l l' : List Pr} {ks vs k2 v2 : Value} {rest rest' : List Value} (h : PTV w Q F l ks vs rest) (hb : Below w.heap.size w W) (hk : OwnK W 0 k2 (keys l')) (hv : OwnV W 0 v2 (vals l'))
    (hkn : ∀ q, k2.ownBlock = some q → ks.ownBlock = some q ∨ w.heap.size ≤ q) (hvn : ∀ q, v2.ownBlock = some q → vs.ownBlock = some q ∨ w.heap.size ≤ q) {W' : World} {T : TypeId} (hW' : W'.heap[Q]? = some (.cells (k2 :: v2 :: rest').toArray T (0, 0))) (hg : W.grownBy W' (some Q)) :
    ∃ F', PT W' Q F' l' rest' ∧ w.grownBy W' (some Q) ∧ ∀ j, F' j → F j ∨ w.heap.size ≤ j := by
  have hQ := h.lt Q h.self
  have nk : ∀ q, k2.ownBlock = some q → q ≠ Q := fun q hq => by
    rcases hkn q hq with h1 | h1
    · exact (h.kb q h1).2
    · omega
  have nv : ∀ q, v2.ownBlock = some q → q ≠ Q := fun q hq => by
    rcases hvn q hq with h1 | h1
    · exact (h.vb q h1).2
    · omega
  have bk : ∀ q, q < W.heap.size → q ≠ Q → W'.heap[q]? = W.heap[q]? := fun q h1 h2 => hg.block q h1 (fun e => h2 (by cases e; rfl))
  refine ⟨fun j => j = Q ∨ k2.ownBlock = some j ∨ v2.ownBlock = some j, ⟨k2, v2, ⟨_, hW'⟩, own_same hk (fun q hq => bk q (hk.lt q hq).2 (nk q hq)), own_same hv (fun q hq => bk q (hv.lt q hq).2 (nv q hq)), .inl rfl, fun q hq => ⟨.inr (.inl hq), nk q hq⟩, fun q hq => ⟨.inr (.inr hq), nv q hq⟩, ?_⟩, ?_, ?_⟩
  · rintro j (rfl | hj | hj)
    · exact (Array.getElem?_eq_some_iff.1 hW').1
    · exact Nat.lt_of_lt_of_le (hk.lt j hj).2 hg.size
    · exact Nat.lt_of_lt_of_le (hv.lt j hj).2 hg.size
  · exact ⟨hg.os.trans hb.os, hg.tape.trans hb.tape, hg.output.trans hb.output, Nat.le_trans hb.size hg.size, fun i hi hne => (hg.block i (Nat.lt_of_lt_of_le hi hb.size) hne).trans (hb.block i hi)⟩
  · rintro j (rfl | hj | hj)
    · exact .inl h.self
    · rcases hkn j hj with h1 | h1
      · exact .inl (h.kb j h1).1
      · exact .inr h1
    · rcases hvn j hj with h1 | h1
      · exact .inl (h.vb j h1).1
      · exact .inr h1
set_option maxRecDepth 100000 in
set_option maxHeartbeats 8000000 in
theorem put_yes {Q : Nat} {F : Nat → Prop} {l : List Pr} {rest : List Value} (k : Key) (x : Dr) (w : World) (h : PT w Q F l rest) (hr : Rising l) (hl : l.length ≤ 1000) (hh : has l k = true) :
    Calls Try.prog 36 #[ptr Q, kV k, elV x] w fun e w' => e = .returned (.bool false) ∧ ∃ F', PT w' Q F' (put l k x) rest ∧ w.grownBy w' (some Q) ∧ ∀ j, F' j → F j ∨ w.heap.size ≤ j := by
  obtain ⟨V, hV⟩ : ∃ V, (w.alloc (.cells #[.int .i64 k.a, .int .i64 k.b, .int .i64 k.c, .int .i64 k.d] 65)).heap.size = V := ⟨_, rfl⟩
  obtain ⟨X, hX⟩ : ∃ X, (w.alloc (.cells #[.int .i64 k.a, .int .i64 k.b, .int .i64 k.c, .int .i64 k.d] 65)).alloc (.cells #[.int .i64 x.id, .int .i64 x.owner, .int .i64 x.div, .int .i64 x.place, .int .i64 x.blue, .int .i64 x.me, .int .i64 x.te, .int .i64 x.runs, .int .i64 x.busy] 36) = X := ⟨_, rfl⟩
  have hbX : Below w.heap.size w X := by rw [← hX]; exact ((Below.refl _ w).alloc (Nat.le_refl _) _).alloc (by simp) _
  have hkX : X.heap[w.heap.size]? = some (.cells k.cells 65 (0, 0)) := by rw [← hX, heap_alloc_old _ _ (by simp)]; exact heap_alloc_new w _
  have hvX : X.heap[V]? = some (.cells x.cells 36 (0, 0)) := by rw [← hX, ← hV]; exact heap_alloc_new _ _
  have HBX : Hid (∀ W, Below X.heap.size X W → W.cell? ⟨w.heap.size, 0, none⟩ = some (.int .i64 k.a) ∧ W.cell? ⟨w.heap.size, 1, none⟩ = some (.int .i64 k.b) ∧ W.cell? ⟨w.heap.size, 2, none⟩ = some (.int .i64 k.c) ∧ W.cell? ⟨w.heap.size, 3, none⟩ = some (.int .i64 k.d) ∧ W.cell? ⟨V, 0, none⟩ = some (.int .i64 x.id) ∧ W.cell? ⟨V, 1, none⟩ = some (.int .i64 x.owner) ∧ W.cell? ⟨V, 2, none⟩ = some (.int .i64 x.div) ∧ W.cell? ⟨V, 3, none⟩ = some (.int .i64 x.place) ∧ W.cell? ⟨V, 4, none⟩ = some (.int .i64 x.blue) ∧ W.cell? ⟨V, 5, none⟩ = some (.int .i64 x.me) ∧ W.cell? ⟨V, 6, none⟩ = some (.int .i64 x.te) ∧ W.cell? ⟨V, 7, none⟩ = some (.int .i64 x.runs) ∧ W.cell? ⟨V, 8, none⟩ = some (.int .i64 x.busy)) := Lib.hid (fun W hW => by
    have h1 := (hW.block _ (Array.getElem?_eq_some_iff.1 hkX).1).trans hkX
    obtain ⟨v0, v1, v2, v3, v4, v5, v6, v7, v8⟩ := el_at ((hW.block _ (Array.getElem?_eq_some_iff.1 hvX).1).trans hvX)
    exact ⟨key_at h1 0 (by omega), key_at h1 1 (by omega), key_at h1 2 (by omega), key_at h1 3 (by omega), v0, v1, v2, v3, v4, v5, v6, v7, v8⟩)
  obtain ⟨b0, b1, b2, b3, b4, b5, b6, b7, b8, b9, b10, b11, b12⟩ := HBX.out X (Below.refl _ _)
  have HNE : Hid (w.heap.size ≠ Q ∧ V ≠ Q) := Lib.hid (by
    have h1 := h.lt Q h.self
    have h2 : w.heap.size < V := by rw [← hV]; simp
    exact ⟨by omega, by omega⟩)
  have hPX := h.under hbX
  obtain ⟨n, hn⟩ : ∃ n, place l k = n := ⟨_, rfl⟩
  have HP := Lib.hid (place_im k X hPX hr hl)
  unfold placeV at HP
  rw [hn, hh] at HP
  obtain ⟨ks, vs, hv⟩ := h
  have HV := Lib.hid hv; have HB := Lib.hid hbX; have HN := Lib.hid hn; have HH := Lib.hid hh; have HR := Lib.hid hr
  have hnl : n + 1 ≤ l.length := place_lt hn hh
  have HNL := Lib.hid hnl; have HL := Lib.hid hl
  have hn1 : (n : Int) ≤ 1048576 := by omega
  have hn0 : (0 : Int) ≤ (n : Int) := by omega
  clear hbX hkX hvX hPX hv hn hh hl hr hnl
  go_enter Try.func36, Try.ntmps36
  go_wp2_with fail
  clear hX hV
  refine HP.out.mono ?_
  rintro e w2 ⟨rfl, hb2⟩
  have HB2 := Lib.hid (below_then HB.out hb2)
  have HV2 := Lib.hid (HV.out.under HB2.out)
  have HS : Hid (∀ W, Below w2.heap.size w2 W → (W.cell? ⟨Q, 0, none⟩ = some ks ∧ W.cell? ⟨Q, 1, none⟩ = some vs) ∧ (W.frozen? ⟨Q, 0, none⟩ = false ∧ W.frozen? ⟨Q, 1, none⟩ = false) ∧
      W.cell? ⟨w.heap.size, 0, none⟩ = some (.int .i64 k.a) ∧ W.cell? ⟨w.heap.size, 1, none⟩ = some (.int .i64 k.b) ∧ W.cell? ⟨w.heap.size, 2, none⟩ = some (.int .i64 k.c) ∧ W.cell? ⟨w.heap.size, 3, none⟩ = some (.int .i64 k.d) ∧ W.cell? ⟨V, 0, none⟩ = some (.int .i64 x.id) ∧ W.cell? ⟨V, 1, none⟩ = some (.int .i64 x.owner) ∧ W.cell? ⟨V, 2, none⟩ = some (.int .i64 x.div) ∧ W.cell? ⟨V, 3, none⟩ = some (.int .i64 x.place) ∧ W.cell? ⟨V, 4, none⟩ = some (.int .i64 x.blue) ∧ W.cell? ⟨V, 5, none⟩ = some (.int .i64 x.me) ∧ W.cell? ⟨V, 6, none⟩ = some (.int .i64 x.te) ∧ W.cell? ⟨V, 7, none⟩ = some (.int .i64 x.runs) ∧ W.cell? ⟨V, 8, none⟩ = some (.int .i64 x.busy)) := Lib.hid (fun W hW => by
    obtain ⟨T, hT⟩ := HV2.out.head
    have h1 := (hW.block Q (HV2.out.lt Q HV2.out.self)).trans hT
    exact ⟨⟨cell_block (j := 0) h1 (by simp), cell_block (j := 1) h1 (by simp)⟩, ⟨free_block 0 h1, free_block 1 h1⟩, HBX.out W (below_then hb2 hW)⟩)
  have HWI : Hid (∀ W, Below w2.heap.size w2 W → Calls Try.prog 42 #[vs, .int .i64 (n : Nat), .int .i64 ((n : Int) + 1), elV x] W fun e w' => ∃ va vn vc, e = .returned (.slice va vn vc) ∧ Hid (OwnV w' w2.heap.size (.slice va vn vc) (vals (put l k x)) ∧ Below w2.heap.size w2 w')) := Lib.hid (fun W hW => by
    have h1 := with_el vs (vals l) n (n + 1) x W (HV2.out.under hW).vals (by omega) (by rw [len_vals]; exact HNL.out) (by rw [len_vals]; exact HL.out)
    rw [show ((n + 1 : Nat) : Int) = (n : Int) + 1 by omega] at h1
    refine h1.mono ?_
    rintro e w' ⟨v', rfl, ho, hb⟩
    obtain ⟨va, vc, rfl, _⟩ := rowV ho
    refine ⟨va, _, vc, rfl, Lib.hid ⟨?_, below_then hW hb⟩⟩
    rw [vals_put, HN.out, HH.out, if_pos rfl]
    exact World.ownsRow.mono ho hW.size)
  have HD : Hid (∀ W v4, Below w2.heap.size w2 W → OwnV W w2.heap.size v4 (vals (put l k x)) →
      ∃ F', PT (W.setCell ⟨Q, 1, none⟩ v4) Q F' (put l k x) rest ∧ w.grownBy (W.setCell ⟨Q, 1, none⟩ v4) (some Q) ∧ ∀ j, F' j → F j ∨ w.heap.size ≤ j) := Lib.hid (fun W v4 hW h4 => by
    obtain ⟨T, hT⟩ := HV2.out.head
    have h1 := (hW.block Q (HV2.out.lt Q HV2.out.self)).trans hT
    have hw3 := below_then HB2.out hW
    have h2 := heap_setCell_same W Q 1 _ _ v4 h1
    refine turned (T := T) HV.out hw3 (l' := put l k x) (k2 := ks) (v2 := v4) ?_ (World.ownsRow.mono h4 (Nat.zero_le _)) (fun q hq => .inl hq) (fun q hq => .inr (Nat.le_trans HB2.out.size (h4.lt q hq).1)) (by simpa using h2) (only_setCell (only_refl W (some Q)) _ _)
    rw [keys_put HR.out, HH.out, if_pos rfl]
    exact (HV.out.under hw3).keys)
  obtain ⟨⟨c0, c1⟩, -, e0, e1, e2, e3, e4, e5, e6, e7, e8, e9, e10, e11, e12⟩ := HS.out w2 (Below.refl _ _)
  have hw1 : IntKind.i64.wrap ((n : Int) + 1) = (n : Int) + 1 := IntWalk.i64_in _ (by omega)
  clear hb2 b0 b1 b2 b3 b4 b5 b6 b7 b8 b9 b10 b11 b12
  go_wp2_with fail
  go_region_with (go_at_call 42; with_reducible (refine (HWI.out _ ((Below.refl _ w2).drew)).mono ?_); rintro e w4 ⟨va, vn, vc, rfl, HI⟩; obtain ⟨⟨q0, q1⟩, ⟨q2, q3⟩, -⟩ := HS.out w4 HI.out.2; have HZ := Lib.hid (HD.out w4 (.slice va vn vc) HI.out.2 HI.out.1))
  all_goals
    go_wp2_with fail
    go_ret
    exact ⟨rfl, HZ.out⟩
set_option maxRecDepth 100000 in
theorem put_nil (k : Key) (x : Dr) (w : World) :
    Calls Try.prog 36 #[.pointer none, kV k, elV x] w fun e w' => e = .returned (.bool false) ∧ Below w.heap.size w w' := by
  obtain ⟨X, hX⟩ : ∃ X, (w.alloc (.cells #[.int .i64 k.a, .int .i64 k.b, .int .i64 k.c, .int .i64 k.d] 65)).alloc (.cells #[.int .i64 x.id, .int .i64 x.owner, .int .i64 x.div, .int .i64 x.place, .int .i64 x.blue, .int .i64 x.me, .int .i64 x.te, .int .i64 x.runs, .int .i64 x.busy] 36) = X := ⟨_, rfl⟩
  have HB : Hid (Below w.heap.size w X) := Lib.hid (by rw [← hX]; exact ((Below.refl _ w).alloc (Nat.le_refl _) _).alloc (by simp) _)
  go_enter Try.func36, Try.ntmps36
  go_wp2_with fail
  go_ret
  exact ⟨rfl, HB.out⟩

end Go.Proofs.Ytfebaiefoonncaa.Tb.Dr
