/- The program's Moves: many payments on a clone, that is handed over at the end. -/
import Derived.Test.YteglahogimdnfaaPurImD
namespace Go.Proofs.Yteglahogimdnfaa.Purse
open Go.RowKit Go.Lib

theorem go_ok {l : List Ac} {ps : List Pay} {i : Nat} {p : Pay} (hp : ps[i]? = some p) (h : moveE l p.src p.dst p.num = 0) : goM l (ps.drop i) i = goM (moveL l p.src p.dst p.num) (ps.drop (i + 1)) (i + 1) := by
  obtain ⟨h1, h2⟩ := List.getElem?_eq_some_iff.1 hp
  rw [List.drop_eq_getElem_cons h1, h2]
  show (if _ then _ else _) = _
  rw [if_pos h]
theorem go_no {l : List Ac} {ps : List Pay} {i : Nat} {p : Pay} (hp : ps[i]? = some p) (h : moveE l p.src p.dst p.num ≠ 0) : goM l (ps.drop i) i = (l, i, moveE l p.src p.dst p.num) := by
  obtain ⟨h1, h2⟩ := List.getElem?_eq_some_iff.1 hp
  rw [List.drop_eq_getElem_cons h1, h2]
  show (if _ then _ else _) = _
  rw [if_neg h]
/-- The purse's block has turned to the lists of another one. -/
theorem taken {w W : World} {Q : Nat} {R : Nat → Prop} {l l' : List Tab.Pair} {ks vs k2 v2 : Value} (h : Tab.Im.PTV w Q R l ks vs) (hb : Below w.heap.size w W) (hk : Tab.OwnK W 0 k2 (Tab.keys l')) (hv : Tab.Im.OwnI W 0 v2 (Tab.Im.vals l'))
    (hkn : ∀ q, k2.ownBlock = some q → (R q ∧ q ≠ Q) ∨ w.heap.size ≤ q) (hvn : ∀ q, v2.ownBlock = some q → (R q ∧ q ≠ Q) ∨ w.heap.size ≤ q) {W' : World} {T : TypeId} (hW' : W'.heap[Q]? = some (.cells #[k2, v2] T (0, 0))) (hg : W.grownBy W' (some Q)) :
    ∃ R', Tab.Im.PT W' Q R' l' ∧ Up w W' Q R R' := by
  have hQ := h.lt Q h.self
  have nn : ∀ q, (R q ∧ q ≠ Q) ∨ w.heap.size ≤ q → q ≠ Q := fun q h1 => by
    rcases h1 with h1 | h1
    · exact h1.2
    · omega
  have bk : ∀ q, q < W.heap.size → q ≠ Q → W'.heap[q]? = W.heap[q]? := fun q h1 h2 => hg.block q h1 (fun e => h2 (by cases e; rfl))
  refine ⟨fun j => j = Q ∨ k2.ownBlock = some j ∨ v2.ownBlock = some j, ⟨k2, v2, ⟨_, hW'⟩, Tab.Im.own_same hk (fun q hq => bk q (hk.lt q hq).2 (nn q (hkn q hq))), Tab.Im.own_same hv (fun q hq => bk q (hv.lt q hq).2 (nn q (hvn q hq))), .inl rfl, fun q hq => ⟨.inr (.inl hq), nn q (hkn q hq)⟩, fun q hq => ⟨.inr (.inr hq), nn q (hvn q hq)⟩, ?_⟩, ⟨?_, ?_⟩⟩
  · rintro j (rfl | hj | hj)
    · exact (Array.getElem?_eq_some_iff.1 hW').1
    · exact Nat.lt_of_lt_of_le (hk.lt j hj).2 hg.size
    · exact Nat.lt_of_lt_of_le (hv.lt j hj).2 hg.size
  · exact ⟨hg.os.trans hb.os, hg.tape.trans hb.tape, hg.output.trans hb.output, Nat.le_trans hb.size hg.size, fun i hi hne => (hg.block i (Nat.lt_of_lt_of_le hi hb.size) hne).trans (hb.block i hi)⟩
  · rintro j (rfl | hj | hj)
    · exact .inl h.self
    · exact (hkn j hj).imp (fun h1 => h1.1) id
    · exact (hvn j hj).imp (fun h1 => h1.1) id
/-- What stands ahead of each payment: the purse as it was, the clone beside it. -/
structure Trying (w W : World) (Q2 : Nat) (R : Nat → Prop) (Q : Nat) (l : List Ac) (ps : List Pay) (i : Nat) : Prop where
  below : Below w.heap.size w W
  new : w.heap.size ≤ Q2
  pt : ∃ R2 k, PT W Q2 R2 k ∧ (∀ j, R2 j → (R j ∧ j ≠ Q) ∨ w.heap.size ≤ j) ∧ Good k ∧ k.length = l.length ∧ goM l ps 0 = goM k (ps.drop i) i
theorem Trying.under {w W W' : World} {Q2 : Nat} {R : Nat → Prop} {Q : Nat} {l : List Ac} {ps : List Pay} {i : Nat} (h : Trying w W Q2 R Q l ps i) (hb : Below W.heap.size W W') : Trying w W' Q2 R Q l ps i := by
  obtain ⟨R2, k, h1, h2⟩ := h.pt
  exact ⟨below_then h.below hb, h.new, R2, k, h1.under hb, h2⟩
/-- One payment on the clone. -/
theorem try_one {w W : World} {Q2 : Nat} {R : Nat → Prop} {Q : Nat} {l : List Ac} {ps : List Pay} {i : Nat} {p : Pay} (h : Trying w W Q2 R Q l ps i) (hl : l.length ≤ 1000) (hp : ps[i]? = some p) (hn : p.num ≤ 9223372036854775807) :
    ∃ r, ((r = 0) ∨ (r ≠ 0 ∧ movesN l ps = i ∧ movesE l ps = r)) ∧ Hid (∀ W1, Below W.heap.size W W1 → Calls Try.prog 19 #[ptr Q2, .int .i64 p.src, .int .i64 p.dst, .int .i64 p.num] W1 fun e w' => e = .returned (.int .i64 r) ∧ Hid (Below w.heap.size w w' ∧ (r = 0 → Trying w w' Q2 R Q l ps (i + 1)))) := by
  obtain ⟨R2, k, h1, h2, h3, h4, h5⟩ := h.pt
  refine ⟨moveE k p.src p.dst p.num, ?_, Lib.hid fun W1 hb => ?_⟩
  · by_cases h0 : moveE k p.src p.dst p.num = 0
    · exact .inl h0
    · refine .inr ⟨h0, ?_, ?_⟩
      · unfold movesN
        rw [h5, go_no hp h0]
      · unfold movesE
        rw [h5, go_no hp h0]
  · refine (move_im p.src p.dst p.num W1 (h1.under hb) h3 (by omega) hn).mono ?_
    rintro e w' ⟨rfl, R3, g1, g2⟩
    have hw1 := below_then h.below hb
    have hw' : Below w.heap.size w w' := below_of_only hw1 h.new g2.grown
    refine ⟨rfl, Lib.hid ⟨hw', fun h0 => ⟨hw', h.new, R3, _, g1, fun j hj => ?_, good_move h3 _ _ _, by rw [move_length]; exact h4, by rw [h5, go_ok hp h0]⟩⟩⟩
    rcases g2.more j hj with h6 | h6
    · exact h2 j h6
    · exact .inr (Nat.le_trans hw1.size h6)
set_option maxRecDepth 100000 in
set_option maxHeartbeats 4000000 in
theorem moves_im {Q : Nat} {R : Nat → Prop} {l : List Ac} (b : Option Addr) (m d : Nat) (ps : List Pay) (w : World) (h : PT w Q R l) (hg : Good l) (hl : l.length ≤ 1000) (hps : Pays w b ps) (hm : ps.length = m) (hm2 : m ≤ 1000) (hI : InP ps) :
    Calls Try.prog 16 #[ptr Q, .slice b m d] w fun e w' => e = .returned (.tuple #[.int .i64 (movesN l ps : Nat), .int .i64 (movesE l ps)]) ∧ ∃ R', PT w' Q R' (movesL l ps) ∧ Up w w' Q R R' := by
  have HC := Lib.hid (clone_im w h)
  have HG := Lib.hid hg; have HL := Lib.hid hl; have HPS := Lib.hid hps; have HM := Lib.hid hm; have HI := Lib.hid hI
  obtain ⟨ks, vs, hv⟩ := h
  have HV := Lib.hid hv
  have hm3 : (m : Int) ≤ 1048576 := by omega
  clear hv hg hl hps hm hI
  go_enter Try.func16, Try.ntmps16
  go_wp2_with fail
  refine HC.out.mono ?_
  rintro e w1 ⟨Q2, rfl, R2, g1, g2, g3, g4⟩
  have H0 : Hid (Trying w w1 Q2 R Q l ps 0) := Lib.hid ⟨g3, g2, R2, l, g1, g4, HG.out, rfl, rfl⟩
  clear g1 g2 g3 g4
  go_wp2_with fail
  go_loopw [16] (fun t wr => ∃ i : Nat, t = .int .i64 i ∧ i ≤ m ∧ Hid (Trying w wr Q2 R Q l ps i)) (fun t _ => m - (RowKit.intOf t).toNat)
  case atStart => exact ⟨0, rfl, by omega, H0⟩
  case round =>
    clear H0
    obtain ⟨i, rfl, hi, HT⟩ := hrel
    have hi0 : (0 : Int) ≤ (i : Int) := by omega
    by_cases hlt : i < m
    · have hlt2 : (i : Int) < (m : Int) := by omega
      obtain ⟨p, hp⟩ : ∃ p, ps[i]? = some p := ⟨ps[i]'(by have := HM.out; omega), List.getElem?_eq_getElem (by have := HM.out; omega)⟩
      obtain ⟨g, off, rfl, hg, k0, k1, k2⟩ := HPS.out i p hp
      have e0 := ((bcell HT.out.below).1 g _ hg).trans k0; have e1 := ((bcell HT.out.below).1 g _ hg).trans k1; have e2 := ((bcell HT.out.below).1 g _ hg).trans k2
      obtain ⟨V, hV⟩ : ∃ V, wr.heap.size = V := ⟨_, rfl⟩
      obtain ⟨Y, hY⟩ : ∃ Y, wr.alloc (.cells #[.int .i64 p.src, .int .i64 p.dst, .int .i64 p.num] 49) = Y := ⟨_, rfl⟩
      have hbY : Below wr.heap.size wr Y := by rw [← hY]; exact (Below.refl _ wr).alloc (Nat.le_refl _) _
      have hVY : Y.heap[V]? = some (.cells #[.int .i64 p.src, .int .i64 p.dst, .int .i64 p.num] 49 (0, 0)) := by rw [← hY, ← hV]; exact heap_alloc_new wr _
      have v0 : Y.cell? ⟨V, 0, none⟩ = some (.int .i64 p.src) := cell_block (j := 0) hVY rfl
      have v1 : Y.cell? ⟨V, 1, none⟩ = some (.int .i64 p.dst) := cell_block (j := 1) hVY rfl
      have v2 : Y.cell? ⟨V, 2, none⟩ = some (.int .i64 p.num) := cell_block (j := 2) hVY rfl
      obtain ⟨r, hr, HR⟩ := try_one HT.out HL.out hp (HI.out p (List.mem_of_getElem? hp)).2.2.2
      have HRY := Lib.hid (HR.out Y hbY)
      clear hbY hVY k0 k1 k2 HR hp
      rcases hr with rfl | ⟨hr0, hr1, hr2⟩
      · go_wp2_with fail
        clear hY hV e0 e1 e2
        refine HRY.out.mono ?_
        rintro e w2 ⟨rfl, H2⟩
        have H3 := Lib.hid (H2.out.2 (by first | rfl | trivial))
        go_wp2_with fail
        go_roundw
        case rel => exact ⟨i + 1, by go_num, by omega, H3⟩
        case measure => simp [RowKit.intOf]; omega
      · have hb1 : (r == 0) = false := by simpa using hr0
        have hb2 : (r != 0) = true := by simpa using hr0
        have HE1 := Lib.hid hr1; have HE2 := Lib.hid hr2
        have HE0 := Lib.hid hr0
        clear hr1 hr2
        go_wp2_with fail
        clear hY hV e0 e1 e2
        refine HRY.out.mono ?_
        rintro e w2 ⟨rfl, H2⟩
        go_wp2_with fail
        go_ret2
        have hL : movesL l ps = l := by unfold movesL; rw [HE2.out, if_neg HE0.out]
        rw [hL, HE1.out, HE2.out]
        exact ⟨rfl, R, ⟨_, _, HV.out.under H2.out.1⟩, Up.of_below H2.out.1⟩
    · obtain rfl : i = m := by omega
      obtain ⟨R3, k, p1, p2, p3, p4, p5⟩ := HT.out.pt
      have hdone : goM l ps 0 = (k, i, 0) := by
        rw [p5, List.drop_of_length_le (by rw [HM.out]; exact Nat.le_refl _)]
        rfl
      have HD := Lib.hid hdone
      obtain ⟨k2, v2, q⟩ := p1
      have HQ := Lib.hid q
      have H2 := Lib.hid p2
      obtain ⟨c0, c1⟩ := q.cells
      obtain ⟨T, hT⟩ := (HV.out.under HT.out.below).head
      have f0 := free_block 0 hT; have f1 := free_block 1 hT
      have HTT := Lib.hid hT
      have hQQ : ¬ Q = Q2 := fun e => by have := HV.out.lt Q HV.out.self; have := HT.out.new; omega
      obtain ⟨s1, s2⟩ : (wr.cell? ⟨Q, 0, none⟩ = some ks ∧ wr.cell? ⟨Q, 1, none⟩ = some vs) := ⟨cell_block (j := 0) hT rfl, cell_block (j := 1) hT rfl⟩
      obtain ⟨xa, xc, rfl, _, _, _, _⟩ := Tab.Im.rowK q.keys
      obtain ⟨ya, yc, rfl, _, _, _, _⟩ := Tab.Im.rowI q.vals
      obtain ⟨xn, hxn⟩ : ∃ n, (Tab.keys (prs k)).length = n := ⟨_, rfl⟩
      obtain ⟨yn, hyn⟩ : ∃ n, (Tab.Im.vals (prs k)).length = n := ⟨_, rfl⟩
      rw [hxn] at c0 HQ
      rw [hyn] at c1 HQ
      have HE : Hid (∃ R', PT ((wr.setCell ⟨Q, 0, none⟩ (.slice xa xn xc)).setCell ⟨Q, 1, none⟩ (.slice ya yn yc)) Q R' k ∧ Up w ((wr.setCell ⟨Q, 0, none⟩ (.slice xa xn xc)).setCell ⟨Q, 1, none⟩ (.slice ya yn yc)) Q R R') := Lib.hid
        (taken HV.out HT.out.below HQ.out.keys HQ.out.vals (fun q hq => H2.out q (HQ.out.kb q hq).1) (fun q hq => H2.out q (HQ.out.vb q hq).1)
          (heap_setCell_same _ Q 1 _ _ (.slice ya yn yc) (heap_setCell_same wr Q 0 _ _ (.slice xa xn xc) HTT.out)) (only_setCell (only_setCell (only_refl wr (some Q)) _ _) _ _))
      have hE1 : movesN l ps = i := by unfold movesN; rw [hdone]
      have hE2 : movesE l ps = 0 := by unfold movesE; rw [hdone]
      have hE3 : movesL l ps = k := by unfold movesL; rw [hE2, if_pos rfl, hdone]
      have HE1 := Lib.hid hE1; have HE2 := Lib.hid hE2; have HE3 := Lib.hid hE3
      clear hdone p2 p3 p4 p5 q hT hxn hyn hE1 hE2 hE3
      go_wp2_with fail
      go_ret2
      rw [HE1.out, HE2.out, HE3.out]
      exact ⟨rfl, HE.out⟩
end Go.Proofs.Yteglahogimdnfaa.Purse
