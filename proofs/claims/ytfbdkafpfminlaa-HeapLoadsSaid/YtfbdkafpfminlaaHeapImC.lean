/- The program's ahead and swap. -/
import Derived.Test.YtfbdkafpfminlaaHeapImB
import Derived.BigRegion
namespace Go.Proofs.Ytfbdkafpfminlaa.Heap.Im
open Go.RowKit Go.Lib

set_option maxRecDepth 100000 in
set_option maxHeartbeats 2000000 in
theorem ahead_im {Q : Nat} {F : Nat → Prop} {l : List Tm} {most next : Int} (i k : Nat) (w : World) (h : MQ w Q F l most next) (hi : i < l.length) (hk : k < l.length) :
    Calls Try.prog 47 #[ptr Q, .int .i64 (i : Nat), .int .i64 (k : Nat)] w fun e w' => e = .returned (.bool (decide (ahead (nthT l i) (nthT l k)))) ∧ Below w.heap.size w w' := by
  obtain ⟨lv, ps, b, h, -⟩ := h
  obtain ⟨g, c, p, rfl, hp, a0, _, hb0⟩ := h.at_ hi
  obtain ⟨g', c', p', e, hp', a1, _, hb1⟩ := h.at_ hk
  injection e with e1 _ e2
  injection e1 with e1
  injection e1 with e1
  subst e1; subst e2
  obtain ⟨_, _, q2, _⟩ := h.c
  obtain ⟨x0, x1, x2⟩ := tm_at hb0
  obtain ⟨y0, y1, y2⟩ := tm_at hb1
  obtain ⟨n, hn⟩ : ∃ n, l.length = n := ⟨_, rfl⟩
  obtain ⟨x, hx⟩ : ∃ x, nthT l i = x := ⟨_, rfl⟩
  obtain ⟨y, hy⟩ : ∃ y, nthT l k = y := ⟨_, rfl⟩
  obtain ⟨r, hr⟩ : ∃ r, decide (ahead x y) = r := ⟨_, rfl⟩
  obtain ⟨m, hm⟩ : ∃ m, cmpT x y = m := ⟨_, rfl⟩
  rw [hx] at x0 x1 x2
  rw [hy] at y0 y1 y2
  rw [hx, hy, hr]
  rw [hn] at q2 hi hk
  have hi1 : (i : Int) < (n : Int) := by omega
  have hk1 : (k : Int) < (n : Int) := by omega
  have hi0 : (0 : Int) ≤ (i : Int) := by omega
  have hk0 : (0 : Int) ≤ (k : Int) := by omega
  have HC : Hid (Calls Try.prog 37 #[tV x, tV y] w.drew fun e w' => e = .returned (.int .i64 m) ∧ Hid (Below w.heap.size w w')) := Lib.hid (by
    rw [← hm]
    refine (compare_any x y w.drew).mono ?_
    rintro e w' ⟨rfl, hg⟩
    exact ⟨rfl, Lib.hid (((Gr.refl w).drew.below).trans (hg.below.mono (Nat.le_refl _)))⟩)
  have hmr : (m < 0) ↔ r = true := by rw [← hm, ← hr, cmpT_lt]; simp
  clear h hb0 hb1 hp hp' hx hy hm hr hn
  rcases Int.lt_or_le m 0 with hlt | hge
  · obtain rfl : r = true := hmr.1 hlt
    clear hmr
    go_enter Try.func47, Try.ntmps47
    go_wp2_with fail
    go_still_tail 18, (by kernel_rfl)
    change wpList _ _ _ _ _ w.drew
    go_wp2_with (go_at_call 37; refine HC.out.mono ?_; rintro e w' ⟨rfl, HB⟩)
    go_ret
    exact ⟨rfl, HB.out⟩
  · have hn : ¬ m < 0 := by omega
    obtain rfl : r = false := by
      cases r with
      | false => rfl
      | true => exact absurd (hmr.2 rfl) hn
    have hd : decide (m < 0) = false := decide_eq_false hn
    clear hmr
    go_enter Try.func47, Try.ntmps47
    go_wp2_with fail
    go_still_tail 18, (by kernel_rfl)
    change wpList _ _ _ _ _ w.drew
    go_wp2_with (go_at_call 37; refine HC.out.mono ?_; rintro e w' ⟨rfl, HB⟩)
    go_ret
    exact ⟨rfl, HB.out⟩
/-- Two pointers have changed places in the row. -/
theorem MV.stored {w : World} {Q : Nat} {l : List Tm} {most next : Int} {g c : Nat} {ps : List Nat} {b : Nat} (h : MV w Q l most next (.slice (some ⟨g, 0, none⟩) l.length c) ps b) (i k pi pk : Nat) (n : Nat) :
    ((((w.drewN n).setCell ⟨g, i, none⟩ (ptr pk)).setCell ⟨g, k, none⟩ (ptr pi)).ownsRow 0 68 1 (.slice (some ⟨g, 0, none⟩) l.length c) l.length (((ps.set i pk).set k pi).map ptr)) ∧ w.grownBy (((w.drewN n).setCell ⟨g, i, none⟩ (ptr pk)).setCell ⟨g, k, none⟩ (ptr pi)) (some g) := by
  have h0 : (w.drewN n).ownsRow 0 68 1 (.slice (some ⟨g, 0, none⟩) l.length c) l.length (ps.map ptr) := h.row
  obtain ⟨h1, _⟩ := h0.stored i (ptr pk)
  obtain ⟨h2, _⟩ := h1.stored k (ptr pi)
  rw [← List.map_set, ← List.map_set] at h2
  exact ⟨h2, only_setCell (only_setCell (only_drewN (only_refl w (some g)) n) i (ptr pk)) k (ptr pi)⟩
theorem foot_set {Q : Nat} {lv : Value} {ps : List Nat} {b : Nat} {i k pi pk : Nat} (hpi : ps[i]? = some pi) (hpk : ps[k]? = some pk) : ∀ j, foot Q lv ((ps.set i pk).set k pi) b j → foot Q lv ps b j := by
  rintro j (h | h | h | h)
  · exact .inl h
  · exact .inr (.inl h)
  · exact .inr (.inr (.inl h))
  · rcases List.mem_or_eq_of_mem_set h with h | rfl
    · rcases List.mem_or_eq_of_mem_set h with h | rfl
      · exact .inr (.inr (.inr h))
      · exact .inr (.inr (.inr (List.mem_of_getElem? hpk)))
    · exact .inr (.inr (.inr (List.mem_of_getElem? hpi)))
theorem MV.swapped {w W : World} {Q : Nat} {l : List Tm} {most next : Int} {lv : Value} {ps : List Nat} {b : Nat} (h : MV w Q l most next lv ps b) {i k p p' : Nat} (hi : i < l.length) (hk : k < l.length) (hp : ps[i]? = some p) (hp' : ps[k]? = some p')
    (hrow : W.ownsRow 0 68 1 lv l.length (((ps.set i p').set k p).map ptr)) (hG : ∀ j, j < w.heap.size → lv.ownBlock ≠ some j → j ≠ b → W.heap[j]? = w.heap[j]?) (hM : ∃ M, Ints.MapIs Try.prog 3 W b l.length M ∧ Places M (sw l i k)) :
    MV W Q (sw l i k) most next lv ((ps.set i p').set k p) b := by
  have hQ := h.lt Q (.inl rfl)
  have hl := h.len
  refine ⟨(hG Q hQ h.lq h.qb).trans h.head, by rw [length_sw]; exact hrow, fun j q t hq ht => ?_, by rw [length_sw]; exact hM, fun t ht => h.ids t ((perm_sw l i k hi hk).mem_iff.1 ht), h.qb, h.lq, h.lb, fun q hq => ?_⟩
  · have hblk : ∀ q, q ∈ ps → W.heap[q]? = w.heap[q]? := fun q hq => hG q (h.lt q (.inr (.inr (.inr hq)))) (h.ap q hq).2.2 (h.ap q hq).2.1
    rw [getElem?_sw _ _ _ _ hi hk] at ht
    rw [List.getElem?_set, List.getElem?_set, List.length_set] at hq
    by_cases h1 : j = k
    · rw [if_pos h1] at ht
      rw [if_pos h1.symm, if_pos (by omega)] at hq
      cases ht; cases hq
      exact (hblk p (List.mem_of_getElem? hp)).trans (h.tms i p _ hp (nthT_at hi))
    · rw [if_neg h1] at ht
      rw [if_neg (fun e => h1 e.symm)] at hq
      by_cases h2 : j = i
      · rw [if_pos h2] at ht
        rw [if_pos h2.symm, if_pos (by omega)] at hq
        cases ht; cases hq
        exact (hblk p' (List.mem_of_getElem? hp')).trans (h.tms k p' _ hp' (nthT_at hk))
      · rw [if_neg h2] at ht
        rw [if_neg (fun e => h2 e.symm)] at hq
        exact (hblk q (List.mem_of_getElem? hq)).trans (h.tms j q t hq ht)
  · refine h.ap q ?_
    rcases List.mem_or_eq_of_mem_set hq with h1 | rfl
    · rcases List.mem_or_eq_of_mem_set h1 with h1 | rfl
      · exact h1
      · exact List.mem_of_getElem? hp'
    · exact List.mem_of_getElem? hp
set_option maxRecDepth 100000 in
set_option maxHeartbeats 4000000 in
theorem swap_im {Q : Nat} {F : Nat → Prop} {l : List Tm} {most next : Int} (i k : Nat) (w : World) (h : MQ w Q F l most next) (hi : i < l.length) (hk : k < l.length) (hl : l.length ≤ 4096) :
    Calls Try.prog 41 #[ptr Q, .int .i64 (i : Nat), .int .i64 (k : Nat)] w fun e w' => e = .returned (.tuple #[]) ∧ ∃ F', MQ w' Q F' (sw l i k) most next ∧ StepF w w' F F' := by
  obtain ⟨lv, ps, b, h, hF⟩ := h
  obtain ⟨g, c, p, rfl, hp, a0, f0, hb0⟩ := h.at_ hi
  obtain ⟨g', c', p', e, hp', a1, f1, hb1⟩ := h.at_ hk
  injection e with e1 _ e2
  injection e1 with e1
  injection e1 with e1
  subst e1; subst e2
  obtain ⟨_, _, q2, _⟩ := h.c
  obtain ⟨n, hn⟩ : ∃ n, l.length = n := ⟨_, rfl⟩
  rw [hn] at q2
  have hi1 : (i : Int) < (n : Int) := by omega
  have hk1 : (k : Int) < (n : Int) := by omega
  have hi0 : (0 : Int) ≤ (i : Int) := by omega
  have hk0 : (0 : Int) ≤ (k : Int) := by omega
  have hs : (w.setCell ⟨g, i, none⟩ (ptr p')).cell? ⟨g, k, none⟩ = some (ptr p') := by
    by_cases e : i = k
    · subst e
      exact World.cell?_setCell_same _ _ _ a0
    · exact (World.cell?_setCell_other _ ⟨g, i, none⟩ ⟨g, k, none⟩ _ (fun h => by injection h with _ h; exact e h)).trans a1
  obtain ⟨x, hx⟩ : ∃ x, (nthT l i).id = x := ⟨_, rfl⟩
  obtain ⟨y, hy⟩ : ∃ y, (nthT l k).id = y := ⟨_, rfl⟩
  obtain ⟨M, hM, hPl⟩ := h.map
  obtain ⟨X, hX⟩ : ∃ X, (w.setCell ⟨g, i, none⟩ (ptr p')).setCell ⟨g, k, none⟩ (ptr p) = X := ⟨_, rfl⟩
  have hst := h.stored i k p p' 0
  rw [show w.drewN 0 = w from rfl, hX] at hst
  have hgQ : g ≠ Q := fun e => h.lq (by rw [← e]; rfl)
  have hgb : g ≠ b := fun e => h.lb (by rw [← e]; rfl)
  have hgp := h.ap p (List.mem_of_getElem? hp)
  have hgp' := h.ap p' (List.mem_of_getElem? hp')
  have hX0 : ∀ j, j < w.heap.size → j ≠ g → X.heap[j]? = w.heap[j]? := fun j hj hne => hst.2.block j hj (fun e => hne (Option.some.inj e))
  have HS : Hid (∀ W, X.grownBy W (some b) → W.cell? ⟨Q, 2, none⟩ = some (.slice (some ⟨g, 0, none⟩) n c) ∧ W.cell? ⟨Q, 3, none⟩ = some (.map (some b)) ∧ W.cell? ⟨g, i, none⟩ = some (ptr p') ∧ W.cell? ⟨g, k, none⟩ = some (ptr p) ∧ W.cell? ⟨p', 1, none⟩ = some (.int .i64 y) ∧ W.cell? ⟨p, 1, none⟩ = some (.int .i64 x)) := Lib.hid (fun W hW => by
    have hb1' : ∀ j, j < w.heap.size → j ≠ g → j ≠ b → W.heap[j]? = w.heap[j]? := fun j hj h1 h2 => (hW.block j (Nat.lt_of_lt_of_le hj hst.2.size) (fun e => h2 (Option.some.inj e))).trans (hX0 j hj h1)
    have hQ := (hb1' Q (h.lt Q (.inl rfl)) hgQ.symm h.qb).trans h.head
    have hgl : g < X.heap.size := Nat.lt_of_lt_of_le (h.row.lt g rfl).2 hst.2.size
    have hgW : ∀ o, W.cell? ⟨g, o, none⟩ = X.cell? ⟨g, o, none⟩ := fun o => hW.cell_far ⟨g, o, none⟩ hgl (fun e => hgb (Option.some.inj e))
    have hpw := (hb1' p (h.lt p (.inr (.inr (.inr (List.mem_of_getElem? hp))))) (fun e => hgp.2.2 (by rw [e]; rfl)) hgp.2.1).trans hb0
    have hpw' := (hb1' p' (h.lt p' (.inr (.inr (.inr (List.mem_of_getElem? hp'))))) (fun e => hgp'.2.2 (by rw [e]; rfl)) hgp'.2.1).trans hb1
    have hk2 : X.cell? ⟨g, k, none⟩ = some (ptr p) := by rw [← hX]; exact World.cell?_setCell_same _ _ _ hs
    have hi2 : X.cell? ⟨g, i, none⟩ = some (ptr p') := by
      by_cases e : i = k
      · subst e
        rw [hp] at hp'
        cases hp'
        exact hk2
      · rw [← hX]
        exact (World.cell?_setCell_other _ ⟨g, k, none⟩ ⟨g, i, none⟩ _ (fun h => by injection h with _ h; exact e h.symm)).trans (World.cell?_setCell_same _ _ _ a0)
    rw [← hn, ← hx, ← hy]
    exact ⟨cell_block (j := 2) hQ rfl, cell_block (j := 3) hQ rfl, (hgW i).trans hi2, (hgW k).trans hk2, cell_block (j := 1) hpw' rfl, cell_block (j := 1) hpw rfl⟩)
  have HY : Hid (Ints.I64 y) := Lib.hid (by rw [← hy]; exact h.ids _ (List.mem_of_getElem? (nthT_at hk)))
  have HX : Hid (Ints.I64 x) := Lib.hid (by rw [← hx]; exact h.ids _ (List.mem_of_getElem? (nthT_at hi)))
  have HM : Hid (Ints.MapIs Try.prog 3 X b n M ∧ (M y).isSome = true ∧ (M x).isSome = true) := Lib.hid (by
    obtain ⟨hbl⟩ : Nonempty (b < w.heap.size) := ⟨hM.lt⟩
    rw [← hn, ← hx, ← hy, hPl.at_ k _ (nthT_at hk), hPl.at_ i _ (nthT_at hi)]
    exact ⟨hM.of_block (hX0 b hbl hgb.symm), rfl, rfl⟩)
  have HZ : Hid (∀ W, X.grownBy W (some b) → Ints.MapIs Try.prog 3 W b n (fun z => if z = x then some (.int .i64 (k : Nat)) else if z = y then some (.int .i64 (i : Nat)) else M z) → ∃ F', MQ W Q F' (sw l i k) most next ∧ StepF w W F F') := Lib.hid (fun W hW hMW => by
    have hrow := own_same hst.1 (fun j hj => hW.block j (Nat.lt_of_lt_of_le (h.row.lt j hj).2 hst.2.size) (fun e => h.lb (by rw [hj, Option.some.inj e])))
    have hm := MV.swapped (W := W) h hi hk hp hp' hrow (fun j hj h1 h2 => (hW.block j (Nat.lt_of_lt_of_le hj hst.2.size) (fun e => h2 (Option.some.inj e))).trans (hX0 j hj (fun e => h1 (by rw [e]; rfl)))) ⟨_, by rw [hn]; exact hMW, by rw [← hx, ← hy]; exact hPl.sw hi hk⟩
    refine ⟨_, ⟨_, _, _, hm, fun j => Iff.rfl⟩, hW.os.trans hst.2.os, hW.tape.trans hst.2.tape, hW.output.trans hst.2.output, Nat.le_trans hst.2.size hW.size, fun j hj hne => ?_, fun j hj => .inl ((hF j).2 (foot_set hp hp' j hj))⟩
    have h3 : ¬ foot Q (.slice (some ⟨g, 0, none⟩) l.length c) ps b j := fun e => hne ((hF j).2 e)
    exact (hW.block j (Nat.lt_of_lt_of_le hj hst.2.size) (fun e => h3 (.inr (.inl (Option.some.inj e))))).trans (hX0 j hj (fun e => h3 (.inr (.inr (.inl (by rw [e]; rfl)))))))
  have HN := Lib.hid hn; have HL := Lib.hid hl
  clear h hb0 hb1 hp hp' hn hl hF hi hk hx hy hM hPl hst hgQ hgb hgp hgp' hX0
  go_enter Try.func41, Try.ntmps41
  go_wp2_with fail
  go_region
  clear a0 a1 f0 f1 hs q2
  clear hX
  obtain ⟨Y, hY⟩ : ∃ Y, X.drew = Y := ⟨_, rfl⟩
  have hXY : X.grownBy Y (some b) := by rw [← hY]; exact only_drewN (only_refl X _) 1
  have hM1 : Ints.MapIs Try.prog 3 Y.drew b n M := by rw [← hY]; exact HM.out.1
  obtain ⟨u0, u1, u2, u3, u4, u5⟩ := HS.out Y hXY
  rw [hY]
  clear hY
  go_wp2_with fail
  go_still_tail 15, (by kernel_rfl)
  change wpList _ _ _ _ _ Y.drew
  go_wp2_with (at_mapUpdate; refine Ints.wpList_store_int _ rfl _ _ _ 51 rfl 3 3 Try.underlying3 Try.underlying51 b n M rfl hM1 (by have := HN.out; have := HL.out; unfold maxLen; omega) y rfl HY.out _ rfl ?_; intro W2 hM2 hg2 hs2)
  have hg2' : X.grownBy W2 (some b) := only_trans (only_drewN hXY 1) hg2
  obtain ⟨v0, v1, v2, v3, v4, v5⟩ := HS.out W2 hg2'
  rw [HM.out.2.1, if_pos rfl] at hM2
  have HM2 := Lib.hid hM2; have HG2 := Lib.hid hg2'
  clear hM1 hM2 hg2 hg2' hs2 hXY u0 u1 u2 u3 u4 u5
  go_wp2_with fail
  go_still_tail 15, (by kernel_rfl)
  change wpList _ _ _ _ _ W2.drew
  have hM3 : Ints.MapIs Try.prog 3 W2.drew b n (fun z => if z = y then some (.int .i64 (i : Nat)) else M z) := HM2.out
  go_wp2_with (at_mapUpdate; refine Ints.wpList_store_int _ rfl _ _ _ 51 rfl 3 3 Try.underlying3 Try.underlying51 b n _ rfl hM3 (by have := HN.out; have := HL.out; unfold maxLen; omega) x rfl HX.out _ rfl ?_; intro W3 hM4 hg4 hs4)
  have hxs : ((fun z => if z = y then some (.int .i64 (i : Nat)) else M z) x).isSome = true := by
    show (if x = y then some (Value.int .i64 (i : Nat)) else M x).isSome = true
    split
    · rfl
    · exact HM.out.2.2
  rw [hxs, if_pos rfl] at hM4
  go_end0
  exact ⟨rfl, HZ.out W3 (only_trans (only_drewN HG2.out 1) hg4) hM4⟩
end Go.Proofs.Ytfbdkafpfminlaa.Heap.Im
