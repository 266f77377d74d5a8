/- The program's stacks: the normal stacks of what was counted. -/
import Derived.Test.YtbhhofeflajpoaaGoodsImC
import Derived.Test.YtbhhofeflajpoaaSortInts
namespace Go.Proofs.Ytbhhofeflajpoaa.Goods.Im
open Go.RowKit Go.Lib

theorem info_int : (Try.prog.info? 3).map (fun i => (i.zero, i.size, i.bytes)) = some (some (.int .i64 0), 1, 8) := by kernel_rfl
/-- Types in a row of one's own. -/
abbrev KS (w : World) (B : Nat) (v : Value) (ss : List Int) : Prop := w.ownsRow B 3 1 v ss.length (ss.map (Value.int .i64))
theorem ks_append {w : World} {B : Nat} {v : Value} {l : List Int} {s : Int} (h : w.ownsRow B 3 1 v (l.length + 1) (l.map (Value.int .i64) ++ [.int .i64 s])) : KS w B v (l ++ [s]) := by
  show w.ownsRow B 3 1 v (l ++ [s]).length ((l ++ [s]).map (Value.int .i64))
  rw [List.length_append, List.map_append]
  exact h
theorem ks_at {w : World} {B : Nat} {v : Value} {l : List Int} (h : KS w B v l) : ∃ a c, v = .slice a l.length c ∧ ∀ (i : Nat) (x : Int), l[i]? = some x → ∃ g, a = some ⟨g, 0, none⟩ ∧ g < w.heap.size ∧ w.cell? ⟨g, i, none⟩ = some (.int .i64 x) := by
  rcases h.2 with ⟨hv, h0⟩ | ⟨g, cap, cur, hv, _, hg, hn, hm, _⟩
  · refine ⟨none, 0, by rw [hv, h0], fun i x hx => ?_⟩
    have := (List.getElem?_eq_some_iff.1 hx).1
    omega
  · refine ⟨some ⟨g, 0, none⟩, cap, hv, fun i x hx => ⟨g, rfl, (Array.getElem?_eq_some_iff.1 hg).1, ?_⟩⟩
    have := h.cells (g := g) (by rw [hv]; rfl) i (.int .i64 x) (by rw [List.getElem?_map, hx]; rfl)
    rw [addr_add, Nat.zero_add] at this
    exact this
/-- A block of one's own is not the range's, not the map's. -/
theorem going_far {w : World} {B b r n cnt : Nat} {M : Int → Option Value} {left : Int → Bool} {v : Value} {e : TypeId} {size m : Nat} {xs : List Value} (hG : Ints.Going Try.prog 3 w b r n M left cnt) (h : w.ownsRow B e size v m xs) : some r ≠ v.ownBlock ∧ some b ≠ v.ownBlock := by
  obtain ⟨ia, ib, ic, id, hit⟩ := hG.iter
  obtain ⟨es, clock, hmp⟩ := hG.map.block
  rcases h.2 with ⟨rfl, _⟩ | ⟨g, cap, cur, rfl, _, hg, _⟩
  · exact ⟨fun he => (by cases he), fun he => (by cases he)⟩
  · refine ⟨fun e => ?_, fun e => ?_⟩
    · have e1 : r = g := Option.some.inj e
      rw [e1, hg] at hit
      simp at hit
    · have e1 : b = g := Option.some.inj e
      rw [e1, hg] at hmp
      simp at hmp
set_option maxRecDepth 100000 in
set_option maxHeartbeats 4000000 in
theorem stacks_im (b n : Nat) (q : Int → Option Int) (L : List St) (w : World) (h : CM w b n q) (hO : Of L q) (hL : L.length ≤ 4096) :
    Calls Try.prog 24 #[.map (some b)] w fun e w' => ∃ v, e = .returned v ∧ OwnS w' w.heap.size v L ∧ Below w.heap.size w w' := by
  obtain ⟨i0, hi, hz0, hz1, hz2⟩ := info_parts info_int
  have hM := h.map
  have HG := Lib.hid h.good
  have HOF := Lib.hid hO
  have HLL := Lib.hid hL
  have HBL := Lib.hid h.map.lt
  clear h hO hL
  go_enter Try.func24, Try.ntmps24
  go_wp2_with (first | (at_range; refine Ints.wpList_range_int _ rfl _ 41 rfl 3 3 Try.underlying3 Try.underlying41 b n _ rfl hM ?_; intro w0 hG0 hg0 hs0) | fail)
  go_frame
  have HB0 : Hid (Below w.heap.size w w0) := Lib.hid (below_of_only (Below.refl _ w) (Nat.le_refl _) (World.grownBy.but hg0 (some w.heap.size)))
  go_loopw [3] (fun t wr => ∃ (ss : List Int) (cnt : Nat) (left : Int → Bool), KS wr w.heap.size t ss ∧ Ints.Going Try.prog 3 wr b w.heap.size n (mV q) left cnt ∧ Hid (ss.Perm ((gone left L).map St.kind)) ∧ Below w.heap.size w wr) (fun _ wr => wr.rangeLeft b w.heap.size)
  case atStart =>
    refine ⟨[], _, _, World.ownsRow_nil _ _ _ _, hG0, Lib.hid ?_, HB0.out⟩
    rw [gone_none HOF.out.left]
    exact List.Perm.refl _
  case round =>
    obtain ⟨ss, cnt, left, hown, hG, HK, hbel⟩ := hrel
    have hlen : ss.length ≤ 4096 := by
      have h1 := HK.out.length_eq
      have h2 : (gone left L).length ≤ L.length := List.length_filter_le _ _
      rw [List.length_map] at h1
      have := HLL.out
      omega
    clear hs0 hg0 hG0
    go_wp2_with (first | (at_next; refine Ints.wpList_next_int _ rfl _ rfl 3 Try.underlying3 b w.heap.size _ _ left cnt rfl hG ?_ ?_) | fail)
    · intro hc0 hl0
      have hp : ss.Perm (L.map St.kind) := by have := HK.out; rw [gone_all hl0] at this; exact this
      have HC := Lib.hid (sort_ints wr w.heap.size _ ss (L.map St.kind) hown (by omega) hp (rise_kinds HOF.out.norm.rise))
      have HE : Hid (∀ W, wr.grownBy W u3.ownBlock → Below w.heap.size w W ∧ CM W b n q) := Lib.hid (fun W hg => ⟨hbel.grown hg hbel.size (fun q hq => (hown.lt q hq).1), ⟨hG.map.of_block (hg.block b hG.map.lt (going_far hG hown).2), HG.out⟩⟩)
      clear hc0 hl0 hp hG hlen HK hbel hown
      go_wp2_with fail
      refine HC.out.mono ?_
      rintro e W ⟨rfl, hown2, hgw⟩
      obtain ⟨hbW, hcW⟩ := HE.out W hgw
      obtain ⟨a, c, hv, hat⟩ := ks_at hown2
      rw [List.length_map] at hv
      obtain ⟨m, hm⟩ : ∃ m, L.length = m := ⟨_, rfl⟩
      rw [hm] at hv
      have HAT : Hid (∀ W' j, Below W.heap.size W W' → j < m → ∃ g t, a = some ⟨g, 0, none⟩ ∧ Hid (L[j]? = some t) ∧ W'.cell? ⟨g, j, none⟩ = some (.int .i64 t.kind) ∧ Hid (∀ V, Below W.heap.size W V → (Instr.lookup 41 (.map (some b)) (.int .i64 t.kind) false).run Try.prog V = .ok (.int .i64 t.qty) V)) := Lib.hid (fun W' j hW hj => by
        obtain ⟨t, ht⟩ := nth_at (show j < L.length by omega)
        obtain ⟨g, e, hg, k0⟩ := hat j t.kind (by rw [List.getElem?_map, ht]; rfl)
        refine ⟨g, t, e, Lib.hid ht, ((bcell hW).1 g _ hg).trans k0, Lib.hid (fun V hV => ?_)⟩
        have h1 := cnt_at HOF.out.norm.rise (List.mem_of_getElem? ht)
        have h2 := HOF.out.left t (List.mem_of_getElem? ht)
        rw [mV_isSome] at h2
        obtain ⟨x, hx⟩ := Option.isSome_iff_exists.1 h2
        rw [(hcW.under hV).look (HG.out.kind _ _ hx).2, ← HOF.out.cnt, h1])
      subst hv
      have HBW := Lib.hid hbW
      have HM := Lib.hid hm
      have hm1 : (m : Int) ≤ 1048576 := by have := HLL.out; omega
      clear hbW hcW hat hown2 hgw hm HE HC hM hi hz0 hz1 hz2
      go_wp2_with fail
      go_loopw [6, 26] (fun s t wr => ∃ j : Nat, t = .int .i64 j ∧ j ≤ m ∧ Hid (OwnS wr W.heap.size s (L.take j)) ∧ Hid (Below W.heap.size W wr)) (fun _ t _ => m - (RowKit.intOf t).toNat)
      case atStart => exact ⟨0, rfl, by omega, Lib.hid (World.ownsRow_nil _ _ _ _), Lib.hid (Below.refl _ _)⟩
      case round =>
        obtain ⟨j, rfl, hj, HO, HB⟩ := hrel
        have hj0 : (0 : Int) ≤ (j : Int) := by omega
        by_cases hlt : j < m
        · have hlt2 : (j : Int) < (m : Int) := by omega
          obtain ⟨g, t, rfl, ht, k0, HLK⟩ := HAT.out wr j HB.out hlt
          have hlk := HLK.out wr HB.out
          obtain ⟨v', w2, hr, HE2⟩ : ∃ v' w', (Builtin.append_ #[22, 22] 22 #[u6, .slice (some ⟨wr.heap.size, 0, none⟩) 1 1]).run Try.prog (wr.alloc (.cells #[.int .i64 t.kind, .int .i64 t.qty] 39)) = .ok v' w' ∧
              Hid (OwnS w' W.heap.size v' (L.take (j + 1)) ∧ Below W.heap.size W w') := by
            have hal := HB.out.alloc HB.out.size (.cells #[.int .i64 t.kind, .int .i64 t.qty] 39)
            obtain ⟨v', w', hr, h2, h3⟩ := app_st (wr.alloc (.cells #[.int .i64 t.kind, .int .i64 t.qty] 39)) W.heap.size u6 (L.take j) [t] (HO.out.alloc _) (some ⟨wr.heap.size, 0, none⟩) 1 1 rfl (fun i u hi => ⟨_, rfl, by
              have hblk := heap_alloc_new wr (.cells #[.int .i64 t.kind, .int .i64 t.qty] 39)
              rw [addr_add, Nat.zero_add]
              refine cell_block (j := i) hblk ?_
              rw [← Array.getElem?_toList]
              exact hi⟩) (by
              rw [List.length_take]
              have := HLL.out
              simp only [List.length_singleton]
              omega) hal.size
            have hT : L.take (j + 1) = L.take j ++ [t] := by rw [List.take_add_one, ht.out]; rfl
            rw [← hT] at h2
            exact ⟨v', w', hr, Lib.hid ⟨h2, below_cat hal h3⟩⟩
          have HR := Lib.hid hr
          have HO2 := Lib.hid HE2.out.1; have HB2 := Lib.hid HE2.out.2
          clear hr
          go_wp2_with (at_builtin; refine walk_run (v' := v') (w' := w2) rfl _ _ _ _ rfl _ _ rfl rfl HR.out ?_)
          go_wp2_with fail
          go_roundw
          case rel => exact ⟨j + 1, by go_num, by omega, HO2, HB2⟩
          case measure => simp [RowKit.intOf]; omega
        · obtain rfl : j = m := by omega
          have HE : Hid (OwnS wr w.heap.size _ L) := Lib.hid (by
            have := HO.out
            rw [List.take_of_length_le (by rw [HM.out]; exact Nat.le_refl _)] at this
            exact World.ownsRow.mono this HBW.out.size)
          have HEB := Lib.hid (below_then HBW.out HB.out)
          go_wp2_with fail
          go_ret
          exact ⟨_, rfl, HE.out, HEB.out⟩
    · intro s v w1 cnt1 hi1 hi2 hlk x hx hv hG1 hlt hg1 hs1 hen
      subst hv
      have hst := HOF.out.step hx (HG.out.qty _ _ hx).1 hlk
      have hb1 : Below w.heap.size w w1 := below_of_only hbel (Nat.le_refl _) hg1
      have hfar := going_far hG hown
      have hown1 := hown.kept hg1 (.inr hfar.1.symm)
      have HG1 := Lib.hid hG1; have HB1 := Lib.hid hb1; have HLT := Lib.hid hlt; have HS1 := Lib.hid hs1
      have HLO := Lib.hid hG.left_eq
      by_cases h0 : 0 < x
      · rw [if_pos h0] at hst
        have HKN : Hid ((ss ++ [s]).Perm ((gone (fun x => left x && !decide (x = s)) L).map St.kind)) := Lib.hid (by
          refine List.Perm.trans ?_ (hst.map St.kind).symm
          refine (List.perm_append_singleton _ _).trans ?_
          rw [List.map_cons]
          exact HK.out.cons _)
        have hd : decide (0 < x) = true := decide_eq_true h0
        have HFAR := Lib.hid hfar
        clear hs1 hg1 hG1 hlk hb1 hi1 hi2 hlt hst hx h0 hfar hG HK
        go_wp2_with (at_builtin; refine wpList_append_own _ rfl _ _ 51 rfl w.heap.size 3 i0 (.int .i64 0) 1 8 Try.underlying51 hi hz0 hz1 hz2 rfl (by decide) _ _ _ rfl (hown1.alloc _) ⟨w1.heap.size, 0, none⟩ 1 1 [.int .i64 s] rfl rfl ?c1 ?c2 ?c3 ?c4 ?c5 ?_)
        case c1 =>
          intro j u hj
          match j, hj with
          | 0, hj => simp at hj; subst hj; simp [Addr.add]
        case c2 => intro u hu; simp at hu; subst hu; rfl
        case c3 => unfold maxLen; omega
        case c4 => omega
        case c5 => have := HB1.out.size; simp; omega
        intro v' w2 hown' hgrow _
        have ht := ks_append hown'
        have hal : Below w.heap.size w (w1.alloc (.cells #[.int .i64 s] 3)) := HB1.out.alloc HB1.out.size _
        have hbel1 : Below w.heap.size w w2 := hal.grown hgrow hal.size (fun q hq => (hown1.lt q hq).1)
        have hGa := HG1.out.of_blocks (w' := w1.alloc (.cells #[.int .i64 s] 3)) (heap_alloc_old _ _ HG1.out.map.lt) (heap_alloc_old _ _ HG1.out.lt.1)
        have hG2 := hGa.of_blocks (w' := w2) (hgrow.block _ hGa.map.lt HFAR.out.2) (hgrow.block _ hGa.lt.1 HFAR.out.1)
        have HG2 := Lib.hid hG2; have HT := Lib.hid ht; have HBL1 := Lib.hid hbel1
        clear hgrow hown hbel hown' hown1 ht hal hGa hG2 hbel1 hen
        go_wp2_with fail
        go_roundw
        case rel => exact ⟨ss ++ [s], cnt1, _, HT.out, HG2.out, HKN, HBL1.out⟩
        case measure =>
          rw [HG2.out.left_eq, HLO.out]
          exact HLT.out
      · rw [if_neg h0] at hst
        have HKN : Hid (ss.Perm ((gone (fun x => left x && !decide (x = s)) L).map St.kind)) := Lib.hid (by rw [hst]; exact HK.out)
        have hd : decide (0 < x) = false := decide_eq_false h0
        have HOWN := Lib.hid hown1
        clear hs1 hg1 hG1 hlk hb1 hi1 hi2 hlt hst hx h0 hfar hG HK hown hown1 hbel
        go_wp2_with fail
        go_roundw
        case rel => exact ⟨ss, cnt1, _, HOWN.out, HG1.out, HKN, HB1.out⟩
        case measure =>
          rw [HG1.out.left_eq, HLO.out]
          exact HLT.out
end Go.Proofs.Ytbhhofeflajpoaa.Goods.Im
