/- The document's Where and Free. -/
import Derived.Test.YtokkefokodcphaaBayDe
import Derived.Test.YtokkefokodcphaaBayImL
namespace Go.Proofs.Ytokkefokodcphaa.Bay
open Go.RowKit Go.Lib IRows

/-- What walks want of the document's bays at a good state. -/
theorem db_rows {W : World} {N : Nat → Prop} {la : Option Addr} {ln : Nat} {l : List By} {da : Option Addr} {dn dc : Nat} {L : List Ln} (h : DB W N la ln l da dn dc L) (hg : Good L) : ∃ ds : List Dn, ds.length = dn ∧ LsAt W N da ds ∧ ds.map Dn.p = L.map Ln.p ∧ (∀ x ∈ ds, x.r.length ≤ 8 ∧ x.q.length ≤ 8) ∧ dn ≤ 16 ∧ ln ≤ 8 := by
  obtain ⟨hl, hby, hdc, hfit, hlen, ds, hls, hp⟩ := h
  have hdl : ds.length = dn := (pair_len hp).trans hlen
  have hfew := hg.few
  refine ⟨ds, hdl, hls, hp, fun x hx => ?_, by omega, by have := hfit.1; omega⟩
  obtain ⟨i, hi, rfl⟩ := List.getElem_of_mem hx
  obtain ⟨y, hy, e1, e2⟩ := pair_at hp (List.getElem?_eq_getElem hi)
  have o := hg.ok i y hy
  have h1 := o.room
  have h2 := o.s8
  have h3 := o.q8
  rw [← e1, ← e2]
  omega
/-- Where a number was last seen among the first ones. -/
def aheadE (q : List Int) (j : Int) (i : Nat) : Int := if j ∈ q.take i then idx q j else -1
set_option maxRecDepth 100000 in
set_option maxHeartbeats 2000000 in
theorem dwhere_im {N : Nat → Prop} (la : Option Addr) (ln lc : Nat) (l : List By) (da : Option Addr) (dn dc : Nat) (L : List Ln) (j : Int) (w : World) (h : DB w N la ln l da dn dc L) (hg : Good L) :
    Calls Try.prog 29 #[bV la ln lc da dn dc, .int .i64 j] w fun e w' => e = .returned (.tuple #[.int .i64 (wher L j).1, .int .i64 (wher L j).2.1, .int .i64 (wher L j).2.2.1, .int .i64 (wher L j).2.2.2]) ∧ Below w.heap.size w w' := by
  obtain ⟨ds, hdl, hls, hp, hrow, hdn, hln⟩ := db_rows h hg
  have hlen : L.length = dn := by rw [← pair_len hp, hdl]
  obtain ⟨U, Y, hU, hY, HY⟩ := box_b w la ln lc da dn dc
  obtain ⟨u0, u1⟩ := HY.out.2.2 Y (Below.refl _ _)
  have H2 : Hid (Calls Try.prog 41 #[bV la ln lc da dn dc, .int .i64 j] Y fun e w' => e = .returned (.int .i64 (findE L j)) ∧ Hid (Below Y.heap.size Y w')) := Lib.hid ((dfind_im la ln lc da dn dc ds L j Y hdl (hls.under HY.out.1) hp (by omega) (fun x hx => by have := hrow x hx; omega)).mono fun _ _ ⟨e, hb⟩ => ⟨e, Lib.hid hb⟩)
  rcases fnd_len L j with hf | hf
  case inr =>
    have e2 : findE L j = -1 := by unfold findE; rw [if_neg (by omega)]
    have he : wher L j = (0, 0, 0, 3) := by unfold wher; rw [hf, List.getElem?_eq_none (Nat.le_refl _)]
    rw [e2] at H2
    rw [he]
    clear h hg hdl hls hp hrow hdn hln hlen hf e2 he
    go_enter Try.func29, Try.ntmps29
    go_wp2_with fail
    clear hY hU
    refine H2.out.mono ?_
    rintro e w1 ⟨rfl, HB⟩
    go_wp2_with fail
    (try simp only [Exit.inBlock, Exit.then])
    refine bodyPost_ret (results_tmp4 rfl _ _ _) rfl ?_
    exact ⟨rfl, below_then HY.out.1 HB.out⟩
  obtain ⟨k, hk⟩ : ∃ k, fnd L j = k := ⟨_, rfl⟩
  have e2 : findE L j = (k : Int) := by unfold findE; rw [if_pos hf, hk]
  rw [e2] at H2
  rw [hk] at hf
  obtain ⟨x, hx⟩ : ∃ x, ds[k]? = some x := ⟨_, List.getElem?_eq_getElem (by omega)⟩
  obtain ⟨y, hy, ey1, ey2⟩ := pair_at hp hx
  have o := hg.ok k y hy
  have hnd : x.q.Nodup := by rw [← ey2]; exact o.nq
  have he : wher L j = (((k / 2 : Nat) : Int) + 1, ((k % 2 : Nat) : Int), idx x.q j, 0) := by
    unfold wher
    rw [hk, hy]
    dsimp only
    rw [ey2]
  have hq8 := (hrow x (List.mem_of_getElem? hx)).2
  obtain ⟨qn, hqn⟩ : ∃ qn, x.q.length = qn := ⟨_, rfl⟩
  obtain ⟨gd, offd, hda, -, -, -, -⟩ := hls.cells k x hx
  have HX : Hid (∀ W, Below w.heap.size w W → W.cell? ⟨gd, offd + k * 2 + 1, none⟩ = some (.slice x.qa qn x.qc)) := Lib.hid (fun W hW => by
    obtain ⟨g', off', e, _, _, h1, h2⟩ := (hls.under hW).cells k x hx
    rw [hda] at e
    cases e
    rw [← hqn]
    exact h2)
  have HQ : Hid (∀ W i, Below w.heap.size w W → i < qn → ∃ gq offq t, x.qa = some ⟨gq, offq, none⟩ ∧ Hid (x.q[i]? = some t) ∧ W.cell? ⟨gq, offq + i, none⟩ = some (.int .i64 t)) := Lib.hid (fun W i hW hi => by
    have ht := List.getElem?_eq_getElem (l := x.q) (i := i) (by omega)
    obtain ⟨gq, offq, e, _, hc⟩ := ((hls.under hW).rows k x hx).2.irow i _ ht
    exact ⟨gq, offq, _, e, Lib.hid ht, hc⟩)
  have HND := Lib.hid hnd
  have HQN := Lib.hid hqn
  have w1 : (k : Int).tdiv 2 = ((k / 2 : Nat) : Int) := by rw [Int.tdiv_eq_ediv_of_nonneg (by omega)]; omega
  have w2 : (k : Int).tmod 2 = ((k % 2 : Nat) : Int) := by rw [Int.tmod_eq_emod_of_nonneg (by omega)]; omega
  have w3 : IntKind.i64.wrap (1 + ((k / 2 : Nat) : Int)) = 1 + ((k / 2 : Nat) : Int) := IntWalk.i64_in _ (by omega)
  have hdn16 : dn ≤ 16 := hdn
  have HW1 : Hid (1 + ((k / 2 : Nat) : Int) = ((k / 2 : Nat) : Int) + 1) := Lib.hid (Int.add_comm _ _)
  have hk0 : (0 : Int) ≤ (k : Int) := by omega
  have hkdi : (k : Int) < (dn : Int) := by omega
  have hkn : ¬ ((k : Int) < 0) := by omega
  have hkd : k < dn := by omega
  have hq8i : (qn : Int) ≤ 8 := by omega
  obtain ⟨z, hz⟩ : ∃ z, idx x.q j = z := ⟨_, rfl⟩
  have HZ := Lib.hid hz
  subst hda
  rw [he, hz]
  clear h hg hdl hls hp hrow hdn hln hlen hf e2 he hx hy ey1 ey2 o hnd hq8 hqn hk hz
  go_enter Try.func29, Try.ntmps29
  go_wp2_with fail
  clear hY hU
  refine H2.out.mono ?_
  rintro e w4 ⟨rfl, HB⟩
  obtain ⟨x0, x1⟩ := HY.out.2.2 w4 HB.out
  have HBw := Lib.hid (below_then HY.out.1 HB.out)
  have l1 := HX.out w4 HBw.out
  clear H2
  go_wp2_with fail
  go_loopw [9, 10] (fun sa s wr => ∃ i : Nat, s = .int .i64 i ∧ i ≤ qn ∧ w4 = wr ∧ ∃ t : Int, sa = .int .i64 t ∧ Hid (t = aheadE x.q j i)) (fun _ s _ => qn - (RowKit.intOf s).toNat)
  case atStart => exact ⟨0, rfl, by omega, rfl, -1, rfl, Lib.hid (by unfold aheadE; simp)⟩
  case round =>
    obtain ⟨i, rfl, hi, rfl, t, rfl, HT⟩ := hrel
    have hi0 : (0 : Int) ≤ (i : Int) := by omega
    by_cases hlt : i < qn
    · have hlt2 : (i : Int) < (qn : Int) := by omega
      obtain ⟨gq, offq, v, hqa, hv, q0⟩ := HQ.out w4 i HBw.out hlt
      rw [hqa] at l1
      have hmem : ∀ u, u ∈ x.q.take (i + 1) ↔ u ∈ x.q.take i ∨ u = v := fun u => by
        rw [List.take_add_one, hv.out]
        simp
      by_cases c1 : v = j
      · have HF : Hid ((i : Int) = aheadE x.q j (i + 1)) := Lib.hid (by
          have hidx : idx x.q j = i := idx_at (by rw [← c1]; exact hv.out) (fun t u ht hu e => by
            obtain ⟨h1, e1⟩ := List.getElem?_eq_some_iff.1 hu
            obtain ⟨h2, e2⟩ := List.getElem?_eq_some_iff.1 hv.out
            exact List.pairwise_iff_getElem.1 HND.out t i h1 h2 ht (by rw [e1, e2, e, c1]))
          unfold aheadE
          rw [if_pos ((hmem j).2 (.inr c1.symm)), hidx])
        have d1 : (v == j) = true := by simpa using c1
        clear c1 hmem
        go_wp2_with fail
        go_roundw
        case rel => exact ⟨i + 1, by go_num, by omega, by first | rfl | trivial, (i : Int), rfl, HF⟩
        case measure => simp [RowKit.intOf]; omega
      · have HF : Hid (t = aheadE x.q j (i + 1)) := Lib.hid (by
          rw [HT.out]
          unfold aheadE
          by_cases h1 : j ∈ x.q.take i
          · rw [if_pos h1, if_pos ((hmem j).2 (.inl h1))]
          · rw [if_neg h1, if_neg (fun h2 => ((hmem j).1 h2).elim h1 (fun h3 => c1 h3.symm))])
        have d1 : (v == j) = false := by simpa using c1
        clear c1 hmem
        go_wp2_with fail
        go_roundw
        case rel => exact ⟨i + 1, by go_num, by omega, by first | rfl | trivial, t, rfl, HF⟩
        case measure => simp [RowKit.intOf]; omega
    · obtain rfl : i = qn := by omega
      have HE : Hid (t = z) := Lib.hid (by
        rw [HT.out, ← HZ.out]
        unfold aheadE
        rw [List.take_of_length_le (by rw [HQN.out]; exact Nat.le_refl _)]
        split
        · rfl
        · rename_i hn
          exact (idx_not hn).symm)
      go_wp2_with fail
      (try simp only [Exit.inBlock, Exit.then])
      refine bodyPost_ret (results_tmp4 rfl _ _ _) rfl ?_
      exact ⟨by rw [← HE.out, ← HW1.out]; rfl, HBw.out⟩
set_option maxRecDepth 100000 in
set_option maxHeartbeats 1000000 in
theorem dfree_im {N : Nat → Prop} (la : Option Addr) (ln lc : Nat) (l : List By) (da : Option Addr) (dn dc : Nat) (L : List Ln) (b s : Int) (w : World) (h : DB w N la ln l da dn dc L) (hg : Good L) :
    Calls Try.prog 30 #[bV la ln lc da dn dc, .int .i64 b, .int .i64 s] w fun e w' => e = .returned (.tuple #[.int .i64 (free L b s).1, .int .i64 (free L b s).2]) ∧ Below w.heap.size w w' := by
  obtain ⟨ds, hdl, hls, hp, hrow, hdn, hln⟩ := db_rows h hg
  have hlen : L.length = dn := by rw [← pair_len hp, hdl]
  obtain ⟨hl, hby, _, hfit, _⟩ := h
  obtain ⟨U, Y, hU, hY, HY⟩ := box_b w la ln lc da dn dc
  obtain ⟨u0, u1⟩ := HY.out.2.2 Y (Below.refl _ _)
  have H1 : Hid (Calls Try.prog 40 #[bV la ln lc da dn dc, .int .i64 b, .int .i64 s] Y fun e w' => e = .returned (.int .i64 (lineE ln b s)) ∧ Hid (Below Y.heap.size Y w')) := Lib.hid ((dline_im la ln lc da dn dc b s Y (by omega)).mono fun _ _ ⟨e, hb⟩ => ⟨e, Lib.hid hb⟩)
  rcases side_line hfit hl b s with ⟨hs, hle⟩ | ⟨hs, hle⟩
  case inr =>
    have he : free L b s = (0, 3) := by unfold free; rw [if_pos hs]
    rw [hle] at H1
    rw [he]
    clear hg hdl hls hp hrow hdn hln hlen hl hby hfit hs hle he
    go_enter Try.func30, Try.ntmps30
    go_wp2_with fail
    clear hY hU
    refine H1.out.mono ?_
    rintro e w1 ⟨rfl, HB⟩
    go_wp2_with fail
    go_ret2
    exact ⟨rfl, below_then HY.out.1 HB.out⟩
  obtain ⟨k, hk⟩ : ∃ k, kk b s = k := ⟨_, rfl⟩
  have hkl : k < L.length := by rw [← hk]; exact (hg.side hs).1
  rw [hle, hk] at H1
  obtain ⟨x, hx⟩ : ∃ x, ds[k]? = some x := ⟨_, List.getElem?_eq_getElem (by omega)⟩
  obtain ⟨y, hy, ey1, ey2⟩ := pair_at hp hx
  have o := hg.ok k y hy
  have hys : y.s = slotOf l k := hfit.2 k y hy
  have hr8 := (hrow x (List.mem_of_getElem? hx)).1
  obtain ⟨rn, hrn⟩ : ∃ rn, x.r.length = rn := ⟨_, rfl⟩
  obtain ⟨sl, hsl⟩ : ∃ sl, slotOf l k = sl := ⟨_, rfl⟩
  have he : free L b s = (sl - rn, 0) := by
    unfold free
    rw [if_neg (fun h => h hs), hk, hy]
    dsimp only
    rw [ey1, hrn, hys, hsl]
  obtain ⟨gd, offd, hda, -, -, -, -⟩ := hls.cells k x hx
  have HX : Hid (∀ W, Below Y.heap.size Y W → (W.cell? ⟨U, 0, none⟩ = some (.slice la ln lc) ∧ W.cell? ⟨U, 1, none⟩ = some (.slice da dn dc)) ∧ W.cell? ⟨gd, offd + k * 2, none⟩ = some (.slice x.ra rn x.rc)) := Lib.hid (fun W hW => by
    obtain ⟨g', off', e, _, _, h1, h2⟩ := (hls.under (below_then HY.out.1 hW)).cells k x hx
    rw [hda] at e
    cases e
    rw [← hrn]
    exact ⟨HY.out.2.2 W hW, h1⟩)
  have H4 : Hid (∀ W, Below Y.heap.size Y W → Calls Try.prog 24 #[bV la ln lc da dn dc, .int .i64 k] W fun e w' => e = .returned (.int .i64 sl) ∧ Hid (Below W.heap.size W w')) := Lib.hid (fun W hW => by
    rw [← hsl]
    exact (dslots_im la ln lc (.slice da dn dc) l k W hl (hby.under (below_then HY.out.1 hW)) (by have := hfit.1; omega) (by omega) da dn dc rfl).mono fun _ _ ⟨e, hb⟩ => ⟨e, Lib.hid hb⟩)
  have hs8 : 0 ≤ sl ∧ sl ≤ 8 := by rw [← hsl, ← hys]; exact ⟨o.s0, o.s8⟩
  have w1 : IntKind.i64.wrap (sl - (rn : Int)) = sl - (rn : Int) := IntWalk.i64_in _ (by omega)
  have hk0 : (0 : Int) ≤ (k : Int) := by omega
  have hkd : k < dn := by omega
  have hkdi : (k : Int) < (dn : Int) := by omega
  have hkn : ¬ ((k : Int) < 0) := by omega
  subst hda
  rw [he]
  clear hg hdl hls hp hrow hdn hln hlen hl hby hfit hs hle he hkl hx hy ey1 ey2 o hys hr8 hrn hsl hs8 hk
  go_enter Try.func30, Try.ntmps30
  go_wp2_with fail
  clear hY hU
  refine H1.out.mono ?_
  rintro e w1 ⟨rfl, HB⟩
  have HB1 : Hid (Below Y.heap.size Y w1.drew) := Lib.hid (below_then HB.out (Below.refl _ w1).drew)
  go_wp2_with fail
  go_region_held3 (fun W => (W.cell? ⟨U, 0, none⟩ = some (.slice la ln lc) ∧ W.cell? ⟨U, 1, none⟩ = some (.slice (some ⟨gd, offd, none⟩) dn dc)) ∧ W.cell? ⟨gd, offd + k * 2, none⟩ = some (.slice x.ra rn x.rc))
    (first | with_reducible exact HX.out _ HX3.out | with_reducible exact HX.out _ HB1.out)
    (first | (go_at_call 24; (with_reducible refine (H4.out _ HB1.out).mono ?_); rintro e w3 ⟨rfl, HB3⟩; have HX3 := Lib.hid (below_then HB1.out HB3.out)))
  all_goals
    go_wp2_with fail
    go_ret2
    exact ⟨rfl, below_then HY.out.1 HX3.out⟩
end Go.Proofs.Ytokkefokodcphaa.Bay
