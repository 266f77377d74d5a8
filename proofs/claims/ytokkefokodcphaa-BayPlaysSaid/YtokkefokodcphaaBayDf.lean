/- The document's Leave. -/
import Derived.Test.YtokkefokodcphaaBayDe
import Derived.Test.YtokkefokodcphaaBayImL
namespace Go.Proofs.Ytokkefokodcphaa.Bay
open Go.RowKit Go.Lib IRows

theorem out_head {n : Int} {q : List Int} (h : (n :: q).Nodup) : out (n :: q) n = q := by
  have h1 := (List.nodup_cons.1 h).1
  have h2 := out_not h1
  unfold out at h2 ⊢
  simp [h2]
set_option maxRecDepth 100000 in
set_option maxHeartbeats 2000000 in
theorem dleave_im {N : Nat → Prop} (la : Option Addr) (ln lc : Nat) (l : List By) (da : Option Addr) (dn dc : Nat) (L : List Ln) (j : Int) (w : World) (h : DB w N la ln l da dn dc L) (hg : Good L) :
    Calls Try.prog 28 #[bV la ln lc da dn dc, .int .i64 j] w fun e w' => ∃ a' c', e = .returned (.tuple #[bV la ln lc a' dn c', .int .i64 (leave L j).2.1, .int .i64 (leave L j).2.2]) ∧ Hid (DB w' (fun q => N q ∨ w.heap.size ≤ q) la ln l a' dn c' (leave L j).1 ∧ Below w.heap.size w w') := by
  obtain ⟨U, Y, Z, hU, hY, hZ, hYU, HZ, HG⟩ := open_db w la ln lc da dn dc
  obtain ⟨hl, hby, hdc, hfit, hlen, ds, hls, hp⟩ := h
  have hdl : ds.length = dn := (pair_len hp).trans hlen
  have hfew := hg.few
  have hln : ln ≤ 8 := by have := hfit.1; omega
  have hrow : ∀ x ∈ ds, x.r.length ≤ 8 ∧ x.q.length ≤ 8 := fun x hx => by
    obtain ⟨i, hi, rfl⟩ := List.getElem_of_mem hx
    obtain ⟨y, hy, e1, e2⟩ := pair_at hp (List.getElem?_eq_getElem hi)
    have o := hg.ok i y hy
    have h1 := o.room
    have h2 := o.s8
    have h3 := o.q8
    rw [← e1, ← e2]
    omega
  have hls0 : LsAt w (fun q => (N q ∧ q < w.heap.size) ∨ Z.heap.size ≤ q) da ds := hls.mono fun q hq hlt => .inl ⟨hq, hlt⟩
  have HE : Hid (∀ W a' c' L' ds', Below Z.heap.size Z W → dn ≤ c' → Fit l L' → L'.length = dn → LsAt W (fun q => (N q ∧ q < w.heap.size) ∨ Z.heap.size ≤ q) a' ds' → ds'.map Dn.p = L'.map Ln.p → DEnd w N la ln lc l U dn W a' c' L') := Lib.hid (fun W a' c' L' ds' hW h1 h2 h3 h4 h5 => db_ret HZ.out.1 HZ.out.2.1 HZ.out.2.2.1 HZ.out.2.2.2 hl hby hW h1 h2 h3 h4 h5)
  have H2 : Hid (Calls Try.prog 41 #[bV la ln lc da dn dc, .int .i64 j] Z fun e w' => e = .returned (.int .i64 (findE L j)) ∧ Hid (Below Z.heap.size Z w')) := Lib.hid ((dfind_im la ln lc da dn dc ds L j Z hdl (hls.under HZ.out.1) hp (by omega) (fun x hx => by have := hrow x hx; omega)).mono fun _ _ ⟨e, hb⟩ => ⟨e, Lib.hid hb⟩)
  obtain ⟨⟨z0, z1⟩, ⟨z2, z3⟩, z4, z5⟩ := HG.out Z (Below.refl _ _)
  rcases fnd_len L j with hf | hf
  case inr =>
    have HE0 : Hid (∀ W, Below Z.heap.size Z W → DEnd w N la ln lc l U dn W da dc L) := Lib.hid (fun W hW => HE.out W da dc L ds hW hdc hfit hlen ((hls0.under HZ.out.1).under hW) hp)
    have e2 : findE L j = -1 := by unfold findE; rw [if_neg (by omega)]
    rw [e2] at H2
    rw [leave_none hf]
    clear hl hby hdc hfit hlen hls hp hdl hfew hln hrow hls0 hg hf e2
    go_enter Try.func28, Try.ntmps28
    go_wp2_with fail
    clear hY hZ hU hYU
    refine H2.out.mono ?_
    rintro e w1 ⟨rfl, HB⟩
    obtain ⟨⟨y0, y1⟩, ⟨y2, y3⟩, y4, y5⟩ := HG.out w1 HB.out
    have HR := Lib.hid (HE0.out w1 HB.out)
    go_wp2_with fail
    exact ret_bays3 rfl rfl rfl rfl rfl HR.out.1 ⟨da, dc, rfl, Lib.hid HR.out.2⟩
  obtain ⟨k, hk⟩ : ∃ k, fnd L j = k := ⟨_, rfl⟩
  have e2 : findE L j = (k : Int) := by unfold findE; rw [if_pos hf, hk]
  rw [e2] at H2
  rw [hk] at hf
  obtain ⟨x, hx⟩ : ∃ x, ds[k]? = some x := ⟨_, List.getElem?_eq_getElem (by omega)⟩
  obtain ⟨y, hy, ey1, ey2⟩ := pair_at hp hx
  have o := hg.ok k y hy
  have hhas : has j y = true := by rw [← hk] at hy; exact fnd_has L j y hy
  have hlv : leave L j = (L.set k (lvL y j).1, (lvL y j).2, 0) := by
    rw [← hk] at hy ⊢
    exact leave_some hy
  obtain ⟨hxr, hxq⟩ := hrow x (List.mem_of_getElem? hx)
  obtain ⟨gd, offd, hda, -, -, -, -⟩ := hls.cells k x hx
  have HX : Hid (∀ W, Below Z.heap.size Z W → W.cell? ⟨gd, offd + k * 2, none⟩ = some (.slice x.ra x.r.length x.rc) ∧ W.cell? ⟨gd, offd + k * 2 + 1, none⟩ = some (.slice x.qa x.q.length x.qc)) := Lib.hid (fun W hW => by
    obtain ⟨g', off', e, _, _, h1, h2⟩ := ((hls.under HZ.out.1).under hW).cells k x hx
    rw [hda] at e
    cases e
    exact ⟨h1, h2⟩)
  have HXr : Hid (∀ W, Below Z.heap.size Z W → DnAt W (fun q => (N q ∧ q < w.heap.size) ∨ Z.heap.size ≤ q) x) := Lib.hid (fun W hW => (((hls0.under HZ.out.1).under hW).rows k x hx))
  have hkd : k < dn := by omega
  have hdn16 : dn ≤ 16 := by omega
  have HW : Hid (∀ W (yy : Dn) (v : Ln), Below Z.heap.size Z W → DnAt W (fun q => (N q ∧ q < w.heap.size) ∨ Z.heap.size ≤ q) yy → yy.p = v.p → v.s = y.s → Calls Try.prog 42 #[bV la ln lc da dn dc, .int .i64 k, .agg #[.slice yy.ra yy.r.length yy.rc, .slice yy.qa yy.q.length yy.qc]] W fun e w' => ∃ a' c', e = .returned (bV la ln lc a' dn c') ∧ Hid (Below W.heap.size W w') ∧ Hid (DEnd w N la ln lc l U dn w' a' c' (L.set k v))) := Lib.hid (fun W yy v hW hyy hyv hvs => by
    refine (dwith_im la ln lc da dn dc ds k yy W hdl hdc ((hls0.under HZ.out.1).under hW) hyy hkd (by omega)).mono ?_
    rintro e w' ⟨a', c', rfl, H⟩
    obtain ⟨g1, g2, g3⟩ := H.out
    have hB := below_then hW g2
    refine ⟨a', c', rfl, Lib.hid g2, Lib.hid (HE.out w' a' c' (L.set k v) (ds.set k yy) hB g3 (hfit.set hy hvs) (by rw [List.length_set]; exact hlen) (g1.mono fun q hq _ => ?_) ?_)⟩
    · rcases hq with hq | hq
      · exact hq
      · exact .inr (Nat.le_trans hW.size hq)
    · rw [List.map_set, List.map_set, hp, hyv])
  subst hda
  rw [hlv]
  -- without, at any world
  have HO : Hid (∀ W (a : Option Addr) (c : Nat) (t : List Int) (i : Int), Below Z.heap.size Z W → IRow W a t → t.length ≤ 8 → Calls Try.prog 44 #[.slice a t.length c, .int .i64 i] W fun e w' => ∃ a1 c1, e = .returned (.slice a1 (out t i).length c1) ∧ Hid (Below W.heap.size W w') ∧ Hid (NRow w' (fun q => (N q ∧ q < w.heap.size) ∨ Z.heap.size ≤ q) a1 (out t i))) := Lib.hid (fun W a c t i hW ht ht8 => by
    refine (dwithout_im a t.length c t i W rfl ht (by omega)).mono ?_
    rintro e w' ⟨a1, m1, c1, rfl, H⟩
    obtain ⟨g1, g2⟩ := H.out
    obtain ⟨a2, c2, e2, hN⟩ := nrow_ks (N := fun q => (N q ∧ q < w.heap.size) ∨ Z.heap.size ≤ q) g1 (fun q hq => .inr (Nat.le_trans hW.size hq))
    cases e2
    exact ⟨a1, c1, rfl, Lib.hid g2, Lib.hid hN⟩)
  have HBX : Hid (∀ W, Below Z.heap.size Z W → ∃ V X, W.heap.size = V ∧ W.alloc (.cells #[.slice x.ra x.r.length x.rc, .slice x.qa x.q.length x.qc] 54) = X ∧ Hid (Below Z.heap.size Z X ∧ V ≠ U + 1 ∧ ∀ V2, Below X.heap.size X V2 → V2.cell? ⟨V, 0, none⟩ = some (.slice x.ra x.r.length x.rc) ∧ V2.cell? ⟨V, 1, none⟩ = some (.slice x.qa x.q.length x.qc))) := Lib.hid (fun W hW => by
    obtain ⟨V, X, hV, hX, HX2⟩ := box_d W x
    have := hW.size
    have := HZ.out.2.2.1
    exact ⟨V, X, hV, hX, Lib.hid ⟨below_then hW HX2.out.1, by omega, HX2.out.2⟩⟩)
  have HIN : Hid (∀ W, Below Z.heap.size Z W → Calls Try.prog 25 #[.slice x.qa x.q.length x.qc, .int .i64 j] W fun e w' => e = .returned (.bool (decide (j ∈ x.q))) ∧ W = w') := Lib.hid (fun W hW => din_im x.qa x.q.length x.qc x.q j W rfl (HXr.out W hW).2.irow (by omega))
  have hk0 : (0 : Int) ≤ (k : Int) := by omega
  have hkdi : (k : Int) < (dn : Int) := by omega
  have hkn : ¬ ((k : Int) < 0) := by omega
  obtain ⟨rn, hrn⟩ : ∃ rn, x.r.length = rn := ⟨_, rfl⟩
  obtain ⟨qn, hqn⟩ : ∃ qn, x.q.length = qn := ⟨_, rfl⟩
  by_cases hjq : j ∈ x.q
  · have e3 : lvL y j = (⟨x.r, out x.q j, y.s⟩, 0) := by unfold lvL; rw [ey2, ey1, if_pos hjq]
    rw [decide_eq_true hjq] at HIN
    rw [e3]
    have H5 : Hid (∀ W, Below Z.heap.size Z W → Calls Try.prog 44 #[.slice x.qa qn x.qc, .int .i64 j] W fun e w' => ∃ a1 m1 c1, e = .returned (.slice a1 m1 c1) ∧ Hid (Below W.heap.size W w') ∧ Hid (Calls Try.prog 42 #[bV la ln lc (some ⟨gd, offd, none⟩) dn dc, .int .i64 k, .agg #[.slice x.ra rn x.rc, .slice a1 m1 c1]] w' fun e w2 => ∃ a' c', e = .returned (bV la ln lc a' dn c') ∧ Hid (Below w'.heap.size w' w2) ∧ Hid (DEnd w N la ln lc l U dn w2 a' c' (L.set k ⟨x.r, out x.q j, y.s⟩)))) := Lib.hid (fun W hW => by
      rw [← hqn]
      refine (HO.out W x.qa x.qc x.q j hW (HXr.out W hW).2.irow hxq).mono ?_
      rintro e w' ⟨a1, c1, rfl, HB, HN⟩
      have hB := below_then hW HB.out
      refine ⟨a1, _, c1, rfl, HB, Lib.hid ?_⟩
      have := HW.out w' ⟨x.r, x.ra, x.rc, out x.q j, a1, c1⟩ ⟨x.r, out x.q j, y.s⟩ hB ⟨(HXr.out w' hB).1, HN.out⟩ rfl rfl
      dsimp only at this
      rw [hrn] at this
      exact this)
    rw [hrn, hqn] at HX HBX
    rw [hqn] at HIN
    clear hl hby hdc hfit hlen hls hp hdl hfew hln hrow hls0 hg hk hf e2 hx hy ey1 ey2 o hhas hlv hxr hxq hkd hdn16 hrn hqn HW HXr HO e3 hjq
    go_enter Try.func28, Try.ntmps28
    go_wp2_with fail
    clear hY hZ hU hYU
    refine H2.out.mono ?_
    rintro e w2 ⟨rfl, HB⟩
    obtain ⟨⟨x0, x1⟩, _⟩ := HG.out w2 HB.out
    obtain ⟨l0, l1⟩ := HX.out w2 HB.out
    obtain ⟨V, X, hV, hX, HVX⟩ := HBX.out w2 HB.out
    have HB2 := Lib.hid HVX.out.1
    have HS : Hid (∀ W, Below X.heap.size X W → (W.cell? ⟨U, 0, none⟩ = some (.slice la ln lc) ∧ W.cell? ⟨U, 1, none⟩ = some (.slice (some ⟨gd, offd, none⟩) dn dc)) ∧ W.cell? ⟨V, 0, none⟩ = some (.slice x.ra rn x.rc) ∧ W.cell? ⟨V, 1, none⟩ = some (.slice x.qa qn x.qc)) := Lib.hid (fun W hW => ⟨(HG.out W (below_then HVX.out.1 hW)).1, HVX.out.2.2 W hW⟩)
    have HS2 : Hid (∀ (W : World) (v1 v2 : Value), Below X.heap.size X W → (((W.setCell ⟨U + 1, 0, none⟩ v1).setCell ⟨U + 1, 1, none⟩ v2).cell? ⟨U, 0, none⟩ = some (.slice la ln lc) ∧ ((W.setCell ⟨U + 1, 0, none⟩ v1).setCell ⟨U + 1, 1, none⟩ v2).cell? ⟨U, 1, none⟩ = some (.slice (some ⟨gd, offd, none⟩) dn dc)) ∧ ((W.setCell ⟨U + 1, 0, none⟩ v1).setCell ⟨U + 1, 1, none⟩ v2).cell? ⟨V, 0, none⟩ = some (.slice x.ra rn x.rc) ∧ ((W.setCell ⟨U + 1, 0, none⟩ v1).setCell ⟨U + 1, 1, none⟩ v2).cell? ⟨V, 1, none⟩ = some (.slice x.qa qn x.qc)) := Lib.hid (fun W v1 v2 hW => by
      obtain ⟨⟨h1, h2⟩, h3, h4⟩ := HS.out W hW
      have hk : ∀ q, q ≠ U + 1 → ((W.setCell ⟨U + 1, 0, none⟩ v1).setCell ⟨U + 1, 1, none⟩ v2).heap[q]? = W.heap[q]? := fun q hq => (heap_setCell_other _ ⟨U + 1, 1, none⟩ q _ (fun e => hq e)).trans (heap_setCell_other _ ⟨U + 1, 0, none⟩ q _ (fun e => hq e))
      have hU1 := hk U (by omega)
      have hV1 := hk V HVX.out.2.1
      exact ⟨⟨(World.cell?_of_block hU1).trans h1, (World.cell?_of_block hU1).trans h2⟩, (World.cell?_of_block hV1).trans h3, (World.cell?_of_block hV1).trans h4⟩)
    have HI := Lib.hid (HIN.out X HVX.out.1)
    obtain ⟨_, v0, v1⟩ := HS.out X (Below.refl _ _)
    clear HBX HX HIN
    go_wp2_with fail
    clear hX hV
    refine HI.out.mono ?_
    rintro e w3 ⟨rfl, rfl⟩
    go_wp2_with fail
    have HX0 : Hid (Below X.heap.size X X.drew) := Lib.hid (Below.refl _ X).drew
    go_region_held3 (fun W => (W.cell? ⟨U, 0, none⟩ = some (.slice la ln lc) ∧ W.cell? ⟨U, 1, none⟩ = some (.slice (some ⟨gd, offd, none⟩) dn dc)) ∧ W.cell? ⟨V, 0, none⟩ = some (.slice x.ra rn x.rc) ∧ W.cell? ⟨V, 1, none⟩ = some (.slice x.qa qn x.qc))
      (first | with_reducible exact HS.out _ HX6.out | with_reducible exact HS.out _ HX5.out | with_reducible exact HS.out _ HX0.out | exact HS2.out _ _ _ HX6.out)
      (first
        | (go_at_call 42; (with_reducible refine HW5.out.mono ?_); rintro e w6 ⟨a', c', rfl, HB6, HE6⟩; have HX6 := Lib.hid (below_then HX5.out HB6.out); obtain ⟨_, ⟨r0, r1⟩, r2, r3⟩ := HG.out w6 (below_then HB2.out HX6.out))
        | (go_at_call 44; (with_reducible refine (H5.out _ (below_then HB2.out HX0.out)).mono ?_); rintro e w5 ⟨a1, m1, c1, rfl, HB5, HW5⟩; have HX5 := Lib.hid (below_then HX0.out HB5.out)))
    all_goals
      go_wp2_with fail
      exact ret_bays3 rfl rfl rfl rfl rfl HE6.out.1 ⟨a', c', rfl, Lib.hid HE6.out.2⟩
  rw [decide_eq_false hjq] at HIN
  have H5 : Hid (∀ W, Below Z.heap.size Z W → Calls Try.prog 44 #[.slice x.ra rn x.rc, .int .i64 j] W fun e w' => ∃ a1 m1 c1, e = .returned (.slice a1 m1 c1) ∧ Hid (Below W.heap.size W w') ∧ Hid (m1 = (out x.r j).length ∧ NRow w' (fun q => (N q ∧ q < w.heap.size) ∨ Z.heap.size ≤ q) a1 (out x.r j))) := Lib.hid (fun W hW => by
    rw [← hrn]
    refine (HO.out W x.ra x.rc x.r j hW (HXr.out W hW).1.irow hxr).mono ?_
    rintro e w' ⟨a1, c1, rfl, HB, HN⟩
    exact ⟨a1, _, c1, rfl, HB, Lib.hid ⟨rfl, HN.out⟩⟩)
  have hor8 : (out x.r j).length ≤ 8 := by have := out_len x.r j; omega
  cases hq : x.q with
  | nil =>
    have e3 : lvL y j = (⟨out x.r j, [], y.s⟩, 0) := by unfold lvL; rw [ey2, ey1, if_neg hjq, hq]
    rw [e3]
    have hqn0 : qn = 0 := by rw [← hqn, hq]; rfl
    have H6 : Hid (∀ W (a1 : Option Addr) (m1 c1 : Nat), Below Z.heap.size Z W → m1 = (out x.r j).length → NRow W (fun q => (N q ∧ q < w.heap.size) ∨ Z.heap.size ≤ q) a1 (out x.r j) → Calls Try.prog 42 #[bV la ln lc (some ⟨gd, offd, none⟩) dn dc, .int .i64 k, .agg #[.slice a1 m1 c1, .slice none 0 0]] W fun e w2 => ∃ a' c', e = .returned (bV la ln lc a' dn c') ∧ Hid (Below W.heap.size W w2) ∧ Hid (DEnd w N la ln lc l U dn w2 a' c' (L.set k ⟨out x.r j, [], y.s⟩))) := Lib.hid (fun W a1 m1 c1 hW hm hN => by
      subst hm
      exact HW.out W ⟨out x.r j, a1, c1, [], none, 0⟩ ⟨out x.r j, [], y.s⟩ hW ⟨hN, nrow_nil _ _ _⟩ rfl rfl)
    rw [hrn, hqn, hqn0] at HX HBX
    rw [hqn, hqn0] at HIN
    clear hl hby hdc hfit hlen hls hp hdl hfew hln hrow hls0 hg hk hf e2 hx hy ey1 ey2 o hhas hlv hxr hxq hkd hdn16 hrn hqn HW HXr HO e3 hjq hq hor8 hqn0
    go_enter Try.func28, Try.ntmps28
    go_wp2_with fail
    clear hY hZ hU hYU
    refine H2.out.mono ?_
    rintro e w2 ⟨rfl, HB⟩
    obtain ⟨⟨x0, x1⟩, _⟩ := HG.out w2 HB.out
    obtain ⟨l0, l1⟩ := HX.out w2 HB.out
    obtain ⟨V, X, hV, hX, HVX⟩ := HBX.out w2 HB.out
    have HB2 := Lib.hid HVX.out.1
    have HI := Lib.hid (HIN.out X HVX.out.1)
    obtain ⟨v0, v1⟩ := HVX.out.2.2 X (Below.refl _ _)
    have HO2 := Lib.hid (H5.out X HVX.out.1)
    clear HBX HX HIN H5
    go_wp2_with fail
    clear hX hV
    refine HI.out.mono ?_
    rintro e w3 ⟨rfl, rfl⟩
    go_wp2_with fail
    refine HO2.out.mono ?_
    rintro e w4 ⟨a1, m1, c1, rfl, HB4, HN4⟩
    have HB5 := Lib.hid (below_then HB2.out HB4.out)
    obtain ⟨⟨x0, x1⟩, _⟩ := HG.out w4 HB5.out
    obtain ⟨v2, v3⟩ := HVX.out.2.2 w4 HB4.out
    have H7 := Lib.hid (H6.out w4 a1 m1 c1 HB5.out HN4.out.1 HN4.out.2)
    clear HI HO2 H6
    go_wp2_with fail
    refine H7.out.mono ?_
    rintro e w6 ⟨a', c', rfl, HB6, HE6⟩
    obtain ⟨_, ⟨r0, r1⟩, r2, r3⟩ := HG.out w6 (below_then HB5.out HB6.out)
    go_wp2_with fail
    exact ret_bays3 rfl rfl rfl rfl rfl HE6.out.1 ⟨a', c', rfl, Lib.hid HE6.out.2⟩
  | cons t q' =>
    have e3 : lvL y j = (⟨ins (out x.r j) t, q', y.s⟩, t) := by unfold lvL; rw [ey2, ey1, if_neg hjq, hq]
    rw [e3]
    have hnd : (t :: q').Nodup := by have := o.nq; rwa [ey2, hq] at this
    have hoh : out x.q t = q' := by rw [hq]; exact out_head hnd
    have H6 : Hid (∀ W (a1 : Option Addr) (m1 c1 : Nat), Below Z.heap.size Z W → m1 = (out x.r j).length → NRow W (fun q => (N q ∧ q < w.heap.size) ∨ Z.heap.size ≤ q) a1 (out x.r j) → Calls Try.prog 43 #[.slice a1 m1 c1, .int .i64 t] W fun e w' => ∃ a2 m2 c2, e = .returned (.slice a2 m2 c2) ∧ Hid (Below W.heap.size W w') ∧ Hid (Calls Try.prog 44 #[.slice x.qa qn x.qc, .int .i64 t] w' fun e w2 => ∃ a3 m3 c3, e = .returned (.slice a3 m3 c3) ∧ Hid (Below w'.heap.size w' w2) ∧ Hid (Calls Try.prog 42 #[bV la ln lc (some ⟨gd, offd, none⟩) dn dc, .int .i64 k, .agg #[.slice a2 m2 c2, .slice a3 m3 c3]] w2 fun e w3 => ∃ a' c', e = .returned (bV la ln lc a' dn c') ∧ Hid (Below w2.heap.size w2 w3) ∧ Hid (DEnd w N la ln lc l U dn w3 a' c' (L.set k ⟨ins (out x.r j) t, q', y.s⟩))))) := Lib.hid (fun W a1 m1 c1 hW hm hN => by
      refine (dput_im a1 m1 c1 (out x.r j) t W hm.symm hN.irow (by omega)).mono ?_
      rintro e w' ⟨a2, c2, rfl, H⟩
      obtain ⟨g1, g2⟩ := H.out
      have hB := below_then hW g2
      obtain ⟨a2', c2', e2', hN2⟩ := nrow_ks (N := fun q => (N q ∧ q < w.heap.size) ∨ Z.heap.size ≤ q) g1 (fun q hq => .inr (Nat.le_trans hW.size hq))
      refine ⟨a2, _, c2, rfl, Lib.hid g2, Lib.hid ?_⟩
      rw [← hqn]
      refine (HO.out w' x.qa x.qc x.q t hB (HXr.out w' hB).2.irow hxq).mono ?_
      rintro e w2 ⟨a3, c3, rfl, HB3, HN3⟩
      have hB3 := below_then hB HB3.out
      refine ⟨a3, _, c3, rfl, HB3, Lib.hid ?_⟩
      have hl1 : (ins (out x.r j) t).length = m1 + 1 := by rw [ins_length, hm]
      rw [hl1] at e2'
      cases e2'
      have := HW.out w2 ⟨ins (out x.r j) t, a2, c2, out x.q t, a3, c3⟩ ⟨ins (out x.r j) t, q', y.s⟩ hB3 ⟨hN2.under HB3.out, HN3.out⟩ (by show (ins (out x.r j) t, out x.q t) = _; rw [hoh]; rfl) rfl
      dsimp only at this
      rw [hl1] at this
      exact this)
    have HT : Hid (∀ W, Below Z.heap.size Z W → ∃ gq offq, x.qa = some ⟨gq, offq, none⟩ ∧ W.cell? ⟨gq, offq, none⟩ = some (.int .i64 t)) := Lib.hid (fun W hW => by
      obtain ⟨gq, offq, e, _, _, hc⟩ := (HXr.out W hW).2 0 t (by rw [hq]; rfl)
      exact ⟨gq, offq, e, by rw [Nat.add_zero] at hc; exact hc⟩)
    have hq0 : 0 < qn := by rw [← hqn, hq]; simp
    have hq0i : (0 : Int) < (qn : Int) := by omega
    have hqz : ((qn : Int) == 0) = false := beq_eq_false_iff_ne.2 (by omega)
    rw [hrn, hqn] at HX HBX
    rw [hqn] at HIN
    obtain ⟨gq, offq, hqa, -⟩ := HT.out Z (Below.refl _ _)
    have HT2 : Hid (∀ W, Below Z.heap.size Z W → W.cell? ⟨gq, offq, none⟩ = some (.int .i64 t)) := Lib.hid (fun W hW => by
      obtain ⟨g2, o2, e, hc⟩ := HT.out W hW
      rw [hqa] at e
      cases e
      exact hc)
    rw [hqa] at HX HBX HIN H6
    clear hl hby hdc hfit hlen hls hp hdl hfew hln hrow hls0 hg hk hf e2 hx hy ey1 ey2 o hhas hlv hxr hxq hkd hdn16 hrn hqn HW HXr HO e3 hjq hq hor8 hnd hoh HT hqa hq0i
    have hq0i : (0 : Int) < (qn : Int) := by omega
    go_enter Try.func28, Try.ntmps28
    go_wp2_with fail
    clear hY hZ hU hYU
    refine H2.out.mono ?_
    rintro e w2 ⟨rfl, HB⟩
    obtain ⟨⟨x0, x1⟩, _⟩ := HG.out w2 HB.out
    obtain ⟨l0, l1⟩ := HX.out w2 HB.out
    obtain ⟨V, X, hV, hX, HVX⟩ := HBX.out w2 HB.out
    have HB2 := Lib.hid HVX.out.1
    have HI := Lib.hid (HIN.out X HVX.out.1)
    obtain ⟨v0, v1⟩ := HVX.out.2.2 X (Below.refl _ _)
    have HO2 := Lib.hid (H5.out X HVX.out.1)
    have HS : Hid (∀ W, Below X.heap.size X W → (W.cell? ⟨U, 0, none⟩ = some (.slice la ln lc) ∧ W.cell? ⟨U, 1, none⟩ = some (.slice (some ⟨gd, offd, none⟩) dn dc)) ∧ W.cell? ⟨V, 0, none⟩ = some (.slice x.ra rn x.rc) ∧ W.cell? ⟨V, 1, none⟩ = some (.slice (some ⟨gq, offq, none⟩) qn x.qc)) := Lib.hid (fun W hW => ⟨(HG.out W (below_then HVX.out.1 hW)).1, HVX.out.2.2 W hW⟩)
    have HS2 : Hid (∀ (W : World) (v1 v2 : Value), Below X.heap.size X W → (((W.setCell ⟨U + 1, 0, none⟩ v1).setCell ⟨U + 1, 1, none⟩ v2).cell? ⟨U, 0, none⟩ = some (.slice la ln lc) ∧ ((W.setCell ⟨U + 1, 0, none⟩ v1).setCell ⟨U + 1, 1, none⟩ v2).cell? ⟨U, 1, none⟩ = some (.slice (some ⟨gd, offd, none⟩) dn dc)) ∧ ((W.setCell ⟨U + 1, 0, none⟩ v1).setCell ⟨U + 1, 1, none⟩ v2).cell? ⟨V, 0, none⟩ = some (.slice x.ra rn x.rc) ∧ ((W.setCell ⟨U + 1, 0, none⟩ v1).setCell ⟨U + 1, 1, none⟩ v2).cell? ⟨V, 1, none⟩ = some (.slice (some ⟨gq, offq, none⟩) qn x.qc)) := Lib.hid (fun W v1 v2 hW => by
      obtain ⟨⟨h1, h2⟩, h3, h4⟩ := HS.out W hW
      have hk : ∀ q, q ≠ U + 1 → ((W.setCell ⟨U + 1, 0, none⟩ v1).setCell ⟨U + 1, 1, none⟩ v2).heap[q]? = W.heap[q]? := fun q hq => (heap_setCell_other _ ⟨U + 1, 1, none⟩ q _ (fun e => hq e)).trans (heap_setCell_other _ ⟨U + 1, 0, none⟩ q _ (fun e => hq e))
      have hU1 := hk U (by omega)
      have hV1 := hk V HVX.out.2.1
      exact ⟨⟨(World.cell?_of_block hU1).trans h1, (World.cell?_of_block hU1).trans h2⟩, (World.cell?_of_block hV1).trans h3, (World.cell?_of_block hV1).trans h4⟩)
    clear HBX HX HIN H5
    go_wp2_with fail
    clear hX hV
    refine HI.out.mono ?_
    rintro e w3 ⟨rfl, rfl⟩
    go_wp2_with fail
    refine HO2.out.mono ?_
    rintro e w4 ⟨a1, m1, c1, rfl, HB4, HN4⟩
    have HB5 := Lib.hid (below_then HB2.out HB4.out)
    obtain ⟨⟨x0, x1⟩, v2, v3⟩ := HS.out w4 HB4.out
    have c4 := HT2.out w4 HB5.out
    have HX0 : Hid (Below X.heap.size X w4.drew) := Lib.hid (below_then HB4.out (Below.refl _ w4).drew)
    have H7 := Lib.hid (H6.out w4.drew a1 m1 c1 (below_then HB2.out HX0.out) HN4.out.1 (HN4.out.2.under (Below.refl _ w4).drew))
    clear HI HO2 H6
    go_wp2_with fail
    go_region_held3 (fun W => (W.cell? ⟨U, 0, none⟩ = some (.slice la ln lc) ∧ W.cell? ⟨U, 1, none⟩ = some (.slice (some ⟨gd, offd, none⟩) dn dc)) ∧ W.cell? ⟨V, 0, none⟩ = some (.slice x.ra rn x.rc) ∧ W.cell? ⟨V, 1, none⟩ = some (.slice (some ⟨gq, offq, none⟩) qn x.qc))
      (first | with_reducible exact HS.out _ HX8.out | with_reducible exact HS.out _ HX7.out | with_reducible exact HS.out _ HX6.out | with_reducible exact HS.out _ HX0.out | exact HS2.out _ _ _ HX8.out)
      (first
        | (go_at_call 42; (with_reducible refine HW7.out.mono ?_); rintro e w8 ⟨a', c', rfl, HB8, HE8⟩; have HX8 := Lib.hid (below_then HX7.out HB8.out); obtain ⟨_, ⟨r0, r1⟩, r2, r3⟩ := HG.out w8 (below_then HB2.out HX8.out))
        | (go_at_call 44; (with_reducible refine HW6.out.mono ?_); rintro e w7 ⟨a3, m3, c3, rfl, HB7, HW7⟩; have HX7 := Lib.hid (below_then HX6.out HB7.out))
        | (go_at_call 43; (with_reducible refine H7.out.mono ?_); rintro e w6 ⟨a2, m2, c2, rfl, HB6, HW6⟩; have HX6 := Lib.hid (below_then HX0.out HB6.out)))
    all_goals
      go_wp2_with fail
      exact ret_bays3 rfl rfl rfl rfl rfl HE8.out.1 ⟨a', c', rfl, Lib.hid HE8.out.2⟩
end Go.Proofs.Ytokkefokodcphaa.Bay
