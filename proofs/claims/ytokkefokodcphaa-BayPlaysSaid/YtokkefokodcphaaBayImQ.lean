/- Lines that there were: the program's Load. -/
import Derived.Test.YtokkefokodcphaaBayImP
namespace Go.Proofs.Ytokkefokodcphaa.Bay
open Go.RowKit Go.Lib IRows

open Classical in
/-- All lines ask, one behind the other. -/
noncomputable def loadL : Nat → List Ln → List (List Int × List Int) → Option (List Ln)
  | _, L, [] => some L
  | k, L, x :: xs => if Up1 x.1 then (asks k true L x.1).bind fun L1 => (asks k false L1 x.2).bind fun L2 => loadL (k + 1) L2 xs else none
open Classical in
noncomputable def loadV (l : List By) (ls : List (List Int × List Int)) : Option (List Ln) := if MayB l ∧ ls.length = 2 * l.length then loadL 0 (newL l) ls else none
theorem good_load : ∀ {ls : List (List Int × List Int)} {k : Nat} {L L' : List Ln}, Good L → loadL k L ls = some L' → Good L'
  | [], k, L, L', h, e => by
    obtain rfl := Option.some.inj e
    exact h
  | x :: ls, k, L, L', h, e => by
    unfold loadL at e
    split at e
    · cases h1 : asks k true L x.1 with
      | none => rw [h1] at e; cases e
      | some L1 =>
        rw [h1] at e
        cases h2 : asks k false L1 x.2 with
        | none => rw [Option.bind_some, h2] at e; cases e
        | some L2 =>
          rw [Option.bind_some, h2] at e
          exact good_load (good_asks (good_asks h h1) h2) e
    · cases e
theorem good_loadV {l : List By} {ls : List (List Int × List Int)} {L : List Ln} (h : loadV l ls = some L) : Good L := by
  unfold loadV at h
  split at h
  · rename_i h1
    exact good_load (good_new h1.1) h
  · cases h
/-- A document's line in a frame's block. -/
theorem box_d (w : World) (x : Dn) : ∃ U Y, w.heap.size = U ∧ w.alloc (.cells #[.slice x.ra x.r.length x.rc, .slice x.qa x.q.length x.qc] 54) = Y ∧ Hid (Below w.heap.size w Y ∧ ∀ W, Below Y.heap.size Y W → W.cell? ⟨U, 0, none⟩ = some (.slice x.ra x.r.length x.rc) ∧ W.cell? ⟨U, 1, none⟩ = some (.slice x.qa x.q.length x.qc)) := by
  have hb := heap_alloc_new w (.cells #[.slice x.ra x.r.length x.rc, .slice x.qa x.q.length x.qc] 54)
  refine ⟨_, _, rfl, rfl, Lib.hid ⟨(Below.refl _ _).alloc (Nat.le_refl _) _, fun W hW => ?_⟩⟩
  have h2 := (hW.block _ (Array.getElem?_eq_some_iff.1 hb).1).trans hb
  exact ⟨cell_block (j := 0) h2 rfl, cell_block (j := 1) h2 rfl⟩
open Classical in
set_option maxRecDepth 100000 in
set_option maxHeartbeats 2000000 in
theorem load_im (a : Option Addr) (n c : Nat) (l : List By) (a2 : Option Addr) (m c2 : Nat) (ds : List Dn) (w : World) (hl : l.length = n) (hs : ByAt w a l) (hn : n ≤ 1000) (hm : ds.length = m) (hd : LsAt w (fun g => g < w.heap.size) a2 ds) (hm2 : m ≤ 1000) (hrow : ∀ x ∈ ds, x.r.length ≤ 1000 ∧ x.q.length ≤ 1000) :
    Calls Try.prog 9 #[.slice a n c, .slice a2 m c2] w fun e w' => (∃ L, Hid (loadV l (ds.map Dn.p) = some L) ∧ ∃ Q, e = .returned (.tuple #[ptr Q, .int .i64 0]) ∧ Hid (∃ lv ys, PBN w w' Q lv ys ∧ ys.map XL.pl = L)) ∨ (Hid (loadV l (ds.map Dn.p) = none) ∧ e = .returned (.tuple #[.pointer none, .int .i64 1]) ∧ Below w.heap.size w w') := by
  have H1 := Lib.hid (new_im a n c l w hl hs hn)
  have HL := Lib.hid hl
  obtain ⟨p, hp⟩ : ∃ p, loadV l (ds.map Dn.p) = p := ⟨_, rfl⟩
  have HN : Hid (¬ MayB l → p = none) := Lib.hid (fun h => by rw [← hp]; unfold loadV; rw [if_neg (fun h2 => h h2.1)])
  have HN2 : Hid (m ≠ 2 * n → p = none) := Lib.hid (fun h => by rw [← hp]; unfold loadV; rw [if_neg (fun h2 => h (by rw [← hm, ← hl]; simpa using h2.2))])
  have HY : Hid (MayB l → m = 2 * n → loadL 0 (newL l) (ds.map Dn.p) = p) := Lib.hid (fun h h2 => by rw [← hp]; unfold loadV; rw [if_pos ⟨h, by rw [List.length_map]; omega⟩])
  have HC : Hid (∀ W i, Below w.heap.size w W → i < m → ∃ g off x, a2 = some ⟨g, off, none⟩ ∧ Hid (ds[i]? = some x) ∧ (W.cell? ⟨g, off + i * 2, none⟩ = some (.slice x.ra x.r.length x.rc) ∧ W.cell? ⟨g, off + i * 2 + 1, none⟩ = some (.slice x.qa x.q.length x.qc)) ∧ Hid (∀ V, Below w.heap.size w V → IRow V x.ra x.r ∧ IRow V x.qa x.q) ∧ Hid (x.r.length ≤ 1000 ∧ x.q.length ≤ 1000)) := Lib.hid (fun W i hW hi => by
    have hx := List.getElem?_eq_getElem (l := ds) (i := i) (by omega)
    obtain ⟨g, off, e, _, _, h1, h2⟩ := (hd.under hW).cells i _ hx
    exact ⟨g, off, _, e, Lib.hid hx, ⟨h1, h2⟩, Lib.hid (fun V hV => ⟨((hd.under hV).rows i _ hx).1.irow, ((hd.under hV).rows i _ hx).2.irow⟩), Lib.hid (hrow _ (List.mem_of_getElem? hx))⟩)
  have HLD : Hid (ds.drop m = []) := Lib.hid (List.drop_eq_nil_of_le (by omega))
  have hn1 : (n : Int) ≤ 1000 := by omega
  have hm1 : (m : Int) ≤ 1000 := by omega
  have hmn : m ≤ 1000 := hm2
  rw [hp]
  clear hl hs hn hm hd hm2 hrow hp
  go_enter Try.func9, Try.ntmps9
  go_wp2_with fail
  refine H1.out.mono ?_
  rintro e w1 (⟨HM, Q, rfl, HQ⟩ | ⟨HM, rfl, hb⟩)
  case inr =>
    have HB := Lib.hid hb
    clear hb
    go_wp2_with fail
    go_ret2
    exact .inr ⟨Lib.hid (HN.out HM.out), rfl, HB.out⟩
  obtain ⟨lv, hQ⟩ := HQ.out
  have hlen := newX_len l
  rw [HL.out] at hlen
  obtain ⟨la, lc, hlv, _⟩ := hQ.pb.cells
  rw [hlen] at hlv
  subst hlv
  have k1 := hQ.pb.mem.2.1
  have HQ2 := Lib.hid hQ
  clear hQ HQ hlen H1
  by_cases hmm : m = 2 * n
  case neg =>
    have HE := Lib.hid (HN2.out hmm)
    have d1 : (((m : Nat) : Int) != ((n * 2 : Nat) : Int)) = true := by
      have : ¬ ((m : Nat) : Int) = ((n * 2 : Nat) : Int) := by omega
      simpa using this
    have d2 : (((m : Nat) : Int) != (n : Int) * 2) = true := by
      have : ¬ ((m : Nat) : Int) = (n : Int) * 2 := by omega
      simpa using this
    have d3 : ¬ ((m : Nat) : Int) = (n : Int) * 2 := by omega
    clear hmm
    go_wp2_with fail
    go_ret2
    exact .inr ⟨HE, rfl, HQ2.out.below⟩
  have d1 : (((m : Nat) : Int) != ((n * 2 : Nat) : Int)) = false := by
    have : ((m : Nat) : Int) = ((n * 2 : Nat) : Int) := by omega
    simpa using this
  have d2 : (((m : Nat) : Int) != (n : Int) * 2) = false := by
    have : ((m : Nat) : Int) = (n : Int) * 2 := by omega
    simpa using this
  have H0 : Hid (∃ ys, PBN w w1 Q (.slice la (n * 2) lc) ys ∧ Good (ys.map XL.pl) ∧ loadL 0 (ys.map XL.pl) ((ds.drop 0).map Dn.p) = p) := Lib.hid ⟨newX l, HQ2.out, by rw [newX_pl]; exact good_new HM.out, by rw [newX_pl]; exact HY.out HM.out hmm⟩
  clear HY HN HN2 HM HL hmm
  go_wp2_with fail
  clear d1 d2 HQ2 k1
  obtain ⟨lv, hlv⟩ : ∃ lv, Value.slice la (n * 2) lc = lv := ⟨_, rfl⟩
  rw [hlv] at H0
  clear hlv
  go_loopw [29] (fun s wr => ∃ i : Nat, s = .int .i64 i ∧ i ≤ m ∧ Hid (∃ ys, PBN w wr Q lv ys ∧ Good (ys.map XL.pl) ∧ loadL i (ys.map XL.pl) ((ds.drop i).map Dn.p) = p)) (fun s _ => m - (RowKit.intOf s).toNat)
  case atStart => exact ⟨0, rfl, by omega, H0⟩
  case round =>
    obtain ⟨i, rfl, hi, HP⟩ := hrel
    by_cases hlt : i < m
    · have hlt2 : (i : Int) < (m : Int) := by omega
      obtain ⟨ys, hy⟩ := HP.out
      obtain ⟨g, off, x, rfl, hx, ⟨q0, q1⟩, HI, HX⟩ := HC.out wr i hy.1.below hlt
      obtain ⟨U, Y, hU, hY, HY⟩ := box_d wr x
      have hyY := hy.1.under HY.out.1
      obtain ⟨u0, u1⟩ := HY.out.2 Y (Below.refl _ _)
      have HBY : Hid (Below w.heap.size w Y) := Lib.hid hyY.below
      have H2 := Lib.hid (sorted_im x.ra x.r.length x.rc x.r Y rfl (HI.out Y hyY.below).1 (by have := HX.out.1; omega))
      have hd2 : (ds.drop i).map Dn.p = x.p :: (ds.drop (i + 1)).map Dn.p := by
        obtain ⟨h1, h2⟩ := List.getElem?_eq_some_iff.1 hx.out
        rw [List.drop_eq_getElem_cons h1, h2]
        rfl
      have hload := hy.2.2
      rw [hd2] at hload
      unfold loadL at hload
      by_cases c1 : Up1 x.r
      case neg =>
        rw [if_neg (show ¬ Up1 x.p.1 from c1)] at hload
        have HE : Hid (p = none) := Lib.hid hload.symm
        rw [decide_eq_false c1] at H2
        clear c1 hload hd2 hyY hy HP
        go_wp2_with fail
        clear hY hU q0 q1
        refine H2.out.mono ?_
        rintro e w2 ⟨rfl, hb⟩
        have HB := Lib.hid (below_then HBY.out hb)
        clear hb
        go_wp2_with fail
        go_ret2
        exact .inr ⟨HE, rfl, HB.out⟩
      rw [if_pos (show Up1 x.p.1 from c1)] at hload
      rw [decide_eq_true c1] at H2
      have hGy := hy.2.1
      obtain ⟨A1, hA1⟩ : ∃ A1, asks i true (ys.map XL.pl) x.r = A1 := ⟨_, rfl⟩
      have hUl : U < Y.heap.size := by rw [← hU, ← hY]; simp
      have hUf : ¬ foot Q lv ys U := fun h => by have := hy.1.pb.lt U h; omega
      have H3 : Hid (∀ W, Below Y.heap.size Y W → Calls Try.prog 22 #[ptr Q, .int .i64 i, .slice x.ra x.r.length x.rc, .bool true] W fun e w' => e = .returned (.bool A1.isSome) ∧ Hid (Below w.heap.size w w' ∧ ∀ L, A1 = some L → ∃ ys, PBN w w' Q lv ys ∧ ys.map XL.pl = L) ∧ w'.cell? ⟨U, 1, none⟩ = some (.slice x.qa x.q.length x.qc)) := Lib.hid (fun W hW => by
        rw [← hA1]
        refine (asks_pbn i x.ra x.r.length x.rc x.r true w W (hyY.under hW) hGy (by omega) rfl HX.out.1 (fun V hV => (HI.out V hV).1)).mono ?_
        rintro e w' ⟨rfl, H⟩
        obtain ⟨h1, ⟨F', h2⟩, h3⟩ := H.out
        refine ⟨rfl, Lib.hid ⟨h1, h3⟩, ?_⟩
        exact (World.cell?_of_block (a := ⟨U, 1, none⟩) ((h2.block U (Nat.lt_of_lt_of_le hUl hW.size) hUf).trans (hW.block U hUl))).trans u1)
      have HG1 : Hid (∀ L, A1 = some L → Good L) := Lib.hid (fun L hL => good_asks hGy (hA1.trans hL))
      have HA : Hid ((A1.bind fun L1 => (asks i false L1 x.q).bind fun L2 => loadL (i + 1) L2 ((ds.drop (i + 1)).map Dn.p)) = p) := Lib.hid (by rw [← hA1]; exact hload)
      have hi8 : i ≤ 1000 := by omega
      clear c1 hload hd2 hyY hy HP hGy hA1 hUl hUf
      cases A1 with
      | none =>
        have HE : Hid (p = none) := Lib.hid HA.out.symm
        go_wp2_with fail
        clear hY hU q0 q1
        refine H2.out.mono ?_
        rintro e w2 ⟨rfl, hb⟩
        obtain ⟨v0, v1⟩ := HY.out.2 w2 hb
        have H5 := Lib.hid (H3.out w2 hb)
        clear hb H3
        go_wp2_with fail
        refine H5.out.mono ?_
        rintro e w3 ⟨rfl, H6, t1⟩
        go_wp2_with fail
        go_ret2
        exact .inr ⟨HE, rfl, H6.out.1⟩
      | some L1 =>
        obtain ⟨A2, hA2⟩ : ∃ A2, asks i false L1 x.q = A2 := ⟨_, rfl⟩
        have H4 : Hid (∀ W, (∃ ys, PBN w W Q lv ys ∧ ys.map XL.pl = L1) → Calls Try.prog 22 #[ptr Q, .int .i64 i, .slice x.qa x.q.length x.qc, .bool false] W fun e w' => e = .returned (.bool A2.isSome) ∧ Hid (Below w.heap.size w w' ∧ ∀ L, A2 = some L → ∃ ys, PBN w w' Q lv ys ∧ ys.map XL.pl = L)) := Lib.hid (fun W hW => by
          obtain ⟨zs, hz, e1⟩ := hW
          rw [← hA2, ← e1]
          refine (asks_pbn i x.qa x.q.length x.qc x.q false w W hz (by rw [e1]; exact HG1.out L1 rfl) hi8 rfl HX.out.2 (fun V hV => (HI.out V hV).2)).mono ?_
          rintro e w' ⟨rfl, H⟩
          obtain ⟨h1, _, h3⟩ := H.out
          exact ⟨rfl, Lib.hid ⟨h1, h3⟩⟩)
        have HA3 : Hid ((A2.bind fun L2 => loadL (i + 1) L2 ((ds.drop (i + 1)).map Dn.p)) = p) := Lib.hid (by rw [← hA2]; exact HA.out)
        have HG2 : Hid (∀ L, A2 = some L → Good L) := Lib.hid (fun L hL => good_asks (HG1.out L1 rfl) (hA2.trans hL))
        clear hA2 HA HG1
        cases A2 with
        | none =>
          have HE : Hid (p = none) := Lib.hid HA3.out.symm
          go_wp2_with fail
          clear hY hU q0 q1
          refine H2.out.mono ?_
          rintro e w2 ⟨rfl, hb⟩
          obtain ⟨v0, v1⟩ := HY.out.2 w2 hb
          have H5 := Lib.hid (H3.out w2 hb)
          clear hb H3
          go_wp2_with fail
          refine H5.out.mono ?_
          rintro e w3 ⟨rfl, H6, t1⟩
          have H7 := Lib.hid (H4.out w3 (H6.out.2 L1 rfl))
          clear H5 H6 H4
          go_wp2_with fail
          refine H7.out.mono ?_
          rintro e w4 ⟨rfl, H8⟩
          go_wp2_with fail
          go_ret2
          exact .inr ⟨HE, rfl, H8.out.1⟩
        | some L2 =>
          go_wp2_with fail
          clear hY hU q0 q1
          refine H2.out.mono ?_
          rintro e w2 ⟨rfl, hb⟩
          obtain ⟨v0, v1⟩ := HY.out.2 w2 hb
          have H5 := Lib.hid (H3.out w2 hb)
          clear hb H3
          go_wp2_with fail
          refine H5.out.mono ?_
          rintro e w3 ⟨rfl, H6, t1⟩
          have H7 := Lib.hid (H4.out w3 (H6.out.2 L1 rfl))
          clear H5 H6 H4
          go_wp2_with fail
          refine H7.out.mono ?_
          rintro e w4 ⟨rfl, H8⟩
          have HP2 : Hid (∃ ys, PBN w w4 Q lv ys ∧ Good (ys.map XL.pl) ∧ loadL (i + 1) (ys.map XL.pl) ((ds.drop (i + 1)).map Dn.p) = p) := Lib.hid (by
            obtain ⟨ys, h1, h2⟩ := H8.out.2 L2 rfl
            exact ⟨ys, h1, by rw [h2]; exact HG2.out L2 rfl, by rw [h2]; exact HA3.out⟩)
          go_wp2_with fail
          go_roundw
          case rel => exact ⟨i + 1, by go_num, by omega, HP2⟩
          case measure => simp [RowKit.intOf]; omega
    · obtain rfl : i = m := by omega
      have HEND : Hid (∃ L, p = some L ∧ ∃ ys, PBN w wr Q lv ys ∧ ys.map XL.pl = L) := Lib.hid (by
        obtain ⟨ys, h1, h2, h3⟩ := HP.out
        rw [HLD.out] at h3
        exact ⟨_, h3.symm, ys, h1, rfl⟩)
      obtain ⟨L, hL⟩ := HEND.out
      have HL := Lib.hid hL
      clear hL
      go_wp2_with fail
      go_ret2
      exact .inl ⟨L, Lib.hid HL.out.1, Q, rfl, Lib.hid ⟨lv, HL.out.2⟩⟩
end Go.Proofs.Ytokkefokodcphaa.Bay
