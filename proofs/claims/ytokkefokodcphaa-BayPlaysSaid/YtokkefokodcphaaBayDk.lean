/- The document's Load. -/
import Derived.Test.YtokkefokodcphaaBayDj
namespace Go.Proofs.Ytokkefokodcphaa.Bay
open Go.RowKit Go.Lib IRows

/-- The first jobs of a row are new ones. -/
def NewTo (all r : List Int) (i : Nat) : Prop := ∀ (t : Nat) (j : Int), t < i → r[t]? = some j → Job j ∧ j ∉ all ∧ j ∉ r.take t
def UpTo (r : List Int) (i : Nat) : Prop := ∀ (t : Nat) (x y : Int), t + 1 < i → r[t]? = some x → r[t + 1]? = some y → x ≤ y
theorem newTo_all {all r : List Int} {n : Nat} (h : NewTo all r n) (hn : r.length = n) : NewJobs all r := fun t j hj => h t j (by have := (List.getElem?_eq_some_iff.1 hj).1; omega) hj
theorem upTo_all {r : List Int} {n : Nat} (h : UpTo r n) (hn : r.length = n) : Up1 r := fun t x y hx hy => h t x y (by have := (List.getElem?_eq_some_iff.1 hy).1; omega) hx hy
theorem newTo_more {all r : List Int} {i : Nat} {j : Int} (h : NewTo all r i) (hi : r[i]? = some j) (h1 : Job j) (h2 : j ∉ all ++ r.take i) : NewTo all r (i + 1) := fun t u ht hu => by
  by_cases e : t = i
  · subst e
    have := Option.some.inj (hi.symm.trans hu)
    subst this
    exact ⟨h1, fun hm => h2 (List.mem_append_left _ hm), fun hm => h2 (List.mem_append_right _ hm)⟩
  · exact h t u (by omega) hu
theorem upTo_more {r : List Int} {i : Nat} (h : UpTo r i) (hi : ∀ x y, 0 < i → r[i - 1]? = some x → r[i]? = some y → x ≤ y) : UpTo r (i + 1) := fun t x y ht hx hy => by
  by_cases e : t + 1 = i
  · subst e
    exact hi x y (by omega) hx hy
  · exact h t x y (by omega) hx hy
theorem newTo_not {all r : List Int} {i : Nat} {j : Int} (hi : r[i]? = some j) (h : ¬ Job j ∨ j ∈ all ++ r.take i) : ¬ NewJobs all r := fun hn => by
  obtain ⟨h1, h2, h3⟩ := hn i j hi
  rcases h with h | h
  · exact h h1
  · rcases List.mem_append.1 h with h | h
    · exact h2 h
    · exact h3 h
set_option maxRecDepth 100000 in
set_option maxHeartbeats 8000000 in
theorem dload_im {N : Nat → Prop} (la : Option Addr) (ln lc : Nat) (l : List By) (a2 : Option Addr) (n c2 : Nat) (ds : List Dn) (w : World) (hl : l.length = ln) (hby : ByAt w la l) (hln : ln ≤ 1000) (hdl : ds.length = n) (hls : LsAt w N a2 ds) (hn : n ≤ 1000) (hrow : ∀ x ∈ ds, x.r.length ≤ 1000 ∧ x.q.length ≤ 1000) :
    Calls Try.prog 10 #[.slice la ln lc, .slice a2 n c2] w fun e w' => (Hid (DocOk l (ds.map Dn.p)) ∧ ∃ da dc, e = .returned (.tuple #[bV la ln lc da n dc, .int .i64 0]) ∧ Hid (DB w' (fun q => N q ∨ w.heap.size ≤ q) la ln l da n dc (mkL l 0 (ds.map Dn.p)) ∧ Below w.heap.size w w')) ∨
      (Hid (¬ DocOk l (ds.map Dn.p)) ∧ e = .returned (.tuple #[bV none 0 0 none 0 0, .int .i64 1]) ∧ Hid (Below w.heap.size w w')) := by
  obtain ⟨G, Z, hG, hZ, HZ⟩ := zero_b w
  have hgz := HZ.out.2.2 Z (Below.refl _ _)
  have g0 := cell_block (j := 0) hgz rfl
  have g1 := cell_block (j := 1) hgz rfl
  have f0 := free_block 0 hgz
  have f1 := free_block 1 hgz
  have hwG : w.heap.size ≤ G := by omega
  have HEZ : Hid (LEnd w Z G none 0 0 none 0 0) := Lib.hid (lend hgz HZ.out.1 hwG _ _ _ _ _ _)
  have H1 := Lib.hid (dmay_im la ln lc l Z hl (hby.under HZ.out.1) hln)
  have hlni : (ln : Int) ≤ 1000 := by omega
  have hni : (n : Int) ≤ 1000 := by omega
  by_cases hM : MayB l
  case neg =>
    have HN : Hid (¬ DocOk l (ds.map Dn.p)) := Lib.hid (fun h => hM h.1)
    have H1' : Hid (Calls Try.prog 23 #[.slice la ln lc] Z fun e w' => e = .returned (.bool false) ∧ Z = w') := Lib.hid (H1.out.mono fun e w' ⟨he, hw⟩ => ⟨by rw [he]; simp [hM], hw⟩)
    clear hl hby hln hdl hls hn hrow hM hgz hwG H1
    go_enter Try.func10, Try.ntmps10
    go_wp2_with fail
    clear hZ hG
    refine H1'.out.mono ?_
    rintro e w' ⟨rfl, rfl⟩
    go_wp2_with fail
    exact ret_bays2 rfl rfl rfl rfl HEZ.out.1 (.inr ⟨HN, rfl, Lib.hid HEZ.out.2⟩)
  have H1' : Hid (Calls Try.prog 23 #[.slice la ln lc] Z fun e w' => e = .returned (.bool true) ∧ Z = w') := Lib.hid (H1.out.mono fun e w' ⟨he, hw⟩ => ⟨by rw [he]; simp [hM], hw⟩)
  have w0 : IntKind.i64.wrap (2 * (ln : Int)) = 2 * (ln : Int) := IntWalk.i64_in _ (by omega)
  by_cases hnn : n = 2 * ln
  case neg =>
    have HN : Hid (¬ DocOk l (ds.map Dn.p)) := Lib.hid (fun h => hnn (by have := h.2.1; rw [List.length_map] at this; omega))
    have d1 : (((n : Nat) : Int) != 2 * (ln : Int)) = true := by
      have : ¬ ((n : Nat) : Int) = 2 * (ln : Int) := by omega
      simpa using this
    clear hl hby hln hdl hls hn hrow hM hgz hwG H1 hnn
    go_enter Try.func10, Try.ntmps10
    go_wp2_with fail
    clear hZ hG
    refine H1'.out.mono ?_
    rintro e w' ⟨rfl, rfl⟩
    go_wp2_with fail
    exact ret_bays2 rfl rfl rfl rfl HEZ.out.1 (.inr ⟨HN, rfl, Lib.hid HEZ.out.2⟩)
  have d1 : (((n : Nat) : Int) != 2 * (ln : Int)) = false := by
    have : ((n : Nat) : Int) = 2 * (ln : Int) := by omega
    simpa using this
  obtain ⟨V, X0, hV, hX, HX⟩ := zero_b Z
  have hVG : V = G + 1 := by rw [← hV]; exact HZ.out.2.1
  subst hVG
  have hz0 := HX.out.2.2 X0 (Below.refl _ _)
  have x0 := cell_block (j := 0) hz0 rfl
  have x1 := cell_block (j := 1) hz0 rfl
  have xf0 := free_block 0 hz0
  have xf1 := free_block 1 hz0
  obtain ⟨X, hXX⟩ : ∃ X, (X0.setCell ⟨G + 1, 0, none⟩ (.slice la ln lc)).setCell ⟨G + 1, 1, none⟩ (.slice none 0 0) = X := ⟨_, rfl⟩
  have hXV : X.heap[G + 1]? = some (.cells #[.slice la ln lc, .slice none 0 0] 32 (0, 0)) := by rw [← hXX]; exact heap_setCell_same _ (G + 1) 1 _ _ _ (heap_setCell_same X0 (G + 1) 0 _ _ _ hz0)
  have hXb : Below w.heap.size w X := by
    rw [← hXX]
    exact ((below_then HZ.out.1 HX.out.1).setCell (p := ⟨G + 1, 0, none⟩) (by show w.heap.size ≤ G + 1; omega) _).setCell (p := ⟨G + 1, 1, none⟩) (by show w.heap.size ≤ G + 1; omega) _
  have hXG : X.heap[G]? = some (.cells #[.slice none 0 0, .slice none 0 0] 32 (0, 0)) := by
    rw [← hXX]
    exact ((heap_setCell_other _ ⟨G + 1, 1, none⟩ G _ (fun e => by have : G = G + 1 := e; omega)).trans (heap_setCell_other _ ⟨G + 1, 0, none⟩ G _ (fun e => by have : G = G + 1 := e; omega))).trans (HZ.out.2.2 X0 HX.out.1)
  have H0 : Hid (LD w X G (G + 1) la ln lc none 0 0 [] none 0 0 []) := Lib.hid ⟨hXb, hXG, hXV, ks_nil _ _, World.ownsRow_nil _ _ _ _, fun g hg => by simp [Value.ownBlock] at hg, by omega⟩
  obtain ⟨ps, hps⟩ : ∃ ps, ds.map Dn.p = ps := ⟨_, rfl⟩
  have hln8 : ln ≤ 8 := by rw [← hl]; exact hM.1
  have hn16 : n ≤ 16 := by omega
  have HD0 : Hid (DocOk l ps ↔ DocL l 0 [] ps) := Lib.hid ⟨fun h => h.2.2, fun h => ⟨hM, by rw [← hps, List.length_map]; omega, h⟩⟩
  have HC : Hid (∀ W i, Below w.heap.size w W → i < n → ∃ g off x, a2 = some ⟨g, off, none⟩ ∧ Hid (ds[i]? = some x ∧ ps[i]? = some x.p) ∧ (W.cell? ⟨g, off + i * 2, none⟩ = some (.slice x.ra x.r.length x.rc) ∧ W.cell? ⟨g, off + i * 2 + 1, none⟩ = some (.slice x.qa x.q.length x.qc)) ∧ Hid (∀ W2, Below w.heap.size w W2 → IRow W2 x.ra x.r ∧ IRow W2 x.qa x.q) ∧ Hid (x.r.length ≤ 1000 ∧ x.q.length ≤ 1000)) := Lib.hid (fun W i hW hi => by
    have hx := List.getElem?_eq_getElem (l := ds) (i := i) (by omega)
    obtain ⟨g, off, e, _, _, k0, k1⟩ := (hls.under hW).cells i _ hx
    exact ⟨g, off, _, e, Lib.hid ⟨hx, by rw [← hps, List.getElem?_map, hx]; rfl⟩, ⟨k0, k1⟩, Lib.hid (fun W2 hW2 => ⟨((hls.under hW2).rows i _ hx).1.irow, ((hls.under hW2).rows i _ hx).2.irow⟩), Lib.hid (hrow _ (List.mem_of_getElem? hx))⟩)
  have HSL : Hid (∀ W k da dk dc, Below w.heap.size w W → k < n → Calls Try.prog 24 #[.agg #[.slice la ln lc, .slice da dk dc], .int .i64 k] W fun e w' => e = .returned (.int .i64 (slotOf l k)) ∧ Hid (Below W.heap.size W w')) := Lib.hid (fun W k da dk dc hW hk => (dslots_im la ln lc (.slice da dk dc) l k W hl (hby.under hW) (by omega) (by omega) da dk dc rfl).mono fun _ _ ⟨e, hb⟩ => ⟨e, Lib.hid hb⟩)
  have HS8 : Hid (∀ k, k < n → 0 ≤ slotOf l k ∧ slotOf l k ≤ 8) := Lib.hid (fun k hk => by
    have h1 := List.getElem?_eq_getElem (l := l) (i := k / 2) (by omega)
    have h2 := hM.2 _ (List.mem_of_getElem? h1)
    unfold slotOf
    rw [h1]
    dsimp only
    split
    · exact h2.1
    · exact h2.2)
  have HDROP : Hid (ps.drop n = [] ∧ ps.take n = ps ∧ ds.take n = ds) := Lib.hid ⟨List.drop_eq_nil_of_le (by rw [← hps, List.length_map]; omega), List.take_of_length_le (by rw [← hps, List.length_map]; omega), List.take_of_length_le (by omega)⟩
  have HFIN : Hid (∀ W da dc, Below w.heap.size w W → OwnD W (G + 1 + 1) (.slice da n dc) ds → LEnd w W G la ln lc da n dc → DB ((W.setCell ⟨G, 0, none⟩ (.slice la ln lc)).setCell ⟨G, 1, none⟩ (.slice da n dc)) (fun q => N q ∨ w.heap.size ≤ q) la ln l da n dc (mkL l 0 ps)) := Lib.hid (fun W da dc hW ho hE => by
    have hrows : ∀ (i : Nat) (x : Dn), ds[i]? = some x → DnAt W (fun q => (N q ∧ q < w.heap.size) ∨ G + 1 + 1 ≤ q) x := fun i x hx => by
      have h0 := hls.rows i x hx
      have h1 : DnAt w (fun q => (N q ∧ q < w.heap.size) ∨ G + 1 + 1 ≤ q) x := ⟨h0.1.mono fun q hq hl => .inl ⟨hq, hl⟩, h0.2.mono fun q hq hl => .inl ⟨hq, hl⟩⟩
      exact h1.under hW
    obtain ⟨a5, c5, e5, h5⟩ := ls_own (N := fun q => (N q ∧ q < w.heap.size) ∨ G + 1 + 1 ≤ q) ho (fun q hq => .inr hq) hrows
    injection e5 with e6 e7 e8
    subst e6
    subst e8
    have hne : ∀ q, q ≠ G → ((W.setCell ⟨G, 0, none⟩ (.slice la ln lc)).setCell ⟨G, 1, none⟩ (.slice da n dc)).heap[q]? = W.heap[q]? := fun q hq => (heap_setCell_other _ ⟨G, 1, none⟩ q _ (fun e => hq e)).trans (heap_setCell_other _ ⟨G, 0, none⟩ q _ (fun e => hq e))
    have hdc : n ≤ dc := by
      rcases ho.2 with ⟨hv, h0⟩ | ⟨_, cap, _, hv, _, _, hnc, _⟩
      · omega
      · injection hv with _ _ hv
        omega
    refine ⟨hl, hby.under hE.2, hdc, fit_mk l ps (by rw [← hps, List.length_map]; omega), by rw [mkL_len, ← hps, List.length_map]; exact hdl, ds, ?_, by rw [mkL_p, hps]⟩
    refine (h5.keep (by simp [World.setCell]) fun q hq _ => hne q ?_).mono fun q hq _ => ?_
    · rcases hq with ⟨_, h6⟩ | h6
      · omega
      · omega
    · rcases hq with ⟨h6, _⟩ | h6
      · exact .inl h6
      · exact .inr (by omega))
  rw [hps]
  clear hl hby hln hdl hls hn hrow hM hgz H1 hnn hps HX hln8 hz0 hXV hXb hXG
  go_enter Try.func10, Try.ntmps10
  go_wp2_with fail
  clear hZ hG
  refine H1'.out.mono ?_
  rintro e w' ⟨rfl, rfl⟩
  go_wp2_with fail
  (try rw [hXX])
  clear hXX hX hV d1 w0 H1' HEZ g0 g1 f0 f1 x0 x1 xf0 xf1
  go_loopw [7, 8] (fun sa s wr => ∃ (k : Nat) (aa : Option Addr) (m cc : Nat), s = .int .i64 k ∧ sa = .slice aa m cc ∧ k ≤ n ∧ m ≤ 16 * k ∧ Hid (∃ da dc, LD w wr G (G + 1) la ln lc aa m cc (allOf (ps.take k)) da k dc (ds.take k)) ∧ Hid (DocOk l ps ↔ DocL l k (allOf (ps.take k)) (ps.drop k))) (fun _ s _ => n - (RowKit.intOf s).toNat)
  case atStart => exact ⟨0, none, 0, 0, rfl, rfl, by omega, by omega, Lib.hid ⟨none, 0, H0.out⟩, HD0⟩
  case round =>
    obtain ⟨k, aa, m, cc, rfl, rfl, hk, hm, HP, HD⟩ := hrel
    have hk0 : (0 : Int) ≤ (k : Int) := by omega
    by_cases hlt : k < n
    · have hlt2 : (k : Int) < (n : Int) := by omega
      obtain ⟨da, dc, hP⟩ := HP.out
      have HP2 := Lib.hid hP
      obtain ⟨g, off, x, rfl, hx, ⟨q0, q1⟩, HXR, HXL⟩ := HC.out wr k hP.below hlt
      obtain ⟨rn, hrn⟩ : ∃ rn, x.r.length = rn := ⟨_, rfl⟩
      obtain ⟨qn, hqn⟩ : ∃ qn, x.q.length = qn := ⟨_, rfl⟩
      obtain ⟨ra, hra⟩ : ∃ ra, x.ra = ra := ⟨_, rfl⟩
      obtain ⟨qa, hqa⟩ : ∃ qa, x.qa = qa := ⟨_, rfl⟩
      rw [hrn, hra] at q0
      rw [hqn, hqa] at q1
      have HRA := Lib.hid hra
      have HQA := Lib.hid hqa
      have HRR : Hid (∀ W t, Below w.heap.size w W → t < rn → ∃ gr offr v, ra = some ⟨gr, offr, none⟩ ∧ Hid (x.r[t]? = some v) ∧ W.cell? ⟨gr, offr + t, none⟩ = some (.int .i64 v)) := Lib.hid (fun W t hW ht => by
        have h1 := List.getElem?_eq_getElem (l := x.r) (i := t) (by omega)
        obtain ⟨gr, offr, e, _, hc⟩ := (HXR.out W hW).1 t _ h1
        exact ⟨gr, offr, _, hra.symm.trans e, Lib.hid h1, hc⟩)
      have HQQ : Hid (∀ W t, Below w.heap.size w W → t < qn → ∃ gr offr v, qa = some ⟨gr, offr, none⟩ ∧ Hid (x.q[t]? = some v) ∧ W.cell? ⟨gr, offr + t, none⟩ = some (.int .i64 v)) := Lib.hid (fun W t hW ht => by
        have h1 := List.getElem?_eq_getElem (l := x.q) (i := t) (by omega)
        obtain ⟨gr, offr, e, _, hc⟩ := (HXR.out W hW).2 t _ h1
        exact ⟨gr, offr, _, hqa.symm.trans e, Lib.hid h1, hc⟩)
      have HLD0 : Hid True := Lib.hid trivial
      clear hra hqa
      clear hP HP
      have hsl8 := HS8.out k hlt
      have HDL : Hid (DocOk l ps ↔ DLine (slotOf l k) (allOf (ps.take k)) x.p ∧ DocL l (k + 1) (allOf (ps.take k) ++ (x.p.1 ++ x.p.2)) (ps.drop (k + 1))) := Lib.hid (by
        obtain ⟨h1, h2⟩ := List.getElem?_eq_some_iff.1 hx.out.2
        have := HD.out
        rw [List.drop_eq_getElem_cons h1, h2] at this
        exact this)
      have HALL : Hid (allOf (ps.take (k + 1)) = allOf (ps.take k) ++ x.r ++ x.q) := Lib.hid (allOf_snoc hx.out.2)
      have HSK := Lib.hid (fun W da dk dc hW => HSL.out W k da dk dc hW hlt)
      obtain ⟨sl, hsl⟩ : ∃ sl, slotOf l k = sl := ⟨_, rfl⟩
      obtain ⟨all0, hall0⟩ : ∃ all0, allOf (ps.take k) = all0 := ⟨_, rfl⟩
      rw [hsl] at HDL HSK hsl8
      rw [hall0] at HP2 HDL HALL
      clear hsl hall0 HD
      have HXrn := Lib.hid hrn
      have HXqn := Lib.hid hqn
      go_wp2_with fail
      go_quiet (fail)
      obtain ⟨W1, hW1⟩ : ∃ W1, wr.drewN nq = W1 := ⟨_, rfl⟩
      have HL1 : Hid (LD w W1 G (G + 1) la ln lc aa m cc all0 da k dc (ds.take k)) := Lib.hid (by rw [← hW1]; exact HP2.out.drewN _)
      simp only [hW1]
      clear hW1 q0 q1
      -- the sizes
      have HVc : Hid (∀ W, Below W1.heap.size W1 W → (W.cell? ⟨G + 1, 0, none⟩ = some (.slice la ln lc) ∧ W.cell? ⟨G + 1, 1, none⟩ = some (.slice da k dc))) := Lib.hid (fun W hW => ⟨cell_block (j := 0) (HL1.out.under hW).hV rfl, cell_block (j := 1) (HL1.out.under hW).hV rfl⟩)
      have HGc : Hid (∀ W, Below W1.heap.size W1 W → (W.cell? ⟨G, 0, none⟩ = some (.slice none 0 0) ∧ W.cell? ⟨G, 1, none⟩ = some (.slice none 0 0)) ∧ W.frozen? ⟨G, 0, none⟩ = false ∧ W.frozen? ⟨G, 1, none⟩ = false ∧ LEnd w W G none 0 0 none 0 0) := Lib.hid (fun W hW => by
        have h2 := HL1.out.under hW
        exact ⟨⟨cell_block (j := 0) h2.hG rfl, cell_block (j := 1) h2.hG rfl⟩, free_block 0 h2.hG, free_block 1 h2.hG, lend h2.hG h2.below h2.gv.1 _ _ _ _ _ _⟩)
      have HS1 := Lib.hid (HSK.out W1 da k dc HL1.out.below)
      obtain ⟨v0, v1⟩ := HVc.out W1 (Below.refl _ _)
      by_cases c1 : sl < (rn : Int)
      · have HN : Hid (¬ DocOk l ps) := Lib.hid (fun h => by have h2 := (HDL.out.1 h).1.room; have : (x.r.length : Int) ≤ sl := h2; rw [HXrn.out] at this; omega)
        have d1 : decide (sl < (rn : Int)) = true := decide_eq_true c1
        clear c1 hsl8
        go_wp2_with fail
        refine HS1.out.mono ?_
        rintro e w3 ⟨rfl, HB3⟩
        obtain ⟨⟨g0, g1⟩, f0, f1, he⟩ := HGc.out w3 HB3.out
        have HEE := Lib.hid he
        clear he
        go_wp2_with fail
        exact ret_bays2 rfl rfl rfl rfl HEE.out.1 (.inr ⟨HN, rfl, Lib.hid HEE.out.2⟩)
      have d1 : decide (sl < (rn : Int)) = false := decide_eq_false c1
      by_cases c2 : 8 < qn
      · have HN : Hid (¬ DocOk l ps) := Lib.hid (fun h => by have h2 := (HDL.out.1 h).1.q8; have : x.q.length ≤ 8 := h2; rw [HXqn.out] at this; omega)
        have d2 : decide (8 < (qn : Int)) = true := decide_eq_true (by omega)
        clear c1 c2 hsl8
        go_wp2_with fail
        refine HS1.out.mono ?_
        rintro e w3 ⟨rfl, HB3⟩
        obtain ⟨⟨g0, g1⟩, f0, f1, he⟩ := HGc.out w3 HB3.out
        have HEE := Lib.hid he
        clear he
        go_wp2_with fail
        exact ret_bays2 rfl rfl rfl rfl HEE.out.1 (.inr ⟨HN, rfl, Lib.hid HEE.out.2⟩)
      have d2 : decide (8 < (qn : Int)) = false := decide_eq_false (by omega)
      have hrn8 : rn ≤ 8 := by omega
      have hqn8 : qn ≤ 8 := by omega
      have HFULL : Hid (((qn = 0 ∨ (sl ≤ (rn : Int) ∧ sl ≠ 0)) → NewJobs all0 x.r → Up1 x.r → NewJobs (all0 ++ x.r) x.q → DLine sl all0 x.p)) := Lib.hid (fun h1 h2 h3 h4 => ⟨by show (x.r.length : Int) ≤ sl; rw [HXrn.out]; omega, by show x.q.length ≤ 8; rw [HXqn.out]; exact hqn8, fun hne => by
        rcases h1 with h1 | h1
        · exact absurd (List.length_eq_zero_iff.1 (HXqn.out.trans h1)) hne
        · refine ⟨?_, h1.2⟩
          show sl ≤ (x.r.length : Int)
          rw [HXrn.out]
          exact h1.1, h3, h2, h4⟩)
      have HNF : Hid (¬ (qn = 0 ∨ (sl ≤ (rn : Int) ∧ sl ≠ 0)) → ¬ DocOk l ps) := Lib.hid (fun h1 h => h1 (by
        by_cases h0 : qn = 0
        · exact .inl h0
        · have hne : x.p.2 ≠ [] := fun e => by
            have h5 := HXqn.out
            rw [show x.q = [] from e] at h5
            exact h0 h5.symm
          have h2 := (HDL.out.1 h).1.full hne
          have h3 : sl ≤ (x.r.length : Int) := h2.1
          rw [HXrn.out] at h3
          exact .inr ⟨h3, h2.2⟩))
      -- the region's ends
      have HCASE : Hid ((qn = 0) ∨ (0 < qn ∧ (rn : Int) < sl) ∨ (0 < qn ∧ ¬ (rn : Int) < sl ∧ sl = 0) ∨ (0 < qn ∧ ¬ (rn : Int) < sl ∧ ¬ sl = 0)) := Lib.hid (by omega)
      -- the walk behind the sizes
      have HREST : Hid (∀ W3, Below W1.heap.size W1 W3 → True) := Lib.hid (fun _ _ => trivial)
      rcases HCASE.out with h0 | ⟨h0, h3⟩ | ⟨h0, h3, h4⟩ | ⟨h0, h3, h4⟩
      · have HOKS : Hid (qn = 0 ∨ (sl ≤ (rn : Int) ∧ sl ≠ 0)) := Lib.hid (.inl h0)
        have d3 : decide (0 < (qn : Int)) = false := decide_eq_false (by omega)
        have d3n : ¬ 0 < qn := by omega
        clear c1 c2 h0
        go_wp2_with fail
        refine HS1.out.mono ?_
        rintro e w3 ⟨rfl, HB3⟩
        have HL3 := Lib.hid (HL1.out.under HB3.out)
        go_wp2_with fail
        clear HSK HS1 HVc HGc HNF HCASE HREST HLD0 HL1 v0 v1
        go_loopw [7, 11] (fun sa s wr => ∃ (i : Nat) (ab : Option Addr) (mb cb : Nat), s = .int .i64 i ∧ sa = .slice ab mb cb ∧ i ≤ rn ∧ mb ≤ 16 * k + i ∧ Hid (LD w wr G (G + 1) la ln lc ab mb cb (all0 ++ x.r.take i) da k dc (ds.take k)) ∧ Hid (NewTo all0 x.r i) ∧ Hid (UpTo x.r i)) (fun _ s _ => rn - (RowKit.intOf s).toNat)
        case atStart => exact ⟨0, aa, m, cc, rfl, rfl, by omega, by omega, Lib.hid (by rw [List.take_zero, List.append_nil]; exact HL3.out), Lib.hid (fun t j h => by omega), Lib.hid (fun t x y h => by omega)⟩
        case round =>
          obtain ⟨i, ab, mb, cb, rfl, rfl, hi, hmb, HL4, HNT, HUT⟩ := hrel
          have hi0 : (0 : Int) ≤ (i : Int) := by omega
          have hmb1 : mb ≤ 1000 := by omega
          have hGc := HL4.out.hG
          have g0 := cell_block (j := 0) hGc rfl
          have g1 := cell_block (j := 1) hGc rfl
          have f0 := free_block 0 hGc
          have f1 := free_block 1 hGc
          clear hGc
          by_cases hlr : i < rn
          · have hlr2 : (i : Int) < (rn : Int) := by omega
            have HEE : Hid (∀ t, LEnd w (wr.drewN t) G none 0 0 none 0 0) := Lib.hid (fun t => lend (HL4.out.drewN t).hG (HL4.out.drewN t).below HL4.out.gv.1 _ _ _ _ _ _)
            obtain ⟨gr, offr, v, rfl, hv, r0⟩ := HRR.out _ i HL4.out.below hlr
            have hin := HL4.out.ka
            obtain ⟨da2, ca2, e2, hir⟩ := irow_own hin
            have hlen2 := ks_len hin
            rw [hlen2] at e2
            cases e2
            have HIN := Lib.hid (fun t => quiet_same (din_im ab mb cb (all0 ++ x.r.take i) v (wr.drewN t) hlen2 (hir.under (below_drewN (Below.refl _ _) t)) hmb1))
            clear hin hir hlen2
            by_cases c1 : v < 1
            · have HN : Hid (¬ DocOk l ps) := Lib.hid (fun h => newTo_not hv.out (.inl (fun hj => by have := hj.1; omega)) (HDL.out.1 h).1.run)
              have b1 : decide (v < 1) = true := decide_eq_true c1
              clear c1 HIN
              go_wp2_with fail
              go_quiet (fail)
              go_wp2_with fail
              exact ret_bays2 rfl rfl rfl rfl (HEE.out _).1 (.inr ⟨HN, rfl, Lib.hid (HEE.out _).2⟩)
            have b1 : decide (v < 1) = false := decide_eq_false c1
            by_cases c2 : 1099511627776 < v
            · have HN : Hid (¬ DocOk l ps) := Lib.hid (fun h => newTo_not hv.out (.inl (fun hj => by have := hj.2; omega)) (HDL.out.1 h).1.run)
              have b2 : decide (1099511627776 < v) = true := decide_eq_true c2
              clear c1 c2 HIN
              go_wp2_with fail
              go_quiet (fail)
              go_wp2_with fail
              exact ret_bays2 rfl rfl rfl rfl (HEE.out _).1 (.inr ⟨HN, rfl, Lib.hid (HEE.out _).2⟩)
            have b2 : decide (1099511627776 < v) = false := decide_eq_false c2
            have hjob : Job v := ⟨by omega, by omega⟩
            by_cases c3 : v ∈ all0 ++ x.r.take i
            · have HN : Hid (¬ DocOk l ps) := Lib.hid (fun h => newTo_not hv.out (.inr c3) (HDL.out.1 h).1.run)
              rw [decide_eq_true c3] at HIN
              clear c1 c2 c3 hjob
              go_wp2_with fail
              go_quiet (first | (go_at_call 25; exact HIN.out _) | fail)
              go_wp2_with fail
              exact ret_bays2 rfl rfl rfl rfl (HEE.out _).1 (.inr ⟨HN, rfl, Lib.hid (HEE.out _).2⟩)
            rw [decide_eq_false c3] at HIN
            have HNT2 := Lib.hid (newTo_more HNT.out hv.out hjob c3)
            have HTK : Hid (all0 ++ x.r.take (i + 1) = all0 ++ x.r.take i ++ [v]) := Lib.hid (by rw [List.take_add_one, hv.out, List.append_assoc]; rfl)
            cases i with
            | zero =>
              have HUT2 : Hid (UpTo x.r (0 + 1)) := Lib.hid (upTo_more HUT.out (fun a b h => by omega))
              clear c1 c2 c3 hjob
              rw [Nat.add_zero] at r0
              have h0r : (0 : Int) < (rn : Int) := by omega
              have h0rn : 0 < rn := by omega
              go_wp2_with fail
              go_quiet (first | (go_at_call 25; exact HIN.out _) | fail)
              obtain ⟨W4, hW4⟩ : ∃ W4, wr.drewN nq = W4 := ⟨_, rfl⟩
              have HL5 := Lib.hid (HL4.out.drewN nq)
              rw [hW4] at HL5
              simp only [hW4]
              clear hW4
              obtain ⟨ab', cb', W', hr, hL⟩ := HL5.out.job v hmb1
              have HR := Lib.hid hr
              have HL6 : Hid (LD w W' G (G + 1) la ln lc ab' (mb + 1) cb' (all0 ++ x.r.take (0 + 1)) da k dc (ds.take k)) := Lib.hid (by rw [HTK.out]; exact hL)
              obtain ⟨gr2, offr2, v2, e3, hv2, r1⟩ := HRR.out W4 0 HL5.out.below hlr
              have ev : v2 = v := Option.some.inj (hv2.out.symm.trans hv.out)
              cases e3
              rw [ev, Nat.add_zero] at r1
              clear hr hL ev hv2 r0
              go_wp2_with (at_builtin; refine walk_run rfl _ _ _ _ rfl _ _ rfl rfl HR.out ?_)
              go_roundw
              case rel => exact ⟨0 + 1, ab', mb + 1, cb', by go_num, rfl, by omega, by omega, HL6, HNT2, HUT2⟩
              case measure => simp [RowKit.intOf]; omega
            | succ t =>
              obtain ⟨gr3, offr3, u, e3, hu, r2⟩ := HRR.out _ t HL4.out.below (by omega)
              cases e3
              have wi : IntKind.i64.wrap ((t : Int) + 1 - 1) = (t : Int) := by rw [show (t : Int) + 1 - 1 = (t : Int) by omega]; exact IntWalk.i64_in _ (by omega)
              have ht1 : (t : Int) < (rn : Int) := by omega
              have ht0 : (0 : Int) ≤ (t : Int) := by omega
              have ht2 : (0 : Int) < (t : Int) + 1 := by omega
              by_cases c4 : v < u
              · have HN : Hid (¬ DocOk l ps) := Lib.hid (fun h => by have := (HDL.out.1 h).1.up t u v hu.out hv.out; omega)
                have b4 : decide (v < u) = true := decide_eq_true c4
                clear c1 c2 c3 c4 hjob
                go_wp2_with fail
                go_quiet (first | (go_at_call 25; exact HIN.out _) | fail)
                go_wp2_with fail
                exact ret_bays2 rfl rfl rfl rfl (HEE.out _).1 (.inr ⟨HN, rfl, Lib.hid (HEE.out _).2⟩)
              have b4 : decide (v < u) = false := decide_eq_false c4
              have HUT2 : Hid (UpTo x.r (t + 1 + 1)) := Lib.hid (upTo_more HUT.out (fun a b h ha hb => by
                rw [Nat.add_sub_cancel] at ha
                have e1 := Option.some.inj (ha.symm.trans hu.out)
                have e2 := Option.some.inj (hb.symm.trans hv.out)
                omega))
              clear c1 c2 c3 c4 hjob
              go_wp2_with fail
              go_quiet (first | (go_at_call 25; exact HIN.out _) | fail)
              obtain ⟨W4, hW4⟩ : ∃ W4, wr.drewN nq = W4 := ⟨_, rfl⟩
              have HL5 := Lib.hid (HL4.out.drewN nq)
              rw [hW4] at HL5
              simp only [hW4]
              clear hW4
              obtain ⟨ab', cb', W', hr, hL⟩ := HL5.out.job v hmb1
              have HR := Lib.hid hr
              have HL6 : Hid (LD w W' G (G + 1) la ln lc ab' (mb + 1) cb' (all0 ++ x.r.take (t + 1 + 1)) da k dc (ds.take k)) := Lib.hid (by rw [HTK.out]; exact hL)
              obtain ⟨gr2, offr2, v2, e3, hv2, r1⟩ := HRR.out W4 (t + 1) HL5.out.below hlr
              have ev : v2 = v := Option.some.inj (hv2.out.symm.trans hv.out)
              cases e3
              rw [ev] at r1
              clear hr hL ev hv2 r0 r2
              go_wp2_with (at_builtin; refine walk_run rfl _ _ _ _ rfl _ _ rfl rfl HR.out ?_)
              go_roundw
              case rel => exact ⟨t + 1 + 1, ab', mb + 1, cb', by go_num, rfl, by omega, by omega, HL6, HNT2, HUT2⟩
              case measure => simp [RowKit.intOf]; omega
          · obtain rfl : rn = i := by omega
            have HN1 : Hid (NewJobs all0 x.r) := Lib.hid (newTo_all HNT.out HXrn.out)
            have HU1 : Hid (Up1 x.r) := Lib.hid (upTo_all HUT.out HXrn.out)
            have HL5 : Hid (LD w wr G (G + 1) la ln lc ab mb cb (all0 ++ x.r) da k dc (ds.take k)) := Lib.hid (by
              have := HL4.out
              rwa [List.take_of_length_le (by rw [HXrn.out]; exact Nat.le_refl _)] at this)
            clear HL4 HNT HUT g0 g1 f0 f1
            go_wp2_with fail
            go_loopw [7, 12] (fun sa s wr => ∃ (i : Nat) (ac : Option Addr) (mc cd : Nat), s = .int .i64 i ∧ sa = .slice ac mc cd ∧ i ≤ qn ∧ mc ≤ 16 * k + 8 + i ∧ Hid (LD w wr G (G + 1) la ln lc ac mc cd (all0 ++ x.r ++ x.q.take i) da k dc (ds.take k)) ∧ Hid (NewTo (all0 ++ x.r) x.q i)) (fun _ s _ => qn - (RowKit.intOf s).toNat)
            case atStart => exact ⟨0, ab, mb, cb, rfl, rfl, by omega, by omega, Lib.hid (by rw [List.take_zero, List.append_nil]; exact HL5.out), Lib.hid (fun t j h => by omega)⟩
            case round =>
              obtain ⟨i, ac, mc, cd, rfl, rfl, hi2, hmc, HL6, HNT⟩ := hrel
              have hi20 : (0 : Int) ≤ (i : Int) := by omega
              have hmc1 : mc ≤ 1000 := by omega
              have hGc := HL6.out.hG
              have g0 : wr.cell? ⟨G, 0, none⟩ = some (.slice none 0 0) := cell_block (j := 0) hGc rfl
              have g1 : wr.cell? ⟨G, 1, none⟩ = some (.slice none 0 0) := cell_block (j := 1) hGc rfl
              have f0 := free_block 0 hGc
              have f1 := free_block 1 hGc
              clear hGc
              by_cases hlq : i < qn
              · exfalso
                omega
              · obtain rfl : qn = i := by omega
                have HN2 : Hid (NewJobs (all0 ++ x.r) x.q) := Lib.hid (newTo_all HNT.out HXqn.out)
                have HL7 : Hid (LD w wr G (G + 1) la ln lc ac mc cd (allOf (ps.take (k + 1))) da k dc (ds.take k)) := Lib.hid (by
                  have := HL6.out
                  rw [List.take_of_length_le (by rw [HXqn.out]; exact Nat.le_refl _)] at this
                  rw [HALL.out]
                  exact this)
                have HD2 : Hid (DocOk l ps ↔ DocL l (k + 1) (allOf (ps.take (k + 1))) (ps.drop (k + 1))) := Lib.hid (by
                  have h1 := HFULL.out HOKS.out HN1.out HU1.out HN2.out
                  rw [HALL.out, List.append_assoc]
                  exact ⟨fun h => (HDL.out.1 h).2, fun h => HDL.out.2 ⟨h1, h⟩⟩)
                obtain ⟨da', dc', W', hr, ⟨p1, p2⟩, hL⟩ := HL7.out.line x (by omega)
                rw [HXrn.out, HXqn.out, HRA.out, HQA.out] at hr
                have HR := Lib.hid hr
                have HDS : Hid (ds.take (k + 1) = ds.take k ++ [x]) := Lib.hid (by rw [List.take_add_one, hx.out.1]; rfl)
                have HEND : Hid (∃ da dc, LD w (W'.setCell ⟨G + 1, 1, none⟩ (.slice da' (k + 1) dc')) G (G + 1) la ln lc ac mc cd (allOf (ps.take (k + 1))) da (k + 1) dc (ds.take (k + 1))) := Lib.hid ⟨da', dc', by rw [HDS.out]; exact hL⟩
                obtain ⟨g3, off3, x3, e3, hx3, ⟨s0, s1⟩, -, -⟩ := HC.out _ k HL7.out.below hlt
                have ex : x3 = x := Option.some.inj (hx3.out.1.symm.trans hx.out.1)
                cases e3
                rw [ex, HXrn.out, HRA.out] at s0
                rw [ex, HXqn.out, HQA.out] at s1
                have v1 := cell_block (j := 1) HL7.out.hV rfl
                have v2 := cell_block (j := 1) (HL7.out.under ((Below.refl _ _).alloc (Nat.le_refl _) (.cells #[.slice ra rn x.rc, .slice qa qn x.qc] 54))).hV rfl
                have hmc2 : mc ≤ 16 * (k + 1) := by omega
                clear hr hL ex hx3 HL6 HL7 HL5 HNT g0 g1 f0 f1
                go_wp2_with fail
                go_region_law (refine step_run (v' := .slice da' (k + 1) dc') (w' := W') (by rfl) _ _ _ _ (by rfl) _ _ (by rfl) (by rfl) HR.out ?_)
                all_goals
                  go_wp2_with fail
                  go_roundw
                  case rel => exact ⟨k + 1, ac, mc, cd, by go_num, rfl, by omega, hmc2, HEND, HD2⟩
                  case measure => simp [RowKit.intOf]; omega
      · have HN := Lib.hid (HNF.out (by omega))
        have d3 : decide (0 < (qn : Int)) = true := decide_eq_true (by omega)
        have d4 : decide ((rn : Int) < sl) = true := decide_eq_true h3
        clear c1 c2 h3
        go_wp2_with fail
        refine HS1.out.mono ?_
        rintro e w3 ⟨rfl, HB3⟩
        obtain ⟨y0, y1⟩ := HVc.out w3 HB3.out
        have HS2 := Lib.hid (HSK.out w3 da k dc (HL1.out.under HB3.out).below)
        go_wp2_with fail
        refine HS2.out.mono ?_
        rintro e w4 ⟨rfl, HB4⟩
        obtain ⟨⟨g0, g1⟩, f0, f1, he⟩ := HGc.out w4 (below_then HB3.out HB4.out)
        have HEE := Lib.hid he
        clear he
        go_wp2_with fail
        exact ret_bays2 rfl rfl rfl rfl HEE.out.1 (.inr ⟨HN, rfl, Lib.hid HEE.out.2⟩)
      · have HN := Lib.hid (HNF.out (by omega))
        have d3 : decide (0 < (qn : Int)) = true := decide_eq_true (by omega)
        have d4 : decide ((rn : Int) < sl) = false := decide_eq_false h3
        have d5 : (sl == 0) = true := by simpa using h4
        clear c1 c2 h3 h4
        go_wp2_with fail
        refine HS1.out.mono ?_
        rintro e w3 ⟨rfl, HB3⟩
        obtain ⟨y0, y1⟩ := HVc.out w3 HB3.out
        have HS2 := Lib.hid (HSK.out w3 da k dc (HL1.out.under HB3.out).below)
        go_wp2_with fail
        refine HS2.out.mono ?_
        rintro e w4 ⟨rfl, HB4⟩
        have HB14 := Lib.hid (below_then HB3.out HB4.out)
        obtain ⟨z0, z1⟩ := HVc.out w4 HB14.out
        have HS3 := Lib.hid (HSK.out w4 da k dc (HL1.out.under HB14.out).below)
        go_wp2_with fail
        refine HS3.out.mono ?_
        rintro e w5 ⟨rfl, HB5⟩
        obtain ⟨⟨g0, g1⟩, f0, f1, he⟩ := HGc.out w5 (below_then HB14.out HB5.out)
        have HEE := Lib.hid he
        clear he
        go_wp2_with fail
        exact ret_bays2 rfl rfl rfl rfl HEE.out.1 (.inr ⟨HN, rfl, Lib.hid HEE.out.2⟩)
      · have HOKS : Hid (qn = 0 ∨ (sl ≤ (rn : Int) ∧ sl ≠ 0)) := Lib.hid (.inr ⟨by omega, h4⟩)
        have d3 : decide (0 < (qn : Int)) = true := decide_eq_true (by omega)
        have d4 : decide ((rn : Int) < sl) = false := decide_eq_false h3
        have d5 : (sl == 0) = false := by simpa using h4
        clear c1 c2 h3 h4
        go_wp2_with fail
        refine HS1.out.mono ?_
        rintro e w3 ⟨rfl, HB3⟩
        obtain ⟨y0, y1⟩ := HVc.out w3 HB3.out
        have HS2 := Lib.hid (HSK.out w3 da k dc (HL1.out.under HB3.out).below)
        go_wp2_with fail
        refine HS2.out.mono ?_
        rintro e w4 ⟨rfl, HB4⟩
        have HB14 := Lib.hid (below_then HB3.out HB4.out)
        obtain ⟨z0, z1⟩ := HVc.out w4 HB14.out
        have HS3 := Lib.hid (HSK.out w4 da k dc (HL1.out.under HB14.out).below)
        go_wp2_with fail
        refine HS3.out.mono ?_
        rintro e w5 ⟨rfl, HB5⟩
        have HL3 := Lib.hid (HL1.out.under (below_then HB14.out HB5.out))
        go_wp2_with fail
        clear HSK HS1 HVc HGc HNF HCASE HREST HLD0 HL1 v0 v1
        go_loopw [7, 11] (fun sa s wr => ∃ (i : Nat) (ab : Option Addr) (mb cb : Nat), s = .int .i64 i ∧ sa = .slice ab mb cb ∧ i ≤ rn ∧ mb ≤ 16 * k + i ∧ Hid (LD w wr G (G + 1) la ln lc ab mb cb (all0 ++ x.r.take i) da k dc (ds.take k)) ∧ Hid (NewTo all0 x.r i) ∧ Hid (UpTo x.r i)) (fun _ s _ => rn - (RowKit.intOf s).toNat)
        case atStart => exact ⟨0, aa, m, cc, rfl, rfl, by omega, by omega, Lib.hid (by rw [List.take_zero, List.append_nil]; exact HL3.out), Lib.hid (fun t j h => by omega), Lib.hid (fun t x y h => by omega)⟩
        case round =>
          obtain ⟨i, ab, mb, cb, rfl, rfl, hi, hmb, HL4, HNT, HUT⟩ := hrel
          have hi0 : (0 : Int) ≤ (i : Int) := by omega
          have hmb1 : mb ≤ 1000 := by omega
          have hGc := HL4.out.hG
          have g0 := cell_block (j := 0) hGc rfl
          have g1 := cell_block (j := 1) hGc rfl
          have f0 := free_block 0 hGc
          have f1 := free_block 1 hGc
          clear hGc
          by_cases hlr : i < rn
          · have hlr2 : (i : Int) < (rn : Int) := by omega
            have HEE : Hid (∀ t, LEnd w (wr.drewN t) G none 0 0 none 0 0) := Lib.hid (fun t => lend (HL4.out.drewN t).hG (HL4.out.drewN t).below HL4.out.gv.1 _ _ _ _ _ _)
            obtain ⟨gr, offr, v, rfl, hv, r0⟩ := HRR.out _ i HL4.out.below hlr
            have hin := HL4.out.ka
            obtain ⟨da2, ca2, e2, hir⟩ := irow_own hin
            have hlen2 := ks_len hin
            rw [hlen2] at e2
            cases e2
            have HIN := Lib.hid (fun t => quiet_same (din_im ab mb cb (all0 ++ x.r.take i) v (wr.drewN t) hlen2 (hir.under (below_drewN (Below.refl _ _) t)) hmb1))
            clear hin hir hlen2
            by_cases c1 : v < 1
            · have HN : Hid (¬ DocOk l ps) := Lib.hid (fun h => newTo_not hv.out (.inl (fun hj => by have := hj.1; omega)) (HDL.out.1 h).1.run)
              have b1 : decide (v < 1) = true := decide_eq_true c1
              clear c1 HIN
              go_wp2_with fail
              go_quiet (fail)
              go_wp2_with fail
              exact ret_bays2 rfl rfl rfl rfl (HEE.out _).1 (.inr ⟨HN, rfl, Lib.hid (HEE.out _).2⟩)
            have b1 : decide (v < 1) = false := decide_eq_false c1
            by_cases c2 : 1099511627776 < v
            · have HN : Hid (¬ DocOk l ps) := Lib.hid (fun h => newTo_not hv.out (.inl (fun hj => by have := hj.2; omega)) (HDL.out.1 h).1.run)
              have b2 : decide (1099511627776 < v) = true := decide_eq_true c2
              clear c1 c2 HIN
              go_wp2_with fail
              go_quiet (fail)
              go_wp2_with fail
              exact ret_bays2 rfl rfl rfl rfl (HEE.out _).1 (.inr ⟨HN, rfl, Lib.hid (HEE.out _).2⟩)
            have b2 : decide (1099511627776 < v) = false := decide_eq_false c2
            have hjob : Job v := ⟨by omega, by omega⟩
            by_cases c3 : v ∈ all0 ++ x.r.take i
            · have HN : Hid (¬ DocOk l ps) := Lib.hid (fun h => newTo_not hv.out (.inr c3) (HDL.out.1 h).1.run)
              rw [decide_eq_true c3] at HIN
              clear c1 c2 c3 hjob
              go_wp2_with fail
              go_quiet (first | (go_at_call 25; exact HIN.out _) | fail)
              go_wp2_with fail
              exact ret_bays2 rfl rfl rfl rfl (HEE.out _).1 (.inr ⟨HN, rfl, Lib.hid (HEE.out _).2⟩)
            rw [decide_eq_false c3] at HIN
            have HNT2 := Lib.hid (newTo_more HNT.out hv.out hjob c3)
            have HTK : Hid (all0 ++ x.r.take (i + 1) = all0 ++ x.r.take i ++ [v]) := Lib.hid (by rw [List.take_add_one, hv.out, List.append_assoc]; rfl)
            cases i with
            | zero =>
              have HUT2 : Hid (UpTo x.r (0 + 1)) := Lib.hid (upTo_more HUT.out (fun a b h => by omega))
              clear c1 c2 c3 hjob
              rw [Nat.add_zero] at r0
              have h0r : (0 : Int) < (rn : Int) := by omega
              have h0rn : 0 < rn := by omega
              go_wp2_with fail
              go_quiet (first | (go_at_call 25; exact HIN.out _) | fail)
              obtain ⟨W4, hW4⟩ : ∃ W4, wr.drewN nq = W4 := ⟨_, rfl⟩
              have HL5 := Lib.hid (HL4.out.drewN nq)
              rw [hW4] at HL5
              simp only [hW4]
              clear hW4
              obtain ⟨ab', cb', W', hr, hL⟩ := HL5.out.job v hmb1
              have HR := Lib.hid hr
              have HL6 : Hid (LD w W' G (G + 1) la ln lc ab' (mb + 1) cb' (all0 ++ x.r.take (0 + 1)) da k dc (ds.take k)) := Lib.hid (by rw [HTK.out]; exact hL)
              obtain ⟨gr2, offr2, v2, e3, hv2, r1⟩ := HRR.out W4 0 HL5.out.below hlr
              have ev : v2 = v := Option.some.inj (hv2.out.symm.trans hv.out)
              cases e3
              rw [ev, Nat.add_zero] at r1
              clear hr hL ev hv2 r0
              go_wp2_with (at_builtin; refine walk_run rfl _ _ _ _ rfl _ _ rfl rfl HR.out ?_)
              go_roundw
              case rel => exact ⟨0 + 1, ab', mb + 1, cb', by go_num, rfl, by omega, by omega, HL6, HNT2, HUT2⟩
              case measure => simp [RowKit.intOf]; omega
            | succ t =>
              obtain ⟨gr3, offr3, u, e3, hu, r2⟩ := HRR.out _ t HL4.out.below (by omega)
              cases e3
              have wi : IntKind.i64.wrap ((t : Int) + 1 - 1) = (t : Int) := by rw [show (t : Int) + 1 - 1 = (t : Int) by omega]; exact IntWalk.i64_in _ (by omega)
              have ht1 : (t : Int) < (rn : Int) := by omega
              have ht0 : (0 : Int) ≤ (t : Int) := by omega
              have ht2 : (0 : Int) < (t : Int) + 1 := by omega
              by_cases c4 : v < u
              · have HN : Hid (¬ DocOk l ps) := Lib.hid (fun h => by have := (HDL.out.1 h).1.up t u v hu.out hv.out; omega)
                have b4 : decide (v < u) = true := decide_eq_true c4
                clear c1 c2 c3 c4 hjob
                go_wp2_with fail
                go_quiet (first | (go_at_call 25; exact HIN.out _) | fail)
                go_wp2_with fail
                exact ret_bays2 rfl rfl rfl rfl (HEE.out _).1 (.inr ⟨HN, rfl, Lib.hid (HEE.out _).2⟩)
              have b4 : decide (v < u) = false := decide_eq_false c4
              have HUT2 : Hid (UpTo x.r (t + 1 + 1)) := Lib.hid (upTo_more HUT.out (fun a b h ha hb => by
                rw [Nat.add_sub_cancel] at ha
                have e1 := Option.some.inj (ha.symm.trans hu.out)
                have e2 := Option.some.inj (hb.symm.trans hv.out)
                omega))
              clear c1 c2 c3 c4 hjob
              go_wp2_with fail
              go_quiet (first | (go_at_call 25; exact HIN.out _) | fail)
              obtain ⟨W4, hW4⟩ : ∃ W4, wr.drewN nq = W4 := ⟨_, rfl⟩
              have HL5 := Lib.hid (HL4.out.drewN nq)
              rw [hW4] at HL5
              simp only [hW4]
              clear hW4
              obtain ⟨ab', cb', W', hr, hL⟩ := HL5.out.job v hmb1
              have HR := Lib.hid hr
              have HL6 : Hid (LD w W' G (G + 1) la ln lc ab' (mb + 1) cb' (all0 ++ x.r.take (t + 1 + 1)) da k dc (ds.take k)) := Lib.hid (by rw [HTK.out]; exact hL)
              obtain ⟨gr2, offr2, v2, e3, hv2, r1⟩ := HRR.out W4 (t + 1) HL5.out.below hlr
              have ev : v2 = v := Option.some.inj (hv2.out.symm.trans hv.out)
              cases e3
              rw [ev] at r1
              clear hr hL ev hv2 r0 r2
              go_wp2_with (at_builtin; refine walk_run rfl _ _ _ _ rfl _ _ rfl rfl HR.out ?_)
              go_roundw
              case rel => exact ⟨t + 1 + 1, ab', mb + 1, cb', by go_num, rfl, by omega, by omega, HL6, HNT2, HUT2⟩
              case measure => simp [RowKit.intOf]; omega
          · obtain rfl : rn = i := by omega
            have HN1 : Hid (NewJobs all0 x.r) := Lib.hid (newTo_all HNT.out HXrn.out)
            have HU1 : Hid (Up1 x.r) := Lib.hid (upTo_all HUT.out HXrn.out)
            have HL5 : Hid (LD w wr G (G + 1) la ln lc ab mb cb (all0 ++ x.r) da k dc (ds.take k)) := Lib.hid (by
              have := HL4.out
              rwa [List.take_of_length_le (by rw [HXrn.out]; exact Nat.le_refl _)] at this)
            clear HL4 HNT HUT g0 g1 f0 f1
            go_wp2_with fail
            go_loopw [7, 12] (fun sa s wr => ∃ (i : Nat) (ac : Option Addr) (mc cd : Nat), s = .int .i64 i ∧ sa = .slice ac mc cd ∧ i ≤ qn ∧ mc ≤ 16 * k + 8 + i ∧ Hid (LD w wr G (G + 1) la ln lc ac mc cd (all0 ++ x.r ++ x.q.take i) da k dc (ds.take k)) ∧ Hid (NewTo (all0 ++ x.r) x.q i)) (fun _ s _ => qn - (RowKit.intOf s).toNat)
            case atStart => exact ⟨0, ab, mb, cb, rfl, rfl, by omega, by omega, Lib.hid (by rw [List.take_zero, List.append_nil]; exact HL5.out), Lib.hid (fun t j h => by omega)⟩
            case round =>
              obtain ⟨i, ac, mc, cd, rfl, rfl, hi2, hmc, HL6, HNT⟩ := hrel
              have hi20 : (0 : Int) ≤ (i : Int) := by omega
              have hmc1 : mc ≤ 1000 := by omega
              have hGc := HL6.out.hG
              have g0 : wr.cell? ⟨G, 0, none⟩ = some (.slice none 0 0) := cell_block (j := 0) hGc rfl
              have g1 : wr.cell? ⟨G, 1, none⟩ = some (.slice none 0 0) := cell_block (j := 1) hGc rfl
              have f0 := free_block 0 hGc
              have f1 := free_block 1 hGc
              clear hGc
              by_cases hlq : i < qn
              · have hlq2 : (i : Int) < (qn : Int) := by omega
                have HEE : Hid (∀ t, LEnd w (wr.drewN t) G none 0 0 none 0 0) := Lib.hid (fun t => lend (HL6.out.drewN t).hG (HL6.out.drewN t).below HL6.out.gv.1 _ _ _ _ _ _)
                have HEE0 : Hid (LEnd w wr G none 0 0 none 0 0) := Lib.hid (lend HL6.out.hG HL6.out.below HL6.out.gv.1 _ _ _ _ _ _)
                obtain ⟨gq, offq, v, rfl, hv, r0⟩ := HQQ.out _ i HL6.out.below hlq
                have hin := HL6.out.ka
                obtain ⟨da2, ca2, e2, hir⟩ := irow_own hin
                have hlen2 := ks_len hin
                rw [hlen2] at e2
                cases e2
                have HIN := Lib.hid (din_im ac mc cd (all0 ++ x.r ++ x.q.take i) v _ hlen2 hir hmc1)
                clear hin hir hlen2
                by_cases c1 : v < 1
                · have HN : Hid (¬ DocOk l ps) := Lib.hid (fun h => newTo_not hv.out (.inl (fun hj => by have := hj.1; omega)) (HDL.out.1 h).1.wait)
                  have b1 : decide (v < 1) = true := decide_eq_true c1
                  clear c1 HIN HEE
                  go_wp2_with fail
                  exact ret_bays2 rfl rfl rfl rfl HEE0.out.1 (.inr ⟨HN, rfl, Lib.hid HEE0.out.2⟩)
                have b1 : decide (v < 1) = false := decide_eq_false c1
                by_cases c2 : 1099511627776 < v
                · have HN : Hid (¬ DocOk l ps) := Lib.hid (fun h => newTo_not hv.out (.inl (fun hj => by have := hj.2; omega)) (HDL.out.1 h).1.wait)
                  have b2 : decide (1099511627776 < v) = true := decide_eq_true c2
                  clear c1 c2 HIN HEE
                  go_wp2_with fail
                  exact ret_bays2 rfl rfl rfl rfl HEE0.out.1 (.inr ⟨HN, rfl, Lib.hid HEE0.out.2⟩)
                have b2 : decide (1099511627776 < v) = false := decide_eq_false c2
                have hjob : Job v := ⟨by omega, by omega⟩
                by_cases c3 : v ∈ all0 ++ x.r ++ x.q.take i
                · have HN : Hid (¬ DocOk l ps) := Lib.hid (fun h => newTo_not hv.out (.inr c3) (HDL.out.1 h).1.wait)
                  rw [decide_eq_true c3] at HIN
                  clear c1 c2 c3 hjob HEE
                  go_wp2_with fail
                  refine HIN.out.mono ?_
                  rintro e w' ⟨rfl, rfl⟩
                  go_wp2_with fail
                  exact ret_bays2 rfl rfl rfl rfl HEE0.out.1 (.inr ⟨HN, rfl, Lib.hid HEE0.out.2⟩)
                rw [decide_eq_false c3] at HIN
                have HNT2 := Lib.hid (newTo_more HNT.out hv.out hjob c3)
                have HTK : Hid (all0 ++ x.r ++ x.q.take (i + 1) = all0 ++ x.r ++ x.q.take i ++ [v]) := Lib.hid (by rw [List.take_add_one, hv.out, ← List.append_assoc]; rfl)
                obtain ⟨ab', cb', W', hr, hL⟩ := HL6.out.job v hmc1
                have HR := Lib.hid hr
                have HL8 : Hid (LD w W' G (G + 1) la ln lc ab' (mc + 1) cb' (all0 ++ x.r ++ x.q.take (i + 1)) da k dc (ds.take k)) := Lib.hid (by rw [HTK.out]; exact hL)
                clear c1 c2 c3 hjob hr hL HEE HEE0
                go_wp2_with fail
                refine HIN.out.mono ?_
                rintro e w' ⟨rfl, rfl⟩
                go_wp2_with (at_builtin; refine walk_run rfl _ _ _ _ rfl _ _ rfl rfl HR.out ?_)
                exact ⟨⟨i + 1, ab', mc + 1, cb', by go_num, rfl, by omega, by omega, HL8, HNT2⟩, by simp [RowKit.intOf]; omega⟩
              · obtain rfl : qn = i := by omega
                have HN2 : Hid (NewJobs (all0 ++ x.r) x.q) := Lib.hid (newTo_all HNT.out HXqn.out)
                have HL7 : Hid (LD w wr G (G + 1) la ln lc ac mc cd (allOf (ps.take (k + 1))) da k dc (ds.take k)) := Lib.hid (by
                  have := HL6.out
                  rw [List.take_of_length_le (by rw [HXqn.out]; exact Nat.le_refl _)] at this
                  rw [HALL.out]
                  exact this)
                have HD2 : Hid (DocOk l ps ↔ DocL l (k + 1) (allOf (ps.take (k + 1))) (ps.drop (k + 1))) := Lib.hid (by
                  have h1 := HFULL.out HOKS.out HN1.out HU1.out HN2.out
                  rw [HALL.out, List.append_assoc]
                  exact ⟨fun h => (HDL.out.1 h).2, fun h => HDL.out.2 ⟨h1, h⟩⟩)
                obtain ⟨da', dc', W', hr, ⟨p1, p2⟩, hL⟩ := HL7.out.line x (by omega)
                rw [HXrn.out, HXqn.out, HRA.out, HQA.out] at hr
                have HR := Lib.hid hr
                have HDS : Hid (ds.take (k + 1) = ds.take k ++ [x]) := Lib.hid (by rw [List.take_add_one, hx.out.1]; rfl)
                have HEND : Hid (∃ da dc, LD w (W'.setCell ⟨G + 1, 1, none⟩ (.slice da' (k + 1) dc')) G (G + 1) la ln lc ac mc cd (allOf (ps.take (k + 1))) da (k + 1) dc (ds.take (k + 1))) := Lib.hid ⟨da', dc', by rw [HDS.out]; exact hL⟩
                obtain ⟨g3, off3, x3, e3, hx3, ⟨s0, s1⟩, -, -⟩ := HC.out _ k HL7.out.below hlt
                have ex : x3 = x := Option.some.inj (hx3.out.1.symm.trans hx.out.1)
                cases e3
                rw [ex, HXrn.out, HRA.out] at s0
                rw [ex, HXqn.out, HQA.out] at s1
                have v1 := cell_block (j := 1) HL7.out.hV rfl
                have v2 := cell_block (j := 1) (HL7.out.under ((Below.refl _ _).alloc (Nat.le_refl _) (.cells #[.slice ra rn x.rc, .slice qa qn x.qc] 54))).hV rfl
                have hmc2 : mc ≤ 16 * (k + 1) := by omega
                clear hr hL ex hx3 HL6 HL7 HL5 HNT g0 g1 f0 f1
                go_wp2_with fail
                go_region_law (refine step_run (v' := .slice da' (k + 1) dc') (w' := W') (by rfl) _ _ _ _ (by rfl) _ _ (by rfl) (by rfl) HR.out ?_)
                all_goals
                  go_wp2_with fail
                  go_roundw
                  case rel => exact ⟨k + 1, ac, mc, cd, by go_num, rfl, by omega, hmc2, HEND, HD2⟩
                  case measure => simp [RowKit.intOf]; omega
    · obtain rfl : k = n := by omega
      obtain ⟨da, dc, hP⟩ := HP.out
      have HY : Hid (DocOk l ps) := Lib.hid (HD.out.2 (by rw [HDROP.out.1]; trivial))
      have hHd := hP.kd
      rw [HDROP.out.2.2] at hHd
      have HEE := Lib.hid (lend hP.hG hP.below hP.gv.1 la ln lc da k dc)
      have HF := Lib.hid (HFIN.out wr da dc hP.below hHd HEE.out)
      have v0 := cell_block (j := 0) hP.hV rfl
      have v1 := cell_block (j := 1) hP.hV rfl
      have g0 := cell_block (j := 0) hP.hG rfl
      have g1 := cell_block (j := 1) hP.hG rfl
      have f0 := free_block 0 hP.hG
      have f1 := free_block 1 hP.hG
      clear hP hHd HP
      go_wp2_with fail
      exact ret_bays2 rfl rfl rfl rfl HEE.out.1 (.inl ⟨HY, da, dc, rfl, Lib.hid ⟨HF.out, HEE.out.2⟩⟩)
end Go.Proofs.Ytokkefokodcphaa.Bay
