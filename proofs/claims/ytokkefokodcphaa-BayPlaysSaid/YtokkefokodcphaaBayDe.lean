/- The document's Ask. -/
import Derived.Test.YtokkefokodcphaaBayDd
import Derived.Deep.RegionHeld3
namespace Go.Proofs.Ytokkefokodcphaa.Bay
open Go.RowKit Go.Lib IRows

theorem results_cell2 {fn : Func} {p u v : Tmp} {ty : TypeId} (h : fn.results = #[.cell p ty, .tmp u, .tmp v]) (tmps : Array Value) (P : Program) (w : World) :
    (results fn tmps).run P w =
      ((asAddr (tmps.getD p undef)).run P w).andThen fun a w₁ => ((loadVar ty a).run P w₁).andThen fun x w₂ => .ok (.tuple #[x, tmps.getD u undef, tmps.getD v undef]) w₂ := by
  simp only [results, h]
  simp [Sem.run_bind, Result.andThen]
theorem ret_bays3 {fn : Func} {R : Ending → World → Prop} {a : Act} {w : World} {p u v : Tmp} {g : Nat} {a1 a2 : Option Addr} {n1 c1 n2 c2 : Nat} {x y : Value} {T : TypeId} (h : fn.results = #[.cell p 32, .tmp u, .tmp v]) (hd : a.defers = [])
    (ht : a.tmps.getD p undef = .pointer (some ⟨g, 0, none⟩)) (hu : a.tmps.getD u undef = x) (hv : a.tmps.getD v undef = y) (hb : w.heap[g]? = some (.cells #[.slice a1 n1 c1, .slice a2 n2 c2] T (0, 0))) (hR : R (.returned (.tuple #[.agg #[.slice a1 n1 c1, .slice a2 n2 c2], x, y])) w) : bodyPost Try.prog fn R .ret a w := by
  refine bodyPost_ret (v := .tuple #[.agg #[.slice a1 n1 c1, .slice a2 n2 c2], x, y]) ?_ hd hR
  rw [results_cell2 h, ht, hu, hv]
  simp [asAddr, run_loadVar_row (P := Try.prog) w g T 32 #[.slice a1 n1 c1, .slice a2 n2 c2] (0, 0) _ hb Try.underlying32 rfl (by kernel_rfl), Result.andThen]
/-- Lines that are of such bays. -/
def Fit (l : List By) (L : List Ln) : Prop := L.length = 2 * l.length ∧ ∀ (k : Nat) (x : Ln), L[k]? = some x → x.s = slotOf l k
theorem Fit.set {l : List By} {L : List Ln} (h : Fit l L) {k : Nat} {x y : Ln} (hx : L[k]? = some x) (hy : y.s = x.s) : Fit l (L.set k y) := by
  refine ⟨by rw [List.length_set]; exact h.1, fun i z hz => ?_⟩
  have hlt := (List.getElem?_eq_some_iff.1 hx).1
  by_cases e : i = k
  · subst e
    rw [List.getElem?_set_self hlt] at hz
    rw [← Option.some.inj hz, hy]
    exact h.2 i x hx
  · rw [List.getElem?_set_ne (fun e2 => e e2.symm)] at hz
    exact h.2 i z hz
/-- The document's bays. -/
def DB (W : World) (N : Nat → Prop) (la : Option Addr) (ln : Nat) (l : List By) (da : Option Addr) (dn dc : Nat) (L : List Ln) : Prop :=
  l.length = ln ∧ ByAt W la l ∧ dn ≤ dc ∧ Fit l L ∧ L.length = dn ∧ ∃ ds, LsAt W N da ds ∧ ds.map Dn.p = L.map Ln.p
theorem DB.under {W W' : World} {N : Nat → Prop} {la : Option Addr} {ln : Nat} {l : List By} {da : Option Addr} {dn dc : Nat} {L : List Ln} (h : DB W N la ln l da dn dc L) (hb : Below W.heap.size W W') : DB W' N la ln l da dn dc L := by
  obtain ⟨h1, h2, h3, h4, h5, ds, h6, h7⟩ := h
  exact ⟨h1, h2.under hb, h3, h4, h5, ds, h6.under hb, h7⟩
theorem DB.mono {W : World} {N N' : Nat → Prop} {la : Option Addr} {ln : Nat} {l : List By} {da : Option Addr} {dn dc : Nat} {L : List Ln} (h : DB W N la ln l da dn dc L) (hk : ∀ g, N g → g < W.heap.size → N' g) : DB W N' la ln l da dn dc L := by
  obtain ⟨h1, h2, h3, h4, h5, ds, h6, h7⟩ := h
  exact ⟨h1, h2, h3, h4, h5, ds, h6.mono hk, h7⟩
/-- The document's bays stored as a result. -/
theorem db_ret {w Z : World} {N : Nat → Prop} {la : Option Addr} {ln lc : Nat} {l : List By} {G : Nat} (hbZ : Below w.heap.size w Z) (hGw : w.heap.size ≤ G) (hZ : Z.heap.size = G + 1) (hG : ∀ W, Below Z.heap.size Z W → W.heap[G]? = some (.cells #[.slice none 0 0, .slice none 0 0] 32 (0, 0))) (hl : l.length = ln) (hby : ByAt w la l)
    {W : World} (hW : Below Z.heap.size Z W) {a' : Option Addr} {dn c' : Nat} {L' : List Ln} (hdc : dn ≤ c') (hfit : Fit l L') (hlen : L'.length = dn) {ds' : List Dn} (hls : LsAt W (fun q => (N q ∧ q < w.heap.size) ∨ Z.heap.size ≤ q) a' ds') (hp : ds'.map Dn.p = L'.map Ln.p) :
    ((W.setCell ⟨G, 0, none⟩ (.slice la ln lc)).setCell ⟨G, 1, none⟩ (.slice a' dn c')).heap[G]? = some (.cells #[.slice la ln lc, .slice a' dn c'] 32 (0, 0)) ∧ DB ((W.setCell ⟨G, 0, none⟩ (.slice la ln lc)).setCell ⟨G, 1, none⟩ (.slice a' dn c')) (fun q => N q ∨ w.heap.size ≤ q) la ln l a' dn c' L' ∧ Below w.heap.size w ((W.setCell ⟨G, 0, none⟩ (.slice la ln lc)).setCell ⟨G, 1, none⟩ (.slice a' dn c')) := by
  have k1 := heap_setCell_same W G 0 _ _ (.slice la ln lc) (hG W hW)
  have k2 := heap_setCell_same _ G 1 _ _ (.slice a' dn c') k1
  have hne : ∀ q, q ≠ G → ((W.setCell ⟨G, 0, none⟩ (.slice la ln lc)).setCell ⟨G, 1, none⟩ (.slice a' dn c')).heap[q]? = W.heap[q]? := fun q hq => (heap_setCell_other _ ⟨G, 1, none⟩ q _ (fun e => hq e)).trans (heap_setCell_other _ ⟨G, 0, none⟩ q _ (fun e => hq e))
  have hb : Below w.heap.size w ((W.setCell ⟨G, 0, none⟩ (.slice la ln lc)).setCell ⟨G, 1, none⟩ (.slice a' dn c')) := ((below_then hbZ hW).setCell (p := ⟨G, 0, none⟩) hGw _).setCell (p := ⟨G, 1, none⟩) hGw _
  refine ⟨k2, ⟨hl, hby.under hb, hdc, hfit, hlen, ds', ?_, hp⟩, hb⟩
  have hbs := hbZ.size
  refine (hls.keep (by simp [World.setCell]) fun q hq _ => hne q ?_).mono fun q hq _ => ?_
  · rcases hq with ⟨_, h6⟩ | h6
    · omega
    · omega
  · rcases hq with ⟨h6, _⟩ | h6
    · exact .inl h6
    · exact .inr (by omega)
def DEnd (w : World) (N : Nat → Prop) (la : Option Addr) (ln lc : Nat) (l : List By) (U dn : Nat) (W : World) (a' : Option Addr) (c' : Nat) (L' : List Ln) : Prop :=
  ((W.setCell ⟨U + 1, 0, none⟩ (.slice la ln lc)).setCell ⟨U + 1, 1, none⟩ (.slice a' dn c')).heap[U + 1]? = some (.cells #[.slice la ln lc, .slice a' dn c'] 32 (0, 0)) ∧ DB ((W.setCell ⟨U + 1, 0, none⟩ (.slice la ln lc)).setCell ⟨U + 1, 1, none⟩ (.slice a' dn c')) (fun q => N q ∨ w.heap.size ≤ q) la ln l a' dn c' L' ∧ Below w.heap.size w ((W.setCell ⟨U + 1, 0, none⟩ (.slice la ln lc)).setCell ⟨U + 1, 1, none⟩ (.slice a' dn c'))
/-- append(nil, l...) of numbers. -/
theorem ks_all (w : World) (a : Option Addr) (n c : Nat) (l : List Int) (hl : l.length = n) (hs : IRow w a l) (hn : n ≤ 1000) : ∃ a' c' w', (Builtin.append_ #[52, 52] 52 #[.slice none 0 0, .slice a n c]).run Try.prog w = .ok (.slice a' n c') w' ∧ KS w' w.heap.size (.slice a' n c') l ∧ Below w.heap.size w w' := by
  obtain ⟨i, hi, hz, hsz, hb⟩ := info1
  obtain ⟨v', w', hr, h2, h3⟩ := app_any (P := Try.prog) (t := 52) (e := 3) (i := i) w w.heap.size 52 (.int .i64 0) 1 8 Try.underlying52 hi hz hsz hb rfl (by omega) (.slice none 0 0) 0 [] (World.ownsRow_nil _ _ _ _) a n c (l.map (Value.int .i64)) (by rw [List.length_map, hl, Nat.mul_one]) (fun j u hj => by
    rw [List.getElem?_map] at hj
    cases hlj : l[j]? with
    | none => rw [hlj] at hj; cases hj
    | some y =>
      rw [hlj] at hj
      have e : Value.int .i64 y = u := by simpa using hj
      obtain ⟨g, off, ea, hg, hc⟩ := hs j y hlj
      refine ⟨_, ea, ?_⟩
      rw [addr_add, ← e]
      exact hc) (fun u hu => by
    obtain ⟨y, _, rfl⟩ := List.mem_map.1 hu
    rfl) (by unfold maxLen; omega) (by omega) (Nat.le_refl _)
  rw [List.nil_append, Nat.zero_add, ← hl] at h2
  obtain ⟨a', c', e, _⟩ := (show KS w' w.heap.size v' l from h2).at
  subst e
  rw [hl] at hr h2
  exact ⟨a', c', w', hr, by show World.ownsRow _ _ _ _ _ _ _; rw [hl]; exact h2, (Below.refl _ w).grown h3 (Nat.le_refl _) (fun q hq => by simp [Value.ownBlock] at hq)⟩
/-- Such bays in a frame: their box, the result's block, both at any world behind. -/
theorem open_db (w : World) (la : Option Addr) (ln lc : Nat) (da : Option Addr) (dn dc : Nat) : ∃ U Y Z, w.heap.size = U ∧ w.alloc (.cells #[.slice la ln lc, .slice da dn dc] 32) = Y ∧ Y.alloc (.cells #[.slice none 0 0, .slice none 0 0] 32) = Z ∧ Y.heap.size = U + 1 ∧
    Hid (Below w.heap.size w Z ∧ w.heap.size ≤ U + 1 ∧ Z.heap.size = U + 1 + 1 ∧ (∀ W, Below Z.heap.size Z W → W.heap[U + 1]? = some (.cells #[.slice none 0 0, .slice none 0 0] 32 (0, 0)))) ∧
    Hid (∀ W, Below Z.heap.size Z W → (W.cell? ⟨U, 0, none⟩ = some (.slice la ln lc) ∧ W.cell? ⟨U, 1, none⟩ = some (.slice da dn dc)) ∧ (W.cell? ⟨U + 1, 0, none⟩ = some (.slice none 0 0) ∧ W.cell? ⟨U + 1, 1, none⟩ = some (.slice none 0 0)) ∧ W.frozen? ⟨U + 1, 0, none⟩ = false ∧ W.frozen? ⟨U + 1, 1, none⟩ = false) := by
  obtain ⟨U, Y, hU, hY, HY⟩ := box_b w la ln lc da dn dc
  obtain ⟨G, Z, hG, hZ, HZ⟩ := zero_b Y
  obtain rfl : G = U + 1 := by rw [← hG, ← hY, ← hU]; simp
  refine ⟨U, Y, Z, hU, hY, hZ, hG, Lib.hid ⟨below_then HY.out.1 HZ.out.1, by omega, HZ.out.2.1, HZ.out.2.2⟩, Lib.hid fun W hW => ?_⟩
  have h1 := HY.out.2.2 W (below_then HZ.out.1 hW)
  have h2 := HZ.out.2.2 W hW
  exact ⟨h1, ⟨cell_block (j := 0) h2 rfl, cell_block (j := 1) h2 rfl⟩, free_block 0 h2, free_block 1 h2⟩
theorem side_line {l : List By} {L : List Ln} (h : Fit l L) {ln : Nat} (hl : l.length = ln) (b s : Int) : (Side L b s ∧ lineE ln b s = (kk b s : Nat)) ∨ (¬ Side L b s ∧ lineE ln b s = -1) := by
  have e : L.length / 2 = ln := by have := h.1; omega
  unfold Side lineE
  rw [e]
  by_cases c : (1 ≤ b ∧ b ≤ (ln : Int)) ∧ 0 ≤ s ∧ s ≤ 1
  · refine .inl ⟨c, ?_⟩
    rw [if_pos c]
    unfold kk
    omega
  · exact .inr ⟨c, if_neg c⟩
set_option maxRecDepth 100000 in
set_option maxHeartbeats 2000000 in
theorem dask_im {N : Nat → Prop} (la : Option Addr) (ln lc : Nat) (l : List By) (da : Option Addr) (dn dc : Nat) (L : List Ln) (b s j : Int) (w : World) (h : DB w N la ln l da dn dc L) (hg : Good L) :
    Calls Try.prog 27 #[bV la ln lc da dn dc, .int .i64 b, .int .i64 s, .int .i64 j] w fun e w' => ∃ a' c', e = .returned (.tuple #[bV la ln lc a' dn c', .bool (ask L b s j).2.1, .int .i64 (ask L b s j).2.2]) ∧ Hid (DB w' (fun q => N q ∨ w.heap.size ≤ q) la ln l a' dn c' (ask L b s j).1 ∧ Below w.heap.size w w') := by
  obtain ⟨U, Y, Z, hU, hY, hZ, hYU, HZ, HG⟩ := open_db w la ln lc da dn dc
  obtain ⟨hl, hby, hdc, hfit, hlen, ds, hls, hp⟩ := h
  have hdl : ds.length = dn := (pair_len hp).trans hlen
  have hfew := hg.few
  have hln : ln ≤ 8 := by have := hfit.1; omega
  have hrow : ∀ x ∈ ds, x.r.length ≤ 1000 ∧ x.q.length ≤ 1000 := fun x hx => by
    obtain ⟨i, hi, rfl⟩ := List.getElem_of_mem hx
    obtain ⟨y, hy, e1, e2⟩ := pair_at hp (List.getElem?_eq_getElem hi)
    have o := hg.ok i y hy
    have h1 := o.room
    have h2 := o.s8
    have h3 := o.q8
    rw [← e1, ← e2]
    omega
  have hls0 : LsAt w (fun q => (N q ∧ q < w.heap.size) ∨ Z.heap.size ≤ q) da ds := hls.mono fun q hq hlt => .inl ⟨hq, hlt⟩
  have HE : Hid (∀ W a' c' L' ds', Below Z.heap.size Z W → dn ≤ c' → Fit l L' → L'.length = dn → LsAt W (fun q => (N q ∧ q < w.heap.size) ∨ Z.heap.size ≤ q) a' ds' → ds'.map Dn.p = L'.map Ln.p →
      ((W.setCell ⟨U + 1, 0, none⟩ (.slice la ln lc)).setCell ⟨U + 1, 1, none⟩ (.slice a' dn c')).heap[U + 1]? = some (.cells #[.slice la ln lc, .slice a' dn c'] 32 (0, 0)) ∧ DB ((W.setCell ⟨U + 1, 0, none⟩ (.slice la ln lc)).setCell ⟨U + 1, 1, none⟩ (.slice a' dn c')) (fun q => N q ∨ w.heap.size ≤ q) la ln l a' dn c' L' ∧ Below w.heap.size w ((W.setCell ⟨U + 1, 0, none⟩ (.slice la ln lc)).setCell ⟨U + 1, 1, none⟩ (.slice a' dn c'))) := Lib.hid (fun W a' c' L' ds' hW h1 h2 h3 h4 h5 => db_ret HZ.out.1 HZ.out.2.1 HZ.out.2.2.1 HZ.out.2.2.2 hl hby hW h1 h2 h3 h4 h5)
  have HE0 : Hid (∀ W, Below Z.heap.size Z W → ((W.setCell ⟨U + 1, 0, none⟩ (.slice la ln lc)).setCell ⟨U + 1, 1, none⟩ (.slice da dn dc)).heap[U + 1]? = some (.cells #[.slice la ln lc, .slice da dn dc] 32 (0, 0)) ∧ DB ((W.setCell ⟨U + 1, 0, none⟩ (.slice la ln lc)).setCell ⟨U + 1, 1, none⟩ (.slice da dn dc)) (fun q => N q ∨ w.heap.size ≤ q) la ln l da dn dc L ∧ Below w.heap.size w ((W.setCell ⟨U + 1, 0, none⟩ (.slice la ln lc)).setCell ⟨U + 1, 1, none⟩ (.slice da dn dc))) := Lib.hid (fun W hW => HE.out W da dc L ds hW hdc hfit hlen ((hls0.under HZ.out.1).under hW) hp)
  have H1 := Lib.hid (dline_im la ln lc da dn dc b s Z (by omega))
  obtain ⟨⟨z0, z1⟩, ⟨z2, z3⟩, z4, z5⟩ := HG.out Z (Below.refl _ _)
  rcases side_line hfit hl b s with ⟨hs, hle⟩ | ⟨hs, hle⟩
  case inr =>
    rw [hle] at H1
    have e1 : ask L b s j = (L, false, 3) := by unfold ask; rw [if_pos hs]
    rw [e1]
    clear hl hby hdc hfit hlen hls hp hdl hfew hln hrow hls0 hs hle e1 hg
    go_enter Try.func27, Try.ntmps27
    go_wp2_with fail
    clear hY hZ hU hYU
    refine H1.out.mono ?_
    rintro e w1 ⟨rfl, hb⟩
    obtain ⟨⟨y0, y1⟩, ⟨y2, y3⟩, y4, y5⟩ := HG.out w1 hb
    have HR := Lib.hid (HE0.out w1 hb)
    clear hb
    go_wp2_with fail
    (try simp only [Exit.inBlock, Exit.then])
    exact ret_bays3 rfl rfl rfl rfl rfl HR.out.1 ⟨da, dc, rfl, Lib.hid HR.out.2⟩
  obtain ⟨k, hk⟩ : ∃ k, kk b s = k := ⟨_, rfl⟩
  have hkl : k < L.length := by rw [← hk]; exact (hg.side hs).1
  rw [hle, hk] at H1
  by_cases hj : Job j
  case neg =>
    have e1 : ask L b s j = (L, false, 1) := by unfold ask; rw [if_neg (fun h => h hs), if_pos hj]
    have hcase : decide (j < 1) = true ∨ (decide (j < 1) = false ∧ decide (1099511627776 < j) = true) := by
      simp only [decide_eq_true_eq, decide_eq_false_iff_not]
      unfold Job at hj
      omega
    rw [e1]
    clear hl hby hdc hfit hlen hls hp hdl hfew hln hrow hls0 hs hle e1 hg hj hk hkl
    rcases hcase with d1 | ⟨d1, d2⟩
    all_goals
      go_enter Try.func27, Try.ntmps27
      go_wp2_with fail
      clear hY hZ hU hYU
      refine H1.out.mono ?_
      rintro e w1 ⟨rfl, hb⟩
      obtain ⟨⟨y0, y1⟩, ⟨y2, y3⟩, y4, y5⟩ := HG.out w1 hb
      have HR := Lib.hid (HE0.out w1 hb)
      clear hb
      go_wp2_with fail
      (try simp only [Exit.inBlock, Exit.then])
      exact ret_bays3 rfl rfl rfl rfl rfl HR.out.1 ⟨da, dc, rfl, Lib.hid HR.out.2⟩
  have d1 : decide (j < 1) = false := decide_eq_false (by unfold Job at hj; omega)
  have d2 : decide (1099511627776 < j) = false := decide_eq_false (by unfold Job at hj; omega)
  have H2 : Hid (∀ W, Below Z.heap.size Z W → Calls Try.prog 41 #[bV la ln lc da dn dc, .int .i64 j] W fun e w' => e = .returned (.int .i64 (findE L j)) ∧ Below Z.heap.size Z w') := Lib.hid (fun W hW => (dfind_im la ln lc da dn dc ds L j W hdl ((hls.under HZ.out.1).under hW) hp (by omega) hrow).mono fun _ _ ⟨e, hb⟩ => ⟨e, below_then hW hb⟩)
  rcases fnd_len L j with hf | hf
  · have e1 : ask L b s j = (L, false, 9) := by unfold ask; rw [if_neg (fun h => h hs), if_neg (fun h => h hj), if_pos hf]
    have e2 : findE L j = (fnd L j : Nat) := by unfold findE; rw [if_pos hf]
    rw [e2] at H2
    rw [e1]
    obtain ⟨f, hff⟩ : ∃ f, fnd L j = f := ⟨_, rfl⟩
    rw [hff] at H2
    have hf0 : (0 : Int) ≤ (f : Int) := by omega
    clear hl hby hdc hfit hlen hls hp hdl hfew hln hrow hls0 hs hle e1 hg hj hk hkl hf e2 hff
    go_enter Try.func27, Try.ntmps27
    go_wp2_with fail
    clear hY hZ hU hYU
    refine H1.out.mono ?_
    rintro e w1 ⟨rfl, hb⟩
    obtain ⟨⟨y0, y1⟩, _⟩ := HG.out w1 hb
    have H3 := Lib.hid (H2.out w1 hb)
    clear hb H2
    go_wp2_with fail
    refine H3.out.mono ?_
    rintro e w2 ⟨rfl, hb⟩
    obtain ⟨⟨x0, x1⟩, ⟨x2, x3⟩, x4, x5⟩ := HG.out w2 hb
    have HR := Lib.hid (HE0.out w2 hb)
    clear hb H3
    go_wp2_with fail
    (try simp only [Exit.inBlock, Exit.then])
    exact ret_bays3 rfl rfl rfl rfl rfl HR.out.1 ⟨da, dc, rfl, Lib.hid HR.out.2⟩
  have hnf : ¬ fnd L j < L.length := by omega
  have e2 : findE L j = -1 := by unfold findE; rw [if_neg hnf]
  rw [e2] at H2
  -- the line
  obtain ⟨x, hx⟩ : ∃ x, ds[k]? = some x := ⟨_, List.getElem?_eq_getElem (by omega)⟩
  obtain ⟨y, hy, ey1, ey2⟩ := pair_at hp hx
  have o := hg.ok k y hy
  have hys : y.s = slotOf l k := hfit.2 k y hy
  have hask : ask L b s j = if (x.r.length : Int) < slotOf l k then (L.set k ⟨ins x.r j, x.q, slotOf l k⟩, true, 0) else if 0 < slotOf l k ∧ x.q.length < 8 then (L.set k ⟨x.r, x.q ++ [j], slotOf l k⟩, false, 0) else (L, false, 10) := by
    unfold ask
    rw [if_neg (fun h => h hs), if_neg (fun h => h hj), if_neg hnf, hk, hy]
    dsimp only
    rw [ey1, ey2, hys]
  obtain ⟨hxr, hxq⟩ := hrow x (List.mem_of_getElem? hx)
  obtain ⟨gd, offd, hda, -, -, -, -⟩ := hls.cells k x hx
  have HX : Hid (∀ W, Below Z.heap.size Z W → W.cell? ⟨gd, offd + k * 2, none⟩ = some (.slice x.ra x.r.length x.rc) ∧ W.cell? ⟨gd, offd + k * 2 + 1, none⟩ = some (.slice x.qa x.q.length x.qc)) := Lib.hid (fun W hW => by
    obtain ⟨g', off', e, _, _, h1, h2⟩ := ((hls.under HZ.out.1).under hW).cells k x hx
    rw [hda] at e
    cases e
    exact ⟨h1, h2⟩)
  have HXr : Hid (∀ W, Below Z.heap.size Z W → DnAt W (fun q => (N q ∧ q < w.heap.size) ∨ Z.heap.size ≤ q) x) := Lib.hid (fun W hW => (((hls0.under HZ.out.1).under hW).rows k x hx))
  obtain ⟨sl, hsl⟩ : ∃ sl, slotOf l k = sl := ⟨_, rfl⟩
  have H4 : Hid (∀ W, Below Z.heap.size Z W → Calls Try.prog 24 #[bV la ln lc da dn dc, .int .i64 k] W fun e w' => e = .returned (.int .i64 sl) ∧ Hid (Below W.heap.size W w')) := Lib.hid (fun W hW => by
    rw [← hsl]
    exact (dslots_im la ln lc (.slice da dn dc) l k W hl ((hby.under HZ.out.1).under hW) (by have := hfit.1; omega) (by omega) da dn dc rfl).mono fun _ _ ⟨e, hb⟩ => ⟨e, Lib.hid hb⟩)
  have hs8 : 0 ≤ sl ∧ sl ≤ 8 := by rw [← hsl, ← hys]; exact ⟨o.s0, o.s8⟩
  have hkd : k < dn := by omega
  have hdn16 : dn ≤ 16 := by omega
  have HW : Hid (∀ W (yy : Dn) (v : Ln), Below Z.heap.size Z W → DnAt W (fun q => (N q ∧ q < w.heap.size) ∨ Z.heap.size ≤ q) yy → yy.p = v.p → v.s = y.s → Calls Try.prog 42 #[bV la ln lc da dn dc, .int .i64 k, .agg #[.slice yy.ra yy.r.length yy.rc, .slice yy.qa yy.q.length yy.qc]] W fun e w' => ∃ a' c', e = .returned (bV la ln lc a' dn c') ∧ Hid (Below W.heap.size W w') ∧ Hid (DEnd w N la ln lc l U dn w' a' c' (L.set k v))) := Lib.hid (fun W yy v hW hyy hyv hvs => by
    refine (dwith_im la ln lc da dn dc ds k yy W hdl hdc ((hls0.under HZ.out.1).under hW) hyy hkd (by omega)).mono ?_
    rintro e w' ⟨a', c', rfl, H⟩
    obtain ⟨g1, g2, g3⟩ := H.out
    have hB := below_then hW g2
    refine ⟨a', c', rfl, Lib.hid g2, Lib.hid (HE.out w' a' c' (L.set k v) (ds.set k yy) hB g3 (hfit.set hy hvs) (by rw [List.length_set]; exact hlen) (g1.mono fun q hq _ => ?_) ?_)⟩
    · rcases hq with hq | hq
      · exact hq
      · exact .inr (Nat.le_trans hW.size hq)
    · rw [List.map_set, List.map_set, hp, hyv])
  subst hda
  rw [hask, hsl]
  rw [hsl] at hys
  obtain ⟨rn, hrn⟩ : ∃ rn, x.r.length = rn := ⟨_, rfl⟩
  obtain ⟨qn, hqn⟩ : ∃ qn, x.q.length = qn := ⟨_, rfl⟩
  have hk0 : (0 : Int) ≤ (k : Int) := by omega
  have hkdi : (k : Int) < (dn : Int) := by omega
  have hkn : ¬ ((k : Int) < 0) := by omega
  have HBX : Hid (∀ W, Below Z.heap.size Z W → ∃ V X, W.heap.size = V ∧ W.alloc (.cells #[.slice x.ra rn x.rc, .slice x.qa qn x.qc] 54) = X ∧ Hid (Below Z.heap.size Z X ∧ V ≠ U + 1 ∧ ∀ V2, Below X.heap.size X V2 → V2.cell? ⟨V, 0, none⟩ = some (.slice x.ra rn x.rc) ∧ V2.cell? ⟨V, 1, none⟩ = some (.slice x.qa qn x.qc))) := Lib.hid (fun W hW => by
    obtain ⟨V, X, hV, hX, HX2⟩ := box_d W x
    rw [hrn, hqn] at hX HX2
    have := hW.size
    have := HZ.out.2.2.1
    exact ⟨V, X, hV, hX, Lib.hid ⟨below_then hW HX2.out.1, by omega, HX2.out.2⟩⟩)
  rw [hrn, hqn] at HX
  by_cases hroom : (rn : Int) < sl
  · rw [hrn, if_pos hroom]
    have dlt : decide ((rn : Int) < sl) = true := decide_eq_true hroom
    have H5 : Hid (∀ W, Below Z.heap.size Z W → Calls Try.prog 43 #[.slice x.ra rn x.rc, .int .i64 j] W fun e w' => ∃ a1 c1, e = .returned (.slice a1 (rn + 1) c1) ∧ Hid (Below W.heap.size W w') ∧ Hid (Calls Try.prog 42 #[bV la ln lc (some ⟨gd, offd, none⟩) dn dc, .int .i64 k, .agg #[.slice a1 (rn + 1) c1, .slice x.qa qn x.qc]] w' fun e w2 => ∃ a' c', e = .returned (bV la ln lc a' dn c') ∧ Hid (Below w'.heap.size w' w2) ∧ Hid (DEnd w N la ln lc l U dn w2 a' c' (L.set k ⟨ins x.r j, x.q, sl⟩)))) := Lib.hid (fun W hW => by
      refine (dput_im x.ra rn x.rc x.r j W hrn (HXr.out W hW).1.irow (by omega)).mono ?_
      rintro e w' ⟨a1, c1, rfl, H⟩
      obtain ⟨g1, g2⟩ := H.out
      have hB := below_then hW g2
      refine ⟨a1, c1, rfl, Lib.hid g2, Lib.hid ?_⟩
      obtain ⟨a2, c2, e2, hN⟩ := nrow_ks (N := fun q => (N q ∧ q < w.heap.size) ∨ Z.heap.size ≤ q) g1 (fun q hq => .inr (Nat.le_trans hW.size hq))
      have hin : (ins x.r j).length = rn + 1 := by rw [ins_length, hrn]
      rw [hin] at e2
      cases e2
      have := HW.out w' ⟨ins x.r j, a1, c1, x.q, x.qa, x.qc⟩ ⟨ins x.r j, x.q, sl⟩ hB ⟨hN, (HXr.out w' hB).2⟩ rfl hys.symm
      dsimp only at this
      rw [hin, hqn] at this
      exact this)
    clear hl hby hdc hfit hlen hls hp hdl hfew hln hrow hls0 hs hle hg hj hk hkl hf e2 hx hy ey1 ey2 o hys hask hxr hxq hsl hs8 hkd hdn16 hrn hqn HW HXr
    go_enter Try.func27, Try.ntmps27
    go_wp2_with fail
    clear hY hZ hU hYU
    refine H1.out.mono ?_
    rintro e w1 ⟨rfl, hb⟩
    obtain ⟨⟨y0, y1⟩, _⟩ := HG.out w1 hb
    have H3 := Lib.hid (H2.out w1 hb)
    clear hb H2
    go_wp2_with fail
    refine H3.out.mono ?_
    rintro e w2 ⟨rfl, hb⟩
    obtain ⟨⟨x0, x1⟩, _⟩ := HG.out w2 hb
    obtain ⟨l0, l1⟩ := HX.out w2 hb
    obtain ⟨V, X, hV, hX, HVX⟩ := HBX.out w2 hb
    have HB2 := Lib.hid HVX.out.1
    have HS : Hid (∀ W, Below X.heap.size X W → (W.cell? ⟨U, 0, none⟩ = some (.slice la ln lc) ∧ W.cell? ⟨U, 1, none⟩ = some (.slice (some ⟨gd, offd, none⟩) dn dc)) ∧ W.cell? ⟨V, 0, none⟩ = some (.slice x.ra rn x.rc) ∧ W.cell? ⟨V, 1, none⟩ = some (.slice x.qa qn x.qc)) := Lib.hid (fun W hW => ⟨(HG.out W (below_then HVX.out.1 hW)).1, HVX.out.2.2 W hW⟩)
    have HS2 : Hid (∀ (W : World) (v1 v2 : Value), Below X.heap.size X W → (((W.setCell ⟨U + 1, 0, none⟩ v1).setCell ⟨U + 1, 1, none⟩ v2).cell? ⟨U, 0, none⟩ = some (.slice la ln lc) ∧ ((W.setCell ⟨U + 1, 0, none⟩ v1).setCell ⟨U + 1, 1, none⟩ v2).cell? ⟨U, 1, none⟩ = some (.slice (some ⟨gd, offd, none⟩) dn dc)) ∧ ((W.setCell ⟨U + 1, 0, none⟩ v1).setCell ⟨U + 1, 1, none⟩ v2).cell? ⟨V, 0, none⟩ = some (.slice x.ra rn x.rc) ∧ ((W.setCell ⟨U + 1, 0, none⟩ v1).setCell ⟨U + 1, 1, none⟩ v2).cell? ⟨V, 1, none⟩ = some (.slice x.qa qn x.qc)) := Lib.hid (fun W v1 v2 hW => by
      obtain ⟨⟨h1, h2⟩, h3, h4⟩ := HS.out W hW
      have hk : ∀ q, q ≠ U + 1 → ((W.setCell ⟨U + 1, 0, none⟩ v1).setCell ⟨U + 1, 1, none⟩ v2).heap[q]? = W.heap[q]? := fun q hq => (heap_setCell_other _ ⟨U + 1, 1, none⟩ q _ (fun e => hq e)).trans (heap_setCell_other _ ⟨U + 1, 0, none⟩ q _ (fun e => hq e))
      have hU1 := hk U (by omega)
      have hV1 := hk V HVX.out.2.1
      exact ⟨⟨(World.cell?_of_block hU1).trans h1, (World.cell?_of_block hU1).trans h2⟩, (World.cell?_of_block hV1).trans h3, (World.cell?_of_block hV1).trans h4⟩)
    clear hb H3 HBX HX
    go_wp2_with fail
    clear hX hV
    have HX0 : Hid (Below X.heap.size X X.drew) := Lib.hid (Below.refl _ X).drew
    go_region_held3 (fun W => (W.cell? ⟨U, 0, none⟩ = some (.slice la ln lc) ∧ W.cell? ⟨U, 1, none⟩ = some (.slice (some ⟨gd, offd, none⟩) dn dc)) ∧ W.cell? ⟨V, 0, none⟩ = some (.slice x.ra rn x.rc) ∧ W.cell? ⟨V, 1, none⟩ = some (.slice x.qa qn x.qc))
      (first | with_reducible exact HS.out _ HX3.out | with_reducible exact HS.out _ HX0.out)
      (first | (go_at_call 24; (with_reducible refine (H4.out _ (below_then HB2.out HX0.out)).mono ?_); rintro e w3 ⟨rfl, HB3⟩; have HX3 := Lib.hid (below_then HX0.out HB3.out)))
    all_goals
      go_wp2_with fail
      have HX4 : Hid (Below X.heap.size X w3.drew) := Lib.hid (below_then HX3.out (Below.refl _ w3).drew)
      go_region_held3 (fun W => (W.cell? ⟨U, 0, none⟩ = some (.slice la ln lc) ∧ W.cell? ⟨U, 1, none⟩ = some (.slice (some ⟨gd, offd, none⟩) dn dc)) ∧ W.cell? ⟨V, 0, none⟩ = some (.slice x.ra rn x.rc) ∧ W.cell? ⟨V, 1, none⟩ = some (.slice x.qa qn x.qc))
        (first | with_reducible exact HS.out _ HX6.out | with_reducible exact HS.out _ HX5.out | with_reducible exact HS.out _ HX4.out | exact HS2.out _ _ _ HX6.out)
        (first
          | (go_at_call 42; (with_reducible refine HW5.out.mono ?_); rintro e w6 ⟨a', c', rfl, HB6, HE6⟩; have HX6 := Lib.hid (below_then HX5.out HB6.out); obtain ⟨_, ⟨r0, r1⟩, r2, r3⟩ := HG.out w6 (below_then HB2.out HX6.out))
          | (go_at_call 43; (with_reducible refine (H5.out _ (below_then HB2.out HX4.out)).mono ?_); rintro e w5 ⟨a1, c1, rfl, HB5, HW5⟩; have HX5 := Lib.hid (below_then HX4.out HB5.out)))
      all_goals
        go_wp2_with fail
        exact ret_bays3 rfl rfl rfl rfl rfl HE6.out.1 ⟨a', c', rfl, Lib.hid HE6.out.2⟩
  have dlt : decide ((rn : Int) < sl) = false := decide_eq_false hroom
  rw [hrn, if_neg hroom]
  obtain ⟨⟨L', r, er⟩, ht⟩ : ∃ t : List Ln × Bool × Int, (if 0 < sl ∧ x.q.length < 8 then (L.set k ⟨x.r, x.q ++ [j], sl⟩, false, 0) else (L, false, 10)) = t := ⟨_, rfl⟩
  rw [ht]
  have HD : Hid ((sl = 0 ∧ L' = L ∧ r = false ∧ er = 10) ∨ ((sl == 0) = false ∧ ((8 : Int) ≤ (qn : Int)) ∧ L' = L ∧ r = false ∧ er = 10) ∨ ((sl == 0) = false ∧ ¬ ((8 : Int) ≤ (qn : Int)) ∧ L' = L.set k ⟨x.r, x.q ++ [j], sl⟩ ∧ r = false ∧ er = 0)) := Lib.hid (by
    rw [hqn] at ht
    by_cases h0 : sl = 0
    · rw [if_neg (by omega)] at ht
      cases ht
      exact .inl ⟨h0, rfl, rfl, rfl⟩
    · have h1 : (sl == 0) = false := beq_eq_false_iff_ne.2 h0
      by_cases h2 : qn < 8
      · rw [if_pos ⟨by omega, h2⟩] at ht
        cases ht
        exact .inr (.inr ⟨h1, by omega, rfl, rfl, rfl⟩)
      · rw [if_neg (fun h => h2 h.2)] at ht
        cases ht
        exact .inr (.inl ⟨h1, by omega, rfl, rfl, rfl⟩))
  -- the row that waits
  have H5 : Hid (∀ W, Below Z.heap.size Z W → qn ≤ 1000 → ∃ a1 c1 W1 a2 c2 W2, Hid ((Builtin.append_ #[52, 52] 52 #[.slice none 0 0, .slice x.qa qn x.qc]).run Try.prog W = .ok (.slice a1 qn c1) W1) ∧
      Hid ((Builtin.append_ #[52, 52] 52 #[.slice a1 qn c1, .slice (some ⟨W1.heap.size, 0, none⟩) 1 1]).run Try.prog (W1.alloc (.cells #[.int .i64 j] 3)) = .ok (.slice a2 (qn + 1) c2) W2) ∧ Hid (Below W.heap.size W W1) ∧ Hid (Below W.heap.size W W2) ∧
      Hid (Calls Try.prog 42 #[bV la ln lc (some ⟨gd, offd, none⟩) dn dc, .int .i64 k, .agg #[.slice x.ra rn x.rc, .slice a2 (qn + 1) c2]] W2 fun e w2 => ∃ a' c', e = .returned (bV la ln lc a' dn c') ∧ Hid (Below W2.heap.size W2 w2) ∧ Hid (DEnd w N la ln lc l U dn w2 a' c' (L.set k ⟨x.r, x.q ++ [j], sl⟩)))) := Lib.hid (fun W hW hq1 => by
    obtain ⟨a1, c1, W1, hr1, g1, b1⟩ := ks_all W x.qa qn x.qc x.q hqn (HXr.out W hW).2.irow hq1
    obtain ⟨a2, c2, W2, hr2, g2, b2⟩ := ks_app W1 j g1 (by omega) b1.size
    have hB1 := below_then hW b1
    have hB2' : Below W.heap.size W W2 := b1.trans b2
    have hB2 := below_then hW hB2'
    refine ⟨a1, c1, W1, a2, c2, W2, Lib.hid hr1, Lib.hid hr2, Lib.hid b1, Lib.hid hB2', Lib.hid ?_⟩
    obtain ⟨a3, c3, e3, hN⟩ := nrow_ks (N := fun q => (N q ∧ q < w.heap.size) ∨ Z.heap.size ≤ q) g2 (fun q hq => .inr (Nat.le_trans hW.size hq))
    have hin : (x.q ++ [j]).length = qn + 1 := by simp [hqn]
    rw [hin] at e3
    cases e3
    have := HW.out W2 ⟨x.r, x.ra, x.rc, x.q ++ [j], a2, c2⟩ ⟨x.r, x.q ++ [j], sl⟩ hB2 ⟨(HXr.out W2 hB2).1, hN⟩ rfl hys.symm
    dsimp only at this
    rw [hin, hrn] at this
    exact this)
  have hqn1000 : qn ≤ 1000 := by omega
  clear hl hby hdc hfit hlen hls hp hdl hfew hln hrow hls0 hs hle hg hj hk hkl hf e2 hx hy ey1 ey2 o hys hask hxr hxq hsl hs8 hkd hdn16 hrn hqn HW HXr ht hroom
  go_enter Try.func27, Try.ntmps27
  go_wp2_with fail
  clear hY hZ hU hYU
  refine H1.out.mono ?_
  rintro e w1 ⟨rfl, hb⟩
  obtain ⟨⟨y0, y1⟩, _⟩ := HG.out w1 hb
  have H3 := Lib.hid (H2.out w1 hb)
  clear hb H2
  go_wp2_with fail
  refine H3.out.mono ?_
  rintro e w2 ⟨rfl, hb⟩
  obtain ⟨⟨x0, x1⟩, _⟩ := HG.out w2 hb
  obtain ⟨l0, l1⟩ := HX.out w2 hb
  obtain ⟨V, X, hV, hX, HVX⟩ := HBX.out w2 hb
  have HB2 := Lib.hid HVX.out.1
  have HS : Hid (∀ W, Below X.heap.size X W → (W.cell? ⟨U, 0, none⟩ = some (.slice la ln lc) ∧ W.cell? ⟨U, 1, none⟩ = some (.slice (some ⟨gd, offd, none⟩) dn dc)) ∧ W.cell? ⟨V, 0, none⟩ = some (.slice x.ra rn x.rc) ∧ W.cell? ⟨V, 1, none⟩ = some (.slice x.qa qn x.qc)) := Lib.hid (fun W hW => ⟨(HG.out W (below_then HVX.out.1 hW)).1, HVX.out.2.2 W hW⟩)
  clear hb H3 HBX HX
  go_wp2_with fail
  clear hX hV
  have HX0 : Hid (Below X.heap.size X X.drew) := Lib.hid (Below.refl _ X).drew
  go_region_held3 (fun W => (W.cell? ⟨U, 0, none⟩ = some (.slice la ln lc) ∧ W.cell? ⟨U, 1, none⟩ = some (.slice (some ⟨gd, offd, none⟩) dn dc)) ∧ W.cell? ⟨V, 0, none⟩ = some (.slice x.ra rn x.rc) ∧ W.cell? ⟨V, 1, none⟩ = some (.slice x.qa qn x.qc))
    (first | with_reducible exact HS.out _ HX3.out | with_reducible exact HS.out _ HX0.out)
    (first | (go_at_call 24; (with_reducible refine (H4.out _ (below_then HB2.out HX0.out)).mono ?_); rintro e w3 ⟨rfl, HB3⟩; have HX3 := Lib.hid (below_then HX0.out HB3.out)))
  all_goals
    obtain ⟨⟨p0, p1⟩, p2, p3⟩ := HS.out w3 HX3.out
    have H6 := Lib.hid (H4.out w3 (below_then HB2.out HX3.out))
    clear H4
    rcases HD.out with ⟨hs0, rfl, rfl, rfl⟩ | ⟨d3, d4, rfl, rfl, rfl⟩ | ⟨d3, d4, rfl, rfl, rfl⟩
    · rw [hs0] at H6
      clear HD H5 hs0
      go_wp2_with fail
      refine H6.out.mono ?_
      rintro e w4 ⟨rfl, HB4⟩
      have HX4 := Lib.hid (below_then HX3.out HB4.out)
      obtain ⟨⟨q0, q1⟩, ⟨r0, r1⟩, r2, r3⟩ := HG.out w4 (below_then HB2.out HX4.out)
      have HR := Lib.hid (HE0.out w4 (below_then HB2.out HX4.out))
      go_wp2_with fail
      exact ret_bays3 rfl rfl rfl rfl rfl HR.out.1 ⟨_, dc, rfl, Lib.hid HR.out.2⟩
    · clear HD H5
      go_wp2_with fail
      refine H6.out.mono ?_
      rintro e w4 ⟨rfl, HB4⟩
      have HX4 := Lib.hid (below_then HX3.out HB4.out)
      obtain ⟨⟨q0, q1⟩, ⟨r0, r1⟩, r2, r3⟩ := HG.out w4 (below_then HB2.out HX4.out)
      obtain ⟨_, v0, v1⟩ := HS.out w4 HX4.out
      have HR := Lib.hid (HE0.out w4 (below_then HB2.out HX4.out))
      go_wp2_with fail
      exact ret_bays3 rfl rfl rfl rfl rfl HR.out.1 ⟨_, dc, rfl, Lib.hid HR.out.2⟩
    · clear HD
      go_wp2_with fail
      refine H6.out.mono ?_
      rintro e w4 ⟨rfl, HB4⟩
      have HX4 := Lib.hid (below_then HX3.out HB4.out)
      obtain ⟨⟨q0, q1⟩, v0, v1⟩ := HS.out w4 HX4.out
      obtain ⟨a1, c1, W1, a2, c2, W2, HR1, HR2, HB5, HB6, H7⟩ := H5.out w4 (below_then HB2.out HX4.out) hqn1000
      obtain ⟨⟨q2, q3⟩, v2, v3⟩ := HS.out W2 (below_then HX4.out HB6.out)
      have HX6 := Lib.hid (below_then HX4.out HB6.out)
      clear H5 H6
      go_wp2_with (first
        | (at_builtin; (with_reducible show wpList _ _ _ _ _ w4); refine walk_run (v' := .slice a1 qn c1) (w' := W1) rfl _ _ _ _ rfl _ _ rfl rfl HR1.out ?_)
        | (at_builtin; refine walk_run (v' := .slice a2 (qn + 1) c2) (w' := W2) rfl _ _ _ _ rfl _ _ rfl rfl HR2.out ?_))
      refine H7.out.mono ?_
      rintro e w7 ⟨a', c', rfl, HB7, HE7⟩
      obtain ⟨_, ⟨r0, r1⟩, r2, r3⟩ := HG.out w7 (below_then HB2.out (below_then HX6.out HB7.out))
      go_wp2_with fail
      exact ret_bays3 rfl rfl rfl rfl rfl HE7.out.1 ⟨a', c', rfl, Lib.hid HE7.out.2⟩
end Go.Proofs.Ytokkefokodcphaa.Bay
