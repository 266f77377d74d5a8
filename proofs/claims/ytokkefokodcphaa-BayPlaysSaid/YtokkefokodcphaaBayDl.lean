/- The document's New: its Load of lines of which none is. -/
import Derived.Test.YtokkefokodcphaaBayDk
import Derived.Laws.MakeOwn
namespace Go.Proofs.Ytokkefokodcphaa.Bay
open Go.RowKit Go.Lib IRows

def zp (n : Nat) : List Pr := List.replicate n ([], [])
theorem zp_at {n i : Nat} (h : i < n) : (zp n)[i]? = some ([], []) := by rw [zp, List.getElem?_replicate, if_pos h]
theorem docL_z (l : List By) (hm : MayB l) : ∀ (n k : Nat), k + n ≤ 2 * l.length → DocL l k [] (zp n)
  | 0, _, _ => trivial
  | n + 1, k, h => by
    refine ⟨⟨?_, by show 0 ≤ 8; omega, fun h => absurd rfl h, fun t x y hx => by simp at hx, newjobs_nil _, newjobs_nil _⟩, docL_z l hm n (k + 1) (by omega)⟩
    have h1 := List.getElem?_eq_getElem (l := l) (i := k / 2) (by omega)
    have h2 := hm.2 _ (List.mem_of_getElem? h1)
    show ((0 : Nat) : Int) ≤ slotOf l k
    unfold slotOf
    rw [h1]
    dsimp only
    split
    · exact h2.1.1
    · exact h2.2.1
theorem doc_z {l : List By} (hm : MayB l) : DocOk l (zp (2 * l.length)) := ⟨hm, by simp [zp], docL_z l hm _ 0 (by omega)⟩
theorem mkL_z (l : List By) : mkL l 0 (zp (2 * l.length)) = newL l := by
  apply List.ext_getElem?
  intro i
  have e1 : (mkL l 0 (zp (2 * l.length))).length = 2 * l.length := by rw [mkL_len]; simp [zp]
  have e2 := newL_len l
  by_cases hi : i < 2 * l.length
  · have h1 := List.getElem?_eq_getElem (l := mkL l 0 (zp (2 * l.length))) (i := i) (by omega)
    have h2 := List.getElem?_eq_getElem (l := newL l) (i := i) (by omega)
    have h3 := mkL_at l 0 _ _ _ h1
    rw [Nat.zero_add] at h3
    have h4 := mkL_p l 0 (zp (2 * l.length))
    have h5 : ((mkL l 0 (zp (2 * l.length)))[i]).p = ([], []) := by
      have h6 : ((mkL l 0 (zp (2 * l.length))).map Ln.p)[i]? = (zp (2 * l.length))[i]? := by rw [h4]
      rw [List.getElem?_map, h1, zp_at hi] at h6
      exact Option.some.inj h6
    obtain ⟨y, hy, h7⟩ := newL_at l i _ h2
    rw [h1, h2, h7]
    generalize (mkL l 0 (zp (2 * l.length)))[i] = z at h3 h5
    obtain ⟨r, q, s⟩ := z
    simp only [Ln.p, Prod.mk.injEq] at h5
    obtain ⟨rfl, rfl⟩ := h5
    have h3 : s = slotOf l i := h3
    rw [h3]
    unfold slotOf
    rw [hy]
  · rw [List.getElem?_eq_none (by omega), List.getElem?_eq_none (by omega)]
theorem info_line : (Try.prog.info? 54).map (fun i => (i.zero, i.size, i.bytes)) = some (some (.agg #[.slice none 0 0, .slice none 0 0]), 2, 48) := by kernel_rfl
theorem run_make_line (n : Nat) (hn : n ≤ 1048576) (w : World) : (Instr.makeSlice 23 (.int .i64 (n : Int)) (.int .i64 (n : Int))).run Try.prog w = .ok (.slice (some ⟨w.heap.size, 0, none⟩) n n) (w.alloc (.cells (madeCells #[.slice none 0 0, .slice none 0 0] (n * 2)) 54)) := by
  obtain ⟨i, hi, hzz⟩ := Option.map_eq_some_iff.1 info_line
  simp only [Prod.mk.injEq] at hzz
  obtain ⟨hz, hs, hb⟩ := hzz
  have hr := run_make (P := Try.prog) w 23 54 i _ Try.underlying23 hi hz .i64 .i64 n n (by omega) (Int.le_refl _) (by rw [hb]; omega) (by omega)
  simp only [Int.toNat_natCast, hs] at hr
  exact hr
theorem made_two (x y : Value) (n i : Nat) (h : i < n) : (madeCells #[x, y] (n * 2))[i * 2]? = some x ∧ (madeCells #[x, y] (n * 2))[i * 2 + 1]? = some y := by
  refine ⟨?_, ?_⟩
  · simp [madeCells, show i * 2 < n * 2 by omega]
  · have h2 : (i * 2 + 1) % 2 = 1 := by omega
    simp [madeCells, show i * 2 + 1 < n * 2 by omega, h2]
def zd (n : Nat) : List Dn := List.replicate n ⟨[], none, 0, [], none, 0⟩
theorem zd_p (n : Nat) : (zd n).map Dn.p = zp n := by simp [zd, zp, Dn.p]
/-- The lines that make makes. -/
theorem made_lines (w : World) (n : Nat) : ∃ S Y, w.heap.size = S ∧ w.alloc (.cells (madeCells #[.slice none 0 0, .slice none 0 0] (n * 2)) 54) = Y ∧ Hid (Below w.heap.size w Y ∧ LsAt Y (fun q => w.heap.size ≤ q) (some ⟨S, 0, none⟩) (zd n)) := by
  have hb := heap_alloc_new w (.cells (madeCells #[.slice none 0 0, .slice none 0 0] (n * 2)) 54)
  refine ⟨_, _, rfl, rfl, Lib.hid ⟨(Below.refl _ _).alloc (Nat.le_refl _) _, ⟨fun i x hx => ?_, fun i x hx => ?_⟩⟩⟩
  · have hi : i < n := by have := (List.getElem?_eq_some_iff.1 hx).1; simpa [zd] using this
    have hx2 : x = ⟨[], none, 0, [], none, 0⟩ := by
      rw [zd, List.getElem?_replicate, if_pos hi] at hx
      exact (Option.some.inj hx).symm
    subst hx2
    refine ⟨_, 0, rfl, Nat.le_refl _, (Array.getElem?_eq_some_iff.1 hb).1, ?_, ?_⟩
    · rw [Nat.zero_add]
      exact cell_block hb (made_two _ _ _ _ hi).1
    · rw [Nat.zero_add]
      exact cell_block hb (made_two _ _ _ _ hi).2
  · have hi : i < n := by have := (List.getElem?_eq_some_iff.1 hx).1; simpa [zd] using this
    have hx2 : x = ⟨[], none, 0, [], none, 0⟩ := by
      rw [zd, List.getElem?_replicate, if_pos hi] at hx
      exact (Option.some.inj hx).symm
    subst hx2
    exact ⟨nrow_nil _ _ _, nrow_nil _ _ _⟩
theorem dload_z {N : Nat → Prop} (la : Option Addr) (lc : Nat) (l : List By) (S m : Nat) (Y : World) (hby : ByAt Y la l) (h100 : l.length ≤ 100) (hm : m = 2 * l.length) (hM : MayB l) (hls : LsAt Y N (some ⟨S, 0, none⟩) (zd m)) :
    Calls Try.prog 10 #[.slice la l.length lc, .slice (some ⟨S, 0, none⟩) m m] Y fun e w' => ∃ da dc, e = .returned (.tuple #[bV la l.length lc da m dc, .int .i64 0]) ∧ Hid (DB w' (fun q => N q ∨ Y.heap.size ≤ q) la l.length l da m dc (newL l) ∧ Below Y.heap.size Y w') := by
  have hd : DocOk l ((zd m).map Dn.p) := by rw [zd_p, hm]; exact doc_z hM
  have hk : mkL l 0 ((zd m).map Dn.p) = newL l := by rw [zd_p, hm]; exact mkL_z l
  refine (dload_im la l.length lc l (some ⟨S, 0, none⟩) m m (zd m) Y rfl hby (by omega) (by rw [zd, List.length_replicate]) hls (by omega) (fun x hx => by
    have e := List.eq_of_mem_replicate hx
    rw [e]
    exact ⟨Nat.zero_le _, Nat.zero_le _⟩)).mono ?_
  rintro e w' (⟨_, da, dc, e1, H⟩ | ⟨HD, _⟩)
  · have h2 := H.out
    rw [hk] at h2
    exact ⟨da, dc, e1, Lib.hid h2⟩
  · exact absurd hd HD.out
set_option maxRecDepth 100000 in
set_option maxHeartbeats 1000000 in
theorem dnew_im (la : Option Addr) (ln lc : Nat) (l : List By) (w : World) (hl : l.length = ln) (hby : ByAt w la l) (hln : ln ≤ 100) :
    Calls Try.prog 12 #[.slice la ln lc] w fun e w' => (Hid (MayB l) ∧ ∃ da dc, e = .returned (.tuple #[bV la ln lc da (2 * ln) dc, .int .i64 0]) ∧ Hid (DB w' (fun q => w.heap.size ≤ q) la ln l da (2 * ln) dc (newL l) ∧ Below w.heap.size w w')) ∨
      (Hid (¬ MayB l) ∧ e = .returned (.tuple #[bV none 0 0 none 0 0, .int .i64 1]) ∧ Hid (Below w.heap.size w w')) := by
  obtain ⟨G, Z, hG, hZ, HZ⟩ := zero_b w
  have hgz := HZ.out.2.2 Z (Below.refl _ _)
  have hwG : w.heap.size ≤ G := by omega
  have HEZ : Hid (LEnd w Z G none 0 0 none 0 0) := Lib.hid (lend hgz HZ.out.1 hwG _ _ _ _ _ _)
  have H1 := Lib.hid (dmay_im la ln lc l Z hl (hby.under HZ.out.1) (by omega))
  by_cases hM : MayB l
  case neg =>
    have HN : Hid (¬ MayB l) := Lib.hid hM
    have H1' : Hid (Calls Try.prog 23 #[.slice la ln lc] Z fun e w' => e = .returned (.bool false) ∧ Z = w') := Lib.hid (H1.out.mono fun e w' ⟨he, hw⟩ => ⟨by rw [he]; simp [hM], hw⟩)
    have g0 := cell_block (j := 0) hgz rfl
    have g1 := cell_block (j := 1) hgz rfl
    have f0 := free_block 0 hgz
    have f1 := free_block 1 hgz
    clear hl hby hln hM hgz hwG H1
    go_enter Try.func12, Try.ntmps12
    go_wp2_with fail
    clear hZ hG
    refine H1'.out.mono ?_
    rintro e w' ⟨rfl, rfl⟩
    go_wp2_with fail
    exact ret_bays2 rfl rfl rfl rfl HEZ.out.1 (.inr ⟨HN, rfl, Lib.hid HEZ.out.2⟩)
  have HN : Hid (MayB l) := Lib.hid hM
  have H1' : Hid (Calls Try.prog 23 #[.slice la ln lc] Z fun e w' => e = .returned (.bool true) ∧ Z = w') := Lib.hid (H1.out.mono fun e w' ⟨he, hw⟩ => ⟨by rw [he]; simp [hM], hw⟩)
  obtain ⟨m, hm⟩ : ∃ m : Nat, 2 * ln = m := ⟨_, rfl⟩
  have w0 : IntKind.i64.wrap (2 * (ln : Int)) = (m : Int) := by rw [show (2 : Int) * (ln : Int) = (m : Int) by omega]; exact IntWalk.i64_in _ (by omega)
  have hmk := run_make_line m (by omega)
  obtain ⟨S, Y, hS, hY, HY⟩ := made_lines Z m
  have HLD : Hid (Calls Try.prog 10 #[.slice la ln lc, .slice (some ⟨S, 0, none⟩) m m] Y fun e w' => ∃ da dc, e = .returned (.tuple #[bV la ln lc da m dc, .int .i64 0]) ∧ Hid (DB w' (fun q => Z.heap.size ≤ q) la ln l da m dc (newL l) ∧ Below Z.heap.size Z w')) := Lib.hid (by
    subst hl
    refine (dload_z (N := fun q => Z.heap.size ≤ q) la lc l S m Y ((hby.under HZ.out.1).under HY.out.1) (by omega) (by omega) hM HY.out.2).mono ?_
    rintro e w' ⟨da, dc, e1, H⟩
    have hyz := HY.out.1.size
    exact ⟨da, dc, e1, Lib.hid ⟨H.out.1.mono fun q hq _ => by rcases hq with hq | hq <;> omega, below_then HY.out.1 H.out.2⟩⟩)
  have HEND : Hid (∀ (w2 : World) (da : Option Addr) (dc : Nat), DB w2 (fun q => Z.heap.size ≤ q) la ln l da m dc (newL l) → Below Z.heap.size Z w2 → w2.cell? ⟨G, 0, none⟩ = some (.slice none 0 0) ∧ w2.cell? ⟨G, 1, none⟩ = some (.slice none 0 0) ∧ w2.frozen? ⟨G, 0, none⟩ = false ∧ w2.frozen? ⟨G, 1, none⟩ = false ∧ Hid (((w2.setCell ⟨G, 0, none⟩ (.slice la ln lc)).setCell ⟨G, 1, none⟩ (.slice da m dc)).heap[G]? = some (.cells #[.slice la ln lc, .slice da m dc] 32 (0, 0)) ∧ DB ((w2.setCell ⟨G, 0, none⟩ (.slice la ln lc)).setCell ⟨G, 1, none⟩ (.slice da m dc)) (fun q => w.heap.size ≤ q) la ln l da m dc (newL l) ∧ Below w.heap.size w ((w2.setCell ⟨G, 0, none⟩ (.slice la ln lc)).setCell ⟨G, 1, none⟩ (.slice da m dc)))) := by
    apply Lib.hid
    intro w2 da dc hD hb
    have hg := HZ.out.2.2 w2 hb
    obtain ⟨d1, d2, d3, d4, d5, ds, d6, d7⟩ := hD
    have hr := db_ret (N := fun _ => False) (lc := lc) HZ.out.1 hwG HZ.out.2.1 HZ.out.2.2 d1 hby hb d3 d4 d5 (ds' := ds) (a' := da) (d6.mono fun q hq _ => .inr hq) d7
    refine ⟨cell_block (j := 0) hg rfl, cell_block (j := 1) hg rfl, free_block 0 hg, free_block 1 hg, Lib.hid ⟨hr.1, hr.2.1.mono fun q hq _ => ?_, hr.2.2⟩⟩
    rcases hq with hq | hq
    · exact hq.elim
    · exact hq
  rw [hm]
  clear hl hby hln hM hgz hwG H1 hm HY
  go_enter Try.func12, Try.ntmps12
  go_wp2_with fail
  clear hZ hG
  refine H1'.out.mono ?_
  rintro e w' ⟨rfl, rfl⟩
  go_wp2_with fail
  refine HLD.out.mono ?_
  rintro e w2 ⟨da, dc, rfl, H2⟩
  obtain ⟨g0, g1, f0, f1, hend⟩ := HEND.out w2 da dc H2.out.1 H2.out.2
  clear hmk hS hY HLD HEND H2
  go_wp2_with fail
  exact ret_bays2 rfl rfl rfl rfl hend.out.1 (.inl ⟨HN, da, dc, rfl, Lib.hid hend.out.2⟩)
end Go.Proofs.Ytokkefokodcphaa.Bay
