/- The document's with: one line another one. -/
import Derived.Test.YtokkefokodcphaaBayDc
import Derived.Test.YtokkefokodcphaaBayImQ
namespace Go.Proofs.Ytokkefokodcphaa.Bay
open Go.RowKit Go.Lib IRows

theorem DnAt.under {w w' : World} {N : Nat → Prop} {x : Dn} (h : DnAt w N x) (hb : Below w.heap.size w w') : DnAt w' N x := ⟨h.1.under hb, h.2.under hb⟩
theorem zero_b (w : World) : ∃ G Z, w.heap.size = G ∧ w.alloc (.cells #[.slice none 0 0, .slice none 0 0] 32) = Z ∧ Hid (Below w.heap.size w Z ∧ Z.heap.size = G + 1 ∧ ∀ W, Below Z.heap.size Z W → W.heap[G]? = some (.cells #[.slice none 0 0, .slice none 0 0] 32 (0, 0))) := by
  have hb := heap_alloc_new w (.cells #[.slice none 0 0, .slice none 0 0] 32)
  exact ⟨_, _, rfl, rfl, Lib.hid ⟨(Below.refl _ _).alloc (Nat.le_refl _) _, by simp, fun W hW => (hW.block _ (Array.getElem?_eq_some_iff.1 hb).1).trans hb⟩⟩
theorem set_cut {α : Type} : ∀ (l : List α) (k : Nat) (y : α), k < l.length → l.set k y = l.take k ++ [y] ++ l.drop (k + 1)
  | [], k, y, h => by simp at h
  | x :: l, 0, y, _ => by simp
  | x :: l, k + 1, y, h => by
    have := set_cut l k y (by simpa using h)
    simp only [List.set_cons_succ, List.take_succ_cons, List.drop_succ_cons, this, List.cons_append]
set_option maxRecDepth 100000 in
set_option maxHeartbeats 2000000 in
theorem dwith_im {N : Nat → Prop} (la : Option Addr) (ln lc : Nat) (da : Option Addr) (dn dc : Nat) (ds : List Dn) (k : Nat) (y : Dn) (w : World) (hl : ds.length = dn) (hdc : dn ≤ dc) (hd : LsAt w N da ds) (hy : DnAt w N y) (hk : k < dn) (hn : dn ≤ 100) :
    Calls Try.prog 42 #[bV la ln lc da dn dc, .int .i64 k, .agg #[.slice y.ra y.r.length y.rc, .slice y.qa y.q.length y.qc]] w fun e w' => ∃ a' c', e = .returned (bV la ln lc a' dn c') ∧ Hid (LsAt w' (fun g => N g ∨ w.heap.size ≤ g) a' (ds.set k y) ∧ Below w.heap.size w w' ∧ dn ≤ c') := by
  obtain ⟨i0, hi0, _⟩ := info_parts info_d
  obtain ⟨U, Y, hU, hY, HY⟩ := box_b w la ln lc da dn dc
  obtain ⟨V, X, hV, hX, HX⟩ := box_d Y y
  obtain ⟨G, Z, hG, hZ, HZ⟩ := zero_b X
  obtain rfl : V = U + 1 := by rw [← hV, ← hY, ← hU]; simp
  obtain rfl : G = U + 1 + 1 := by rw [← hG, ← hX, ← hV]; simp
  have hBX := below_then HY.out.1 HX.out.1
  have hBZ := below_then hBX HZ.out.1
  have HUat : Hid (∀ W, Below Z.heap.size Z W → W.cell? ⟨U, 0, none⟩ = some (.slice la ln lc) ∧ W.cell? ⟨U, 1, none⟩ = some (.slice da dn dc)) := Lib.hid (fun W hW => HY.out.2.2 W (below_then (below_then HX.out.1 HZ.out.1) hW))
  have HVat : Hid (∀ W, Below Z.heap.size Z W → W.cell? ⟨(U + 1), 0, none⟩ = some (.slice y.ra y.r.length y.rc) ∧ W.cell? ⟨(U + 1), 1, none⟩ = some (.slice y.qa y.q.length y.qc)) := Lib.hid (fun W hW => HX.out.2 W (below_then HZ.out.1 hW))
  obtain ⟨g, off, hda, hNg, hg, -, -⟩ := hd.cells 0 (ds[0]'(by omega)) (List.getElem?_eq_getElem (by omega))
  subst hda
  have hsrc : ∀ W, Below w.heap.size w W → ∀ (i : Nat) (x : Dn), ds[i]? = some x → W.cell? ⟨g, off + i * 2, none⟩ = some (.slice x.ra x.r.length x.rc) ∧ W.cell? ⟨g, off + i * 2 + 1, none⟩ = some (.slice x.qa x.q.length x.qc) := fun W hW i x hx => by
    obtain ⟨g', off', e, _, _, h1, h2⟩ := (hd.under hW).cells i x hx
    cases e
    exact ⟨h1, h2⟩
  -- the first lines
  obtain ⟨a1, c1, W1, hr1, o1, b1⟩ := dapp Z (B := Z.heap.size) (a := none) (m := 0) (c := 0) (xs := []) (ds.take k) (World.ownsRow_nil _ _ _ _) (some ⟨g, off, none⟩) k dc (by rw [List.length_take]; omega) (fun i x hx => by
    rw [List.getElem?_take] at hx
    split at hx
    · exact ⟨g, off, rfl, hsrc Z hBZ i x hx⟩
    · cases hx) (by omega) (Nat.le_refl _)
  rw [List.nil_append, Nat.zero_add] at o1
  rw [Nat.zero_add] at hr1
  -- the line
  have hal := (Below.refl Z.heap.size W1).alloc b1.size (.cells #[.slice y.ra y.r.length y.rc, .slice y.qa y.q.length y.qc] 54)
  have hnb := heap_alloc_new W1 (.cells #[.slice y.ra y.r.length y.rc, .slice y.qa y.q.length y.qc] 54)
  obtain ⟨a2, c2, W2, hr2, o2, b2⟩ := dapp (W1.alloc (.cells #[.slice y.ra y.r.length y.rc, .slice y.qa y.q.length y.qc] 54)) (B := Z.heap.size) [y] (o1.alloc _) (some ⟨W1.heap.size, 0, none⟩) 1 1 rfl (fun i x hx => by
    have h0 : i = 0 := by have := (List.getElem?_eq_some_iff.1 hx).1; simpa using this
    subst h0
    have : y = x := by simpa using hx
    subst this
    exact ⟨_, 0, rfl, cell_block (j := 0) hnb rfl, cell_block (j := 1) hnb rfl⟩) (by omega) (Nat.le_trans b1.size hal.size)
  have hB2 : Below Z.heap.size Z W2 := (b1.trans hal).trans b2
  -- the others
  obtain ⟨a3, c3, W3, hr3, o3, b3⟩ := dapp W2 (B := Z.heap.size) (ds.drop (k + 1)) o2 (atAddr (some ⟨g, off, none⟩) i0.size (k + 1) dc) (dn - (k + 1)) (dc - (k + 1)) (by rw [List.length_drop]; omega) (fun i x hx => by
    rw [List.getElem?_drop] at hx
    have hlt := (List.getElem?_eq_some_iff.1 hx).1
    have hsz : i0.size = 2 := by
      have h := info_d
      rw [hi0] at h
      simp at h
      exact h.2.1
    have e : atAddr (some ⟨g, off, none⟩) i0.size (k + 1) dc = some ⟨g, off + (k + 1) * 2, none⟩ := by
      unfold atAddr
      rw [if_neg (by omega), hsz]
      simp [Addr.add]
    have h2 := hsrc W2 (below_then hBZ hB2) _ x hx
    refine ⟨g, off + (k + 1) * 2, e, ?_, ?_⟩
    · rw [show off + (k + 1) * 2 + i * 2 = off + (k + 1 + i) * 2 by omega]; exact h2.1
    · rw [show off + (k + 1) * 2 + i * 2 + 1 = off + (k + 1 + i) * 2 + 1 by omega]; exact h2.2) (by omega) hB2.size
  have hB3 : Below Z.heap.size Z W3 := hB2.trans b3
  have e3 : k + 1 + (dn - (k + 1)) = dn := by omega
  rw [e3] at hr3 o3
  rw [← set_cut ds k y (by omega)] at o3
  have hsl1 : ∀ W, (Instr.slice 23 (.slice (some ⟨g, off, none⟩) dn dc) none (some (.int .i64 (k : Int))) none).run Try.prog W = .ok (.slice (some ⟨g, off, none⟩) k dc) W := fun W => run_take_any W g off dn dc k (by omega) i0 hi0
  have hsl2 : ∀ W, (Instr.slice 23 (.slice (some ⟨g, off, none⟩) dn dc) (some (.int .i64 ((k : Int) + 1))) none none).run Try.prog W = .ok (.slice (atAddr (some ⟨g, off, none⟩) i0.size (k + 1) dc) (dn - (k + 1)) (dc - (k + 1))) W := fun W => by
    have := run_rest (P := Try.prog) (t := 23) (e := 54) W (by kernel_rfl) (by kernel_rfl) hi0 rfl (some ⟨g, off, none⟩) dn dc (k + 1) (by omega)
    rwa [show ((k + 1 : Nat) : Int) = (k : Int) + 1 by omega] at this
  obtain ⟨a4, ha4⟩ : ∃ a4, atAddr (some ⟨g, off, none⟩) i0.size (k + 1) dc = a4 := ⟨_, rfl⟩
  rw [ha4] at hr3 hsl2
  have HR1 := Lib.hid hr1
  have HR2 := Lib.hid hr2
  have HR3 := Lib.hid hr3
  have hdc3 : dn ≤ c3 := by
    rcases o3.2 with ⟨hv, h0⟩ | ⟨_, cap, _, hv, _, _, hnc, _⟩
    · rw [List.length_set] at h0
      omega
    · injection hv with _ _ hv
      rw [List.length_set] at hnc
      omega
  have HEND : Hid (((W3.setCell ⟨(U + 1 + 1), 0, none⟩ (.slice la ln lc)).setCell ⟨(U + 1 + 1), 1, none⟩ (.slice a3 dn c3)).heap[(U + 1 + 1)]? = some (.cells #[.slice la ln lc, .slice a3 dn c3] 32 (0, 0)) ∧ LsAt ((W3.setCell ⟨(U + 1 + 1), 0, none⟩ (.slice la ln lc)).setCell ⟨(U + 1 + 1), 1, none⟩ (.slice a3 dn c3)) (fun g => N g ∨ w.heap.size ≤ g) a3 (ds.set k y) ∧ Below w.heap.size w ((W3.setCell ⟨(U + 1 + 1), 0, none⟩ (.slice la ln lc)).setCell ⟨(U + 1 + 1), 1, none⟩ (.slice a3 dn c3)) ∧ dn ≤ c3) := Lib.hid (by
    have hGb := HZ.out.2.2 W3 hB3
    have k1 := heap_setCell_same W3 (U + 1 + 1) 0 _ _ (.slice la ln lc) hGb
    have k2 := heap_setCell_same _ (U + 1 + 1) 1 _ _ (.slice a3 dn c3) k1
    have hwG : w.heap.size ≤ (U + 1 + 1) := by rw [← hG]; exact hBX.size
    have hne : ∀ q, q ≠ (U + 1 + 1) → ((W3.setCell ⟨(U + 1 + 1), 0, none⟩ (.slice la ln lc)).setCell ⟨(U + 1 + 1), 1, none⟩ (.slice a3 dn c3)).heap[q]? = W3.heap[q]? := fun q hq => (heap_setCell_other _ ⟨(U + 1 + 1), 1, none⟩ q _ (fun e => hq e)).trans (heap_setCell_other _ ⟨(U + 1 + 1), 0, none⟩ q _ (fun e => hq e))
    have hb : Below w.heap.size w W3 := below_then hBZ hB3
    refine ⟨k2, ?_, (hb.setCell (p := ⟨(U + 1 + 1), 0, none⟩) hwG _).setCell (p := ⟨(U + 1 + 1), 1, none⟩) hwG _, hdc3⟩
    have hrows : ∀ (i : Nat) (x : Dn), (ds.set k y)[i]? = some x → DnAt W3 (fun q => (N q ∧ q < w.heap.size) ∨ Z.heap.size ≤ q) x := fun i x hx => by
      have h0 : DnAt w N x := by
        by_cases e : i = k
        · subst e
          rw [List.getElem?_set_self (by omega)] at hx
          rw [← Option.some.inj hx]
          exact hy
        · rw [List.getElem?_set_ne (fun e2 => e e2.symm)] at hx
          exact hd.rows i x hx
      have h1 : DnAt w (fun q => (N q ∧ q < w.heap.size) ∨ Z.heap.size ≤ q) x := ⟨h0.1.mono fun q hq hl => .inl ⟨hq, hl⟩, h0.2.mono fun q hq hl => .inl ⟨hq, hl⟩⟩
      exact h1.under hb
    obtain ⟨a5, c5, e5, h5⟩ := ls_own (N := fun q => (N q ∧ q < w.heap.size) ∨ Z.heap.size ≤ q) o3 (fun q hq => .inr hq) hrows
    cases e5
    have hZG := HZ.out.2.1
    refine (h5.keep (by simp [World.setCell]) fun q hq _ => hne q ?_).mono fun q hq _ => ?_
    · rcases hq with ⟨_, h6⟩ | h6
      · omega
      · omega
    · rcases hq with ⟨h6, _⟩ | h6
      · exact .inl h6
      · exact .inr (by omega))
  obtain ⟨u0, u1⟩ := HUat.out Z (Below.refl _ _)
  obtain ⟨u2, u3⟩ := HUat.out W2 hB2
  obtain ⟨u4, u5⟩ := HUat.out W3 hB3
  obtain ⟨v0, v1⟩ := HVat.out W1 b1
  have hGb := HZ.out.2.2 W3 hB3
  have g0 := cell_block (j := 0) hGb rfl
  have g1 := cell_block (j := 1) hGb rfl
  have f0 := free_block 0 hGb
  have f1 := free_block 1 hGb
  have w1 : IntKind.i64.wrap ((k : Int) + 1) = (k : Int) + 1 := IntWalk.i64_in _ (by omega)
  clear hGb hr1 hr2 hr3 o1 o2 o3 b1 b2 b3 hal hnb hB2 hB3 hsrc hl hd hy hk hn hdc hNg hg e3 ha4 hi0 HUat HVat hdc3
  go_enter Try.func42, Try.ntmps42
  go_wp2_with (first
    | (at_builtin; (with_reducible show wpList _ _ _ _ _ Z); refine walk_run (v' := .slice a1 k c1) (w' := W1) rfl _ _ _ _ rfl _ _ rfl rfl HR1.out ?_)
    | (at_builtin; (with_reducible show wpList _ _ _ _ _ W2); refine walk_run (v' := .slice a3 dn c3) (w' := W3) rfl _ _ _ _ rfl _ _ rfl rfl HR3.out ?_)
    | (at_builtin; refine walk_run (v' := .slice a2 (k + 1) c2) (w' := W2) rfl _ _ _ _ rfl _ _ rfl rfl HR2.out ?_))
  exact ret_bays rfl rfl rfl HEND.out.1 ⟨a3, c3, rfl, Lib.hid HEND.out.2⟩
end Go.Proofs.Ytokkefokodcphaa.Bay
