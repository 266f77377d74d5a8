/- New bays; bays cloned. -/
import Derived.Test.YtokkefokodcphaaBayImM
namespace Go.Proofs.Ytokkefokodcphaa.Bay
open Go.RowKit Go.Lib IRows

structure By where
  pl : Int
  mf : Int
  lb : Int
  rt : Int
/-- Bays that lie somewhere. -/
def ByAt (w : World) (a : Option Addr) (l : List By) : Prop := ∀ (i : Nat) (y : By), l[i]? = some y → ∃ g off, a = some ⟨g, off, none⟩ ∧ g < w.heap.size ∧ w.cell? ⟨g, off + i * 4, none⟩ = some (.int .i64 y.pl) ∧ w.cell? ⟨g, off + i * 4 + 1, none⟩ = some (.int .i64 y.mf) ∧ w.cell? ⟨g, off + i * 4 + 2, none⟩ = some (.int .i64 y.lb) ∧ w.cell? ⟨g, off + i * 4 + 3, none⟩ = some (.int .i64 y.rt)
theorem ByAt.under {w w' : World} {a : Option Addr} {l : List By} (h : ByAt w a l) (hb : Below w.heap.size w w') : ByAt w' a l := fun i y hy => by
  obtain ⟨g, off, e, hg, h0, h1, h2, h3⟩ := h i y hy
  exact ⟨g, off, e, Nat.lt_of_lt_of_le hg hb.size, ((bcell hb).1 g _ hg).trans h0, ((bcell hb).1 g _ hg).trans h1, ((bcell hb).1 g _ hg).trans h2, ((bcell hb).1 g _ hg).trans h3⟩
def OkBy (y : By) : Prop := (0 ≤ y.mf ∧ y.mf ≤ 8) ∧ 0 ≤ y.lb ∧ y.lb ≤ 8
def MayB (l : List By) : Prop := l.length ≤ 8 ∧ ∀ y ∈ l, OkBy y
def byX (y : By) : List XL := [⟨[], ⟨none, 0⟩, [], ⟨none, 0⟩, y.mf⟩, ⟨[], ⟨none, 0⟩, [], ⟨none, 0⟩, y.lb⟩]
def newX (l : List By) : List XL := l.flatMap byX
def byL (y : By) : List Ln := [⟨[], [], y.mf⟩, ⟨[], [], y.lb⟩]
def newL (l : List By) : List Ln := l.flatMap byL
theorem newX_pl (l : List By) : (newX l).map XL.pl = newL l := by
  induction l with
  | nil => rfl
  | cons y l ih => simp [newX, newL] at ih ⊢; rw [ih]; rfl
theorem newX_len : ∀ l : List By, (newX l).length = l.length * 2
  | [] => rfl
  | y :: l => by
    show (byX y ++ newX l).length = _
    rw [List.length_append, newX_len l]
    simp [byX]
    omega
theorem newX_more {l : List By} {i : Nat} {y : By} (h : l[i]? = some y) : newX (l.take (i + 1)) = newX (l.take i) ++ byX y := by
  rw [List.take_add_one, h]
  simp [newX]
theorem newL_at : ∀ (l : List By) (k : Nat) (x : Ln), (newL l)[k]? = some x → ∃ y, l[k / 2]? = some y ∧ x = ⟨[], [], if k % 2 = 0 then y.mf else y.lb⟩
  | [], k, x, h => by simp [newL] at h
  | y :: l, 0, x, h => ⟨y, rfl, by simpa [newL, byL] using h.symm⟩
  | y :: l, 1, x, h => ⟨y, rfl, by simpa [newL, byL] using h.symm⟩
  | y :: l, k + 2, x, h => by
    have h2 : (newL l)[k]? = some x := by simpa [newL, byL] using h
    obtain ⟨z, hz, hx⟩ := newL_at l k x h2
    refine ⟨z, ?_, ?_⟩
    · rw [show (k + 2) / 2 = k / 2 + 1 by omega]
      simpa using hz
    · rw [show (k + 2) % 2 = k % 2 by omega]
      exact hx
theorem good_new {l : List By} (h : MayB l) : Good (newL l) := by
  have hl : (newL l).length = l.length * 2 := by rw [← newX_pl, List.length_map, newX_len]
  refine ⟨fun k x hx => ?_, fun i k x y j hx _ hj _ => ?_, by omega, by have := h.1; omega⟩
  · obtain ⟨y, hy, rfl⟩ := newL_at l k x hx
    have ho := h.2 y (List.mem_of_getElem? hy)
    have hs : 0 ≤ (if k % 2 = 0 then y.mf else y.lb) ∧ (if k % 2 = 0 then y.mf else y.lb) ≤ 8 := by
      split
      · exact ho.1
      · exact ho.2
    exact ⟨List.Pairwise.nil, List.nodup_nil, fun j hj => (by cases hj), fun j hj => (by rcases has_iff.1 hj with hj | hj <;> cases hj), hs.1, hs.2, by show ((0 : Nat) : Int) ≤ _; exact hs.1, by show 0 ≤ 8; omega, fun hn => absurd rfl hn⟩
  · obtain ⟨z, _, rfl⟩ := newL_at l i x hx
    rcases has_iff.1 hj with hj | hj <;> cases hj
theorem newX_empty (y : By) : ∀ (i : Nat) (x : XL), (byX y)[i]? = some x → x.r = [] ∧ x.rm.c = 0 ∧ x.q = [] ∧ x.qm.c = 0 := fun i x hx => by
  have := List.mem_of_getElem? hx
  simp [byX] at this
  rcases this with rfl | rfl <;> exact ⟨rfl, rfl, rfl, rfl⟩
/-- A bay in a frame's block. -/
theorem box_by (w : World) (y : By) : ∃ U Y, w.heap.size = U ∧ w.alloc (.cells #[.int .i64 y.pl, .int .i64 y.mf, .int .i64 y.lb, .int .i64 y.rt] 46) = Y ∧ Y.cell? ⟨U, 1, none⟩ = some (.int .i64 y.mf) ∧ Y.cell? ⟨U, 2, none⟩ = some (.int .i64 y.lb) ∧ Hid (Below w.heap.size w Y) := by
  have hb := heap_alloc_new w (.cells #[.int .i64 y.pl, .int .i64 y.mf, .int .i64 y.lb, .int .i64 y.rt] 46)
  exact ⟨_, _, rfl, rfl, cell_block hb rfl, cell_block hb rfl, Lib.hid ((Below.refl _ _).alloc (Nat.le_refl _) _)⟩
/-- Two more lines, behind a draw. -/
theorem new_more {w wr Y : World} {Q : Nat} {a : Option Addr} {i c : Nat} {l : List By} {y : By} (h : PBN w wr Q (.slice a (i * 2) c) (newX (l.take i))) (hb : Below wr.heap.size wr Y) (hy : l[i]? = some y) (hi : i ≤ 100) :
    ∃ a' c' W', (Builtin.append_ #[56, 56] 56 #[.slice a (i * 2) c, .slice (some ⟨Y.heap.size, 0, none⟩) 2 2]).run Try.prog (Y.drew.alloc (.cells #[.slice none 0 0, .slice none 0 0, .int .i64 y.mf, .slice none 0 0, .slice none 0 0, .int .i64 y.lb] 73)) = .ok (.slice a' (i * 2 + 2) c') W' ∧
      W'.cell? ⟨Q, 1, none⟩ = some (.slice a (i * 2) c) ∧ W'.frozen? ⟨Q, 1, none⟩ = false ∧ PBN w (W'.setCell ⟨Q, 1, none⟩ (.slice a' (i * 2 + 2) c')) Q (.slice a' (i * 2 + 2) c') (newX (l.take (i + 1))) := by
  have hil := (List.getElem?_eq_some_iff.1 hy).1
  have hlen : (newX (l.take i)).length = i * 2 := by rw [newX_len, List.length_take]; omega
  have hal : Below wr.heap.size wr (Y.drew.alloc (.cells #[.slice none 0 0, .slice none 0 0, .int .i64 y.mf, .slice none 0 0, .slice none 0 0, .int .i64 y.lb] 73)) := below_then hb ((Below.refl _ Y).drew.alloc (Nat.le_refl _) _)
  have h1 := h.pb.under hal
  obtain ⟨v', W', hr, o2, g2, n2⟩ := app_xs _ 0 (.slice a (i * 2) c) (newX (l.take i)) (byX y) h1.own (some ⟨Y.heap.size, 0, none⟩) 2 2 rfl (fun j u hj => ⟨_, rfl, by
    rw [addr_add, Nat.zero_add]
    exact cell_block (heap_alloc_new Y.drew _) (by rw [← Array.getElem?_toList]; exact hj)⟩) (by rw [hlen]; simp [byX]; omega) (Nat.zero_le _)
  have hl2 : (newX (l.take i) ++ byX y).length = i * 2 + 2 := by rw [List.length_append, hlen]; rfl
  obtain ⟨a', c', e, _⟩ := row_x o2
  rw [hl2] at e
  subst e
  have hQ := (g2.block Q h1.mem.2.2 (fun e => h.pb.far e.symm)).trans h1.self
  refine ⟨a', c', W', hr, cell_block (j := 1) hQ rfl, free_block 1 hQ, ?_⟩
  rw [newX_more hy]
  exact h.add hal (rw_empty _ _ _ (newX_empty y)) o2 g2 n2
set_option maxRecDepth 100000 in
set_option maxHeartbeats 2000000 in
theorem new_im (a : Option Addr) (n c : Nat) (l : List By) (w : World) (hl : l.length = n) (hs : ByAt w a l) (hn : n ≤ 1000) :
    Calls Try.prog 11 #[.slice a n c] w fun e w' => (Hid (MayB l) ∧ ∃ Q, e = .returned (.tuple #[ptr Q, .int .i64 0]) ∧ Hid (∃ lv, PBN w w' Q lv (newX l))) ∨ (Hid (¬ MayB l) ∧ e = .returned (.tuple #[.pointer none, .int .i64 1]) ∧ Below w.heap.size w w') := by
  by_cases h8 : n ≤ 8
  case neg =>
    have HN : Hid (¬ MayB l) := Lib.hid (fun h => h8 (by rw [← hl]; exact h.1))
    have d1 : decide (8 < (n : Int)) = true := decide_eq_true (by omega)
    clear hl hs hn h8
    go_enter Try.func11, Try.ntmps11
    go_wp2_with fail
    go_ret2
    exact .inr ⟨HN, rfl, Below.refl _ _⟩
  have d1 : decide (8 < (n : Int)) = false := decide_eq_false (by omega)
  obtain ⟨Q, hQ⟩ : ∃ Q, w.heap.size = Q := ⟨_, rfl⟩
  obtain ⟨Z, hZ⟩ : ∃ Z, w.alloc (.cells #[.bool true, .slice none 0 0] 58) = Z := ⟨_, rfl⟩
  have H0 : Hid (PBN w Z Q (.slice none 0 0) []) := Lib.hid (by rw [← hZ, ← hQ]; exact pbn_new w)
  have HC : Hid (∀ W k, Below w.heap.size w W → k < n → ∃ g off y, a = some ⟨g, off, none⟩ ∧ Hid (l[k]? = some y) ∧ W.cell? ⟨g, off + k * 4, none⟩ = some (.int .i64 y.pl) ∧ W.cell? ⟨g, off + k * 4 + 1, none⟩ = some (.int .i64 y.mf) ∧ W.cell? ⟨g, off + k * 4 + 2, none⟩ = some (.int .i64 y.lb) ∧ W.cell? ⟨g, off + k * 4 + 3, none⟩ = some (.int .i64 y.rt)) := Lib.hid (fun W k hW hk => by
    have hy := List.getElem?_eq_getElem (l := l) (i := k) (by omega)
    obtain ⟨g, off, e, _, h0, h1, h2, h3⟩ := (hs.under hW) k _ hy
    exact ⟨g, off, _, e, Lib.hid hy, h0, h1, h2, h3⟩)
  have HT : Hid (l.take n = l ∧ l.length ≤ 8) := Lib.hid ⟨List.take_of_length_le (by omega), by omega⟩
  have HM : Hid (∀ y k, l[k]? = some y → ¬ OkBy y → ¬ MayB l) := Lib.hid (fun y k hy hn h => hn (h.2 y (List.mem_of_getElem? hy)))
  have hn1 : (n : Int) ≤ 8 := by omega
  clear hl hs hn h8
  go_enter Try.func11, Try.ntmps11
  go_wp2_with fail
  clear hZ
  (try rw [hQ])
  go_loopw [14] (fun s wr => ∃ (i : Nat) (la : Option Addr) (lc : Nat), s = .int .i64 i ∧ i ≤ n ∧ Hid (PBN w wr Q (.slice la (i * 2) lc) (newX (l.take i))) ∧ Hid (∀ y ∈ l.take i, OkBy y)) (fun s _ => n - (RowKit.intOf s).toNat)
  case atStart => exact ⟨0, none, 0, rfl, by omega, H0, Lib.hid (fun y hy => by simp at hy)⟩
  case round =>
    obtain ⟨i, la, lc, rfl, hi, HP, HO⟩ := hrel
    by_cases hlt : i < n
    · have hlt2 : (i : Int) < (n : Int) := by omega
      obtain ⟨g, off, y, rfl, hy, q0, q1, q2, q3⟩ := HC.out wr i HP.out.below hlt
      obtain ⟨U, Y, hU, hY, u1, u2, HU⟩ := box_by wr y
      by_cases c1 : 0 ≤ y.mf ∧ y.mf ≤ 8
      case neg =>
        have HN := Lib.hid (HM.out y i hy.out (fun h => c1 h.1))
        have H1 := Lib.hid (in_no y.mf 0 8 Y c1)
        have HB := Lib.hid (below_then HP.out.below HU.out)
        clear c1
        go_wp2_with fail
        clear hY hU q0 q1 q2 q3
        refine H1.out.mono ?_
        rintro e w' ⟨rfl, rfl⟩
        go_wp2_with fail
        go_ret2
        exact .inr ⟨HN, rfl, HB.out⟩
      have H1 := Lib.hid (in_yes y.mf 0 8 Y c1)
      by_cases c2 : 0 ≤ y.lb ∧ y.lb ≤ 8
      case neg =>
        have HN := Lib.hid (HM.out y i hy.out (fun h => c2 h.2))
        have H2 := Lib.hid (in_no y.lb 0 8 Y c2)
        have HB := Lib.hid (below_then HP.out.below HU.out)
        clear c1 c2
        go_wp2_with fail
        clear hY hU q0 q1 q2 q3
        refine H1.out.mono ?_
        rintro e w' ⟨rfl, rfl⟩
        go_wp2_with fail
        refine H2.out.mono ?_
        rintro e w' ⟨rfl, rfl⟩
        go_wp2_with fail
        go_ret2
        exact .inr ⟨HN, rfl, HB.out⟩
      have H2 := Lib.hid (in_yes y.lb 0 8 Y c2)
      have HO2 : Hid (∀ y ∈ l.take (i + 1), OkBy y) := Lib.hid (fun z hz => by
        rw [List.take_add_one, hy.out] at hz
        rcases List.mem_append.1 hz with hz | hz
        · exact HO.out z hz
        · have : z = y := by simpa using hz
          subst this
          exact ⟨c1, c2⟩)
      obtain ⟨a', c', W', hr, p1, p2, hP⟩ := new_more HP.out HU.out hy.out (by omega)
      have HR := Lib.hid hr
      have HP2 : Hid (PBN w (W'.setCell ⟨Q, 1, none⟩ (.slice a' (i * 2 + 2) c')) Q (.slice a' ((i + 1) * 2) c') (newX (l.take (i + 1)))) := Lib.hid (by rw [show (i + 1) * 2 = i * 2 + 2 by omega]; exact hP)
      have k1 : Y.cell? ⟨Q, 1, none⟩ = some (.slice la (i * 2) lc) := (HP.out.pb.under HU.out).mem.2.1
      have k2 : (Y.alloc (.cells #[.slice none 0 0, .slice none 0 0, .int .i64 y.mf, .slice none 0 0, .slice none 0 0, .int .i64 y.lb] 73)).cell? ⟨Q, 1, none⟩ = some (.slice la (i * 2) lc) := ((bcell ((Below.refl _ Y).alloc (Nat.le_refl _) _)).1 Q 1 (HP.out.pb.under HU.out).mem.2.2).trans k1
      have hQl : Q < Y.heap.size := (HP.out.pb.under HU.out).mem.2.2
      clear hr hP c1 c2
      go_wp2_with fail
      clear hY hU q0 q1 q2 q3
      refine H1.out.mono ?_
      rintro e w' ⟨rfl, rfl⟩
      go_wp2_with fail
      refine H2.out.mono ?_
      rintro e w' ⟨rfl, rfl⟩
      go_wp2_with fail
      go_region_law (refine step_run (v' := .slice a' (i * 2 + 2) c') (w' := W') (by rfl) _ _ _ _ (by rfl) _ _ (by rfl) (by rfl) HR.out ?_)
      all_goals
        go_wp2_with fail
        go_roundw
        case rel => exact ⟨i + 1, a', c', by go_num, by omega, HP2, HO2⟩
        case measure => simp [RowKit.intOf]; omega
    · obtain rfl : i = n := by omega
      have HM2 : Hid (MayB l) := Lib.hid ⟨HT.out.2, by have := HO.out; rwa [HT.out.1] at this⟩
      have HP2 : Hid (∃ lv, PBN w wr Q lv (newX l)) := Lib.hid ⟨_, by have := HP.out; rw [HT.out.1] at this; exact this⟩
      go_wp2_with fail
      go_ret2
      exact .inl ⟨HM2, Q, rfl, HP2⟩
end Go.Proofs.Ytokkefokodcphaa.Bay
