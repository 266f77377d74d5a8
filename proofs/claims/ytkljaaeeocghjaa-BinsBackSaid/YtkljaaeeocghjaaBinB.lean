/- The document's May, below, Qty, Total. -/
import Derived.Test.YtkljaaeeocghjaaBinA
namespace Go.Proofs.Ytkljaaeeocghjaa.Bins
open Go.RowKit Go.Lib

theorem bn_iff (x y : Bn) : x = y ↔ x.o = y.o ∧ x.d = y.d ∧ x.p = y.p ∧ x.t = y.t := ⟨fun h => by rw [h]; exact ⟨rfl, rfl, rfl, rfl⟩, fun h => Bn.ext' h.1 h.2.1 h.2.2.1 h.2.2.2⟩
set_option maxRecDepth 100000 in
set_option maxHeartbeats 2000000 in
theorem run_bins (x y : Bn) (W : World) : (binOp .eql 25 (bV x) (bV y)).run Try.prog W = .ok (.bool (decide (x = y))) W := by
  rw [run_eql_struct]
  go_simp
  by_cases h1 : x.o = y.o
  · by_cases h2 : x.d = y.d
    · by_cases h3 : x.p = y.p
      · by_cases h4 : x.t = y.t
        · have : x = y := (bn_iff x y).2 ⟨h1, h2, h3, h4⟩
          simp [this]
        · have : ¬ x = y := fun e => h4 (by rw [e])
          simp [h1, h2, h3, h4, this]
      · have : ¬ x = y := fun e => h3 (by rw [e])
        simp [h1, h2, h3, this]
    · have : ¬ x = y := fun e => h2 (by rw [e])
      simp [h1, h2, this]
  · have : ¬ x = y := fun e => h1 (by rw [e])
    simp [h1, this]
set_option maxRecDepth 100000 in
set_option maxHeartbeats 2000000 in
theorem run_bins_ne (x y : Bn) (W : World) : (binOp .neq 25 (bV x) (bV y)).run Try.prog W = .ok (.bool (!decide (x = y))) W := by
  rw [run_neq_struct]
  go_simp
  by_cases h1 : x.o = y.o
  · by_cases h2 : x.d = y.d
    · by_cases h3 : x.p = y.p
      · by_cases h4 : x.t = y.t
        · have : x = y := (bn_iff x y).2 ⟨h1, h2, h3, h4⟩
          simp [this]
        · have : ¬ x = y := fun e => h4 (by rw [e])
          simp [h1, h2, h3, h4, this]
      · have : ¬ x = y := fun e => h3 (by rw [e])
        simp [h1, h2, h3, this]
    · have : ¬ x = y := fun e => h2 (by rw [e])
      simp [h1, h2, this]
  · have : ¬ x = y := fun e => h1 (by rw [e])
    simp [h1, this]
set_option maxRecDepth 100000 in
set_option maxHeartbeats 4000000 in
theorem dmay (x : Bn) (w : World) : Calls Try.prog 30 #[bV x] w fun e w' => e = .returned (.bool (decide (MayB x))) ∧ Below w.heap.size w w' := by
  obtain ⟨xo, xd, xp, xt⟩ := x
  go_enter Try.func30, Try.ntmps30
  go_wp2_with fail
  all_goals
    go_ret
    refine ⟨ret_bool ?_, (Below.refl _ w).alloc (Nat.le_refl _) _⟩
    first
    | exact (decide_eq_true (by unfold MayB mt; dsimp only; omega)).symm
    | exact (decide_eq_false (by unfold MayB mt; dsimp only; omega)).symm
    | exact decide_eq_decide.2 (by unfold MayB mt; dsimp only; omega)
set_option maxRecDepth 100000 in
set_option maxHeartbeats 4000000 in
theorem dbelow (x y : Bn) (w : World) : Calls Try.prog 52 #[bV x, bV y] w fun e w' => e = .returned (.bool (decide (bl x y))) ∧ Below w.heap.size w w' := by
  obtain ⟨xo, xd, xp, xt⟩ := x
  obtain ⟨yo, yd, yp, yt⟩ := y
  have hB : ∀ A B : Obj, Below w.heap.size w ((w.alloc A).alloc B) := fun A B => ((Below.refl _ w).alloc (Nat.le_refl _) A).alloc (by simp) B
  have HB := Lib.hid hB
  clear hB
  by_cases h1 : xo = yo
  · by_cases h2 : xd = yd
    · by_cases h3 : xp = yp
      · have HE : Hid (bl ⟨xo, xd, xp, xt⟩ ⟨yo, yd, yp, yt⟩ ↔ xt < yt) := Lib.hid (by unfold bl; dsimp only; omega)
        subst h1; subst h2; subst h3
        go_enter Try.func52, Try.ntmps52
        go_wp2_with fail
        go_ret
        exact ⟨ret_bool (decide_eq_decide.2 HE.out.symm), HB.out _ _⟩
      · have HE : Hid (bl ⟨xo, xd, xp, xt⟩ ⟨yo, yd, yp, yt⟩ ↔ xp < yp) := Lib.hid (by unfold bl; dsimp only; omega)
        have e3 : (xp == yp) = false := by simpa using h3
        have e4 : (xp != yp) = true := by simpa using h3
        subst h1; subst h2
        go_enter Try.func52, Try.ntmps52
        go_wp2_with fail
        go_ret
        exact ⟨ret_bool (decide_eq_decide.2 HE.out.symm), HB.out _ _⟩
    · have HE : Hid (bl ⟨xo, xd, xp, xt⟩ ⟨yo, yd, yp, yt⟩ ↔ xd < yd) := Lib.hid (by unfold bl; dsimp only; omega)
      have e3 : (xd == yd) = false := by simpa using h2
      have e4 : (xd != yd) = true := by simpa using h2
      subst h1
      go_enter Try.func52, Try.ntmps52
      go_wp2_with fail
      go_ret
      exact ⟨ret_bool (decide_eq_decide.2 HE.out.symm), HB.out _ _⟩
  · have HE : Hid (bl ⟨xo, xd, xp, xt⟩ ⟨yo, yd, yp, yt⟩ ↔ xo < yo) := Lib.hid (by unfold bl; dsimp only; omega)
    have e3 : (xo == yo) = false := by simpa using h1
    have e4 : (xo != yo) = true := by simpa using h1
    go_enter Try.func52, Try.ntmps52
    go_wp2_with fail
    go_ret
    exact ⟨ret_bool (decide_eq_decide.2 HE.out.symm), HB.out _ _⟩
/-- The four cells of a bin in a box of its own. -/
def CellsB (w : World) (V : Nat) (x : Bn) : Prop := w.cell? ⟨V, 0, none⟩ = some (.int .i64 x.o) ∧ w.cell? ⟨V, 1, none⟩ = some (.int .i64 x.d) ∧ w.cell? ⟨V, 2, none⟩ = some (.int .i64 x.p) ∧ w.cell? ⟨V, 3, none⟩ = some (.int .i64 x.t)
theorem box_bin (w : World) (x : Bn) : ∃ V X, w.heap.size = V ∧ w.alloc (.cells #[.int .i64 x.o, .int .i64 x.d, .int .i64 x.p, .int .i64 x.t] 25) = X ∧ Hid (∀ W, Below X.heap.size X W → CellsB W V x ∧ Hid (Below w.heap.size w W)) := by
  refine ⟨_, _, rfl, rfl, Lib.hid (fun W hW => ?_)⟩
  have h0 := heap_alloc_new w (.cells #[.int .i64 x.o, .int .i64 x.d, .int .i64 x.p, .int .i64 x.t] 25)
  have h1 := (hW.block _ (Array.getElem?_eq_some_iff.1 h0).1).trans h0
  exact ⟨⟨cell_block (j := 0) h1 rfl, cell_block (j := 1) h1 rfl, cell_block (j := 2) h1 rfl, cell_block (j := 3) h1 rfl⟩, Lib.hid (below_then ((Below.refl _ w).alloc (Nat.le_refl _) _) hW)⟩
theorem qty_at {l : List Lt} {x : Bn} {i : Nat} {t : Lt} (hn : ∀ j a, j < i → l[j]? = some a → a.b ≠ x) (ht : l[i]? = some t) (e : t.b = x) : qty l x = t.q := by
  have h1 : l = l.take i ++ t :: l.drop (i + 1) := by
    obtain ⟨hk, e⟩ := List.getElem?_eq_some_iff.1 ht
    have h1 := List.drop_eq_getElem_cons hk
    rw [e] at h1
    rw [← h1, List.take_append_drop]
  rw [h1, qty_append fun a ha => ?_]
  · unfold qty
    rw [if_pos e]
  · obtain ⟨j, hj, rfl⟩ := List.getElem_of_mem ha
    rw [List.length_take] at hj
    refine hn j _ (by omega) ?_
    rw [List.getElem_take]
    exact List.getElem?_eq_getElem (by omega)
theorem qty_not {l : List Lt} {x : Bn} (hn : ∀ j a, j < l.length → l[j]? = some a → a.b ≠ x) : qty l x = 0 := qty_none fun a ha => by
  obtain ⟨j, hj, rfl⟩ := List.getElem_of_mem ha
  exact hn j _ hj (List.getElem?_eq_getElem hj)
set_option maxRecDepth 100000 in
set_option maxHeartbeats 4000000 in
theorem dqty {a : Option Addr} {n c : Nat} {l : List Lt} (x : Bn) (w : World) (h : Lots w a l) (hl : l.length = n) (hn : n ≤ 4096) :
    Calls Try.prog 16 #[.slice a n c, bV x] w fun e w' => e = .returned (.int .i64 (qty l x)) ∧ Below w.heap.size w w' := by
  have HT := lots_at h
  have HL := Lib.hid hl
  have hn1 : (n : Int) ≤ 1048576 := by omega
  obtain ⟨V, X, hV, hX, HP⟩ := box_bin w x
  clear h hl hn
  go_enter Try.func16, Try.ntmps16
  go_wp2_with fail
  clear hX hV
  go_loopw [5] (fun t wr => ∃ i : Nat, t = .int .i64 i ∧ i ≤ n ∧ Hid (Below X.heap.size X wr) ∧ Hid (∀ j a, j < i → l[j]? = some a → a.b ≠ x)) (fun t _ => n - (RowKit.intOf t).toNat)
  case atStart => exact ⟨0, rfl, by omega, Lib.hid (Below.refl _ _), Lib.hid (fun j x hj => by omega)⟩
  case round =>
    obtain ⟨i, rfl, hi, HB, HI⟩ := hrel
    obtain ⟨⟨b0, b1, b2, b3⟩, HBW⟩ := HP.out wr HB.out
    have hi0 : (0 : Int) ≤ (i : Int) := by omega
    by_cases hlt : i < n
    · have hlt2 : (i : Int) < (n : Int) := by omega
      obtain ⟨g, off, t, rfl, ht, k0, k1, k2, k3, k4⟩ := HT.out wr i HBW.out (by rw [HL.out]; exact hlt)
      by_cases c1 : t.b = x
      · have HE : Hid (qty l x = t.q) := Lib.hid (qty_at HI.out ht.out c1)
        have hrun : ∀ W, (binOp .eql 25 (bV t.b) (bV x)).run Try.prog W = .ok (.bool true) W := fun W => by rw [run_bins, decide_eq_true c1]
        have HC : Hid (∀ m, (wr.drewN m).cell? ⟨g, off + i * 5 + 4, none⟩ = some (.int .i64 t.q)) := Lib.hid (fun m => k4)
        clear c1
        go_wp2_with fail
        go_quiet (fail)
        go_wp2_with fail
        go_ret
        exact ⟨by rw [HE.out]; rfl, below_drewN HBW.out _⟩
      · have HI2 : Hid (∀ j a, j < i + 1 → l[j]? = some a → a.b ≠ x) := Lib.hid (fun j a hj ha => by
          rcases Nat.lt_or_ge j i with h1 | h1
          · exact HI.out j a h1 ha
          · obtain rfl : j = i := by omega
            rw [ht.out] at ha
            cases ha
            exact c1)
        have hrun : ∀ W, (binOp .eql 25 (bV t.b) (bV x)).run Try.prog W = .ok (.bool false) W := fun W => by rw [run_bins, decide_eq_false c1]
        clear c1
        go_wp2_with fail
        go_quiet (fail)
        go_wp2_with fail
        go_roundw
        case rel => exact ⟨i + 1, by go_num, by omega, Lib.hid (below_drewN HB.out _), HI2⟩
        case measure => simp [RowKit.intOf]; omega
    · obtain rfl : i = n := by omega
      have HE : Hid (qty l x = 0) := Lib.hid (qty_not fun j a hj => HI.out j a (by rw [← HL.out]; exact hj))
      go_wp2_with fail
      go_ret
      exact ⟨by rw [HE.out]; rfl, HBW.out⟩
set_option maxRecDepth 100000 in
set_option maxHeartbeats 4000000 in
theorem dtotal {a : Option Addr} {n c : Nat} {l : List Lt} (k : Int) (w : World) (h : Lots w a l) (hl : l.length = n) (hn : n ≤ 4096) (hg : Good l) :
    Calls Try.prog 18 #[.slice a n c, .int .i64 k] w fun e w' => e = .returned (.int .i64 (tot l k)) ∧ Below w.heap.size w w' := by
  have HT := lots_at h
  have HL := Lib.hid hl
  have HG := Lib.hid hg
  have hn1 : (n : Int) ≤ 1048576 := by omega
  clear h hl hn hg
  go_enter Try.func18, Try.ntmps18
  go_wp2_with fail
  go_loopw [5, 6] (fun s t wr => ∃ (z : Int) (i : Nat), s = .int .i64 z ∧ t = .int .i64 i ∧ i ≤ n ∧ Hid (Below w.heap.size w wr) ∧ Hid (tot (l.take i) k = z)) (fun _ t _ => n - (RowKit.intOf t).toNat)
  case atStart => exact ⟨0, 0, rfl, rfl, by omega, Lib.hid (Below.refl _ _), Lib.hid rfl⟩
  case round =>
    obtain ⟨z, i, rfl, rfl, hi, HB, HI⟩ := hrel
    have hi0 : (0 : Int) ≤ (i : Int) := by omega
    by_cases hlt : i < n
    · have hlt2 : (i : Int) < (n : Int) := by omega
      obtain ⟨g, off, t, rfl, ht, k0, k1, k2, k3, k4⟩ := HT.out wr i HB.out (by rw [HL.out]; exact hlt)
      have h0 := tot_take_le (fun a ha => by have := HG.out.pos a ha; omega) i k (l := l)
      have h2 := tot_take_le (fun a ha => by have := HG.out.pos a ha; omega) (i + 1) k (l := l)
      have h3 := HG.out.tot k
      have hs := tot_take_succ ht.out k
      rw [HI.out] at h0 hs
      rw [hs] at h2
      unfold mq at h3
      by_cases c1 : t.b.t = k
      · rw [if_pos c1] at hs h2
        have HI2 : Hid (tot (l.take (i + 1)) k = z + t.q) := Lib.hid hs
        have e1 : (t.b.t == k) = true := by simpa using c1
        have wz : IntKind.i64.wrap (z + t.q) = z + t.q := IntWalk.i64_in _ (by omega)
        clear c1 hs h0 h2 h3
        go_wp2_with fail
        go_roundw
        case rel => exact ⟨z + t.q, i + 1, by go_num, by go_num, by omega, HB, HI2⟩
        case measure => simp [RowKit.intOf]; omega
      · rw [if_neg c1, Int.add_zero] at hs
        have HI2 : Hid (tot (l.take (i + 1)) k = z) := Lib.hid hs
        have e1 : (t.b.t == k) = false := by simpa using c1
        clear c1 hs h0 h2 h3
        go_wp2_with fail
        go_roundw
        case rel => exact ⟨z, i + 1, rfl, by go_num, by omega, HB, HI2⟩
        case measure => simp [RowKit.intOf]; omega
    · obtain rfl : i = n := by omega
      have HE : Hid (tot l k = z) := Lib.hid (by rw [← HI.out, List.take_of_length_le (by rw [HL.out]; exact Nat.le_refl _)])
      go_wp2_with fail
      go_ret
      exact ⟨by rw [HE.out]; rfl, HB.out⟩
end Go.Proofs.Ytkljaaeeocghjaa.Bins
