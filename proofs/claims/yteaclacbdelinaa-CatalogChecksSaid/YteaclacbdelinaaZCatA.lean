/- Catalogues in memory; the document's in, Few, Maker. -/
import Derived.Test.YteaclacbdelinaaZCatMath
import Derived.Test.YteaclacbdelinaaZRecA
namespace Go.Proofs.Yteaclacbdelinaa.Cat
open Go.RowKit Go.Lib
open Goods (St Sts OwnS)
open Recipe (Bl BlIn blV)

/-- A catalogue, and where its parts lie. -/
structure CM where
  ty : Int
  ba : Option Addr
  bn : Nat
  bc : Nat
  bs : List Bl
  pl : Int
  ya : Option Addr
  yn : Nat
  yc : Nat
  ys : List Ba
  ch : Int
  f : Fee.FS
abbrev CM.v (C : CM) : Value := .agg #[.int .i64 C.ty, .slice C.ba C.bn C.bc, .int .i64 C.pl, .slice C.ya C.yn C.yc, .int .i64 C.ch, .int .i64 C.f.broker, .int .i64 C.f.least, .int .i64 C.f.sales]
abbrev CM.cs (C : CM) : Array Value := #[.int .i64 C.ty, .slice C.ba C.bn C.bc, .int .i64 C.pl, .slice C.ya C.yn C.yc, .int .i64 C.ch, .int .i64 C.f.broker, .int .i64 C.f.least, .int .i64 C.f.sales]
def CM.p (C : CM) : Cat := ⟨C.ty, C.bs.map pOf, C.pl, C.ys, C.ch, C.f⟩
abbrev baV (y : Ba) : Value := .agg #[.int .i64 y.pl, .int .i64 y.mf, .int .i64 y.lb, .int .i64 y.rt]
/-- The seven cells of a blueprint. -/
def CellsB (w : World) (g o : Nat) (b : Bl) : Prop := w.cell? ⟨g, o, none⟩ = some (.int .i64 b.ot) ∧ w.cell? ⟨g, o + 1, none⟩ = some (.int .i64 b.per) ∧ w.cell? ⟨g, o + 2, none⟩ = some (.int .i64 b.tm) ∧ w.cell? ⟨g, o + 3, none⟩ = some (.slice b.sa b.sm b.sc) ∧ w.cell? ⟨g, o + 4, none⟩ = some (.int .i64 b.cp) ∧ w.cell? ⟨g, o + 5, none⟩ = some (.int .i64 b.st) ∧ w.cell? ⟨g, o + 6, none⟩ = some (.int .i64 b.mo)
def CellsY (w : World) (g o : Nat) (y : Ba) : Prop := w.cell? ⟨g, o, none⟩ = some (.int .i64 y.pl) ∧ w.cell? ⟨g, o + 1, none⟩ = some (.int .i64 y.mf) ∧ w.cell? ⟨g, o + 2, none⟩ = some (.int .i64 y.lb) ∧ w.cell? ⟨g, o + 3, none⟩ = some (.int .i64 y.rt)
def Blues (w : World) (a : Option Addr) (l : List Bl) : Prop := ∀ (i : Nat) (b : Bl), l[i]? = some b → ∃ g off, a = some ⟨g, off, none⟩ ∧ g < w.heap.size ∧ CellsB w g (off + i * 7) b
def Bays (w : World) (a : Option Addr) (l : List Ba) : Prop := ∀ (i : Nat) (y : Ba), l[i]? = some y → ∃ g off, a = some ⟨g, off, none⟩ ∧ g < w.heap.size ∧ CellsY w g (off + i * 4) y
theorem CellsB.to {w w' : World} {g o : Nat} {b : Bl} (h : CellsB w g o b) (hc : ∀ j, w'.cell? ⟨g, j, none⟩ = w.cell? ⟨g, j, none⟩) : CellsB w' g o b := by
  unfold CellsB
  simp only [hc]
  exact h
theorem CellsY.to {w w' : World} {g o : Nat} {y : Ba} (h : CellsY w g o y) (hc : ∀ j, w'.cell? ⟨g, j, none⟩ = w.cell? ⟨g, j, none⟩) : CellsY w' g o y := by
  unfold CellsY
  simp only [hc]
  exact h
theorem Blues.under {w w' : World} {a : Option Addr} {l : List Bl} (h : Blues w a l) (hb : Below w.heap.size w w') : Blues w' a l := fun i b hi => by
  obtain ⟨g, off, e, hg, k⟩ := h i b hi
  exact ⟨g, off, e, Nat.lt_of_lt_of_le hg hb.size, k.to fun j => (bcell hb).1 g j hg⟩
theorem Bays.under {w w' : World} {a : Option Addr} {l : List Ba} (h : Bays w a l) (hb : Below w.heap.size w w') : Bays w' a l := fun i b hi => by
  obtain ⟨g, off, e, hg, k⟩ := h i b hi
  exact ⟨g, off, e, Nat.lt_of_lt_of_le hg hb.size, k.to fun j => (bcell hb).1 g j hg⟩
/-- A catalogue lies where it says. -/
def CatAt (w : World) (C : CM) : Prop := (C.bs.length = C.bn ∧ Blues w C.ba C.bs ∧ ∀ b ∈ C.bs, b.s.length = b.sm ∧ Sts w b.sa b.s) ∧ C.ys.length = C.yn ∧ Bays w C.ya C.ys
theorem CatAt.under {w w' : World} {C : CM} (h : CatAt w C) (hb : Below w.heap.size w w') : CatAt w' C := ⟨⟨h.1.1, h.1.2.1.under hb, fun b hm => ⟨(h.1.2.2 b hm).1, (h.1.2.2 b hm).2.under hb⟩⟩, h.2.1, h.2.2.under hb⟩
/-- Few parts. -/
def Lim (C : CM) : Prop := (∀ b ∈ C.bs, b.sm ≤ 12) ∧ C.bn ≤ 20 ∧ C.yn ≤ 12
def I64 (x : Int) : Prop := -9223372036854775808 ≤ x ∧ x ≤ 9223372036854775807
def InB (b : Bl) : Prop := I64 b.ot ∧ I64 b.per ∧ I64 b.tm ∧ I64 b.cp ∧ I64 b.st ∧ I64 b.mo ∧ ∀ t ∈ b.s, I64 t.kind ∧ I64 t.qty
def InY (y : Ba) : Prop := I64 y.pl ∧ I64 y.mf ∧ I64 y.lb ∧ I64 y.rt
def InC (C : CM) : Prop := I64 C.ty ∧ (∀ b ∈ C.bs, InB b) ∧ I64 C.pl ∧ (∀ y ∈ C.ys, InY y) ∧ I64 C.ch ∧ I64 C.f.broker ∧ I64 C.f.least ∧ I64 C.f.sales
/-- A catalogue as the laws have it. -/
def Fit (w : World) (C : CM) : Prop := CatAt w C ∧ Lim C ∧ InC C
theorem Fit.under {w w' : World} {C : CM} (h : Fit w C) (hb : Below w.heap.size w w') : Fit w' C := ⟨h.1.under hb, h.2⟩
/-- A blueprint of a catalogue, as walks want it. -/
theorem blue_at {w : World} {C : CM} (h : CatAt w C) : Hid (∀ W i, Below w.heap.size w W → i < C.bn → ∃ g off b, C.ba = some ⟨g, off, none⟩ ∧ Hid (C.bs[i]? = some b ∧ b.s.length = b.sm ∧ Sts W b.sa b.s) ∧ CellsB W g (off + i * 7) b) := Lib.hid (fun W i hW hi => by
  have hl : i < C.bs.length := by rw [h.1.1]; exact hi
  obtain ⟨g, off, e, _, k⟩ := (h.under hW).1.2.1 i C.bs[i] (List.getElem?_eq_getElem hl)
  exact ⟨g, off, _, e, Lib.hid ⟨List.getElem?_eq_getElem hl, (h.under hW).1.2.2 _ (List.getElem_mem hl)⟩, k⟩)
theorem bay_at {w : World} {C : CM} (h : CatAt w C) : Hid (∀ W i, Below w.heap.size w W → i < C.yn → ∃ g off y, C.ya = some ⟨g, off, none⟩ ∧ Hid (C.ys[i]? = some y) ∧ CellsY W g (off + i * 4) y) := Lib.hid (fun W i hW hi => by
  have hl : i < C.ys.length := by rw [h.2.1]; exact hi
  obtain ⟨g, off, e, _, k⟩ := (h.under hW).2.2 i C.ys[i] (List.getElem?_eq_getElem hl)
  exact ⟨g, off, _, e, Lib.hid (List.getElem?_eq_getElem hl), k⟩)
/-- The eight cells of a catalogue in a box of its own. -/
def CellsC (w : World) (V : Nat) (C : CM) : Prop := w.cell? ⟨V, 0, none⟩ = some (.int .i64 C.ty) ∧ w.cell? ⟨V, 1, none⟩ = some (.slice C.ba C.bn C.bc) ∧ w.cell? ⟨V, 2, none⟩ = some (.int .i64 C.pl) ∧ w.cell? ⟨V, 3, none⟩ = some (.slice C.ya C.yn C.yc) ∧ w.cell? ⟨V, 4, none⟩ = some (.int .i64 C.ch) ∧ w.cell? ⟨V, 5, none⟩ = some (.int .i64 C.f.broker) ∧ w.cell? ⟨V, 6, none⟩ = some (.int .i64 C.f.least) ∧ w.cell? ⟨V, 7, none⟩ = some (.int .i64 C.f.sales)
theorem cells_block {w : World} {V : Nat} {C : CM} {T : TypeId} (h1 : w.heap[V]? = some (.cells C.cs T (0, 0))) : CellsC w V C :=
  ⟨cell_block (j := 0) h1 rfl, cell_block (j := 1) h1 rfl, cell_block (j := 2) h1 rfl, cell_block (j := 3) h1 rfl, cell_block (j := 4) h1 rfl, cell_block (j := 5) h1 rfl, cell_block (j := 6) h1 rfl, cell_block (j := 7) h1 rfl⟩
theorem box_cat (w : World) (C : CM) : ∃ V X, w.heap.size = V ∧ w.alloc (.cells #[.int .i64 C.ty, .slice C.ba C.bn C.bc, .int .i64 C.pl, .slice C.ya C.yn C.yc, .int .i64 C.ch, .int .i64 C.f.broker, .int .i64 C.f.least, .int .i64 C.f.sales] 27) = X ∧ Hid (Below w.heap.size w X) ∧ Hid (∀ W, Below X.heap.size X W → CellsC W V C) := by
  refine ⟨_, _, rfl, rfl, Lib.hid ((Below.refl _ w).alloc (Nat.le_refl _) _), Lib.hid (fun W hW => ?_)⟩
  have h0 := heap_alloc_new w (.cells #[.int .i64 C.ty, .slice C.ba C.bn C.bc, .int .i64 C.pl, .slice C.ya C.yn C.yc, .int .i64 C.ch, .int .i64 C.f.broker, .int .i64 C.f.least, .int .i64 C.f.sales] 27)
  have h1 := (hW.block _ (Array.getElem?_eq_some_iff.1 h0).1).trans h0
  exact cells_block h1
theorem in_yes (n a b : Int) (w : World) (h0 : a ≤ n) (h1 : n ≤ b) : Calls Try.prog 27 #[.int .i64 n, .int .i64 a, .int .i64 b] w fun e w' => e = .returned (.bool true) ∧ w = w' := by
  have d1 : decide (a ≤ n) = true := decide_eq_true h0
  have d2 : decide (n ≤ b) = true := decide_eq_true h1
  go_enter Try.func27, Try.ntmps27
  go_wp2_with fail
  go_ret
  exact ⟨rfl, rfl⟩
theorem in_no (n a b : Int) (w : World) (h : n < a ∨ b < n) : Calls Try.prog 27 #[.int .i64 n, .int .i64 a, .int .i64 b] w fun e w' => e = .returned (.bool false) ∧ w = w' := by
  by_cases k : a ≤ n
  · have d1 : decide (a ≤ n) = true := decide_eq_true k
    have d2 : decide (n ≤ b) = false := decide_eq_false (by omega)
    clear h
    go_enter Try.func27, Try.ntmps27
    go_wp2_with fail
    go_ret
    exact ⟨rfl, rfl⟩
  · have d1 : decide (a ≤ n) = false := decide_eq_false k
    clear h
    go_enter Try.func27, Try.ntmps27
    go_wp2_with fail
    go_ret
    exact ⟨rfl, rfl⟩
/-- As walks want it: what it tells is named ahead. -/
theorem in_at (n a b : Int) : ∃ t : Bool, Hid (∀ w, Calls Try.prog 27 #[.int .i64 n, .int .i64 a, .int .i64 b] w fun e w' => e = .returned (.bool t) ∧ w = w') ∧ Hid ((t = true → a ≤ n ∧ n ≤ b) ∧ (t = false → ¬ (a ≤ n ∧ n ≤ b))) := by
  by_cases h : a ≤ n ∧ n ≤ b
  · exact ⟨true, Lib.hid fun w => in_yes n a b w h.1 h.2, Lib.hid ⟨fun _ => h, fun h => (by cases h)⟩⟩
  · exact ⟨false, Lib.hid fun w => in_no n a b w (by omega), Lib.hid ⟨fun h => (by cases h), fun _ => h⟩⟩
theorem mem_take_succ {α : Type} {l : List α} {i : Nat} {t x : α} (h : l[i]? = some t) : x ∈ l.take (i + 1) ↔ x ∈ l.take i ∨ x = t := by
  rw [List.take_add_one, h]
  simp
open Classical in
set_option maxRecDepth 100000 in
set_option maxHeartbeats 4000000 in
theorem dfew (C : CM) (w : World) (h : CatAt w C) (hb : C.bn ≤ 9223372036854775807) (hy : C.yn ≤ 9223372036854775807) (hs : ∀ b ∈ C.bs, b.sm ≤ 9223372036854775807) :
    Calls Try.prog 6 #[C.v] w fun e w' => e = .returned (.bool (decide (Lim C))) ∧ Below w.heap.size w w' := by
  obtain ⟨V, X, hV, hX, HXB, HP⟩ := box_cat w C
  obtain ⟨k0, k1, k2, k3, k4, k5, k6, k7⟩ := HP.out X (Below.refl _ _)
  have HB := blue_at (h.under HXB.out)
  have HSM : Hid (∀ b ∈ C.bs, b.sm ≤ 9223372036854775807) := Lib.hid hs
  have HL := Lib.hid h.1.1
  have hb1 : (C.bn : Int) ≤ 9223372036854775807 := by omega
  have hy1 : (C.yn : Int) ≤ 9223372036854775807 := by omega
  clear h hb hy hs
  go_enter Try.func6, Try.ntmps6
  go_wp2_with fail
  clear hX hV
  go_loopw [3] (fun s wr => ∃ i : Nat, s = .int .i64 i ∧ i ≤ C.bn ∧ i ≤ 20 ∧ X = wr ∧ Hid (∀ b ∈ C.bs.take i, b.sm ≤ 12)) (fun s _ => 20 - (RowKit.intOf s).toNat)
  case atStart => exact ⟨0, rfl, by omega, by omega, rfl, Lib.hid (by simp)⟩
  case round =>
    obtain ⟨i, rfl, hi, hi2, rfl, HI⟩ := hrel
    have hi0 : (0 : Int) ≤ (i : Int) := by omega
    have hi3 : (i : Int) ≤ 20 := by omega
    by_cases hlt : i < C.bn
    · have hlt2 : (i : Int) < (C.bn : Int) := by omega
      by_cases h20 : i < 20
      · have h21 : (i : Int) < 20 := by omega
        obtain ⟨g, off, b, hba, ht, q0, q1, q2, q3, q4, q5, q6⟩ := HB.out X i (Below.refl _ _) hlt
        rw [hba] at k1
        have hsm := HSM.out b (List.mem_of_getElem? ht.out.1)
        have hsm1 : (b.sm : Int) ≤ 9223372036854775807 := by omega
        by_cases c1 : 12 < b.sm
        · have HF : Hid (¬ Lim C) := Lib.hid (fun h => by
            have := h.1 b (List.mem_of_getElem? ht.out.1)
            omega)
          have c2 : (12 : Int) < (b.sm : Int) := by omega
          have d3 : decide ((12 : Int) < (b.sm : Int)) = true := decide_eq_true c2
          go_wp2_with fail
          go_ret
          exact ⟨by rw [decide_eq_false HF.out]; rfl, HXB.out⟩
        · have HF : Hid (∀ x ∈ C.bs.take (i + 1), x.sm ≤ 12) := Lib.hid (fun x h => by
            rcases (mem_take_succ ht.out.1).1 h with h | rfl
            · exact HI.out x h
            · omega)
          have d3 : decide ((12 : Int) < (b.sm : Int)) = false := decide_eq_false (by omega)
          go_wp2_with fail
          go_roundw
          case rel => exact ⟨i + 1, by go_num, by omega, by omega, by first | rfl | trivial, HF⟩
          case measure => simp [RowKit.intOf]; omega
      · have h21 : ¬ (i : Int) < 20 := by omega
        have d1 : decide ((i : Int) < 20) = false := decide_eq_false h21
        have HF : Hid (¬ Lim C) ∨ Hid (C.bn = 20 ∧ i = 20 ∧ False) := by
          refine .inl (Lib.hid fun h => ?_)
          have := h.2.1
          omega
        rcases HF with HF | HF
        case inr => exact HF.out.2.2.elim
        have d4 : decide ((C.bn : Int) ≤ 20) = false := decide_eq_false (by omega)
        have d5 : ¬ C.bn ≤ 20 := by omega
        go_wp2_with fail
        go_ret
        exact ⟨by rw [decide_eq_false HF.out]; rfl, HXB.out⟩
    · obtain rfl : i = C.bn := by omega
      have d4 : decide ((C.bn : Int) ≤ 20) = true := decide_eq_true (by omega)
      have HA : Hid (∀ b ∈ C.bs, b.sm ≤ 12) := Lib.hid (by
        have := HI.out
        rw [List.take_of_length_le (by rw [HL.out]; exact Nat.le_refl _)] at this
        exact this)
      by_cases c3 : C.yn ≤ 12
      · have HF : Hid (Lim C) := Lib.hid ⟨HA.out, hi2, c3⟩
        have c4 : (C.yn : Int) ≤ 12 := by omega
        have d6 : decide ((C.yn : Int) ≤ 12) = true := decide_eq_true c4
        go_wp2_with fail
        go_ret
        exact ⟨by rw [decide_eq_true HF.out]; rfl, HXB.out⟩
      · have HF : Hid (¬ Lim C) := Lib.hid fun h => c3 h.2.2
        have c4 : ¬ (C.yn : Int) ≤ 12 := by omega
        have d6 : decide ((C.yn : Int) ≤ 12) = false := decide_eq_false c4
        go_wp2_with fail
        go_ret
        exact ⟨by rw [decide_eq_false HF.out]; rfl, HXB.out⟩
set_option maxRecDepth 100000 in
set_option maxHeartbeats 4000000 in
theorem dmaker (C : CM) (k : Int) (w : World) (h : CatAt w C) (hb : C.bn ≤ 4611686018427387904) :
    Calls Try.prog 17 #[C.v, .int .i64 k] w fun e w' => e = .returned (.int .i64 (mkr k C.p.bs 0)) ∧ Below w.heap.size w w' := by
  obtain ⟨V, X, hV, hX, HXB, HP⟩ := box_cat w C
  obtain ⟨k0, k1, k2, k3, k4, k5, k6, k7⟩ := HP.out X (Below.refl _ _)
  have HB := blue_at (h.under HXB.out)
  have HL := Lib.hid h.1.1
  have hb1 : (C.bn : Int) ≤ 4611686018427387904 := by omega
  clear h hb
  go_enter Try.func17, Try.ntmps17
  go_wp2_with fail
  clear hX hV
  go_loopw [5] (fun s wr => ∃ i : Nat, s = .int .i64 i ∧ i ≤ C.bn ∧ X = wr ∧ Hid (mkr k (C.p.bs.drop i) i = mkr k C.p.bs 0)) (fun s _ => C.bn - (RowKit.intOf s).toNat)
  case atStart => exact ⟨0, rfl, by omega, rfl, Lib.hid rfl⟩
  case round =>
    obtain ⟨i, rfl, hi, rfl, HI⟩ := hrel
    have hi0 : (0 : Int) ≤ (i : Int) := by omega
    by_cases hlt : i < C.bn
    · have hlt2 : (i : Int) < (C.bn : Int) := by omega
      obtain ⟨g, off, b, hba, ht, q0, q1, q2, q3, q4, q5, q6⟩ := HB.out X i (Below.refl _ _) hlt
      rw [hba] at k1
      have hp : C.p.bs[i]? = some (pOf b) := by unfold CM.p; simp [ht.out.1]
      have HM := Lib.hid (mkr_drop (k := k) hp)
      clear hp
      have wi : IntKind.i64.wrap ((i : Int) + 1) = (i : Int) + 1 := IntWalk.i64_in _ (by omega)
      by_cases c1 : b.ot = k
      · have c1b : (b.ot == k) = true := by simpa using c1
        have HF : Hid (mkr k C.p.bs 0 = (i : Int) + 1) := Lib.hid (by rw [← HI.out, HM.out, if_pos (by exact c1)])
        clear c1
        go_wp2_with fail
        go_ret
        exact ⟨ret_i64 (by rw [HF.out]), HXB.out⟩
      · have c1b : (b.ot == k) = false := by simpa using c1
        have HF : Hid (mkr k (C.p.bs.drop (i + 1)) ((i + 1 : Nat) : Int) = mkr k C.p.bs 0) := Lib.hid (by rw [← HI.out, HM.out, if_neg (by exact c1)])
        clear c1
        go_wp2_with fail
        go_roundw
        case rel => exact ⟨i + 1, by go_num, by omega, by first | rfl | trivial, HF⟩
        case measure => simp [RowKit.intOf]; omega
    · obtain rfl : i = C.bn := by omega
      have HF : Hid (mkr k C.p.bs 0 = 0) := Lib.hid (by
        rw [← HI.out, List.drop_eq_nil_of_le (by unfold CM.p; rw [List.length_map, HL.out]; exact Nat.le_refl _)]
        rfl)
      go_wp2_with fail
      go_ret
      exact ⟨ret_i64 (by rw [HF.out]), HXB.out⟩
end Go.Proofs.Yteaclacbdelinaa.Cat
