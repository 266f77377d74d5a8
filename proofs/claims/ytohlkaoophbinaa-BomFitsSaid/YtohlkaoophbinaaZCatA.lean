/- Catalogues in memory; the document's in, Few, Maker. Needs in a row of one's own; one more at its end. -/
import Derived.Test.YtohlkaoophbinaaZCatMath
import Derived.Test.YtohlkaoophbinaaZRecMath
import Derived.Test.YtohlkaoophbinaaZGoodsMath
namespace Go.Proofs.Ytohlkaoophbinaa.Cat
open Go.RowKit Go.Lib
open Goods (St Sts OwnS)
open Recipe (Bl BlIn blV)

/-- A catalogue, and where its parts lie. -/
structure CM where
  ty : Int
  ba : Option Addr
  bn : Nat
  bc : Nat
  bs : List Bl
  pl : Int
  ya : Option Addr
  yn : Nat
  yc : Nat
  ys : List Ba
  ch : Int
  f : Fee.FS
abbrev CM.v (C : CM) : Value := .agg #[.int .i64 C.ty, .slice C.ba C.bn C.bc, .int .i64 C.pl, .slice C.ya C.yn C.yc, .int .i64 C.ch, .int .i64 C.f.broker, .int .i64 C.f.least, .int .i64 C.f.sales]
abbrev CM.cs (C : CM) : Array Value := #[.int .i64 C.ty, .slice C.ba C.bn C.bc, .int .i64 C.pl, .slice C.ya C.yn C.yc, .int .i64 C.ch, .int .i64 C.f.broker, .int .i64 C.f.least, .int .i64 C.f.sales]
def CM.p (C : CM) : Cat := ⟨C.ty, C.bs.map pOf, C.pl, C.ys, C.ch, C.f⟩
abbrev baV (y : Ba) : Value := .agg #[.int .i64 y.pl, .int .i64 y.mf, .int .i64 y.lb, .int .i64 y.rt]
/-- The seven cells of a blueprint. -/
def CellsB (w : World) (g o : Nat) (b : Bl) : Prop := w.cell? ⟨g, o, none⟩ = some (.int .i64 b.ot) ∧ w.cell? ⟨g, o + 1, none⟩ = some (.int .i64 b.per) ∧ w.cell? ⟨g, o + 2, none⟩ = some (.int .i64 b.tm) ∧ w.cell? ⟨g, o + 3, none⟩ = some (.slice b.sa b.sm b.sc) ∧ w.cell? ⟨g, o + 4, none⟩ = some (.int .i64 b.cp) ∧ w.cell? ⟨g, o + 5, none⟩ = some (.int .i64 b.st) ∧ w.cell? ⟨g, o + 6, none⟩ = some (.int .i64 b.mo)
def CellsY (w : World) (g o : Nat) (y : Ba) : Prop := w.cell? ⟨g, o, none⟩ = some (.int .i64 y.pl) ∧ w.cell? ⟨g, o + 1, none⟩ = some (.int .i64 y.mf) ∧ w.cell? ⟨g, o + 2, none⟩ = some (.int .i64 y.lb) ∧ w.cell? ⟨g, o + 3, none⟩ = some (.int .i64 y.rt)
def Blues (w : World) (a : Option Addr) (l : List Bl) : Prop := ∀ (i : Nat) (b : Bl), l[i]? = some b → ∃ g off, a = some ⟨g, off, none⟩ ∧ g < w.heap.size ∧ CellsB w g (off + i * 7) b
def Bays (w : World) (a : Option Addr) (l : List Ba) : Prop := ∀ (i : Nat) (y : Ba), l[i]? = some y → ∃ g off, a = some ⟨g, off, none⟩ ∧ g < w.heap.size ∧ CellsY w g (off + i * 4) y
theorem CellsB.to {w w' : World} {g o : Nat} {b : Bl} (h : CellsB w g o b) (hc : ∀ j, w'.cell? ⟨g, j, none⟩ = w.cell? ⟨g, j, none⟩) : CellsB w' g o b := by
  unfold CellsB
  simp only [hc]
  exact h
theorem CellsY.to {w w' : World} {g o : Nat} {y : Ba} (h : CellsY w g o y) (hc : ∀ j, w'.cell? ⟨g, j, none⟩ = w.cell? ⟨g, j, none⟩) : CellsY w' g o y := by
  unfold CellsY
  simp only [hc]
  exact h
theorem Blues.under {w w' : World} {a : Option Addr} {l : List Bl} (h : Blues w a l) (hb : Below w.heap.size w w') : Blues w' a l := fun i b hi => by
  obtain ⟨g, off, e, hg, k⟩ := h i b hi
  exact ⟨g, off, e, Nat.lt_of_lt_of_le hg hb.size, k.to fun j => (bcell hb).1 g j hg⟩
theorem Bays.under {w w' : World} {a : Option Addr} {l : List Ba} (h : Bays w a l) (hb : Below w.heap.size w w') : Bays w' a l := fun i b hi => by
  obtain ⟨g, off, e, hg, k⟩ := h i b hi
  exact ⟨g, off, e, Nat.lt_of_lt_of_le hg hb.size, k.to fun j => (bcell hb).1 g j hg⟩
/-- A catalogue lies where it says. -/
def CatAt (w : World) (C : CM) : Prop := (C.bs.length = C.bn ∧ Blues w C.ba C.bs ∧ ∀ b ∈ C.bs, b.s.length = b.sm ∧ Sts w b.sa b.s) ∧ C.ys.length = C.yn ∧ Bays w C.ya C.ys
theorem CatAt.under {w w' : World} {C : CM} (h : CatAt w C) (hb : Below w.heap.size w w') : CatAt w' C := ⟨⟨h.1.1, h.1.2.1.under hb, fun b hm => ⟨(h.1.2.2 b hm).1, (h.1.2.2 b hm).2.under hb⟩⟩, h.2.1, h.2.2.under hb⟩
/-- Few parts. -/
def Lim (C : CM) : Prop := (∀ b ∈ C.bs, b.sm ≤ 12) ∧ C.bn ≤ 20 ∧ C.yn ≤ 12
def I64 (x : Int) : Prop := -9223372036854775808 ≤ x ∧ x ≤ 9223372036854775807
def InB (b : Bl) : Prop := I64 b.ot ∧ I64 b.per ∧ I64 b.tm ∧ I64 b.cp ∧ I64 b.st ∧ I64 b.mo ∧ ∀ t ∈ b.s, I64 t.kind ∧ I64 t.qty
def InY (y : Ba) : Prop := I64 y.pl ∧ I64 y.mf ∧ I64 y.lb ∧ I64 y.rt
def InC (C : CM) : Prop := I64 C.ty ∧ (∀ b ∈ C.bs, InB b) ∧ I64 C.pl ∧ (∀ y ∈ C.ys, InY y) ∧ I64 C.ch ∧ I64 C.f.broker ∧ I64 C.f.least ∧ I64 C.f.sales
/-- A catalogue as the laws have it. -/
def Fit (w : World) (C : CM) : Prop := CatAt w C ∧ Lim C ∧ InC C
theorem Fit.under {w w' : World} {C : CM} (h : Fit w C) (hb : Below w.heap.size w w') : Fit w' C := ⟨h.1.under hb, h.2⟩
/-- A blueprint of a catalogue, as walks want it. -/
theorem blue_at {w : World} {C : CM} (h : CatAt w C) : Hid (∀ W i, Below w.heap.size w W → i < C.bn → ∃ g off b, C.ba = some ⟨g, off, none⟩ ∧ Hid (C.bs[i]? = some b ∧ b.s.length = b.sm ∧ Sts W b.sa b.s) ∧ CellsB W g (off + i * 7) b) := Lib.hid (fun W i hW hi => by
  have hl : i < C.bs.length := by rw [h.1.1]; exact hi
  obtain ⟨g, off, e, _, k⟩ := (h.under hW).1.2.1 i C.bs[i] (List.getElem?_eq_getElem hl)
  exact ⟨g, off, _, e, Lib.hid ⟨List.getElem?_eq_getElem hl, (h.under hW).1.2.2 _ (List.getElem_mem hl)⟩, k⟩)
theorem bay_at {w : World} {C : CM} (h : CatAt w C) : Hid (∀ W i, Below w.heap.size w W → i < C.yn → ∃ g off y, C.ya = some ⟨g, off, none⟩ ∧ Hid (C.ys[i]? = some y) ∧ CellsY W g (off + i * 4) y) := Lib.hid (fun W i hW hi => by
  have hl : i < C.ys.length := by rw [h.2.1]; exact hi
  obtain ⟨g, off, e, _, k⟩ := (h.under hW).2.2 i C.ys[i] (List.getElem?_eq_getElem hl)
  exact ⟨g, off, _, e, Lib.hid (List.getElem?_eq_getElem hl), k⟩)
/-- The eight cells of a catalogue in a box of its own. -/
def CellsC (w : World) (V : Nat) (C : CM) : Prop := w.cell? ⟨V, 0, none⟩ = some (.int .i64 C.ty) ∧ w.cell? ⟨V, 1, none⟩ = some (.slice C.ba C.bn C.bc) ∧ w.cell? ⟨V, 2, none⟩ = some (.int .i64 C.pl) ∧ w.cell? ⟨V, 3, none⟩ = some (.slice C.ya C.yn C.yc) ∧ w.cell? ⟨V, 4, none⟩ = some (.int .i64 C.ch) ∧ w.cell? ⟨V, 5, none⟩ = some (.int .i64 C.f.broker) ∧ w.cell? ⟨V, 6, none⟩ = some (.int .i64 C.f.least) ∧ w.cell? ⟨V, 7, none⟩ = some (.int .i64 C.f.sales)
theorem cells_block {w : World} {V : Nat} {C : CM} {T : TypeId} (h1 : w.heap[V]? = some (.cells C.cs T (0, 0))) : CellsC w V C :=
  ⟨cell_block (j := 0) h1 rfl, cell_block (j := 1) h1 rfl, cell_block (j := 2) h1 rfl, cell_block (j := 3) h1 rfl, cell_block (j := 4) h1 rfl, cell_block (j := 5) h1 rfl, cell_block (j := 6) h1 rfl, cell_block (j := 7) h1 rfl⟩
theorem box_cat (w : World) (C : CM) : ∃ V X, w.heap.size = V ∧ w.alloc (.cells #[.int .i64 C.ty, .slice C.ba C.bn C.bc, .int .i64 C.pl, .slice C.ya C.yn C.yc, .int .i64 C.ch, .int .i64 C.f.broker, .int .i64 C.f.least, .int .i64 C.f.sales] 27) = X ∧ Hid (Below w.heap.size w X) ∧ Hid (∀ W, Below X.heap.size X W → CellsC W V C) := by
  refine ⟨_, _, rfl, rfl, Lib.hid ((Below.refl _ w).alloc (Nat.le_refl _) _), Lib.hid (fun W hW => ?_)⟩
  have h0 := heap_alloc_new w (.cells #[.int .i64 C.ty, .slice C.ba C.bn C.bc, .int .i64 C.pl, .slice C.ya C.yn C.yc, .int .i64 C.ch, .int .i64 C.f.broker, .int .i64 C.f.least, .int .i64 C.f.sales] 27)
  have h1 := (hW.block _ (Array.getElem?_eq_some_iff.1 h0).1).trans h0
  exact cells_block h1
theorem in_yes (n a b : Int) (w : World) (h0 : a ≤ n) (h1 : n ≤ b) : Calls Try.prog 84 #[.int .i64 n, .int .i64 a, .int .i64 b] w fun e w' => e = .returned (.bool true) ∧ w = w' := by
  have d1 : decide (a ≤ n) = true := decide_eq_true h0
  have d2 : decide (n ≤ b) = true := decide_eq_true h1
  go_enter Try.func84, Try.ntmps84
  go_wp2_with fail
  go_ret
  exact ⟨rfl, rfl⟩
theorem in_no (n a b : Int) (w : World) (h : n < a ∨ b < n) : Calls Try.prog 84 #[.int .i64 n, .int .i64 a, .int .i64 b] w fun e w' => e = .returned (.bool false) ∧ w = w' := by
  by_cases k : a ≤ n
  · have d1 : decide (a ≤ n) = true := decide_eq_true k
    have d2 : decide (n ≤ b) = false := decide_eq_false (by omega)
    clear h
    go_enter Try.func84, Try.ntmps84
    go_wp2_with fail
    go_ret
    exact ⟨rfl, rfl⟩
  · have d1 : decide (a ≤ n) = false := decide_eq_false k
    clear h
    go_enter Try.func84, Try.ntmps84
    go_wp2_with fail
    go_ret
    exact ⟨rfl, rfl⟩
/-- As walks want it: what it tells is named ahead. -/
theorem in_at (n a b : Int) : ∃ t : Bool, Hid (∀ w, Calls Try.prog 84 #[.int .i64 n, .int .i64 a, .int .i64 b] w fun e w' => e = .returned (.bool t) ∧ w = w') ∧ Hid ((t = true → a ≤ n ∧ n ≤ b) ∧ (t = false → ¬ (a ≤ n ∧ n ≤ b))) := by
  by_cases h : a ≤ n ∧ n ≤ b
  · exact ⟨true, Lib.hid fun w => in_yes n a b w h.1 h.2, Lib.hid ⟨fun _ => h, fun h => (by cases h)⟩⟩
  · exact ⟨false, Lib.hid fun w => in_no n a b w (by omega), Lib.hid ⟨fun h => (by cases h), fun _ => h⟩⟩
theorem mem_take_succ {α : Type} {l : List α} {i : Nat} {t x : α} (h : l[i]? = some t) : x ∈ l.take (i + 1) ↔ x ∈ l.take i ∨ x = t := by
  rw [List.take_add_one, h]
  simp
open Classical in
set_option maxRecDepth 100000 in
set_option maxHeartbeats 4000000 in
theorem dfew (C : CM) (w : World) (h : CatAt w C) (hb : C.bn ≤ 9223372036854775807) (hy : C.yn ≤ 9223372036854775807) (hs : ∀ b ∈ C.bs, b.sm ≤ 9223372036854775807) :
    Calls Try.prog 7 #[C.v] w fun e w' => e = .returned (.bool (decide (Lim C))) ∧ Below w.heap.size w w' := by
  obtain ⟨V, X, hV, hX, HXB, HP⟩ := box_cat w C
  obtain ⟨k0, k1, k2, k3, k4, k5, k6, k7⟩ := HP.out X (Below.refl _ _)
  have HB := blue_at (h.under HXB.out)
  have HSM : Hid (∀ b ∈ C.bs, b.sm ≤ 9223372036854775807) := Lib.hid hs
  have HL := Lib.hid h.1.1
  have hb1 : (C.bn : Int) ≤ 9223372036854775807 := by omega
  have hy1 : (C.yn : Int) ≤ 9223372036854775807 := by omega
  clear h hb hy hs
  go_enter Try.func7, Try.ntmps7
  go_wp2_with fail
  clear hX hV
  go_loopw [3] (fun s wr => ∃ i : Nat, s = .int .i64 i ∧ i ≤ C.bn ∧ i ≤ 20 ∧ X = wr ∧ Hid (∀ b ∈ C.bs.take i, b.sm ≤ 12)) (fun s _ => 20 - (RowKit.intOf s).toNat)
  case atStart => exact ⟨0, rfl, by omega, by omega, rfl, Lib.hid (by simp)⟩
  case round =>
    obtain ⟨i, rfl, hi, hi2, rfl, HI⟩ := hrel
    have hi0 : (0 : Int) ≤ (i : Int) := by omega
    have hi3 : (i : Int) ≤ 20 := by omega
    by_cases hlt : i < C.bn
    · have hlt2 : (i : Int) < (C.bn : Int) := by omega
      by_cases h20 : i < 20
      · have h21 : (i : Int) < 20 := by omega
        obtain ⟨g, off, b, hba, ht, q0, q1, q2, q3, q4, q5, q6⟩ := HB.out X i (Below.refl _ _) hlt
        rw [hba] at k1
        have hsm := HSM.out b (List.mem_of_getElem? ht.out.1)
        have hsm1 : (b.sm : Int) ≤ 9223372036854775807 := by omega
        by_cases c1 : 12 < b.sm
        · have HF : Hid (¬ Lim C) := Lib.hid (fun h => by
            have := h.1 b (List.mem_of_getElem? ht.out.1)
            omega)
          have c2 : (12 : Int) < (b.sm : Int) := by omega
          have d3 : decide ((12 : Int) < (b.sm : Int)) = true := decide_eq_true c2
          go_wp2_with fail
          go_ret
          exact ⟨by rw [decide_eq_false HF.out]; rfl, HXB.out⟩
        · have HF : Hid (∀ x ∈ C.bs.take (i + 1), x.sm ≤ 12) := Lib.hid (fun x h => by
            rcases (mem_take_succ ht.out.1).1 h with h | rfl
            · exact HI.out x h
            · omega)
          have d3 : decide ((12 : Int) < (b.sm : Int)) = false := decide_eq_false (by omega)
          go_wp2_with fail
          go_roundw
          case rel => exact ⟨i + 1, by go_num, by omega, by omega, by first | rfl | trivial, HF⟩
          case measure => simp [RowKit.intOf]; omega
      · have h21 : ¬ (i : Int) < 20 := by omega
        have d1 : decide ((i : Int) < 20) = false := decide_eq_false h21
        have HF : Hid (¬ Lim C) ∨ Hid (C.bn = 20 ∧ i = 20 ∧ False) := by
          refine .inl (Lib.hid fun h => ?_)
          have := h.2.1
          omega
        rcases HF with HF | HF
        case inr => exact HF.out.2.2.elim
        have d4 : decide ((C.bn : Int) ≤ 20) = false := decide_eq_false (by omega)
        have d5 : ¬ C.bn ≤ 20 := by omega
        go_wp2_with fail
        go_ret
        exact ⟨by rw [decide_eq_false HF.out]; rfl, HXB.out⟩
    · obtain rfl : i = C.bn := by omega
      have d4 : decide ((C.bn : Int) ≤ 20) = true := decide_eq_true (by omega)
      have HA : Hid (∀ b ∈ C.bs, b.sm ≤ 12) := Lib.hid (by
        have := HI.out
        rw [List.take_of_length_le (by rw [HL.out]; exact Nat.le_refl _)] at this
        exact this)
      by_cases c3 : C.yn ≤ 12
      · have HF : Hid (Lim C) := Lib.hid ⟨HA.out, hi2, c3⟩
        have c4 : (C.yn : Int) ≤ 12 := by omega
        have d6 : decide ((C.yn : Int) ≤ 12) = true := decide_eq_true c4
        go_wp2_with fail
        go_ret
        exact ⟨by rw [decide_eq_true HF.out]; rfl, HXB.out⟩
      · have HF : Hid (¬ Lim C) := Lib.hid fun h => c3 h.2.2
        have c4 : ¬ (C.yn : Int) ≤ 12 := by omega
        have d6 : decide ((C.yn : Int) ≤ 12) = false := decide_eq_false c4
        go_wp2_with fail
        go_ret
        exact ⟨by rw [decide_eq_false HF.out]; rfl, HXB.out⟩
set_option maxRecDepth 100000 in
set_option maxHeartbeats 4000000 in
theorem dmaker (C : CM) (k : Int) (w : World) (h : CatAt w C) (hb : C.bn ≤ 4611686018427387904) :
    Calls Try.prog 31 #[C.v, .int .i64 k] w fun e w' => e = .returned (.int .i64 (mkr k C.p.bs 0)) ∧ Below w.heap.size w w' := by
  obtain ⟨V, X, hV, hX, HXB, HP⟩ := box_cat w C
  obtain ⟨k0, k1, k2, k3, k4, k5, k6, k7⟩ := HP.out X (Below.refl _ _)
  have HB := blue_at (h.under HXB.out)
  have HL := Lib.hid h.1.1
  have hb1 : (C.bn : Int) ≤ 4611686018427387904 := by omega
  clear h hb
  go_enter Try.func31, Try.ntmps31
  go_wp2_with fail
  clear hX hV
  go_loopw [5] (fun s wr => ∃ i : Nat, s = .int .i64 i ∧ i ≤ C.bn ∧ X = wr ∧ Hid (mkr k (C.p.bs.drop i) i = mkr k C.p.bs 0)) (fun s _ => C.bn - (RowKit.intOf s).toNat)
  case atStart => exact ⟨0, rfl, by omega, rfl, Lib.hid rfl⟩
  case round =>
    obtain ⟨i, rfl, hi, rfl, HI⟩ := hrel
    have hi0 : (0 : Int) ≤ (i : Int) := by omega
    by_cases hlt : i < C.bn
    · have hlt2 : (i : Int) < (C.bn : Int) := by omega
      obtain ⟨g, off, b, hba, ht, q0, q1, q2, q3, q4, q5, q6⟩ := HB.out X i (Below.refl _ _) hlt
      rw [hba] at k1
      have hp : C.p.bs[i]? = some (pOf b) := by unfold CM.p; simp [ht.out.1]
      have HM := Lib.hid (mkr_drop (k := k) hp)
      clear hp
      have wi : IntKind.i64.wrap ((i : Int) + 1) = (i : Int) + 1 := IntWalk.i64_in _ (by omega)
      by_cases c1 : b.ot = k
      · have c1b : (b.ot == k) = true := by simpa using c1
        have HF : Hid (mkr k C.p.bs 0 = (i : Int) + 1) := Lib.hid (by rw [← HI.out, HM.out, if_pos (by exact c1)])
        clear c1
        go_wp2_with fail
        go_ret
        exact ⟨ret_i64 (by rw [HF.out]), HXB.out⟩
      · have c1b : (b.ot == k) = false := by simpa using c1
        have HF : Hid (mkr k (C.p.bs.drop (i + 1)) ((i + 1 : Nat) : Int) = mkr k C.p.bs 0) := Lib.hid (by rw [← HI.out, HM.out, if_neg (by exact c1)])
        clear c1
        go_wp2_with fail
        go_roundw
        case rel => exact ⟨i + 1, by go_num, by omega, by first | rfl | trivial, HF⟩
        case measure => simp [RowKit.intOf]; omega
    · obtain rfl : i = C.bn := by omega
      have HF : Hid (mkr k C.p.bs 0 = 0) := Lib.hid (by
        rw [← HI.out, List.drop_eq_nil_of_le (by unfold CM.p; rw [List.length_map, HL.out]; exact Nat.le_refl _)]
        rfl)
      go_wp2_with fail
      go_ret
      exact ⟨ret_i64 (by rw [HF.out]), HXB.out⟩
end Go.Proofs.Ytohlkaoophbinaa.Cat
namespace Go.Proofs.Ytohlkaoophbinaa.Graph
open Go.RowKit Go.Lib IRows

theorem own_same {w w' : World} {B : Nat} {e : TypeId} {size n : Nat} {v : Value} {xs : List Value} (h : w.ownsRow B e size v n xs) (hs : ∀ q, v.ownBlock = some q → w'.heap[q]? = w.heap[q]?) : w'.ownsRow B e size v n xs := by
  refine ⟨h.1, ?_⟩
  rcases h.2 with h1 | ⟨g, cap, cur, hv, h1, h2, h3⟩
  · exact .inl h1
  · exact .inr ⟨g, cap, cur, hv, h1, (hs g (by rw [hv]; rfl)).trans h2, h3⟩
theorem own_under {w w' : World} {B : Nat} {e : TypeId} {size n : Nat} {v : Value} {xs : List Value} (h : w.ownsRow B e size v n xs) (hb : Below w.heap.size w w') : w'.ownsRow B e size v n xs := own_same h (fun q hq => hb.block q (h.lt q hq).2)
abbrev sV (t : Nd) : Value := .agg #[.int .i64 t.a, .int .i64 t.b]
def ndCells (t : Nd) : List Value := [.int .i64 t.a, .int .i64 t.b]
def Nd.cells (t : Nd) : Array Value := #[.int .i64 t.a, .int .i64 t.b]
def ncells (l : List Nd) : List Value := l.flatMap ndCells
theorem ncells_cons (t : Nd) (l : List Nd) : ncells (t :: l) = ndCells t ++ ncells l := by simp [ncells]
theorem ncells_append (l m : List Nd) : ncells (l ++ m) = ncells l ++ ncells m := by simp [ncells]
theorem ncells_length : ∀ l : List Nd, (ncells l).length = l.length * 2
  | [] => rfl
  | p :: l => by rw [ncells_cons, List.length_append, ncells_length l]; simp [ndCells]; omega
theorem ncells_at : ∀ (l : List Nd) (i : Nat) (p : Nd), l[i]? = some p → ∀ (j : Nat) (v : Value), (ndCells p)[j]? = some v → (ncells l)[i * 2 + j]? = some v
  | [], i, p, h => by simp at h
  | q :: l, 0, p, h => by
    intro j v hj
    have : q = p := by simpa using h
    subst this
    have hlt : j < (ndCells q).length := (List.getElem?_eq_some_iff.1 hj).1
    rw [ncells_cons, List.getElem?_append_left (by simpa using hlt)]
    simpa using hj
  | q :: l, i + 1, p, h => by
    intro j v hj
    have ih := ncells_at l i p (by simpa using h) j v hj
    rw [ncells_cons, show (i + 1) * 2 + j = 2 + (i * 2 + j) by omega, List.getElem?_append_right (by simp [ndCells])]
    simpa [ndCells] using ih
theorem ncells_one : ∀ (l : List Nd), ∀ u ∈ ncells l, u.oneCell' = true
  | [], u, h => by cases h
  | p :: l, u, h => by
    rw [ncells_cons] at h
    rcases List.mem_append.1 h with h | h
    · simp [ndCells] at h
      rcases h with rfl | rfl <;> rfl
    · exact ncells_one l u h
theorem take_nd (l : List Nd) (n : Nat) : ncells (l.take n) = (ncells l).take (n * 2) := by
  induction n generalizing l with
  | zero => simp [ncells]
  | succ n ih =>
    cases l with
    | nil => simp [ncells]
    | cons k l => rw [List.take_succ_cons, ncells_cons, ncells_cons, ih, show (n + 1) * 2 = (ndCells k).length + n * 2 by show _ = 2 + n * 2; omega, List.take_length_add_append]
theorem drop_nd (l : List Nd) (n : Nat) : ncells (l.drop n) = (ncells l).drop (n * 2) := by
  induction n generalizing l with
  | zero => simp
  | succ n ih =>
    cases l with
    | nil => simp [ncells]
    | cons k l => rw [List.drop_succ_cons, ncells_cons, ih, show (n + 1) * 2 = (ndCells k).length + n * 2 by show _ = 2 + n * 2; omega, List.drop_length_add_append]
/-- Needs in a row of one's own. -/
abbrev OwnN (w : World) (B : Nat) (v : Value) (l : List Nd) : Prop := w.ownsRow B 111 2 v l.length (ncells l)
abbrev zeroNdV : Value := .agg #[.int .i64 0, .int .i64 0]
theorem info_nd : (Try.prog.info? 111).map (fun i => (i.zero, i.size, i.bytes)) = some (some zeroNdV, 2, 16) := by kernel_rfl
theorem elem_nd : Program.elem Try.prog 93 = 111 := by kernel_rfl
theorem under_nd : Try.prog.underlying 93 = some (.slice (Program.elem Try.prog 93)) := by
  rw [elem_nd]
  exact Try.underlying93
theorem rowN {w : World} {B : Nat} {v : Value} {l : List Nd} (h : OwnN w B v l) : ∃ a c, v = .slice a l.length c ∧ l.length ≤ c ∧ c ≤ maxLen ∧ (a = none ∨ ∃ g, a = some ⟨g, 0, none⟩) ∧ ∀ j u, (ncells l)[j]? = some u → ∃ g, a = some ⟨g, 0, none⟩ ∧ g < w.heap.size ∧ w.cell? ⟨g, j, none⟩ = some u := by
  rcases h.2 with ⟨hv, h0⟩ | ⟨g, cap, cur, hv, _, hg, hn, hm, _⟩
  · refine ⟨none, 0, by rw [hv, h0], by omega, by unfold maxLen; omega, .inl rfl, fun j u hj => ?_⟩
    have := (List.getElem?_eq_some_iff.1 hj).1
    rw [ncells_length, h0] at this
    omega
  · refine ⟨some ⟨g, 0, none⟩, cap, hv, hn, hm, .inr ⟨g, rfl⟩, fun j u hj => ⟨g, rfl, (Array.getElem?_eq_some_iff.1 hg).1, ?_⟩⟩
    have := h.cells (g := g) (by rw [hv]; rfl) j u hj
    rw [addr_add, Nat.zero_add] at this
    exact this
theorem row_nd {w : World} {B : Nat} {v : Value} {l : List Nd} (h : OwnN w B v l) : ∃ a c, v = .slice a l.length c ∧ l.length ≤ c ∧ ∀ (i : Nat) (p : Nd), l[i]? = some p → ∃ g, a = some ⟨g, 0, none⟩ ∧ g < w.heap.size ∧
    w.cell? ⟨g, i * 2, none⟩ = some (.int .i64 p.a) ∧ w.cell? ⟨g, i * 2 + 1, none⟩ = some (.int .i64 p.b) := by
  obtain ⟨a, c, hv, hc, _, _, hat⟩ := rowN h
  refine ⟨a, c, hv, hc, fun i p hi => ?_⟩
  obtain ⟨g, rfl, hg, c0⟩ := hat _ _ (ncells_at l i p hi 0 _ rfl)
  have hh : ∀ j u, (ndCells p)[j]? = some u → w.cell? ⟨g, i * 2 + j, none⟩ = some u := fun j u hj => by
    obtain ⟨g2, e, _, c1⟩ := hat _ _ (ncells_at l i p hi j u hj)
    cases e
    exact c1
  exact ⟨g, rfl, hg, c0, hh 1 _ rfl⟩
theorem app_nd (w : World) (B : Nat) (v : Value) (xs ys : List Nd) (h : OwnN w B v xs) (xa : Option Addr) (m xc : Nat) (hm : m = ys.length) (hsrc : ∀ j u, (ncells ys)[j]? = some u → ∃ ad, xa = some ad ∧ w.cell? (ad.add j) = some u) (hl : xs.length + ys.length ≤ 1099511627776) (hB : B ≤ w.heap.size) :
    ∃ v' w', (Builtin.append_ #[93, 93] 93 #[v, .slice xa m xc]).run Try.prog w = .ok v' w' ∧ OwnN w' B v' (xs ++ ys) ∧ Below B w w' := by
  obtain ⟨i0, hi, hz0, hz1, hz2⟩ := info_parts info_nd
  subst hm
  obtain ⟨v', w', hr, h2, h3⟩ := app_any (P := Try.prog) (t := 93) (e := 111) (i := i0) w B 93 zeroNdV 2 16 Try.underlying93 hi hz0 hz1 hz2 rfl (by omega) v xs.length (ncells xs) h xa ys.length xc (ncells ys) (ncells_length ys) hsrc (ncells_one ys) (by unfold maxLen; omega) (by omega) hB
  rw [← ncells_append, ← List.length_append] at h2
  exact ⟨v', w', hr, h2, (Below.refl B w).grown h3 hB (fun k hk => (h.lt k hk).1)⟩
theorem src_take_nd {w : World} {B : Nat} {a : Option Addr} {c : Nat} {l : List Nd} (h : OwnN w B (.slice a l.length c) l) (n : Nat) :
    ∀ j u, (ncells (l.take n))[j]? = some u → ∃ ad, a = some ad ∧ w.cell? (ad.add j) = some u := fun j u hj => by
  obtain ⟨a', c', e, _, _, _, hs⟩ := rowN h
  injection e with e1 _ _
  subst e1
  rw [take_nd] at hj
  have hlt := (List.getElem?_eq_some_iff.1 hj).1
  rw [List.length_take] at hlt
  rw [List.getElem?_take_of_lt (by omega)] at hj
  obtain ⟨g, rfl, _, hc⟩ := hs j u hj
  exact ⟨_, rfl, by rw [addr_add, Nat.zero_add]; exact hc⟩
theorem src_drop_nd {w : World} {B : Nat} {a : Option Addr} {c : Nat} {l : List Nd} (h : OwnN w B (.slice a l.length c) l) (n : Nat) :
    ∀ j u, (ncells (l.drop n))[j]? = some u → ∃ ad, atAddr a 2 n c = some ad ∧ w.cell? (ad.add j) = some u := fun j u hj => by
  obtain ⟨a', c', e, hlc, _, _, hs⟩ := rowN h
  injection e with e1 _ e3
  subst e1; subst e3
  have hn : n < l.length := by
    have hlt := (List.getElem?_eq_some_iff.1 hj).1
    rw [ncells_length, List.length_drop] at hlt
    omega
  rw [drop_nd, List.getElem?_drop] at hj
  obtain ⟨g, rfl, _, hc⟩ := hs _ u hj
  refine ⟨⟨g, n * 2, none⟩, ?_, ?_⟩
  · unfold atAddr
    rw [if_neg (by omega)]
    simp [addr_add]
  · rw [addr_add]
    exact hc
theorem nds_own {w : World} {B : Nat} {a : Option Addr} {n c : Nat} {l : List Nd} (h : OwnN w B (.slice a n c) l) : l.length = n ∧ Nds w a l := by
  obtain ⟨a', c', e, _, hat⟩ := row_nd h
  injection e with e1 e2 _
  subst e1
  refine ⟨e2.symm, fun i t hi => ?_⟩
  obtain ⟨g, e, hg, k0, k1⟩ := hat i t hi
  exact ⟨g, 0, e, hg, by simpa using k0, by simpa using k1⟩
/-- One more need at a row's end, as walks want it. -/
theorem app1n (W : World) {B : Nat} {a : Option Addr} {m c : Nat} {o : List Nd} (t : Nd) (h : OwnN W B (.slice a m c) o) (hm : m ≤ 1048576) (hB : B ≤ W.heap.size) :
    ∃ a' c' W', Hid ((Builtin.append_ #[93, 93] 93 #[.slice a m c, .slice (some ⟨W.heap.size, 0, none⟩) 1 1]).run Try.prog (W.alloc (.cells #[.int .i64 t.a, .int .i64 t.b] 111)) = .ok (.slice a' (m + 1) c') W') ∧ OwnN W' B (.slice a' (m + 1) c') (o ++ [t]) ∧ Below B W W' := by
  have hl : o.length = m := (nds_own h).1
  have hA : Below B W (W.alloc (.cells #[.int .i64 t.a, .int .i64 t.b] 111)) := (Below.refl B W).alloc hB _
  obtain ⟨v2, W3, r2, o2, b2⟩ := app_nd (W.alloc (.cells #[.int .i64 t.a, .int .i64 t.b] 111)) B _ o [t] (h.alloc _) (some ⟨W.heap.size, 0, none⟩) 1 1 rfl (fun j u hj => ⟨_, rfl, by
    have hblk := heap_alloc_new W (.cells #[.int .i64 t.a, .int .i64 t.b] 111)
    rw [addr_add, Nat.zero_add]
    refine cell_block (j := j) hblk ?_
    rw [← Array.getElem?_toList]
    exact hj⟩) (by simp; omega) (Nat.le_trans hB hA.size)
  obtain ⟨a2, c2, rfl, _⟩ := rowN o2
  have e : (o ++ [t]).length = m + 1 := by simp [hl]
  rw [e] at r2 o2
  exact ⟨a2, c2, W3, Lib.hid r2, by rw [e] at *; exact o2, ⟨b2.os.trans hA.os, b2.tape.trans hA.tape, b2.output.trans hA.output, Nat.le_trans hA.size b2.size, fun q hq => (b2.block q hq).trans (hA.block q hq)⟩⟩
end Go.Proofs.Ytohlkaoophbinaa.Graph
