/- The document's Read. -/
import Derived.Test.YtghlgmlelipjfaaZJobTkI
namespace Go.Proofs.Ytghlgmlelipjfaa.Job
open Go.RowKit Go.Lib
open Goods (St Sts OwnS)
open Pen (Rq RqTo Link isBad uiN uiS)

/-- An array of fifteen numbers in a block: the first of them are a list's. -/
def AR (W : World) (A : Nat) (l : List Int) : Prop := ∀ k : Nat, k < 15 → W.cell? ⟨A, k, none⟩ = some (.int .i64 (l.getD k 0)) ∧ W.frozen? ⟨A, k, none⟩ = false
theorem AR.keep {W W' : World} {A : Nat} {l : List Int} (h : AR W A l) (hb : W'.heap[A]? = W.heap[A]?) : AR W' A l := fun k hk => ⟨(World.cell?_of_block hb).trans (h k hk).1, (World.frozen?_of_block hb).trans (h k hk).2⟩
theorem AR.lt {W : World} {A : Nat} {l : List Int} (h : AR W A l) : A < W.heap.size := World.block_lt_of_cell? _ _ (h 0 (by omega)).1
theorem AR.by {W W' : World} {A q : Nat} {l : List Int} (h : AR W A l) (hg : W.grownBy W' (some q)) (hn : q ≠ A) : AR W' A l := h.keep (hg.block A h.lt (fun e => hn (Option.some.inj e).symm))
theorem AR.set {W : World} {A i : Nat} {l : List Int} (h : AR W A l) (hl : l.length = i) (x : Int) : AR (W.setCell ⟨A, i, none⟩ (.int .i64 x)) A (l ++ [x]) := fun k hk => by
  rw [World.frozen?_setCell]
  refine ⟨?_, (h k hk).2⟩
  by_cases e : k = i
  · subst e
    rw [World.cell?_setCell_same (h := (h k hk).1)]
    subst hl
    simp
  · rw [World.cell?_setCell_other (h := fun e2 => e (by injection e2 with _ e3 _; exact e3.symm)), (h k hk).1]
    congr 2
    subst hl
    by_cases h2 : k < l.length
    · simp [List.getD, List.getElem?_append_left h2]
    · rw [List.getD, List.getD, List.getElem?_eq_none (by omega), List.getElem?_eq_none (by simp; omega)]
theorem info_ar : (Try.prog.info? 84).map (fun i => (i.zero, i.size)) = some (some (.agg (Array.replicate 15 (.int .i64 0))), 15) := by kernel_rfl
theorem box_ar (w : World) : ∃ A X, w.heap.size = A ∧ w.alloc (.cells #[.int .i64 0, .int .i64 0, .int .i64 0, .int .i64 0, .int .i64 0, .int .i64 0, .int .i64 0, .int .i64 0, .int .i64 0, .int .i64 0, .int .i64 0, .int .i64 0, .int .i64 0, .int .i64 0, .int .i64 0] 84) = X ∧ Hid (Below w.heap.size w X ∧ X.heap.size = A + 1 ∧ AR X A []) := by
  refine ⟨_, _, rfl, rfl, Lib.hid ⟨(Below.refl _ w).alloc (Nat.le_refl _) _, by simp, fun k hk => ?_⟩⟩
  have hb := heap_alloc_new w (.cells #[.int .i64 0, .int .i64 0, .int .i64 0, .int .i64 0, .int .i64 0, .int .i64 0, .int .i64 0, .int .i64 0, .int .i64 0, .int .i64 0, .int .i64 0, .int .i64 0, .int .i64 0, .int .i64 0, .int .i64 0] 84)
  refine ⟨cell_block (j := k) hb ?_, free_block k hb⟩
  have e : (#[.int .i64 0, .int .i64 0, .int .i64 0, .int .i64 0, .int .i64 0, .int .i64 0, .int .i64 0, .int .i64 0, .int .i64 0, .int .i64 0, .int .i64 0, .int .i64 0, .int .i64 0, .int .i64 0, .int .i64 0] : Array Value) = Array.replicate 15 (.int .i64 0) := rfl
  rw [e, Array.getElem?_replicate, if_pos hk]
  simp
theorem eleven {l : List Int} (h : l.length = 11) : ∃ a0 a1 a2 a3 a4 a5 a6 a7 a8 a9 a10, l = [a0, a1, a2, a3, a4, a5, a6, a7, a8, a9, a10] := by
  match l, h with
  | [a0, a1, a2, a3, a4, a5, a6, a7, a8, a9, a10], _ => exact ⟨a0, a1, a2, a3, a4, a5, a6, a7, a8, a9, a10, rfl⟩
theorem four {l : List Int} (h : l.length = 4) : ∃ b0 b1 b2 b3, l = [b0, b1, b2, b3] := by
  match l, h with
  | [b0, b1, b2, b3], _ => exact ⟨b0, b1, b2, b3, rfl⟩
set_option maxRecDepth 100000 in
set_option maxHeartbeats 16000000 in
theorem dread (Q : Nat) (S : ByteArray) (st : RS) (w : World) (hS : S.size ≤ 4611686018427387904) (h : RD w Q S st) :
    Calls Try.prog 43 #[.pointer (some ⟨Q, 0, none⟩)] w fun e w' => ∃ a m c, e = .returned (jV (jobP st).1 (.slice a m c)) ∧ Hid (m ≤ 8 ∧ OwnS w' w.heap.size (.slice a m c) (jobP st).1.s ∧ RD w' Q S (jobP st).2 ∧ w.grownBy w' (some Q)) := by
  obtain ⟨G, X, hG, hX, HXB, HG⟩ := box_zero w
  obtain ⟨A, Z, hA, hZ, HZB⟩ := box_ar X
  have HUI := ui_at Q S hS
  have HQ : Hid (Q < w.heap.size) := Lib.hid h.lt
  have HN : Hid (w.heap.size = G ∧ A = G + 1 ∧ Below w.heap.size w Z ∧ Z.heap.size = A + 1) := Lib.hid ⟨hG, by have := HXB.out.2; omega, below_then HXB.out.1 HZB.out.1, HZB.out.2.1⟩
  have hQG : Q ≠ G := by have := HN.out; have := HQ.out; omega
  have hQA : Q ≠ A := by have := HN.out; have := HQ.out; omega
  have H0 : Hid (RD Z Q S st ∧ w.grownBy Z (some Q) ∧ AR Z A [] ∧ Has Z G zJ (.slice none 0 0)) := Lib.hid ⟨by
    obtain ⟨a, h1, h2⟩ := h
    exact ⟨a, (HN.out.2.2.1.block Q HQ.out).trans h1, h2⟩, ⟨HN.out.2.2.1.os, HN.out.2.2.1.tape, HN.out.2.2.1.output, HN.out.2.2.1.size, fun k hk _ => HN.out.2.2.1.block k hk⟩, HZB.out.2.2, has_under HG.out HZB.out.1⟩
  have HST := dtst Q S
  have HFAR : Hid (Q ≠ G ∧ Q ≠ A ∧ A ≠ G) := Lib.hid ⟨hQG, hQA, by have := HN.out; omega⟩
  have HS := Lib.hid hS
  clear h hS hQG hQA HST
  go_enter Try.func43, Try.ntmps43
  go_wp2_with fail
  clear hG hX hA hZ
  go_loopw [4] (fun s wr => ∃ (i : Nat) (s1 : RS) (l : List Int), s = .int .i64 (i : Int) ∧ i ≤ 11 ∧ Hid (l.length = i) ∧ Hid (RD wr Q S s1 ∧ w.grownBy wr (some Q) ∧ AR wr A l ∧ Has wr G zJ (.slice none 0 0)) ∧ Hid (rdK 11 st = (l ++ (rdK (11 - i) s1).1, (rdK (11 - i) s1).2))) (fun s _ => 11 - (RowKit.intOf s).toNat)
  case atStart => exact ⟨0, st, [], rfl, by omega, Lib.hid rfl, H0, Lib.hid rfl⟩
  case round =>
    clear H0
    obtain ⟨i, s1, l, rfl, hi, HL, HW, HI⟩ := hrel
    obtain ⟨W0, rfl⟩ : ∃ W0, W0 = wr := ⟨_, rfl⟩
    have hi0 : (0 : Int) ≤ (i : Int) := by omega
    by_cases hlt : i < 11
    case pos =>
      have hlt2 : (i : Int) < 11 := by omega
      have hlt3 : (i : Int) < 15 := by omega
      have wi : IntKind.i64.wrap ((i : Int) + 1) = (i : Int) + 1 := IntWalk.i64_in _ (by omega)
      obtain ⟨x, hx⟩ : ∃ n : Nat, uiN s1 MX = n := ⟨_, rfl⟩
      obtain ⟨t1, ht1⟩ : ∃ s : RS, uiS s1 MX = s := ⟨_, rfl⟩
      have NX := Lib.hid hx
      have SX := Lib.hid ht1
      have HI2 := Lib.hid (rdK_more HI.out hlt hx ht1)
      clear hx ht1 HI
      go_wp2_with fail
      refine (HUI.out W0 s1 9223372036854775807 x t1 NX.out SX.out HW.out.1 (by omega)).mono ?_
      rintro e v1 ⟨rfl, G1⟩
      have HA1 : Hid (AR v1 A l) := Lib.hid (HW.out.2.2.1.by G1.out.2 HFAR.out.2.1)
      obtain ⟨q0, f0⟩ := HA1.out i (by omega)
      have q1 : v1.cell? ⟨A, 0 + i, none⟩ = some (.int .i64 (l.getD i 0)) := by rw [Nat.zero_add]; exact q0
      have f1 : v1.frozen? ⟨A, 0 + i, none⟩ = false := by rw [Nat.zero_add]; exact f0
      have HE : Hid (RD (v1.setCell ⟨A, i, none⟩ (.int .i64 (x : Int))) Q S t1 ∧ w.grownBy (v1.setCell ⟨A, i, none⟩ (.int .i64 (x : Int))) (some Q) ∧ AR (v1.setCell ⟨A, i, none⟩ (.int .i64 (x : Int))) A (l ++ [(x : Int)]) ∧ Has (v1.setCell ⟨A, i, none⟩ (.int .i64 (x : Int))) G zJ (.slice none 0 0)) := Lib.hid (by
        have hg : v1.grownBy (v1.setCell ⟨A, i, none⟩ (.int .i64 (x : Int))) (some A) := only_setCell (only_refl v1 _) _ _
        exact ⟨G1.out.1.by hg (fun e => HFAR.out.2.1 (Option.some.inj e).symm), grown_over (only_trans HW.out.2.1 G1.out.2) hg (fun g e => by injection e with e; subst e; exact .inr (by have := HN.out; omega)), HA1.out.set HL.out _, has_by (has_by HW.out.2.2.2 G1.out.2 HFAR.out.1) hg HFAR.out.2.2⟩)
      go_wp2_with fail
      go_roundw
      case rel => exact ⟨i + 1, t1, l ++ [(x : Int)], by go_num, by omega, Lib.hid (by have := HL.out; simp [this]), HE, HI2⟩
      case measure => simp [RowKit.intOf]; omega
    case neg =>
      obtain rfl : i = 11 := by omega
      obtain ⟨Wc, rfl⟩ : ∃ Wc, Wc = W0 := ⟨_, rfl⟩
      have HA11 := Lib.hid (rdK_end HI.out)
      have HT := dtst Q S s1 Wc HS.out HW.out.1
      obtain ⟨N, sN, hN⟩ : ∃ N sN, nedP (uiN s1 8) (uiS s1 8) = (N, sN) := ⟨_, _, rfl⟩
      rw [hN] at HT
      have HT := Lib.hid HT
      have HNN := Lib.hid hN
      clear hN hlt hi HI
      go_wp2_with fail
      refine HT.out.mono ?_
      rintro e w2 ⟨a, m, c, rfl, G2⟩
      obtain ⟨B0, hB0⟩ : ∃ B0, Wc.heap.size = B0 := ⟨_, rfl⟩
      have HB0 : Hid (A < B0 ∧ G < B0 ∧ Q < B0 ∧ w.heap.size ≤ B0) := Lib.hid ⟨by have := HW.out.2.2.1.lt; omega, by have h1 := HN.out; have := HW.out.2.2.1.lt; omega, by have := HW.out.1.lt; omega, by have := HW.out.2.1.size; omega⟩
      have H2 : Hid (RD w2 Q S sN ∧ w.grownBy w2 (some Q) ∧ AR w2 A (l ++ []) ∧ Has w2 G zJ (.slice none 0 0) ∧ OwnS w2 B0 (.slice a m c) N ∧ m ≤ 8) := Lib.hid ⟨G2.out.2.2.2.1, only_trans HW.out.2.1 G2.out.2.2.2.2, by rw [List.append_nil]; exact HW.out.2.2.1.by G2.out.2.2.2.2 HFAR.out.2.1, has_by HW.out.2.2.2 G2.out.2.2.2.2 HFAR.out.1, by rw [← hB0]; exact G2.out.2.2.1, G2.out.2.1⟩
      clear HW HT G2 hB0
      go_wp2_with fail
      go_loopw [6] (fun s wr => ∃ (i : Nat) (s2 : RS) (l2 : List Int), s = .int .i64 (i : Int) ∧ 11 ≤ i ∧ i ≤ 15 ∧ Hid (l2.length = i - 11) ∧ Hid (RD wr Q S s2 ∧ w.grownBy wr (some Q) ∧ AR wr A (l ++ l2) ∧ Has wr G zJ (.slice none 0 0) ∧ OwnS wr B0 (.slice a m c) N ∧ m ≤ 8) ∧ Hid (rdK 4 sN = (l2 ++ (rdK (4 - (i - 11)) s2).1, (rdK (4 - (i - 11)) s2).2))) (fun s _ => 15 - (RowKit.intOf s).toNat)
      case atStart => exact ⟨11, sN, [], rfl, by omega, by omega, Lib.hid rfl, H2, Lib.hid rfl⟩
      case round =>
        clear H2
        obtain ⟨i, s2, l2, rfl, hi11, hi, HL2, HW, HI⟩ := hrel
        obtain ⟨W1, rfl⟩ : ∃ W1, W1 = wr := ⟨_, rfl⟩
        have hi0 : (0 : Int) ≤ (i : Int) := by omega
        by_cases hlt : i < 15
        case pos =>
          have hlt2 : (i : Int) < 15 := by omega
          have wi : IntKind.i64.wrap ((i : Int) + 1) = (i : Int) + 1 := IntWalk.i64_in _ (by omega)
          obtain ⟨x, hx⟩ : ∃ n : Nat, uiN s2 MX = n := ⟨_, rfl⟩
          obtain ⟨t1, ht1⟩ : ∃ s : RS, uiS s2 MX = s := ⟨_, rfl⟩
          have NX := Lib.hid hx
          have SX := Lib.hid ht1
          have HI2 := rdK_more HI.out (by omega) hx ht1
          rw [show i - 11 + 1 = i + 1 - 11 by omega] at HI2
          have HI2 := Lib.hid HI2
          have HLL : Hid ((l ++ l2).length = i) := Lib.hid (by have h1 := HL.out; have h2 := HL2.out; simp [h1, h2]; omega)
          clear hx ht1 HI
          go_wp2_with fail
          refine (HUI.out W1 s2 9223372036854775807 x t1 NX.out SX.out HW.out.1 (by omega)).mono ?_
          rintro e v1 ⟨rfl, G1⟩
          have HA1 : Hid (AR v1 A (l ++ l2)) := Lib.hid (HW.out.2.2.1.by G1.out.2 HFAR.out.2.1)
          obtain ⟨q0, f0⟩ := HA1.out i (by omega)
          have q1 : v1.cell? ⟨A, 0 + i, none⟩ = some (.int .i64 ((l ++ l2).getD i 0)) := by rw [Nat.zero_add]; exact q0
          have f1 : v1.frozen? ⟨A, 0 + i, none⟩ = false := by rw [Nat.zero_add]; exact f0
          have HE : Hid (RD (v1.setCell ⟨A, i, none⟩ (.int .i64 (x : Int))) Q S t1 ∧ w.grownBy (v1.setCell ⟨A, i, none⟩ (.int .i64 (x : Int))) (some Q) ∧ AR (v1.setCell ⟨A, i, none⟩ (.int .i64 (x : Int))) A (l ++ (l2 ++ [(x : Int)])) ∧ Has (v1.setCell ⟨A, i, none⟩ (.int .i64 (x : Int))) G zJ (.slice none 0 0) ∧ OwnS (v1.setCell ⟨A, i, none⟩ (.int .i64 (x : Int))) B0 (.slice a m c) N ∧ m ≤ 8) := Lib.hid (by
            have hg : v1.grownBy (v1.setCell ⟨A, i, none⟩ (.int .i64 (x : Int))) (some A) := only_setCell (only_refl v1 _) _ _
            exact ⟨G1.out.1.by hg (fun e => HFAR.out.2.1 (Option.some.inj e).symm), grown_over (only_trans HW.out.2.1 G1.out.2) hg (fun g e => by injection e with e; subst e; exact .inr (by have := HN.out; omega)), by rw [← List.append_assoc]; exact HA1.out.set HLL.out _, has_by (has_by HW.out.2.2.2.1 G1.out.2 HFAR.out.1) hg HFAR.out.2.2, own_past (own_past HW.out.2.2.2.2.1 G1.out.2 HB0.out.2.2.1) hg HB0.out.1, HW.out.2.2.2.2.2⟩)
          go_wp2_with fail
          go_roundw
          case rel => exact ⟨i + 1, t1, l2 ++ [(x : Int)], by go_num, by omega, by omega, Lib.hid (by have := HL2.out; simp [this]; omega), HE, HI2⟩
          case measure => simp [RowKit.intOf]; omega
        case neg =>
          obtain rfl : i = 15 := by omega
          have HB4 := Lib.hid (rdK_end (n := 4) HI.out)
          obtain ⟨a0, a1, a2, a3, a4, a5, a6, a7, a8, a9, a10, rfl⟩ := eleven HL.out
          obtain ⟨b0, b1, b2, b3, rfl⟩ := four HL2.out
          have k0 : W1.cell? ⟨A, 0, none⟩ = some (.int .i64 a0) := (HW.out.2.2.1 0 (by omega)).1
          have k1 : W1.cell? ⟨A, 1, none⟩ = some (.int .i64 a1) := (HW.out.2.2.1 1 (by omega)).1
          have k2 : W1.cell? ⟨A, 2, none⟩ = some (.int .i64 a2) := (HW.out.2.2.1 2 (by omega)).1
          have k3 : W1.cell? ⟨A, 3, none⟩ = some (.int .i64 a3) := (HW.out.2.2.1 3 (by omega)).1
          have k4 : W1.cell? ⟨A, 4, none⟩ = some (.int .i64 a4) := (HW.out.2.2.1 4 (by omega)).1
          have k5 : W1.cell? ⟨A, 5, none⟩ = some (.int .i64 a5) := (HW.out.2.2.1 5 (by omega)).1
          have k6 : W1.cell? ⟨A, 6, none⟩ = some (.int .i64 a6) := (HW.out.2.2.1 6 (by omega)).1
          have k7 : W1.cell? ⟨A, 7, none⟩ = some (.int .i64 a7) := (HW.out.2.2.1 7 (by omega)).1
          have k8 : W1.cell? ⟨A, 8, none⟩ = some (.int .i64 a8) := (HW.out.2.2.1 8 (by omega)).1
          have k9 : W1.cell? ⟨A, 9, none⟩ = some (.int .i64 a9) := (HW.out.2.2.1 9 (by omega)).1
          have k10 : W1.cell? ⟨A, 10, none⟩ = some (.int .i64 a10) := (HW.out.2.2.1 10 (by omega)).1
          have k11 : W1.cell? ⟨A, 11, none⟩ = some (.int .i64 b0) := (HW.out.2.2.1 11 (by omega)).1
          have k12 : W1.cell? ⟨A, 12, none⟩ = some (.int .i64 b1) := (HW.out.2.2.1 12 (by omega)).1
          have k13 : W1.cell? ⟨A, 13, none⟩ = some (.int .i64 b2) := (HW.out.2.2.1 13 (by omega)).1
          have k14 : W1.cell? ⟨A, 14, none⟩ = some (.int .i64 b3) := (HW.out.2.2.1 14 (by omega)).1
          have HJP : Hid (jobP st = (⟨a0, a1, a2, a3, a4, a5, a6, a7, a8, a9, a10, N, b0, b1, b2, b3⟩, s2)) := Lib.hid (by
            unfold jobP p2 p1
            rw [HA11.out]
            simp only []
            rw [HNN.out]
            simp only []
            rw [HB4.out]
            rfl)
          go_wp2_with ((with_reducible show wpList _ _ _ (Oper.mk none _ _ _ _ _ :: _) _ W1); refine store_jo rfl _ _ rfl G rfl ⟨a0, a1, a2, a3, a4, a5, a6, a7, a8, a9, a10, N, b0, b1, b2, b3⟩ a m c rfl zJ (.slice none 0 0) HW.out.2.2.2.1 ?_; intro w9 h9 g9)
          refine ret_jo (x := ⟨a0, a1, a2, a3, a4, a5, a6, a7, a8, a9, a10, N, b0, b1, b2, b3⟩) (v := .slice a m c) rfl rfl rfl h9 ?_
          rw [HJP.out]
          exact ⟨a, m, c, rfl, Lib.hid ⟨HW.out.2.2.2.2.2, World.ownsRow.mono (own_past HW.out.2.2.2.2.1 g9 HB0.out.2.1) HB0.out.2.2.2, HW.out.1.by g9 (fun e => HFAR.out.1 (Option.some.inj e).symm), grown_over HW.out.2.1 g9 (fun g e => by injection e with e; subst e; exact .inr (by have := HN.out; omega))⟩⟩
end Go.Proofs.Ytghlgmlelipjfaa.Job
