/- The program's reader: Times. The program's reader: Done. The program's reader: New. The program's number and stacks, as a reader reads them. -/
import Derived.Test.YtghlgmlelipjfaaZPrRDone
namespace Go.Proofs.Ytghlgmlelipjfaa.Pen
open Go.RowKit Go.Lib

set_option maxHeartbeats 1000000 in
theorem times_any (R : Nat) (st : Option ByteArray) (most : Int) (w : World) (h : Rd w R st) (hf : Fit st) (hm : most ≤ 9223372036854775807) :
    Calls Try.prog 63 #[.pointer (some ⟨R, 0, none⟩), .int .i64 most] w fun e w' => e = .returned (.int .i64 (tmN st most)) ∧ Rd w' R (tmS st most) ∧ w.grownBy w' (some R) := by
  obtain ⟨n, hn⟩ : ∃ n, uiN st most = n := ⟨_, rfl⟩
  obtain ⟨l, hl⟩ : ∃ l, leftOf (uiS st most) = l := ⟨_, rfl⟩
  have hn63 := uiN_le st most hm
  have hl0 := leftOf_nonneg (uiS st most)
  rw [hn] at hn63; rw [hl] at hl0
  have HN := Lib.hid hn; have HL := Lib.hid hl
  by_cases hgt : l < (n : Int)
  · have hN : tmN st most = 0 := by unfold tmN; rw [hl, hn, if_pos hgt]
    have hS : tmS st most = none := by unfold tmS; rw [hl, hn, if_pos hgt]
    have HNN := Lib.hid hN; have HSS := Lib.hid hS
    clear hN hS hn hl
    go_enter Try.func63, Try.ntmps63
    go_wp2_with fail
    refine (uint_any R st most _ h hf hm).mono ?_
    rintro e w1 ⟨rfl, H', hg⟩
    rw [HN.out]
    go_wp2_with fail
    refine (left_any R _ _ H').mono ?_
    rintro e w' ⟨rfl, rfl⟩
    rw [HL.out]
    go_wp2_with fail
    refine (spoil_any R _ _ H').mono ?_
    rintro e w' ⟨rfl, H2, hg2⟩
    go_wp2_with fail
    go_ret
    exact ⟨ret_i64 (by rw [HNN.out]; rfl), by rw [HSS.out]; exact H2, only_trans hg hg2⟩
  · have hN : tmN st most = n := by unfold tmN; rw [hl, hn, if_neg hgt]
    have hS : tmS st most = uiS st most := by unfold tmS; rw [hl, hn, if_neg hgt]
    have HNN := Lib.hid hN; have HSS := Lib.hid hS
    clear hN hS hn hl
    go_enter Try.func63, Try.ntmps63
    go_wp2_with fail
    refine (uint_any R st most _ h hf hm).mono ?_
    rintro e w1 ⟨rfl, H', hg⟩
    rw [HN.out]
    go_wp2_with fail
    refine (left_any R _ _ H').mono ?_
    rintro e w' ⟨rfl, rfl⟩
    rw [HL.out]
    go_wp2_with fail
    go_ret
    exact ⟨ret_i64 (by rw [HNN.out]), by rw [HSS.out]; exact H', hg⟩
theorem times_nil (most : Int) (w : World) (hm : most ≤ 9223372036854775807) :
    Calls Try.prog 63 #[.pointer none, .int .i64 most] w fun e w' => e = .returned (.int .i64 0) ∧ w = w' := by
  go_enter Try.func63, Try.ntmps63
  go_wp2_with fail
  refine (uint_nil most _ hm).mono ?_
  rintro e w' ⟨rfl, rfl⟩
  go_wp2_with fail
  refine (left_nil _).mono ?_
  rintro e w' ⟨rfl, rfl⟩
  go_wp2_with fail
  go_ret
  exact ⟨rfl, rfl⟩
end Go.Proofs.Ytghlgmlelipjfaa.Pen
namespace Go.Proofs.Ytghlgmlelipjfaa.Pen
open Go.RowKit Go.Lib

theorem done_any (R : Nat) (st : Option ByteArray) (w : World) (h : Rd w R st) :
    Calls Try.prog 42 #[.pointer (some ⟨R, 0, none⟩)] w fun e w' => e = .returned (.bool (doneOf st)) ∧ w = w' := by
  have H := h
  cases st with
  | some s =>
    obtain ⟨c0, c1, _, _⟩ := h.good
    clear h
    go_enter Try.func42, Try.ntmps42
    go_wp2_with fail
    refine (bad_any R _ _ H).mono ?_
    rintro e w' ⟨rfl, rfl⟩
    go_wp2
    go_ret
    exact ⟨rfl, rfl⟩
  | none =>
    go_enter Try.func42, Try.ntmps42
    go_wp2_with fail
    refine (bad_any R _ _ H).mono ?_
    rintro e w' ⟨rfl, rfl⟩
    go_wp2
    go_ret
    exact ⟨rfl, rfl⟩
theorem done_nil (w : World) :
    Calls Try.prog 42 #[.pointer none] w fun e w' => e = .returned (.bool false) ∧ w = w' := by
  go_enter Try.func42, Try.ntmps42
  go_wp2_with fail
  refine (bad_nil _).mono ?_
  rintro e w' ⟨rfl, rfl⟩
  go_wp2_with fail
  go_ret
  exact ⟨rfl, rfl⟩
end Go.Proofs.Ytghlgmlelipjfaa.Pen
namespace Go.Proofs.Ytghlgmlelipjfaa.Pen
open Go.RowKit Go.Lib

theorem new_any (s : ByteArray) (w : World) :
    Calls Try.prog 40 #[.string s] w fun e w' => e = .returned (.pointer (some ⟨w.heap.size, 0, none⟩)) ∧ w.alloc (.cells (rdCells (some s)) 81) = w' := by
  go_enter Try.func40, Try.ntmps40
  go_wp2
  go_ret
  exact ⟨rfl, rfl⟩
end Go.Proofs.Ytghlgmlelipjfaa.Pen
namespace Go.Proofs.Ytghlgmlelipjfaa.Job.Im
open Go.RowKit Go.Lib
open Goods (St Sts OwnS)
open Pen (uiN uiS tmN tmS)

/-- A reader that went on: what is left, and what it turned. -/
structure Went (w w' : World) (R : Nat) (st : RS) : Prop where
  rd : Pen.Rd w' R st
  fit : Pen.Fit st
  grown : w.grownBy w' (some R)
theorem Went.then {w w1 w2 : World} {R : Nat} {st st' : RS} (h : Went w w1 R st) (k : Went w1 w2 R st') : Went w w2 R st' := ⟨k.rd, k.fit, only_trans h.grown k.grown⟩
theorem Went.begin {w : World} {R : Nat} {st : RS} (h : Pen.Rd w R st) (hf : Pen.Fit st) : Went w w R st := ⟨h, hf, only_refl _ _⟩
theorem Went.under {w w1 w2 : World} {R : Nat} {st : RS} (h : Went w w1 R st) (hb : Below w1.heap.size w1 w2) : Went w w2 R st := ⟨h.rd.of_below hb, h.fit, grown_below h.grown hb h.grown.size⟩
theorem Went.grew {w w1 w2 : World} {R : Nat} {st : RS} {row : Option Nat} (h : Went w w1 R st) (hg : w1.grownBy w2 row) (hr : ∀ g, row = some g → w.heap.size ≤ g) (hR : R < w.heap.size) : Went w w2 R st := ⟨h.rd.of_grown hg (fun e => by have := hr R e.symm; omega), h.fit, grown_over h.grown hg fun g e => .inr (hr g e)⟩
theorem tm_le {st : RS} {most : Int} (h : 0 ≤ most) : (tmN st most : Int) ≤ most := by
  unfold tmN
  split
  · omega
  · unfold uiN
    rw [if_neg (by omega)]
    have := (Pen.tkN_le st most.toNat).1
    omega
theorem own_here {w w' : World} {B R : Nat} {v : Value} (h : w.cell? ⟨B, 0, none⟩ = some v) (hg : w.grownBy w' (some R)) (hn : B ≠ R) : w'.cell? ⟨B, 0, none⟩ = some v := by
  have hb := hg.block B (World.block_lt_of_cell? _ _ h) (fun e => hn (Option.some.inj e))
  exact (World.cell?_of_block hb).trans h
set_option maxRecDepth 100000 in
theorem number_fn (B R : Nat) (st : RS) (w : World) (hB : w.cell? ⟨B, 0, none⟩ = some (.pointer (some ⟨R, 0, none⟩))) (h : Pen.Rd w R st) (hf : Pen.Fit st) :
    Calls Try.prog 60 #[.pointer (some ⟨B, 0, none⟩)] w fun e w' => e = .returned (.int .i64 ((uiN st MX : Nat) : Int)) ∧ Hid (Went w w' R (uiS st MX)) := by
  have HC := Lib.hid (Pen.uint_any R st MX w h hf (Int.le_refl _))
  have HF := Lib.hid (hf.ui MX)
  clear h hf
  go_enter Try.func60, Try.ntmps60
  go_wp2_with fail
  clear hB
  refine HC.out.mono ?_
  rintro e w1 ⟨rfl, h1, h2⟩
  have H1 : Hid (Went w w1 R (uiS st MX)) := Lib.hid ⟨h1, HF.out, h2⟩
  clear h1 h2
  go_wp2_with fail
  go_ret
  exact ⟨rfl, H1⟩
/-- .. as walks want it. -/
theorem number_at (W0 : World) (B R : Nat) (hne : B ≠ R) (hB : W0.cell? ⟨B, 0, none⟩ = some (.pointer (some ⟨R, 0, none⟩))) : Hid (∀ W st n st', uiN st MX = n → uiS st MX = st' → Went W0 W R st → Calls Try.prog 60 #[.pointer (some ⟨B, 0, none⟩)] W fun e w' => e = .returned (.int .i64 ((n : Nat) : Int)) ∧ Hid (Went W0 w' R st' ∧ W.grownBy w' (some R))) := Lib.hid fun W st n st' h1 h2 h3 => by
  subst h1 h2
  refine (number_fn B R st W (own_here hB h3.grown hne) h3.rd h3.fit).mono ?_
  rintro e w' ⟨rfl, H⟩
  exact ⟨rfl, Lib.hid ⟨h3.then H.out, H.out.grown⟩⟩
theorem times_at {w X : World} {R : Nat} {st : RS} (most : Int) (h : Went w X R st) (hm : most ≤ 9223372036854775807) : Calls Try.prog 63 #[.pointer (some ⟨R, 0, none⟩), .int .i64 most] X fun e w' => e = .returned (.int .i64 ((tmN st most : Nat) : Int)) ∧ Hid (Went w w' R (tmS st most) ∧ X.grownBy w' (some R)) := by
  refine (Pen.times_any R st most X h.rd h.fit hm).mono ?_
  rintro e w' ⟨rfl, h1, h2⟩
  exact ⟨rfl, Lib.hid ⟨h.then ⟨h1, h.fit.tm most, h2⟩, h2⟩⟩
set_option maxRecDepth 100000 in
set_option maxHeartbeats 8000000 in
theorem stacks_im (B R k : Nat) (st : RS) (w : World) (hk : k ≤ 8) (hne : B ≠ R) (hB : w.cell? ⟨B, 0, none⟩ = some (.pointer (some ⟨R, 0, none⟩))) (h : Pen.Rd w R st) (hf : Pen.Fit st) (l : List St) (st' : RS) (hl : lsq stq k st = (l, st')) :
    Calls Try.prog 62 #[.int .i64 (k : Int), .func (.func 60) #[] #[.pointer (some ⟨B, 0, none⟩)]] w fun e w' => ∃ a m c, e = .returned (.slice a m c) ∧ Hid (l.length = m ∧ m ≤ 8 ∧ OwnS w' w.heap.size (.slice a m c) l ∧ Went w w' R st') := by
  have HNUM := number_at w B R hne hB
  have HR : Hid (R < w.heap.size) := Lib.hid h.lt
  have HQ := Lib.hid hl
  have H0 : Hid (Went w w R st) := Lib.hid (Went.begin h hf)
  have hk2 : (k : Int) ≤ 8 := by omega
  clear h hf hl hB hne
  go_enter Try.func62, Try.ntmps62
  go_wp2_with fail
  go_loopw [5, 7] (fun v t wr => ∃ (i : Nat) (a : Option Addr) (c : Nat) (o : List St) (s1 : RS), v = .slice a i c ∧ t = .int .i64 (i : Int) ∧ i ≤ k ∧ Hid (OwnS wr w.heap.size (.slice a i c) o ∧ o.length = i) ∧ Hid (Went w wr R s1) ∧ Hid (lsq stq k st = (o ++ (lsq stq (k - i) s1).1, (lsq stq (k - i) s1).2))) (fun _ t _ => k - (RowKit.intOf t).toNat)
  case atStart => exact ⟨0, none, 0, [], st, rfl, rfl, by omega, Lib.hid ⟨World.ownsRow_nil _ _ _ _, rfl⟩, H0, Lib.hid rfl⟩
  case round =>
    clear H0
    obtain ⟨i, a, c, o, s1, rfl, rfl, hi, HO, HW, HI⟩ := hrel
    obtain ⟨W0, rfl⟩ : ∃ W0, W0 = wr := ⟨_, rfl⟩
    have hi0 : (0 : Int) ≤ (i : Int) := by omega
    by_cases hlt : i < k
    · have hlt2 : (i : Int) < (k : Int) := by omega
      have wi : IntKind.i64.wrap ((i : Int) + 1) = (i : Int) + 1 := IntWalk.i64_in _ (by omega)
      obtain ⟨x, hx⟩ : ∃ n : Nat, uiN s1 MX = n := ⟨_, rfl⟩
      obtain ⟨t1, ht1⟩ : ∃ s : RS, uiS s1 MX = s := ⟨_, rfl⟩
      obtain ⟨y, hy⟩ : ∃ n : Nat, uiN t1 MX = n := ⟨_, rfl⟩
      obtain ⟨t2, ht2⟩ : ∃ s : RS, uiS t1 MX = s := ⟨_, rfl⟩
      have NX := Lib.hid hx
      have SX := Lib.hid ht1
      have NY := Lib.hid hy
      have SY := Lib.hid ht2
      have HI2 := Lib.hid (lsq_more HI.out hlt (x := ⟨(x : Int), (y : Int)⟩) (st' := t2) (by unfold stq; rw [hx, ht1, hy]) (by unfold stq; rw [ht1, ht2]))
      clear hx ht1 hy ht2 HI
      go_wp2_with fail
      refine (HNUM.out W0 s1 x t1 NX.out SX.out HW.out).mono ?_
      rintro e v1 ⟨rfl, G1⟩
      go_wp2_with fail
      refine (HNUM.out v1 t1 y t2 NY.out SY.out G1.out.1).mono ?_
      rintro e v2 ⟨rfl, G2⟩
      have ho2 := own_past (own_past HO.out.1 G1.out.2 HR.out) G2.out.2 HR.out
      have hbz : w.heap.size ≤ v2.heap.size := G2.out.1.grown.size
      obtain ⟨a3, c3, w3, hr3, ho3, hg3⟩ := app_s v2 ⟨(x : Int), (y : Int)⟩ ho2 (by omega) hbz
      have HR3 := hr3
      have HO3 : Hid (OwnS w3 w.heap.size (.slice a3 (i + 1) c3) (o ++ [⟨(x : Int), (y : Int)⟩]) ∧ (o ++ [(⟨(x : Int), (y : Int)⟩ : St)]).length = i + 1) := Lib.hid ⟨ho3, by have := HO.out.2; simp [this]⟩
      have HW3 : Hid (Went w w3 R t2) := Lib.hid (G2.out.1.grew hg3 (fun g e => (own_type ho2 e).1) HR.out)
      clear hr3 ho3 hg3 ho2 hbz
      go_wp2_with (at_builtin; refine walk_run (v' := .slice a3 (i + 1) c3) (w' := w3) rfl _ _ _ _ rfl _ _ rfl rfl ?_ ?_; exact HR3.out)
      go_roundw
      case rel => exact ⟨i + 1, a3, c3, o ++ [⟨(x : Int), (y : Int)⟩], t2, rfl, by go_num, by omega, HO3, HW3, HI2⟩
      case measure => simp [RowKit.intOf]; omega
    · obtain rfl : i = k := by omega
      have HF : Hid (o = l ∧ s1 = st') := Lib.hid (by
        have h1 := lsq_end HI.out
        rw [HQ.out] at h1
        injection h1 with h1 h2
        exact ⟨h1.symm, h2.symm⟩)
      have HE : Hid (l.length = i ∧ i ≤ 8 ∧ OwnS W0 w.heap.size (.slice a i c) l ∧ Went w W0 R st') := Lib.hid (by
        rw [← HF.out.1, ← HF.out.2]
        exact ⟨HO.out.2, by omega, HO.out.1, HW.out⟩)
      go_wp2_with fail
      go_ret
      exact ⟨a, i, c, rfl, HE⟩
end Go.Proofs.Ytghlgmlelipjfaa.Job.Im
