/- The law on what a catalogue tells. -/
import Derived.Test.YteaclacbdelinaaZCatN
import Derived.ChangeKeysEq
namespace Go.Proofs.Yteaclacbdelinaa.Cat
open Go.RowKit Go.Lib
open Goods (St Sts OwnS)
open Recipe (BlIn blV)
open Graph (Nd Nds OwnN)

def ndA (t : Nd) : Array Value := #[.int .i64 t.a, .int .i64 t.b]
def ndAt (t : Nd) : Nat → Int
  | 0 => t.a
  | _ => t.b
theorem nd_cell (t : Nd) (i : Nat) (h : i < 2) : (ndA t)[i]? = some (.int .i64 (ndAt t i)) := by
  match i, h with
  | 0, _ => rfl
  | 1, _ => rfl
theorem nd_items (x : Nd) (d : Nat) (w : World) : ∀ is : List Nat, (∀ i ∈ is, i < 2) → (Op.eqItems (d + 1) 3 1 (ndA x) (ndA x) is).run Try.prog w = .ok true w
  | [], _ => by simp [Op.eqItems]
  | i :: is, h => by
    have h1 := h i (by simp)
    have p1 := run_part_plain (P := Try.prog) (w := w) (e := 3) (by kernel_rfl) (nd_cell x i h1)
    have p3 := run_equalIn_int (P := Try.prog) w d 3 .i64 .i64 (ndAt x i) (ndAt x i) Try.underlying3
    have ih := nd_items x d w is (fun j hj => h j (by simp [hj]))
    simp only [Op.eqItems, Nat.mul_one, Sem.run_bind, p1, p3, Result.andThen_ok]
    simp [ih]
theorem run_nd (x : Nd) (d : Nat) (w : World) : (Op.equalIn (d + 2) 32 (.agg #[.int .i64 x.a, .int .i64 x.b]) (.agg #[.int .i64 x.a, .int .i64 x.b])).run Try.prog w = .ok true w := by
  obtain ⟨i, hi⟩ : ∃ i, Try.prog.info? 3 = some i := by
    cases h : Try.prog.info? 3 with
    | none =>
      have : (Try.prog.info? 3).isSome = true := by kernel_rfl
      rw [h] at this
      cases this
    | some i => exact ⟨i, rfl⟩
  have hc : Try.prog.cellsOf 3 = 1 := by kernel_rfl
  show (Op.equalIn (d + 1 + 1) 32 (.agg (ndA x)) (.agg (ndA x))).run Try.prog w = _
  rw [run_equalIn_array w (d + 1) _ _ Try.underlying32 hi, hc]
  exact nd_items x d w (List.range 2) (fun i hi => by simpa using hi)
theorem eql_bays (y : Ba) (W : World) : (binOp .eql 40 (baV y) (baV y)).run Try.prog W = .ok (.bool true) W := by
  rw [run_eql_struct]
  go_simp
theorem box_bl (w : World) (b : Recipe.Bl) : ∃ V X, w.heap.size = V ∧ w.alloc (.cells #[.int .i64 b.ot, .int .i64 b.per, .int .i64 b.tm, .slice b.sa b.sm b.sc, .int .i64 b.cp, .int .i64 b.st, .int .i64 b.mo] 35) = X ∧ Hid (Below w.heap.size w X ∧ ∀ W, Below X.heap.size X W → W.heap[V]? = some (.cells #[.int .i64 b.ot, .int .i64 b.per, .int .i64 b.tm, .slice b.sa b.sm b.sc, .int .i64 b.cp, .int .i64 b.st, .int .i64 b.mo] 35 (0, 0))) := by
  refine ⟨_, _, rfl, rfl, Lib.hid ⟨(Below.refl _ w).alloc (Nat.le_refl _) _, fun W hW => ?_⟩⟩
  have h0 := heap_alloc_new w (.cells #[.int .i64 b.ot, .int .i64 b.per, .int .i64 b.tm, .slice b.sa b.sm b.sc, .int .i64 b.cp, .int .i64 b.st, .int .i64 b.mo] 35)
  exact (hW.block _ (Array.getElem?_eq_some_iff.1 h0).1).trans h0
theorem box_ba (w : World) (y : Ba) : ∃ V X, w.heap.size = V ∧ w.alloc (.cells #[.int .i64 y.pl, .int .i64 y.mf, .int .i64 y.lb, .int .i64 y.rt] 40) = X ∧ Hid (Below w.heap.size w X ∧ ∀ W, Below X.heap.size X W → W.heap[V]? = some (.cells #[.int .i64 y.pl, .int .i64 y.mf, .int .i64 y.lb, .int .i64 y.rt] 40 (0, 0))) := by
  refine ⟨_, _, rfl, rfl, Lib.hid ⟨(Below.refl _ w).alloc (Nat.le_refl _) _, fun W hW => ?_⟩⟩
  have h0 := heap_alloc_new w (.cells #[.int .i64 y.pl, .int .i64 y.mf, .int .i64 y.lb, .int .i64 y.rt] 40)
  exact (hW.block _ (Array.getElem?_eq_some_iff.1 h0).1).trans h0
open Classical in
set_option maxRecDepth 100000 in
set_option maxHeartbeats 16000000 in
theorem catalogChecks_in (I : Impl) (C : CM) (n : Int) (w : World) (h : CatAt w C) (hin : InC C) (hb : C.bn ≤ 9223372036854775807) (hy : C.yn ≤ 9223372036854775807) (hs : ∀ b ∈ C.bs, b.sm ≤ 9223372036854775807) (hn : I64 n) :
    Calls Try.prog 3 #[C.v, .int .i64 n] w fun e w' => e = .returned (.bool true) ∧ Below w.heap.size w w' := by
  obtain ⟨V, X, hV, hX, HXB, HP⟩ := box_cat w C
  have HAW := awake_at I X
  have HNO : Hid (∀ W, Below X.heap.size X W → Below w.heap.size w W) := Lib.hid fun W hW => below_then HXB.out hW
  have HFEW : Hid (∀ t, decide (Lim C) = t → Calls Try.prog 6 #[.agg #[.int .i64 C.ty, .slice C.ba C.bn C.bc, .int .i64 C.pl, .slice C.ya C.yn C.yc, .int .i64 C.ch, .int .i64 C.f.broker, .int .i64 C.f.least, .int .i64 C.f.sales]] X fun e w' => e = .returned (.bool t) ∧ Hid (Below X.heap.size X w')) := Lib.hid fun t ht => by
    have := dfew C X (h.under HXB.out) hb hy hs
    rw [ht] at this
    exact this.mono fun _ _ ⟨e, h⟩ => ⟨e, Lib.hid h⟩
  have HAT : Hid (CatAt X C) := Lib.hid (h.under HXB.out)
  have HIN := Lib.hid hin
  obtain ⟨k0, k1, k2, k3, k4, k5, k6, k7⟩ := HP.out X (Below.refl _ _)
  clear h hin hs
  by_cases hl : Lim C
  case neg =>
    have HF := Lib.hid (HFEW.out false (decide_eq_false hl))
    clear hl hb hy
    go_enter Try.func3, Try.ntmps3
    go_wp2_with fail
    clear hX hV
    refine HF.out.mono ?_
    rintro e w1 ⟨rfl, H1⟩
    go_wp2_with fail
    refine (HAW.out w1 H1.out).mono ?_
    rintro e w2 ⟨rfl, H2⟩
    go_wp2_with fail
    go_ret
    exact ⟨rfl, HNO.out _ H2.out⟩
  have HF := Lib.hid (HFEW.out true (decide_eq_true hl))
  have HL := Lib.hid hl
  clear hl HFEW
  have HFIT : Hid (∀ W, Below X.heap.size X W → Fit W C) := Lib.hid fun W hW => ⟨HAT.out.under hW, HL.out, HIN.out⟩
  obtain ⟨NL, hNL⟩ : ∃ l, ndL C.p.bs = l := ⟨_, rfl⟩
  obtain ⟨N, hN⟩ : ∃ m, NL.length = m := ⟨_, rfl⟩
  have HNL := Lib.hid hN
  have HNP : Hid (∀ W, Below X.heap.size X W → Calls Try.prog 8 #[.agg #[.int .i64 C.ty, .slice C.ba C.bn C.bc, .int .i64 C.pl, .slice C.ya C.yn C.yc, .int .i64 C.ch, .int .i64 C.f.broker, .int .i64 C.f.least, .int .i64 C.f.sales]] W fun e w' => ∃ a c, e = .returned (.slice a N c) ∧ Hid (Nds w' a NL ∧ N ≤ 240 ∧ Below X.heap.size X w')) := Lib.hid fun W hW => by
    refine (I.needs C W (HFIT.out W hW)).mono ?_
    rintro e w' ⟨a, m, c, rfl, H⟩
    obtain ⟨h1, h2, h3, h4⟩ := H.out
    rw [hNL] at h1 h3
    obtain rfl : m = N := h1.symm.trans hN
    exact ⟨a, c, rfl, Lib.hid ⟨(Graph.nds_own h3).2, h2, below_then hW h4⟩⟩
  have HND : Hid (∀ W, Below X.heap.size X W → Calls Try.prog 9 #[.agg #[.int .i64 C.ty, .slice C.ba C.bn C.bc, .int .i64 C.pl, .slice C.ya C.yn C.yc, .int .i64 C.ch, .int .i64 C.f.broker, .int .i64 C.f.least, .int .i64 C.f.sales]] W fun e w' => ∃ a c, e = .returned (.slice a N c) ∧ Hid (Nds w' a NL ∧ N ≤ 240 ∧ Below X.heap.size X w' ∧ Below W.heap.size W w')) := Lib.hid fun W hW => by
    refine (dneeds C W (HFIT.out W hW).1 HL.out).mono ?_
    rintro e w' ⟨a, m, c, rfl, H⟩
    obtain ⟨h1, h2, h3, h4⟩ := H.out
    rw [hNL] at h1 h3
    obtain rfl : m = N := h1.symm.trans hN
    exact ⟨a, c, rfl, Lib.hid ⟨(Graph.nds_own h3).2, h2, below_then hW h4, h4⟩⟩
  obtain ⟨be, hbe⟩ : ∃ z, bluE C.p n = z := ⟨_, rfl⟩
  obtain ⟨ye, hye⟩ : ∃ z, bayE C.p n = z := ⟨_, rfl⟩
  obtain ⟨yy, hyy⟩ : ∃ z, bayV C.p n = z := ⟨_, rfl⟩
  obtain ⟨ck, hck⟩ : ∃ z, chkC C.p = z := ⟨_, rfl⟩
  obtain ⟨mk, hmk⟩ : ∃ z, mkr n C.p.bs 0 = z := ⟨_, rfl⟩
  have HBP : Hid (∀ W, Below X.heap.size X W → Calls Try.prog 10 #[.agg #[.int .i64 C.ty, .slice C.ba C.bn C.bc, .int .i64 C.pl, .slice C.ya C.yn C.yc, .int .i64 C.ch, .int .i64 C.f.broker, .int .i64 C.f.least, .int .i64 C.f.sales], .int .i64 n] W fun e w' => ∃ b : Recipe.Bl, e = .returned (.tuple #[.agg #[.int .i64 b.ot, .int .i64 b.per, .int .i64 b.tm, .slice b.sa b.sm b.sc, .int .i64 b.cp, .int .i64 b.st, .int .i64 b.mo], .int .i64 be]) ∧ Hid (pOf b = bluV C.p n ∧ (b.s.length = b.sm ∧ Sts w' b.sa b.s) ∧ Below W.heap.size W w')) := Lib.hid fun W hW => by
    refine (I.blue C n W (HFIT.out W hW) hn).mono ?_
    rintro e w' ⟨b, rfl, H⟩
    rw [hbe]
    exact ⟨b, rfl, Lib.hid ⟨H.out.1, ⟨H.out.2.1, H.out.2.2.1⟩, H.out.2.2.2⟩⟩
  have HBD : Hid (∀ W, Below X.heap.size X W → Calls Try.prog 11 #[.agg #[.int .i64 C.ty, .slice C.ba C.bn C.bc, .int .i64 C.pl, .slice C.ya C.yn C.yc, .int .i64 C.ch, .int .i64 C.f.broker, .int .i64 C.f.least, .int .i64 C.f.sales], .int .i64 n] W fun e w' => ∃ b : Recipe.Bl, e = .returned (.tuple #[.agg #[.int .i64 b.ot, .int .i64 b.per, .int .i64 b.tm, .slice b.sa b.sm b.sc, .int .i64 b.cp, .int .i64 b.st, .int .i64 b.mo], .int .i64 be]) ∧ Hid (pOf b = bluV C.p n ∧ (b.s.length = b.sm ∧ Sts w' b.sa b.s) ∧ Below W.heap.size W w')) := Lib.hid fun W hW => by
    refine (dblue C n W (HFIT.out W hW).1 (by have := HL.out.2.1; omega)).mono ?_
    rintro e w' ⟨b, rfl, H⟩
    rw [hbe]
    exact ⟨b, rfl, Lib.hid ⟨H.out.1, ⟨H.out.2.1, H.out.2.2.1⟩, H.out.2.2.2⟩⟩
  have HYP : Hid (∀ W, Below X.heap.size X W → Calls Try.prog 12 #[.agg #[.int .i64 C.ty, .slice C.ba C.bn C.bc, .int .i64 C.pl, .slice C.ya C.yn C.yc, .int .i64 C.ch, .int .i64 C.f.broker, .int .i64 C.f.least, .int .i64 C.f.sales], .int .i64 n] W fun e w' => e = .returned (.tuple #[.agg #[.int .i64 yy.pl, .int .i64 yy.mf, .int .i64 yy.lb, .int .i64 yy.rt], .int .i64 ye]) ∧ Hid (Below W.heap.size W w')) := Lib.hid fun W hW => by
    have := I.bay C n W (HFIT.out W hW) hn
    rw [hye, hyy] at this
    exact this.mono fun _ _ ⟨e, h⟩ => ⟨e, Lib.hid h⟩
  have HYD : Hid (∀ W, Below X.heap.size X W → Calls Try.prog 13 #[.agg #[.int .i64 C.ty, .slice C.ba C.bn C.bc, .int .i64 C.pl, .slice C.ya C.yn C.yc, .int .i64 C.ch, .int .i64 C.f.broker, .int .i64 C.f.least, .int .i64 C.f.sales], .int .i64 n] W fun e w' => e = .returned (.tuple #[.agg #[.int .i64 yy.pl, .int .i64 yy.mf, .int .i64 yy.lb, .int .i64 yy.rt], .int .i64 ye]) ∧ Hid (Below W.heap.size W w')) := Lib.hid fun W hW => by
    have := dbay C n W (HFIT.out W hW).1 (by have := HL.out.2.2; omega)
    rw [hye, hyy] at this
    exact this.mono fun _ _ ⟨e, h⟩ => ⟨e, Lib.hid h⟩
  have HCP : Hid (∀ W, Below X.heap.size X W → Calls Try.prog 14 #[.agg #[.int .i64 C.ty, .slice C.ba C.bn C.bc, .int .i64 C.pl, .slice C.ya C.yn C.yc, .int .i64 C.ch, .int .i64 C.f.broker, .int .i64 C.f.least, .int .i64 C.f.sales]] W fun e w' => e = .returned (.int .i64 ck) ∧ Hid (Below W.heap.size W w')) := Lib.hid fun W hW => by
    have := I.check C W (HFIT.out W hW)
    rw [hck] at this
    exact this.mono fun _ _ ⟨e, h⟩ => ⟨e, Lib.hid h⟩
  have HCD : Hid (∀ W, Below X.heap.size X W → Calls Try.prog 15 #[.agg #[.int .i64 C.ty, .slice C.ba C.bn C.bc, .int .i64 C.pl, .slice C.ya C.yn C.yc, .int .i64 C.ch, .int .i64 C.f.broker, .int .i64 C.f.least, .int .i64 C.f.sales]] W fun e w' => e = .returned (.int .i64 ck) ∧ Hid (Below W.heap.size W w')) := Lib.hid fun W hW => by
    have := dcheck C W (HFIT.out W hW).1 HL.out
    rw [hck] at this
    exact this.mono fun _ _ ⟨e, h⟩ => ⟨e, Lib.hid h⟩
  have HMP : Hid (∀ W, Below X.heap.size X W → Calls Try.prog 16 #[.agg #[.int .i64 C.ty, .slice C.ba C.bn C.bc, .int .i64 C.pl, .slice C.ya C.yn C.yc, .int .i64 C.ch, .int .i64 C.f.broker, .int .i64 C.f.least, .int .i64 C.f.sales], .int .i64 n] W fun e w' => e = .returned (.int .i64 mk) ∧ Hid (Below W.heap.size W w')) := Lib.hid fun W hW => by
    have := I.maker C n W (HFIT.out W hW) hn
    rw [hmk] at this
    exact this.mono fun _ _ ⟨e, h⟩ => ⟨e, Lib.hid h⟩
  have HMD : Hid (∀ W, Below X.heap.size X W → Calls Try.prog 17 #[.agg #[.int .i64 C.ty, .slice C.ba C.bn C.bc, .int .i64 C.pl, .slice C.ya C.yn C.yc, .int .i64 C.ch, .int .i64 C.f.broker, .int .i64 C.f.least, .int .i64 C.f.sales], .int .i64 n] W fun e w' => e = .returned (.int .i64 mk) ∧ Hid (Below W.heap.size W w')) := Lib.hid fun W hW => by
    have := dmaker C n W (HFIT.out W hW).1 (by have := HL.out.2.1; omega)
    rw [hmk] at this
    exact this.mono fun _ _ ⟨e, h⟩ => ⟨e, Lib.hid h⟩
  have HFEWB : Hid (∀ b : Recipe.Bl, pOf b = bluV C.p n → b.s.length = b.sm → b.sm ≤ 1048576) := Lib.hid fun b hp hl => by
    by_cases hk : 1 ≤ n ∧ n ≤ C.p.bs.length
    · obtain ⟨i, hi⟩ := Int.eq_ofNat_of_zero_le (show 0 ≤ n - 1 by omega)
      obtain rfl : n = (i : Int) + 1 := by omega
      have hlt : i < C.bs.length := by
        have : C.p.bs.length = C.bs.length := by simp [CM.p]
        omega
      have hg : C.p.bs[i]? = some (pOf C.bs[i]) := by simp [CM.p, hlt]
      rw [(blu_yes hg).2] at hp
      have e := (pOf_eq hp).2.2.2.1
      have h1 := HL.out.1 C.bs[i] (List.getElem_mem hlt)
      have h2 := (HAT.out.1.2.2 C.bs[i] (List.getElem_mem hlt)).1
      rw [e] at hl
      omega
    · rw [(blu_no hk).2] at hp
      have e : b.s = [] := congrArg (fun x : PB => x.s) hp
      rw [e] at hl
      simp at hl
      omega
  clear hb hy hn hbe hye hyy hck hmk hN hNL
  go_enter Try.func3, Try.ntmps3
  go_wp2_with fail
  clear hX hV
  refine HF.out.mono ?_
  rintro e w1 ⟨rfl, H1⟩
  clear k0 k1 k2 k3 k4 k5 k6 k7
  have HD1 : Hid (Below X.heap.size X w1.drew) := Lib.hid H1.out.drew
  have HCELL : Hid (∀ W, Below X.heap.size X W → W.cell? ⟨V, 0, none⟩ = some (.int .i64 C.ty) ∧ W.cell? ⟨V, 1, none⟩ = some (.slice C.ba C.bn C.bc) ∧ W.cell? ⟨V, 2, none⟩ = some (.int .i64 C.pl) ∧ W.cell? ⟨V, 3, none⟩ = some (.slice C.ya C.yn C.yc) ∧ W.cell? ⟨V, 4, none⟩ = some (.int .i64 C.ch) ∧ W.cell? ⟨V, 5, none⟩ = some (.int .i64 C.f.broker) ∧ W.cell? ⟨V, 6, none⟩ = some (.int .i64 C.f.least) ∧ W.cell? ⟨V, 7, none⟩ = some (.int .i64 C.f.sales)) := Lib.hid fun W hW => HP.out W hW
  go_wp2_with fail
  go_upto_region 3 with fail
  go_cut [5, 6] (fun s5 s6 wx => ∃ a c a2 c2, s5 = .slice a N c ∧ s6 = .slice a2 N c2 ∧ Hid (Nds wx a NL ∧ Nds wx a2 NL ∧ N ≤ 240 ∧ Below X.heap.size X wx))
  case first =>
    go_region_held3 (fun W => W.cell? ⟨V, 0, none⟩ = some (.int .i64 C.ty) ∧ W.cell? ⟨V, 1, none⟩ = some (.slice C.ba C.bn C.bc) ∧ W.cell? ⟨V, 2, none⟩ = some (.int .i64 C.pl) ∧ W.cell? ⟨V, 3, none⟩ = some (.slice C.ya C.yn C.yc) ∧ W.cell? ⟨V, 4, none⟩ = some (.int .i64 C.ch) ∧ W.cell? ⟨V, 5, none⟩ = some (.int .i64 C.f.broker) ∧ W.cell? ⟨V, 6, none⟩ = some (.int .i64 C.f.least) ∧ W.cell? ⟨V, 7, none⟩ = some (.int .i64 C.f.sales))
      (first | exact HCELL.out _ HD1.out | exact HCELL.out _ N6.out.2.2 | exact HCELL.out _ N7.out.2.2.1)
      (first
        | (go_at_call 8; refine (HNP.out _ HD1.out).mono ?_; rintro e w6 ⟨a6, c6, rfl, N6⟩)
        | (go_at_call 9; refine (HND.out _ N6.out.2.2).mono ?_; rintro e w7 ⟨a7, c7, rfl, N7⟩))
    all_goals
      go_wp2_with fail
      go_meet
      exact ⟨a6, c6, a7, c7, rfl, rfl, Lib.hid ⟨N6.out.1.under N7.out.2.2.2, N7.out.1, N7.out.2.1, N7.out.2.2.1⟩⟩
  case rest =>
    obtain ⟨a6, c6, a7, c7, rfl, rfl, HN⟩ := hcut
    obtain ⟨w7, rfl⟩ : ∃ w7, w7 = wc := ⟨_, rfl⟩
    have hN2 : (N : Int) ≤ 240 := by have := HN.out.2.2.1; omega
    have HT1 := Graph.nds_at HN.out.1
    have HT2 := Graph.nds_at HN.out.2.1
    go_wp2_with fail
    go_loopw [7] (fun t wr => ∃ i : Nat, t = .int .i64 (i : Int) ∧ i ≤ N ∧ Hid (Below w7.heap.size w7 wr)) (fun t _ => N - (RowKit.intOf t).toNat)
    case atStart => exact ⟨0, rfl, by omega, Lib.hid (Below.refl _ _)⟩
    case round =>
      obtain ⟨i, rfl, hi, HB⟩ := hrel
      obtain ⟨W0, rfl⟩ : ∃ W0, W0 = wr := ⟨_, rfl⟩
      have hi0 : (0 : Int) ≤ (i : Int) := by omega
      by_cases hlt : i < N
      · have hlt2 : (i : Int) < (N : Int) := by omega
        obtain ⟨g, off, t, rfl, ht, x0, x1⟩ := HT1.out W0 i HB.out (by rw [HNL.out]; exact hlt)
        obtain ⟨g2, off2, t2, rfl, ht2, z0, z1⟩ := HT2.out W0 i HB.out (by rw [HNL.out]; exact hlt)
        have e := ht.out
        rw [ht2.out] at e
        cases e
        have hne : ∀ W, (Op.equalIn 10000 32 (.agg #[.int .i64 t.a, .int .i64 t.b]) (.agg #[.int .i64 t.a, .int .i64 t.b])).run Try.prog W = .ok true W := fun W => run_nd t 9998 W
        have wi : IntKind.i64.wrap ((i : Int) + 1) = (i : Int) + 1 := IntWalk.i64_in _ (by omega)
        go_wp2_with fail
        go_quiet (fail)
        go_wp2_with fail
        go_roundw
        case rel => exact ⟨i + 1, by go_num, by omega, Lib.hid (Graph.below_drewN HB.out _)⟩
        case measure => simp [RowKit.intOf]; omega
      · obtain rfl : i = N := by omega
        have HW0 : Hid (Below X.heap.size X W0) := Lib.hid (below_then HN.out.2.2.2 HB.out)
        clear HB HT1 HT2
        obtain ⟨k0, k1, k2, k3, k4, k5, k6, k7⟩ := HP.out W0 HW0.out
        go_wp2_with fail
        refine (HBP.out W0 HW0.out).mono ?_
        rintro e w8 ⟨b, rfl, P8⟩
        clear k0 k1 k2 k3 k4 k5 k6 k7
        go_upto_region 12 with fail
        obtain ⟨V8, X8, hV8, hX8, HX8⟩ := box_bl w8 b
        rw [hX8, hV8]
        clear hX8 hV8
        have HB8 : Hid (Below X.heap.size X X8) := Lib.hid (below_then HW0.out (below_then P8.out.2.2 HX8.out.1))
        obtain ⟨k0, k1, k2, k3, k4, k5, k6, k7⟩ := HP.out X8 HB8.out
        go_wp2_with fail
        refine (HBD.out X8 HB8.out).mono ?_
        rintro e w9 ⟨b2, rfl, P9⟩
        clear k0 k1 k2 k3 k4 k5 k6 k7
        go_upto_region 13 with fail
        obtain ⟨V9, X9, hV9, hX9, HX9⟩ := box_bl w9 b2
        rw [hX9, hV9]
        clear hX9 hV9
        have HB89 : Hid (Below X8.heap.size X8 X9) := Lib.hid (below_then P9.out.2.2 HX9.out.1)
        have HB9 : Hid (Below X.heap.size X X9) := Lib.hid (below_then HB8.out HB89.out)
        obtain ⟨k0, k1, k2, k3, k4, k5, k6, k7⟩ := HP.out X9 HB9.out
        go_wp2_with fail
        refine (HYP.out X9 HB9.out).mono ?_
        rintro e wA ⟨rfl, PA⟩
        clear k0 k1 k2 k3 k4 k5 k6 k7
        go_upto_region 14 with fail
        obtain ⟨VA, XA, hVA, hXA, HXA⟩ := box_ba wA yy
        rw [hXA, hVA]
        clear hXA hVA
        have HB9A : Hid (Below X9.heap.size X9 XA) := Lib.hid (below_then PA.out HXA.out.1)
        have HBA : Hid (Below X.heap.size X XA) := Lib.hid (below_then HB9.out HB9A.out)
        obtain ⟨k0, k1, k2, k3, k4, k5, k6, k7⟩ := HP.out XA HBA.out
        go_wp2_with fail
        refine (HYD.out XA HBA.out).mono ?_
        rintro e wB ⟨rfl, PB⟩
        clear k0 k1 k2 k3 k4 k5 k6 k7
        go_upto_region 15 with fail
        obtain ⟨VB, Y, hVB, hY, HY⟩ := box_ba wB yy
        rw [hY, hVB]
        clear hY hVB
        have HBAY : Hid (Below XA.heap.size XA Y) := Lib.hid (below_then PB.out HY.out.1)
        have HXY : Hid (Below X.heap.size X Y) := Lib.hid (below_then HBA.out HBAY.out)
        have HCC : Hid (∀ W, Below Y.heap.size Y W → (W.cell? ⟨V, 0, none⟩ = some (.int .i64 C.ty) ∧ W.cell? ⟨V, 1, none⟩ = some (.slice C.ba C.bn C.bc) ∧ W.cell? ⟨V, 2, none⟩ = some (.int .i64 C.pl) ∧ W.cell? ⟨V, 3, none⟩ = some (.slice C.ya C.yn C.yc) ∧ W.cell? ⟨V, 4, none⟩ = some (.int .i64 C.ch) ∧ W.cell? ⟨V, 5, none⟩ = some (.int .i64 C.f.broker) ∧ W.cell? ⟨V, 6, none⟩ = some (.int .i64 C.f.least) ∧ W.cell? ⟨V, 7, none⟩ = some (.int .i64 C.f.sales)) ∧ (W.cell? ⟨V8, 0, none⟩ = some (.int .i64 b.ot) ∧ W.cell? ⟨V8, 1, none⟩ = some (.int .i64 b.per) ∧ W.cell? ⟨V8, 2, none⟩ = some (.int .i64 b.tm) ∧ W.cell? ⟨V8, 3, none⟩ = some (.slice b.sa b.sm b.sc) ∧ W.cell? ⟨V8, 4, none⟩ = some (.int .i64 b.cp) ∧ W.cell? ⟨V8, 5, none⟩ = some (.int .i64 b.st) ∧ W.cell? ⟨V8, 6, none⟩ = some (.int .i64 b.mo)) ∧ (W.cell? ⟨V9, 0, none⟩ = some (.int .i64 b2.ot) ∧ W.cell? ⟨V9, 1, none⟩ = some (.int .i64 b2.per) ∧ W.cell? ⟨V9, 2, none⟩ = some (.int .i64 b2.tm) ∧ W.cell? ⟨V9, 3, none⟩ = some (.slice b2.sa b2.sm b2.sc) ∧ W.cell? ⟨V9, 4, none⟩ = some (.int .i64 b2.cp) ∧ W.cell? ⟨V9, 5, none⟩ = some (.int .i64 b2.st) ∧ W.cell? ⟨V9, 6, none⟩ = some (.int .i64 b2.mo)) ∧ (W.cell? ⟨VA, 0, none⟩ = some (.int .i64 yy.pl) ∧ W.cell? ⟨VA, 1, none⟩ = some (.int .i64 yy.mf) ∧ W.cell? ⟨VA, 2, none⟩ = some (.int .i64 yy.lb) ∧ W.cell? ⟨VA, 3, none⟩ = some (.int .i64 yy.rt)) ∧ (W.cell? ⟨VB, 0, none⟩ = some (.int .i64 yy.pl) ∧ W.cell? ⟨VB, 1, none⟩ = some (.int .i64 yy.mf) ∧ W.cell? ⟨VB, 2, none⟩ = some (.int .i64 yy.lb) ∧ W.cell? ⟨VB, 3, none⟩ = some (.int .i64 yy.rt))) := Lib.hid fun W hW => by
          have h9 := below_then HB9A.out (below_then HBAY.out hW)
          have h8 := below_then HB89.out h9
          exact ⟨HP.out W (below_then HXY.out hW), (blk7 (HX8.out.2 W h8)).1, (blk7 (HX9.out.2 W h9)).1, (blk4 (HXA.out.2 W (below_then HBAY.out hW))).1, (blk4 (HY.out.2 W hW)).1⟩
        have HDY : Hid (Below Y.heap.size Y Y.drew) := Lib.hid (Below.refl _ Y).drew
        have T1 : Hid (∀ W, Below Y.heap.size Y W → Calls Try.prog 14 #[.agg #[.int .i64 C.ty, .slice C.ba C.bn C.bc, .int .i64 C.pl, .slice C.ya C.yn C.yc, .int .i64 C.ch, .int .i64 C.f.broker, .int .i64 C.f.least, .int .i64 C.f.sales]] W fun e w' => e = .returned (.int .i64 ck) ∧ Hid (Below Y.heap.size Y w')) := Lib.hid fun W hW => (HCP.out W (below_then HXY.out hW)).mono fun _ _ ⟨e, h⟩ => ⟨e, Lib.hid (below_then hW h.out)⟩
        have T2 : Hid (∀ W, Below Y.heap.size Y W → Calls Try.prog 15 #[.agg #[.int .i64 C.ty, .slice C.ba C.bn C.bc, .int .i64 C.pl, .slice C.ya C.yn C.yc, .int .i64 C.ch, .int .i64 C.f.broker, .int .i64 C.f.least, .int .i64 C.f.sales]] W fun e w' => e = .returned (.int .i64 ck) ∧ Hid (Below Y.heap.size Y w')) := Lib.hid fun W hW => (HCD.out W (below_then HXY.out hW)).mono fun _ _ ⟨e, h⟩ => ⟨e, Lib.hid (below_then hW h.out)⟩
        have T3 : Hid (∀ W, Below Y.heap.size Y W → Calls Try.prog 16 #[.agg #[.int .i64 C.ty, .slice C.ba C.bn C.bc, .int .i64 C.pl, .slice C.ya C.yn C.yc, .int .i64 C.ch, .int .i64 C.f.broker, .int .i64 C.f.least, .int .i64 C.f.sales], .int .i64 n] W fun e w' => e = .returned (.int .i64 mk) ∧ Hid (Below Y.heap.size Y w')) := Lib.hid fun W hW => (HMP.out W (below_then HXY.out hW)).mono fun _ _ ⟨e, h⟩ => ⟨e, Lib.hid (below_then hW h.out)⟩
        have T4 : Hid (∀ W, Below Y.heap.size Y W → Calls Try.prog 17 #[.agg #[.int .i64 C.ty, .slice C.ba C.bn C.bc, .int .i64 C.pl, .slice C.ya C.yn C.yc, .int .i64 C.ch, .int .i64 C.f.broker, .int .i64 C.f.least, .int .i64 C.f.sales], .int .i64 n] W fun e w' => e = .returned (.int .i64 mk) ∧ Hid (Below Y.heap.size Y w')) := Lib.hid fun W hW => (HMD.out W (below_then HXY.out hW)).mono fun _ _ ⟨e, h⟩ => ⟨e, Lib.hid (below_then hW h.out)⟩
        have T5 : Hid (∀ W, Below Y.heap.size Y W → Calls Try.prog 18 #[.agg #[.int .i64 b.ot, .int .i64 b.per, .int .i64 b.tm, .slice b.sa b.sm b.sc, .int .i64 b.cp, .int .i64 b.st, .int .i64 b.mo], .agg #[.int .i64 b2.ot, .int .i64 b2.per, .int .i64 b2.tm, .slice b2.sa b2.sm b2.sc, .int .i64 b2.cp, .int .i64 b2.st, .int .i64 b2.mo]] W fun e w' => e = .returned (.bool true) ∧ Hid (Below Y.heap.size Y w')) := Lib.hid fun W hW => by
          have h9 := below_then HB9A.out (below_then HBAY.out hW)
          have h8 := below_then HB89.out h9
          have q1 := P8.out
          have q2 := P9.out
          exact (dsblue b b2 W q1.2.1.1 ((q1.2.1.2.under HX8.out.1).under h8) (HFEWB.out b q1.1 q1.2.1.1) q2.2.1.1 ((q2.2.1.2.under HX9.out.1).under h9) (HFEWB.out b2 q2.1 q2.2.1.1) (q1.1.trans q2.1.symm)).mono fun _ _ ⟨e, h⟩ => ⟨e, Lib.hid (below_then hW h)⟩
        have T6 := awake_at I Y
        have HFIN : Hid (∀ W, Below Y.heap.size Y W → Below w.heap.size w W) := Lib.hid fun W hW => HNO.out W (below_then HXY.out hW)
        have hrun : ∀ W, (binOp .eql 40 (.agg #[.int .i64 yy.pl, .int .i64 yy.mf, .int .i64 yy.lb, .int .i64 yy.rt]) (.agg #[.int .i64 yy.pl, .int .i64 yy.mf, .int .i64 yy.lb, .int .i64 yy.rt])).run Try.prog W = .ok (.bool true) W := fun W => eql_bays yy W
        go_region_held3 (fun W => (W.cell? ⟨V, 0, none⟩ = some (.int .i64 C.ty) ∧ W.cell? ⟨V, 1, none⟩ = some (.slice C.ba C.bn C.bc) ∧ W.cell? ⟨V, 2, none⟩ = some (.int .i64 C.pl) ∧ W.cell? ⟨V, 3, none⟩ = some (.slice C.ya C.yn C.yc) ∧ W.cell? ⟨V, 4, none⟩ = some (.int .i64 C.ch) ∧ W.cell? ⟨V, 5, none⟩ = some (.int .i64 C.f.broker) ∧ W.cell? ⟨V, 6, none⟩ = some (.int .i64 C.f.least) ∧ W.cell? ⟨V, 7, none⟩ = some (.int .i64 C.f.sales)) ∧ (W.cell? ⟨V8, 0, none⟩ = some (.int .i64 b.ot) ∧ W.cell? ⟨V8, 1, none⟩ = some (.int .i64 b.per) ∧ W.cell? ⟨V8, 2, none⟩ = some (.int .i64 b.tm) ∧ W.cell? ⟨V8, 3, none⟩ = some (.slice b.sa b.sm b.sc) ∧ W.cell? ⟨V8, 4, none⟩ = some (.int .i64 b.cp) ∧ W.cell? ⟨V8, 5, none⟩ = some (.int .i64 b.st) ∧ W.cell? ⟨V8, 6, none⟩ = some (.int .i64 b.mo)) ∧ (W.cell? ⟨V9, 0, none⟩ = some (.int .i64 b2.ot) ∧ W.cell? ⟨V9, 1, none⟩ = some (.int .i64 b2.per) ∧ W.cell? ⟨V9, 2, none⟩ = some (.int .i64 b2.tm) ∧ W.cell? ⟨V9, 3, none⟩ = some (.slice b2.sa b2.sm b2.sc) ∧ W.cell? ⟨V9, 4, none⟩ = some (.int .i64 b2.cp) ∧ W.cell? ⟨V9, 5, none⟩ = some (.int .i64 b2.st) ∧ W.cell? ⟨V9, 6, none⟩ = some (.int .i64 b2.mo)) ∧ (W.cell? ⟨VA, 0, none⟩ = some (.int .i64 yy.pl) ∧ W.cell? ⟨VA, 1, none⟩ = some (.int .i64 yy.mf) ∧ W.cell? ⟨VA, 2, none⟩ = some (.int .i64 yy.lb) ∧ W.cell? ⟨VA, 3, none⟩ = some (.int .i64 yy.rt)) ∧ (W.cell? ⟨VB, 0, none⟩ = some (.int .i64 yy.pl) ∧ W.cell? ⟨VB, 1, none⟩ = some (.int .i64 yy.mf) ∧ W.cell? ⟨VB, 2, none⟩ = some (.int .i64 yy.lb) ∧ W.cell? ⟨VB, 3, none⟩ = some (.int .i64 yy.rt)))
          (first | exact HCC.out _ HDY.out | exact HCC.out _ H1'.out | exact HCC.out _ H2'.out | exact HCC.out _ H3'.out | exact HCC.out _ H4'.out | exact HCC.out _ H5'.out | exact HCC.out _ H6'.out)
          (first
            | (go_at_call 14; with_reducible (refine (T1.out _ HDY.out).mono ?_); rintro e w6 ⟨rfl, H1'⟩)
            | (go_at_call 15; with_reducible (refine (T2.out _ H1'.out).mono ?_); rintro e w7 ⟨rfl, H2'⟩)
            | (go_at_call 16; with_reducible (refine (T3.out _ H2'.out).mono ?_); rintro e w8 ⟨rfl, H3'⟩)
            | (go_at_call 17; with_reducible (refine (T4.out _ H3'.out).mono ?_); rintro e w9 ⟨rfl, H4'⟩)
            | (go_at_call 18; with_reducible (refine (T5.out _ H4'.out).mono ?_); rintro e w10 ⟨rfl, H5'⟩)
            | (go_at_call 7; with_reducible (refine (T6.out _ H5'.out).mono ?_); rintro e w11 ⟨rfl, H6'⟩))
        all_goals
          go_wp2_with fail
          go_ret
          exact ⟨rfl, HFIN.out _ H6'.out⟩
end Go.Proofs.Yteaclacbdelinaa.Cat
