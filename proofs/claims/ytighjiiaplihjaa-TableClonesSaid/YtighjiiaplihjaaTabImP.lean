/- The program's Range goes over the pairs between two keys. -/
import Derived.Test.YtighjiiaplihjaaTabImO
namespace Go.Proofs.Ytighjiiaplihjaa.Tab.Im
open Go.RowKit Go.Lib Go.Shelf
attribute [local go_sem] Oper.semAt_some

theorem room_wide (k : Nat) : Fence.wide.room k := fun d h => by cases h
theorem round_any {l m m' lp : Nat} {P : Program} {f : FuncId} {tmps : Array Value} {assign body : Code} {w : World} {R : Ending → World → Prop} (h : RoundIn Fence.wide m P lp f tmps assign body w R) : RoundIn (Fence.wide.inRound l) m' P lp f tmps assign body w R :=
  ⟨h.1, fun c cs _ => h.2 c cs (room_wide _)⟩
theorem grown_of {w w' : World} (h : Below w.heap.size w w') : w.grownBy w' none := ⟨h.os, h.tape, h.output, h.size, fun i hi _ => h.block i hi⟩
theorem all_goes2 {q : Option Addr} {R : Nat → Prop} {l : List Pair} {ks vs : Value} (w : World) (hR : ∀ k, R k → k < w.heap.size) (hT : Reads w R l ks vs) (hl : l.length ≤ 1000)
    (hL : ∀ W', Below w.heap.size w W' → Calls Try.prog 31 #[.pointer q] W' fun e w' => e = .returned (.tuple #[ks, vs]) ∧ ∃ m, W'.drewN m = w') :
    Calls Try.prog 30 #[.pointer q] w fun e w' => ∃ gf lb, e = .returned (.func (.func gf) #[] lb) ∧ Hid (Below w.heap.size w w' ∧ (∀ args w, (callFunc gf args).run Try.prog w = .ok (.enter gf args) w) ∧
      ∀ n : Nat, 2 ≤ n → SeqStopsK Fence.wide n Try.prog gf lb (fun p : Pair => #[kV p.k, .int .i64 p.v]) (Keep R) (fun xs => xs = l) (fun pre => pre <+: l) l.length w') := by
  refine (all_call q w).mono ?_
  rintro e w' ⟨rfl, rfl⟩
  have hb := (Below.refl _ w).alloc (Nat.le_refl _) (.cells #[.pointer q] 24)
  refine ⟨_, _, rfl, Lib.hid ⟨hb, enters_of Try.func41 (by kernel_rfl) rfl, fun n hn lp J Jx W hW hJ hJx hY h0 => ?_⟩⟩
  have hbW := below_then hb hW
  have hbox : (w.alloc (.cells #[.pointer q] 24)).heap[w.heap.size]? = some (.cells #[.pointer q] 24 (0, 0)) := heap_alloc_new w _
  exact all1_in n hn lp w.heap.size q R l ks vs hl J Jx W hJ hY (fun k hk => Nat.lt_of_lt_of_le (hR k hk) hbW.size) (cell_block (j := 0) ((hW.block _ (Array.getElem?_eq_some_iff.1 hbox).1).trans hbox) rfl)
    (hT.keep (fun k hk => hbW.block k (hR k hk))) (fun W' hW' => hL W' (below_then hbW hW')) h0
/-- What stands between two rounds. -/
structure Mid (J : List Pair → World → Prop) (T : World → Nat → Prop) (R : Nat → Prop) (By lp : Nat) (pre : List Pair) (V : World) : Prop where
  j : J pre V
  box : Boxed V By 55 (.func (.yield lp) #[] #[])
  far : ∀ k, R k ∨ k = By → ¬ T V k
  cells : ∀ k, R k → ∃ o : Obj, V.heap[k]? = some o ∧ o.isCells = true
theorem Mid.own {J : List Pair → World → Prop} {T : World → Nat → Prop} {R : Nat → Prop} {By lp D : Nat} (hD : lp < D) (hJ : Abides lp J) (hS : Steady lp J T) : OwnFrom D (Mid J T R By lp) := fun pre A B row h hg hr =>
  ⟨hJ pre A B row h.j hg (fun r e => ⟨by have := (hr r e).1; omega, (hr r e).2⟩), h.box.kept hg (fun e => by
      obtain ⟨_, o, ho, hc⟩ := hr By e.symm
      rw [show A.heap[By]? = _ from h.box] at ho
      cases ho
      cases hc), fun k hk ht => h.far k hk ((hS pre A h.j).2 B row hg (fun r e => ⟨by have := (hr r e).1; omega, (hr r e).2⟩) k ht), fun k hk => by
    obtain ⟨o, ho, hc⟩ := h.cells k hk
    refine ⟨o, (hg.block k (Array.getElem?_eq_some_iff.1 ho).1 (fun e => ?_)).trans ho, hc⟩
    obtain ⟨_, o2, ho2, hc2⟩ := hr k e.symm
    rw [ho] at ho2
    cases ho2
    rw [hc] at hc2
    cases hc2⟩
set_option maxRecDepth 100000 in
set_option maxHeartbeats 8000000 in
theorem range1_in (n : Nat) (hn : 4 ≤ n) (lp b0 b1 b2 : Nat) (q : Option Addr) (R : Nat → Prop) (l : List Pair) (ks vs : Value) (x y : Key) (hl : l.length ≤ 1000) (hr : Rising l) (T : World → Nat → Prop) (J Jx : List Pair → World → Prop) (W : World) (hlp : lp < W.heap.size)
    (hJ : Abides lp J) (hJx : Abides lp Jx) (hS : Steady lp J T) (hRT : ∀ k, R k → ¬ T W k)
    (hY : ∀ pre p W1, J pre W1 → pre.length < (l.filter (within x y)).length → YieldAt Fence.wide (n - 1) Try.prog lp #[kV p.k, .int .i64 p.v] W1 fun e W' => High lp W1 W' ∧ ((e = .returned (.bool true) ∧ J (pre ++ [p]) W' ∧ Leaves T W1 W') ∨ (e = .returned (.bool false) ∧ Jx (pre ++ [p]) W')))
    (h0 : J [] W) (hR : ∀ k, R k → ∃ o : Obj, W.heap[k]? = some o ∧ o.isCells = true) (g0 : W.cell? ⟨b0, 0, none⟩ = some (.pointer q)) (g1 : W.heap[b1]? = some (.cells x.cells 38 (0, 0))) (g2 : W.heap[b2]? = some (.cells y.cells 38 (0, 0)))
    (hT : TL W q l ks vs) (hRd : Reads W R l ks vs) :
    CallsIn Fence.wide n Try.prog 42 #[.func (.yield lp) #[] #[], .pointer (some ⟨b0, 0, none⟩), .pointer (some ⟨b1, 0, none⟩), .pointer (some ⟨b2, 0, none⟩)] W fun e W' => (∃ v, e = .returned v) ∧ ((∃ ys, ys = l.filter (within x y) ∧ J ys W') ∨ (∃ pre, pre <+: l.filter (within x y) ∧ Jx pre W')) := by
  have hRlt : ∀ k, R k → k < W.heap.size := fun k hk => by
    obtain ⟨o, ho, _⟩ := hR k hk
    exact (Array.getElem?_eq_some_iff.1 ho).1
  obtain ⟨X, hX⟩ : ∃ X, W.alloc (.cells #[.func (.yield lp) #[] #[]] 55) = X := ⟨_, rfl⟩
  have hbX : Below W.heap.size W X := by rw [← hX]; exact (Below.refl _ W).alloc (Nat.le_refl _) _
  have hbox : Boxed X W.heap.size 55 (.func (.yield lp) #[] #[]) := by rw [← hX]; exact Boxed.new W _ _
  have g0l : b0 < W.heap.size := World.block_lt_of_cell? _ _ g0
  have x0 := ((bcell hbX).1 b0 0 g0l).trans g0
  have x1 := (hbX.block _ (Array.getElem?_eq_some_iff.1 g1).1).trans g1
  have x2 := (hbX.block _ (Array.getElem?_eq_some_iff.1 g2).1).trans g2
  have u0 := key_at x1 0 (by omega); have u1 := key_at x1 1 (by omega); have u2 := key_at x1 2 (by omega); have u3 := key_at x1 3 (by omega)
  have t0 := key_at x2 0 (by omega); have t1 := key_at x2 1 (by omega); have t2 := key_at x2 2 (by omega); have t3 := key_at x2 3 (by omega)
  simp only [Key.at] at u0 u1 u2 u3 t0 t1 t2 t3
  obtain ⟨L, hL⟩ : ∃ L, l.filter (within x y) = L := ⟨_, rfl⟩
  have hLl : L.length ≤ 1000 := by rw [← hL]; exact Nat.le_trans (List.length_filter_le _ _) hl
  have HBT := Lib.hid (between_tl x y X (hT.under hbX) (hRd.keep (fun k hk => hbX.block k (hRlt k hk))) (fun k hk => Nat.lt_of_lt_of_le (hRlt k hk) hbX.size) hr hl)
  rw [hL] at HBT hY ⊢
  have HJ := Lib.hid hJ; have HJX := Lib.hid hJx; have HS := Lib.hid hS; have HRT := Lib.hid hRT; have HY := Lib.hid hY; have H0 := Lib.hid h0; have HR := Lib.hid hR; have HRL := Lib.hid hRlt; have HBX := Lib.hid hbX; have HBOX := Lib.hid hbox; have HLP := Lib.hid hlp; have HLL := Lib.hid hLl
  have h1n : 1 ≤ n := by omega
  have h2n : 1 ≤ n - 1 := by omega
  clear hJ hJx hS hRT hY h0 hR hRlt hbX hbox hlp g0 g1 g2 g0l x1 x2 hT hRd hL hl hr hLl
  refine callsIn_of_wp_marks Try.func42 rfl trivial ?_ rfl
  simp only [Try.ntmps42, List.size_toArray, List.length_cons, List.length_nil, Nat.reduceAdd, Nat.reduceSub, Array.replicate_succ, Array.replicate_zero, List.push_toArray, List.append_toArray, List.nil_append, List.cons_append]
  gi_wp2
  clear hX
  refine ⟨trivial, (callsIn_wide.2 HBT.out).mono ?_⟩
  rintro e w1 ⟨Q2, k2, v2, rfl, hb1, hq2, hrd2⟩
  have HALL := Lib.hid (all_goes2 (q := some ⟨Q2, 0, none⟩) w1 (fun k hk => Nat.lt_of_lt_of_le (HRL.out k hk) (Nat.le_trans HBX.out.size hb1.size)) hrd2 HLL.out (fun W' hW' => lists_head W' ((hW'.block _ (Array.getElem?_eq_some_iff.1 hq2).1).trans hq2)))
  have HB1 := Lib.hid hb1
  clear hb1 hq2 hrd2 u0 u1 u2 u3 t0 t1 t2 t3 x0
  gi_wp2
  refine ⟨trivial, (callsIn_wide.2 HALL.out).mono ?_⟩
  rintro e w2 ⟨gf, lb, rfl, H2⟩
  obtain ⟨hb2, eg, hgo⟩ := H2.out
  have hbW2 : Below W.heap.size W w2 := below_then (below_then HBX.out HB1.out) hb2
  have hsz : W.heap.size < w2.heap.size := Nat.lt_of_lt_of_le HBOX.out.lt (Nat.le_trans HB1.out.size hb2.size)
  have hlp2 : lp < w2.heap.size := by have := HLP.out; omega
  have hMid : Mid J T R W.heap.size lp [] w2 := by
    have hst : ∀ k, T w2 k → T W k := fun k ht => (HS.out [] W H0.out).2 w2 none (grown_of hbW2) (fun r e => by cases e) k ht
    refine ⟨HJ.out [] W w2 none H0.out (grown_of hbW2) (fun r e => by cases e), (hb2.block _ (Nat.lt_of_lt_of_le HBOX.out.lt HB1.out.size)).trans ((HB1.out.block _ HBOX.out.lt).trans HBOX.out), fun k hk ht => ?_, fun k hk => ?_⟩
    · have h3 := hst k ht
      rcases hk with hk | rfl
      · exact HRT.out k hk h3
      · have := (HS.out [] W H0.out).1 _ h3
        omega
    · obtain ⟨o, ho, hc⟩ := HR.out k hk
      exact ⟨o, (hbW2.block k (HRL.out k hk)).trans ho, hc⟩
  have hOwn : OwnFrom w2.heap.size (Mid J T R W.heap.size lp) := Mid.own hlp2 HJ.out HS.out
  gi_wp2
  refine wpIn_rangeFunc_ownH rfl (by omega) (gf := gf) (lb := lb) rfl trivial eg
    (hgo (n - 1) (by omega)) Keep.trans (keep_b (fun k hk => by have := HRL.out k hk; omega)) (Below.refl _ _) (fun _ => rfl)
    (Mid J T R W.heap.size lp)
    (fun c pre V => c = .ret ∧ Jx pre V)
    hOwn
    (fun c pre A B row h hg hr => ⟨h.1, HJX.out pre A B row h.2 hg (fun r e => ⟨by have := (hr r e).1; omega, (hr r e).2⟩)⟩)
    hMid
    (fun p a' V => ∃ Bx, V.heap[Bx]? = some (.cells p.k.cells 38 (0, 0)) ∧ a' = { tmps := #[.func (.yield lp) #[] #[], .pointer (some ⟨b0, 0, none⟩), .pointer (some ⟨b1, 0, none⟩), .pointer (some ⟨b2, 0, none⟩), .pointer (some ⟨W.heap.size, 0, none⟩), .pointer (some ⟨Bx, 0, none⟩), .int .i64 p.v, .pointer q, kV x, kV y, ptr Q2, .func (.func gf) #[] lb, kV p.k, .int .i64 p.v, undef, undef, undef, undef, undef], defers := [] })
    (fun p a' _ X Y row hs hg hr => by
      obtain ⟨Bx, h2, h3⟩ := hs
      exact ⟨Bx, (hg.block Bx (Array.getElem?_eq_some_iff.1 h2).1 (fun e => by
        obtain ⟨_, o, ho, hc⟩ := hr Bx e.symm
        rw [h2] at ho
        cases ho
        cases hc)).trans h2, h3⟩)
    ?assign ?body ?done ?stop
  case assign =>
    rintro lo pre p V K hM hK
    gi_wp2
    exact hK _ _ ((KeepsOthers.alloc _ _).from _) ⟨by simp, fun k hk => by
      obtain ⟨o, ho, _⟩ := hM.cells k hk
      exact Below.heap_alloc _ _ _ (Array.getElem?_eq_some_iff.1 ho).1⟩ (hOwn.alloc _ hM) ⟨V.heap.size, heap_alloc_new V _, rfl⟩
  case body =>
    rintro lo pre p a' V hlo ⟨r, hr⟩ hM ⟨Bx, hbx, rfl⟩ hlt
    have hc := hM.box.cell
    have k0 : V.cell? ⟨Bx, 0, none⟩ = some (.int .i64 p.k.a) := key_at hbx 0 (by omega)
    have k1 : V.cell? ⟨Bx, 1, none⟩ = some (.int .i64 p.k.b) := key_at hbx 1 (by omega)
    have k2 : V.cell? ⟨Bx, 2, none⟩ = some (.int .i64 p.k.c) := key_at hbx 2 (by omega)
    have k3 : V.cell? ⟨Bx, 3, none⟩ = some (.int .i64 p.k.d) := key_at hbx 3 (by omega)
    obtain ⟨fn, tmps, assign, body, hy, hRn⟩ := HY.out pre p V hM.j hlt
    have h3n : 1 ≤ n - 1 - 1 := by omega
    gi_wp2
    refine (round_any hRn).mono ?_
    rintro e V' ⟨hH, ⟨rfl, hj, hlv⟩ | ⟨rfl, hjx⟩⟩
    · gi_wp2
      have hkf : KeepsFrom w2.heap.size V V' := ⟨hH.1, fun k o hk h1 h2 => hH.2 k o (by omega) h1 h2⟩
      refine ⟨hkf, ⟨hH.1, fun k hk => ?_⟩, ⟨hj, ?_, fun k hk => ?_, fun k hk => ?_⟩⟩
      · obtain ⟨o, ho, hc⟩ := hM.cells k hk
        exact (hlv.kept k o ho hc (hM.far k (.inl hk))).1.trans ho.symm
      · exact (hlv.kept _ _ hM.box rfl (hM.far _ (.inr rfl))).1
      · rcases hk with hk | rfl
        · obtain ⟨o, ho, hc⟩ := hM.cells k hk
          exact (hlv.kept k o ho hc (hM.far k (.inl hk))).2
        · exact (hlv.kept _ _ hM.box rfl (hM.far _ (.inr rfl))).2
      · obtain ⟨o, ho, hc⟩ := hM.cells k hk
        exact ⟨o, (hlv.kept k o ho hc (hM.far k (.inl hk))).1, hc⟩
    · gi_wp2
      exact ⟨⟨hH.1, fun k o hk h1 h2 => hH.2 k o (by omega) h1 h2⟩, rfl, hjx⟩
  case done =>
    rintro D ys V hD rfl hM hK
    gi_wp2
    refine ⟨by simp, .inl ⟨_, _, rfl, run_takeDeferred hK, ?_⟩⟩
    exact ⟨_, results_none rfl _ _ _, ⟨_, rfl⟩, .inl ⟨_, rfl, (hOwn.putObj _ hM hD hK rfl).j⟩⟩
  case stop =>
    rintro D c pre V hD hsp ⟨rfl, hjx⟩ hK
    gi_wp2
    refine ⟨by simp, .inl ⟨_, _, rfl, run_takeDeferred hK, ?_⟩⟩
    exact ⟨_, results_none rfl _ _ _, ⟨_, rfl⟩, .inr ⟨pre, hsp, HJX.out pre V _ (some D) hjx (grownBy_putObj' V D _) (fun r e => by cases e; exact ⟨by omega, _, hK, rfl⟩)⟩⟩
end Go.Proofs.Ytighjiiaplihjaa.Tab.Im
