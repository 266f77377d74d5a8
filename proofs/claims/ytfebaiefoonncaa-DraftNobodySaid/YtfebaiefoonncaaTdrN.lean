/- The program's All: what who goes over it may count on. -/
import Derived.RangeFuncNested
import Derived.RangeFuncBox
import Derived.RangeFuncBound
import Derived.RangeFuncCalls
import Derived.RangeFuncLeaves
import Derived.Shelf.Abstract
import Derived.Shelf.RegionOpen
import Derived.WalkKit
import Derived.OwnWalkIn
import Derived.TacticsInMore
import Derived.LoopNIn
import Derived.LoopIn
import Derived.Maps.OwnIn
import Derived.Maps.AppendAt
import Derived.Test.YtfebaiefoonncaaForward
import Derived.Test.YtfebaiefoonncaaTdrD
namespace Go.Proofs.Ytfebaiefoonncaa.Tb.Dr
open Go.RowKit Go.Lib Draft Go.Shelf
attribute [local go_sem] Oper.semAt_some

attribute [local go_sem] Oper.semAt_some
attribute [local go_sem] Oper.semAt_some
/-- A value that goes over the pairs l, whatever a round does that keeps the blocks R. -/
def Goes (w : World) (R : Nat → Prop) (gf : Nat) (lb : Array Value) (l : List Pr) : Prop :=
  (∀ args w, (callFunc gf args).run Try.prog w = .ok (.enter gf args) w) ∧
  ∀ n : Nat, 4 ≤ n → SeqStopsK Fence.wide n Try.prog gf lb (fun p : Pr => #[kV p.k, elV p.v]) (Keep R) (fun xs => xs = l) (fun pre => pre <+: l) l.length w
theorem Goes.mono {w : World} {R R' : Nat → Prop} {gf : Nat} {lb : Array Value} {l : List Pr} (h : Goes w R gf lb l) (hr : ∀ k, R k → R' k) : Goes w R' gf lb l :=
  ⟨h.1, fun n hn lp J Jx W hW hJ hJx hY h0 => h.2 n hn lp J Jx W hW hJ hJx (fun pre x W1 hj hl => (hY pre x W1 hj hl).mono (fun e W' hp => by
    rcases hp with ⟨h1, h2, h3⟩ | h1
    · exact .inl ⟨h1, h2, h3.1, fun k hk => h3.2 k (hr k hk)⟩
    · exact .inr h1)) h0⟩
/-- Two lists as those that go over them read them: they lie in the blocks R. -/
def Reads (w : World) (R : Nat → Prop) (l : List Pr) (ks vs : Value) : Prop := ∃ a c b d, ks = .slice a l.length c ∧ vs = .slice b l.length d ∧ l.length ≤ c ∧ l.length ≤ d ∧ ∀ (i : Nat) (p : Pr), l[i]? = some p →
    ∃ g o f u, a = some ⟨g, o, none⟩ ∧ b = some ⟨f, u, none⟩ ∧ R g ∧ R f ∧ (w.cell? ⟨g, o + i * 4, none⟩ = some (.int .i64 p.k.a) ∧ w.cell? ⟨g, o + i * 4 + 1, none⟩ = some (.int .i64 p.k.b) ∧ w.cell? ⟨g, o + i * 4 + 2, none⟩ = some (.int .i64 p.k.c) ∧ w.cell? ⟨g, o + i * 4 + 3, none⟩ = some (.int .i64 p.k.d)) ∧
      w.cell? ⟨f, u + i * 9, none⟩ = some (.int .i64 p.v.id) ∧ w.cell? ⟨f, u + i * 9 + 1, none⟩ = some (.int .i64 p.v.owner) ∧ w.cell? ⟨f, u + i * 9 + 2, none⟩ = some (.int .i64 p.v.div) ∧ w.cell? ⟨f, u + i * 9 + 3, none⟩ = some (.int .i64 p.v.place) ∧ w.cell? ⟨f, u + i * 9 + 4, none⟩ = some (.int .i64 p.v.blue) ∧ w.cell? ⟨f, u + i * 9 + 5, none⟩ = some (.int .i64 p.v.me) ∧ w.cell? ⟨f, u + i * 9 + 6, none⟩ = some (.int .i64 p.v.te) ∧ w.cell? ⟨f, u + i * 9 + 7, none⟩ = some (.int .i64 p.v.runs) ∧ w.cell? ⟨f, u + i * 9 + 8, none⟩ = some (.int .i64 p.v.busy)
theorem Reads.keep {w w' : World} {R : Nat → Prop} {l : List Pr} {ks vs : Value} (h : Reads w R l ks vs) (hk : ∀ k, R k → w'.heap[k]? = w.heap[k]?) : Reads w' R l ks vs := by
  obtain ⟨a, c, b, d, e1, e2, h1, h2, hat⟩ := h
  refine ⟨a, c, b, d, e1, e2, h1, h2, fun i p hp => ?_⟩
  obtain ⟨g, o, f, u, e3, e4, r1, r2, ⟨q0, q1, q2, q3⟩, t0, t1, t2, t3, t4, t5, t6, t7, t8⟩ := hat i p hp
  have hc : ∀ k j, R k → w'.cell? ⟨k, j, none⟩ = w.cell? ⟨k, j, none⟩ := fun k j hr => World.cell?_of_block (w := w) (w' := w') (a := ⟨k, j, none⟩) (hk k hr)
  exact ⟨g, o, f, u, e3, e4, r1, r2, ⟨(hc g _ r1).trans q0, (hc g _ r1).trans q1, (hc g _ r1).trans q2, (hc g _ r1).trans q3⟩, (hc f _ r2).trans t0, (hc f _ r2).trans t1, (hc f _ r2).trans t2, (hc f _ r2).trans t3, (hc f _ r2).trans t4, (hc f _ r2).trans t5, (hc f _ r2).trans t6, (hc f _ r2).trans t7, (hc f _ r2).trans t8⟩
theorem PTV.reads {w : World} {Q : Nat} {F : Nat → Prop} {l : List Pr} {ks vs : Value} {rest : List Value} (h : PTV w Q F l ks vs rest) : Reads w (fun k => F k ∧ k ≠ Q) l ks vs := by
  obtain ⟨a, c, b, d, e1, e2, h1, h2, hat⟩ := h.at'
  refine ⟨a, c, b, d, e1, e2, h1, h2, fun i p hp => ?_⟩
  obtain ⟨g, f, e3, e4, r1, r2, n1, n2, q⟩ := hat i p hp
  exact ⟨g, 0, f, 0, e3, e4, ⟨r1, n1⟩, ⟨r2, n2⟩, by simpa using q⟩
theorem reads_nil (w : World) (R : Nat → Prop) : Reads w R [] (.slice none 0 0) (.slice none 0 0) := ⟨none, 0, none, 0, rfl, rfl, by simp, by simp, fun i p hp => by simp at hp⟩
set_option maxRecDepth 100000 in
set_option maxHeartbeats 4000000 in
theorem all1_in (n : Nat) (hn : 2 ≤ n) (lp Bt : Nat) (q : Option Addr) (R : Nat → Prop) (l : List Pr) (ks vs : Value) (hl : l.length ≤ 1000) (J Jx : List Pr → World → Prop) (W : World) (hJ : AbidesFrom W.heap.size J)
    (hY : ∀ pre x W1, J pre W1 → pre.length < l.length → YieldAt Fence.wide (n - 1) Try.prog lp #[kV x.k, elV x.v] W1 fun e W' =>
      (e = .returned (.bool true) ∧ J (pre ++ [x]) W' ∧ Keep R W1 W') ∨ (e = .returned (.bool false) ∧ Jx (pre ++ [x]) W'))
    (hR : ∀ k, R k → k < W.heap.size) (hB : W.cell? ⟨Bt, 0, none⟩ = some (.pointer q)) (hT : Reads W R l ks vs)
    (hL : ∀ W', Below W.heap.size W W' → Calls Try.prog 37 #[.pointer q] W' fun e w' => e = .returned (.tuple #[ks, vs]) ∧ ∃ m, W'.drewN m = w') (h0 : J [] W) :
    CallsIn Fence.wide n Try.prog 38 #[.func (.yield lp) #[] #[], .pointer (some ⟨Bt, 0, none⟩)] W fun e W' => (∃ v, e = .returned v) ∧ ((∃ ys, ys = l ∧ J ys W') ∨ (∃ pre, pre <+: l ∧ Jx pre W')) := by
  have HC := Lib.hid (hL W (Below.refl _ _))
  have HT := Lib.hid hT
  obtain ⟨a, c, b, d, rfl, rfl, hlc, hld, _⟩ := hT
  obtain ⟨m, hm⟩ : ∃ m, l.length = m := ⟨_, rfl⟩
  have HY := Lib.hid hY; have HJ := Lib.hid hJ; have HR := Lib.hid hR; have HM := Lib.hid hm
  rw [hm] at HC hlc hld
  have hn1 : 1 ≤ n - 1 := by omega
  have h1n : 1 ≤ n := by omega
  have H0 := Lib.hid h0
  clear hL hY hJ hR hm h0
  refine callsIn_of_wp Try.func38 rfl trivial ?_ rfl
  simp only [Try.ntmps38, List.size_toArray, List.length_cons, List.length_nil, Nat.reduceAdd, Nat.reduceSub, Array.replicate_succ, Array.replicate_zero, List.push_toArray, List.append_toArray, List.nil_append, List.cons_append]
  gi_wp2_with (refine ⟨trivial, ?_⟩; gi_at_call 37; refine (callsIn_wide.2 HC.out).mono ?_; rintro e w1 ⟨rfl, j, rfl⟩)
  gi_loopw [14] (fun t wr => ∃ i : Nat, i ≤ m ∧ t = .int .i64 i ∧ Hid (J (l.take i) wr ∧ Keep R W wr)) (fun t _ => m - (RowKit.intOf t).toNat)
  case atStart => exact ⟨0, by omega, rfl, Lib.hid ⟨HJ.out [] W _ none H0.out ⟨rfl, rfl, rfl, Nat.le_refl _, fun _ _ _ => rfl⟩ (fun r e => by cases e), Nat.le_refl _, fun _ _ => rfl⟩⟩
  case round =>
    obtain ⟨i, hi, rfl, HS⟩ := hrel
    by_cases hlt : i < m
    · obtain ⟨p, hp⟩ : ∃ p, l[i]? = some p := ⟨l[i]'(by have := HM.out; omega), List.getElem?_eq_getElem (by have := HM.out; omega)⟩
      have hRd := HT.out.keep HS.out.2.2
      obtain ⟨a', c', b', d', e1, e2, _, _, hat⟩ := hRd
      injection e1 with e1 _ e3
      injection e2 with e2 _ e4
      subst e1; subst e2
      obtain ⟨g, o, f, u, rfl, rfl, rg, rf, ⟨k0, k1, k2, k3⟩, v0, v1, v2, v3, v4, v5, v6, v7, v8⟩ := hat i p hp
      have hi0 : (0 : Int) ≤ (i : Int) := by omega
      have hlt2 : (i : Int) < (m : Int) := by omega
      have hlt3 : (i : Int) ≤ 1048576 := by have := HM.out; omega
      have HAB : Hid (J (l.take i) ((wr.alloc (.cells #[.int .i64 p.k.a, .int .i64 p.k.b, .int .i64 p.k.c, .int .i64 p.k.d] 65)).drew) ∧ Keep R W ((wr.alloc (.cells #[.int .i64 p.k.a, .int .i64 p.k.b, .int .i64 p.k.c, .int .i64 p.k.d] 65)).drew)) := Lib.hid (by
        have hb := ((Below.refl _ wr).alloc (Nat.le_refl _) (.cells #[.int .i64 p.k.a, .int .i64 p.k.b, .int .i64 p.k.c, .int .i64 p.k.d] 65)).drew
        refine ⟨HJ.out _ wr _ none HS.out.1 ⟨hb.os, hb.tape, hb.output, hb.size, fun k hk _ => hb.block k hk⟩ (fun r e => by cases e), HS.out.2.trans (keep_below (fun k hk => Nat.lt_of_lt_of_le (HR.out k hk) HS.out.2.1) hb)⟩)
      obtain ⟨fn, tmps, assign, body, hy, hRd⟩ := HY.out _ p _ HAB.out.1 (by rw [List.length_take]; have := HM.out; omega)
      have HRN := Lib.hid (hRd.mono (R' := fun e W' => ∃ b : Bool, e = .returned (.bool b) ∧ Hid ((b = true ∧ J (l.take (i + 1)) W' ∧ Keep R W W') ∨ (b = false ∧ Jx (l.take (i + 1)) W'))) (fun e W' h => by
        rw [take_snoc hp]
        rcases h with ⟨h1, h2, h3⟩ | ⟨h1, h2⟩
        · exact ⟨true, h1, Lib.hid (.inl ⟨rfl, h2, HAB.out.2.trans h3⟩)⟩
        · exact ⟨false, h1, Lib.hid (.inr ⟨rfl, h2⟩)⟩))
      have hblk := heap_alloc_new wr (.cells p.k.cells 65)
      have hbl := (Below.refl _ wr).alloc (Nat.le_refl _) (.cells #[.int .i64 p.k.a, .int .i64 p.k.b, .int .i64 p.k.c, .int .i64 p.k.d] 65)
      have hf : f < wr.heap.size := World.block_lt_of_cell? _ _ v0
      clear hRd e3 e4 hat
      gi_wp2
      obtain ⟨Z, hZ⟩ : ∃ Z, wr.alloc (.cells #[.int .i64 p.k.a, .int .i64 p.k.b, .int .i64 p.k.c, .int .i64 p.k.d] 65) = Z := ⟨_, rfl⟩
      have hZ2 : wr.alloc (.cells p.k.cells 65) = Z := hZ
      rw [hZ2] at hblk
      rw [hZ] at hbl hy HRN ⊢
      have z0 : Z.cell? ⟨wr.heap.size, 0, none⟩ = some (.int .i64 p.k.a) := key_at hblk 0 (by omega)
      have z1 : Z.cell? ⟨wr.heap.size, 1, none⟩ = some (.int .i64 p.k.b) := key_at hblk 1 (by omega)
      have z2 : Z.cell? ⟨wr.heap.size, 2, none⟩ = some (.int .i64 p.k.c) := key_at hblk 2 (by omega)
      have z3 : Z.cell? ⟨wr.heap.size, 3, none⟩ = some (.int .i64 p.k.d) := key_at hblk 3 (by omega)
      have z4 := ((bcell hbl).1 f _ hf).trans v0
      have z5 := ((bcell hbl).1 f _ hf).trans v1
      have z6 := ((bcell hbl).1 f _ hf).trans v2
      have z7 := ((bcell hbl).1 f _ hf).trans v3
      have z8 := ((bcell hbl).1 f _ hf).trans v4
      have z9 := ((bcell hbl).1 f _ hf).trans v5
      have z10 := ((bcell hbl).1 f _ hf).trans v6
      have z11 := ((bcell hbl).1 f _ hf).trans v7
      have z12 := ((bcell hbl).1 f _ hf).trans v8
      clear hZ hZ2 HAB
      gi_region_with (refine HRN.out.mono ?_; rintro e W3 ⟨b, rfl, H3⟩)
      all_goals
        rcases H3.out with ⟨rfl, h1, h2⟩ | ⟨rfl, h1⟩
        · gi_wp2
          go_roundw
          case rel => exact ⟨i + 1, by omega, by go_num, Lib.hid ⟨h1, h2⟩⟩
          case measure => simp [RowKit.intOf]; omega
        · gi_wp2
          refine bodyPost_ret (results_none rfl _ _ _) rfl ?_
          exact ⟨⟨_, rfl⟩, .inr ⟨_, List.take_prefix _ _, h1⟩⟩
    · obtain rfl : i = m := by omega
      have HE : Hid (J l wr) := Lib.hid (by have := HS.out.1; rw [List.take_of_length_le (by have := HM.out; omega)] at this; exact this)
      gi_wp2
      go_end0
      exact ⟨⟨_, rfl⟩, .inl ⟨l, rfl, HE.out⟩⟩
attribute [local go_sem] Oper.semAt_some
set_option maxRecDepth 100000 in
theorem all_call (q : Option Addr) (w : World) :
    Calls Try.prog 24 #[.pointer q] w fun e w' => e = .returned (.func (.func 38) #[] #[.pointer (some ⟨w.heap.size, 0, none⟩)]) ∧ w' = w.alloc (.cells #[.pointer q] 59) := by
  go_enter Try.func24, Try.ntmps24
  go_wp2_with fail
  go_ret
  exact ⟨rfl, rfl⟩
set_option maxRecDepth 100000 in
theorem all_goes {q : Option Addr} {R : Nat → Prop} {l : List Pr} {ks vs : Value} (w : World) (hR : ∀ k, R k → k < w.heap.size) (hT : Reads w R l ks vs) (hl : l.length ≤ 1000)
    (hL : ∀ W', Below w.heap.size w W' → Calls Try.prog 37 #[.pointer q] W' fun e w' => e = .returned (.tuple #[ks, vs]) ∧ ∃ m, W'.drewN m = w') :
    Calls Try.prog 24 #[.pointer q] w fun e w' => ∃ gf lb, e = .returned (.func (.func gf) #[] lb) ∧ Hid (Below w.heap.size w w' ∧ Goes w' R gf lb l) := by
  refine (all_call q w).mono ?_
  rintro e w' ⟨rfl, rfl⟩
  have hb := (Below.refl _ w).alloc (Nat.le_refl _) (.cells #[.pointer q] 59)
  refine ⟨_, _, rfl, Lib.hid ⟨hb, enters_of Try.func38 (by kernel_rfl) rfl, fun n hn lp J Jx W hW hJ hJx hY h0 => ?_⟩⟩
  have hbW := below_then hb hW
  have hbox : (w.alloc (.cells #[.pointer q] 59)).heap[w.heap.size]? = some (.cells #[.pointer q] 59 (0, 0)) := heap_alloc_new w _
  exact all1_in n (by omega) lp w.heap.size q R l ks vs hl J Jx W hJ hY (fun k hk => Nat.lt_of_lt_of_le (hR k hk) hbW.size) (cell_block (j := 0) ((hW.block _ (Array.getElem?_eq_some_iff.1 hbox).1).trans hbox) rfl)
    (hT.keep (fun k hk => hbW.block k (hR k hk))) (fun W' hW' => hL W' (below_then hbW hW')) h0
/-- All of a table goes over its pairs. -/
theorem PT.lists {w : World} {Q : Nat} {F : Nat → Prop} {l : List Pr} {rest : List Value} (h : PT w Q F l rest) (hl : l.length ≤ 1000) : ∀ W, Below w.heap.size w W → Calls Try.prog 24 #[ptr Q] W fun e w' => ∃ gf lb, e = .returned (.func (.func gf) #[] lb) ∧ Hid (Below W.heap.size W w' ∧ Goes w' (fun k => k < w.heap.size ∧ F k) gf lb l) := fun W hW => by
  obtain ⟨ks, vs, h⟩ := h
  have h2 := h.under hW
  refine all_goes W (R := fun k => k < w.heap.size ∧ F k) (fun k hk => Nat.lt_of_lt_of_le hk.1 hW.size) ?_ hl h2.tl.lists
  obtain ⟨a, c, b, d, e1, e2, g1, g2, hat⟩ := h2.reads
  refine ⟨a, c, b, d, e1, e2, g1, g2, fun i p hp => ?_⟩
  obtain ⟨g, o, f, u, e3, e4, r1, r2, q⟩ := hat i p hp
  exact ⟨g, o, f, u, e3, e4, ⟨h.lt g r1.1, r1.1⟩, ⟨h.lt f r2.1, r2.1⟩, q⟩

end Go.Proofs.Ytfebaiefoonncaa.Tb.Dr
