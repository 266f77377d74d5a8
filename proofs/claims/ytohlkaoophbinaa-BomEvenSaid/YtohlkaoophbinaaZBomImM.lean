/- slices.Backward of a row of types: what who goes over it may count on. A region that draws its order inside a round of a range over a function: it may be walked as outside of one (loads taken first where a state of the world is held), if it only ends as it should and defers nothing. The program's Expand: results in cells; where it tells an error ahead of its walk. -/
import Derived.Test.YtohlkaoophbinaaZBomImA
import Derived.Test.YtohlkaoophbinaaZBomImK
import Derived.RangeFuncBound
import Derived.RangeFuncLeaves
import Derived.Shelf.Abstract
import Derived.Shelf.RegionOpen
import Derived.OwnWalkIn
import Derived.TacticsInMore
import Derived.LoopNIn
import Derived.LoopIn
import Derived.Deep.RegionHeld3
import Derived.Deep.AppendLies
import Derived.RangeFuncCalls
import Derived.OrdersIn
import Derived.RangeFuncFrom
namespace Go.Proofs.Ytohlkaoophbinaa.Bom.Im
open Go.RowKit Go.Lib Go.Shelf IRows
attribute [local go_sem] Oper.semAt_some

/-- A type as it is handed on: its place, and itself. -/
structure Ky where
  i : Int
  t : Nat
  h : 1 ≤ t ∧ t ≤ 32
def Ky.n (x : Ky) : Int := (x.t : Int)
/-- A row's cells. -/
def RowAt (W : World) (a : Option Addr) (O : List Int) : Prop := ∀ (i : Nat) (x : Int), O[i]? = some x → ∃ g off, a = some ⟨g, off, none⟩ ∧ W.cell? ⟨g, off + i, none⟩ = some (.int .i64 x)
theorem RowAt.keep {W W' : World} {a : Option Addr} {O : List Int} {R : Nat → Prop} (h : RowAt W a O) (hk : Keep R W W') (hR : ∀ g off, a = some ⟨g, off, none⟩ → R g) : RowAt W' a O := fun i x hx => by
  obtain ⟨g, off, e, hc⟩ := h i x hx
  exact ⟨g, off, e, (World.cell?_of_block (hk.2 g (hR g off e))).trans hc⟩
theorem back_step {O : List Int} {k : Nat} {x : Int} (h : O[k]? = some x) (hm : k < O.length) : O.reverse.take (O.length - k) = O.reverse.take (O.length - (k + 1)) ++ [x] := by
  have h1 : O.reverse[O.length - (k + 1)]? = some x := by
    rw [List.getElem?_reverse (by omega), show O.length - 1 - (O.length - (k + 1)) = k by omega]
    exact h
  rw [show O.length - k = O.length - (k + 1) + 1 by omega]
  exact take_snoc h1
set_option maxRecDepth 100000 in
set_option maxHeartbeats 2000000 in
theorem back1_in (F : Fence) (n : Nat) (h54 : F.fn 54) (hro : F.round = none) (hn : 1 ≤ n) (l Bs : Nat) (a : Option Addr) (m c : Nat) (O : List Int) (R : Nat → Prop) (hm : O.length = m) (hm32 : m ≤ 64) (hO : ∀ x ∈ O, 1 ≤ x ∧ x ≤ 32) (hRB : R Bs) (hRa : ∀ g off, a = some ⟨g, off, none⟩ → R g) (J Jx : List Ky → World → Prop)
    (hY : ∀ pre x W, J pre W → pre.length < m → YieldAt F (n - 1) Try.prog l #[.int .i64 x.i, .int .i64 x.n] W fun e W' =>
      (e = .returned (.bool true) ∧ J (pre ++ [x]) W' ∧ Keep R W W') ∨ (e = .returned (.bool false) ∧ Jx (pre ++ [x]) W'))
    (W : World) (hBs : W.cell? ⟨Bs, 0, none⟩ = some (.slice a m c)) (hc : RowAt W a O) (h0 : J [] W) :
    CallsIn F n Try.prog 54 #[.func (.yield l) #[] #[], .pointer (some ⟨Bs, 0, none⟩)] W fun e W' => (∃ v, e = .returned v) ∧
      ((∃ ys, ys.map Ky.n = O.reverse ∧ J ys W') ∨ (∃ pre, (∃ post, O.reverse = pre.map Ky.n ++ post) ∧ Jx pre W')) := by
  have hmi : (m : Int) ≤ 64 := by omega
  have wm : IntKind.i64.wrap ((m : Int) - 1) = (m : Int) - 1 := IntWalk.i64_in _ (by omega)
  refine callsIn_of_wp Try.func54 rfl h54 ?_ hro
  simp only [Try.ntmps54, List.size_toArray, List.length_cons, List.length_nil, Nat.reduceAdd, Nat.reduceSub, Array.replicate_succ, Array.replicate_zero, List.push_toArray, List.append_toArray, List.nil_append, List.cons_append]
  gi_wp2
  gi_loopw [3] (fun p wr => ∃ (pre : List Ky) (k : Nat), k ≤ m ∧ p = .int .i64 ((k : Int) - 1) ∧ pre.map Ky.n = O.reverse.take (m - k) ∧ J pre wr ∧ wr.cell? ⟨Bs, 0, none⟩ = some (.slice a m c) ∧ RowAt wr a O)
    (fun p _ => (RowKit.intOf p + 1).toNat)
  case atStart => exact ⟨[], m, Nat.le_refl _, rfl, by simp, h0, hBs, hc⟩
  case round =>
    obtain ⟨pre, k, hk, rfl, hp, hJ, hb, hr⟩ := hrel
    have hplen : pre.length = m - k := by
      have := congrArg List.length hp
      rw [List.length_map, List.length_take, List.length_reverse, hm] at this
      omega
    cases k with
    | zero =>
      have d0 : decide ((0 : Int) ≤ ((0 : Nat) : Int) - 1) = false := by decide
      gi_wp2
      go_end0
      refine ⟨⟨_, rfl⟩, .inl ⟨pre, ?_, hJ⟩⟩
      rw [hp, Nat.sub_zero, List.take_of_length_le (by rw [List.length_reverse, hm]; exact Nat.le_refl _)]
    | succ k =>
      have hkl : k < O.length := by omega
      have hx := List.getElem?_eq_getElem hkl
      have hxb := hO _ (List.getElem_mem hkl)
      obtain ⟨x, hxe⟩ : ∃ x, O[k] = x := ⟨_, rfl⟩
      rw [hxe] at hx hxb
      obtain ⟨t, rfl⟩ := Int.eq_ofNat_of_zero_le (show 0 ≤ x by omega)
      obtain ⟨g, off, rfl, hcx⟩ := hr k _ hx
      have e1 : ((k + 1 : Nat) : Int) - 1 = (k : Int) := by omega
      obtain ⟨fn, tmps, assign, body, hy, hR⟩ := hY pre ⟨(k : Int), t, by omega⟩ wr hJ (by omega)
      dsimp only [Ky.n] at hy
      have hk0 : (0 : Int) ≤ (k : Int) := by omega
      have hkm : (k : Int) < (m : Int) := by omega
      have wk : IntKind.i64.wrap ((k : Int) - 1) = (k : Int) - 1 := IntWalk.i64_in _ (by omega)
      rw [e1]
      gi_wp2
      refine hR.mono ?_
      rintro e W3 (⟨rfl, hJ3, hk3⟩ | ⟨rfl, hJx3⟩)
      · gi_wp2
        go_roundw
        case rel =>
          refine ⟨pre ++ [⟨(k : Int), t, by omega⟩], k, by omega, rfl, ?_, hJ3, (World.cell?_of_block (hk3.2 Bs hRB)).trans hb, hr.keep hk3 hRa⟩
          rw [List.map_append, hp, ← hm]
          exact (back_step hx hkl).symm
        case measure => simp [RowKit.intOf]
      · gi_wp2
        refine bodyPost_ret (results_none rfl _ _ _) rfl ?_
        refine ⟨⟨_, rfl⟩, .inr ⟨_, ⟨O.reverse.drop (m - k), ?_⟩, hJx3⟩⟩
        rw [List.map_append, hp, ← hm]
        refine Eq.trans (List.take_append_drop (O.length - k) _).symm ?_
        rw [back_step hx hkl]
        rfl
theorem back_stops (F : Fence) (n : Nat) (h54 : F.fn 54) (hro : F.round = none) (hn : 1 ≤ n) (Bs : Nat) (a : Option Addr) (m c : Nat) (O : List Int) (R : Nat → Prop) (hm : O.length = m) (hm32 : m ≤ 64) (hO : ∀ x ∈ O, 1 ≤ x ∧ x ≤ 32) (hRB : R Bs) (hRa : ∀ g off, a = some ⟨g, off, none⟩ → R g) (w : World) (hBs : w.cell? ⟨Bs, 0, none⟩ = some (.slice a m c)) (hBl : Bs < w.heap.size) (hc : RowAt w a O) :
    SeqStopsK F n Try.prog 54 #[.pointer (some ⟨Bs, 0, none⟩)] (fun x : Ky => #[.int .i64 x.i, .int .i64 x.n]) (Keep R) (fun xs => xs.map Ky.n = O.reverse) (fun pre => ∃ post, O.reverse = pre.map Ky.n ++ post) m w :=
  fun l J Jx W hW _ _ hY h0 => back1_in F n h54 hro hn l Bs a m c O R hm hm32 hO hRB hRa J Jx hY W (((bcell hW).1 Bs 0 hBl).trans hBs) (fun i x hx => by
    obtain ⟨g, off, e, h1⟩ := hc i x hx
    exact ⟨g, off, e, ((bcell hW).1 g _ (World.block_lt_of_cell? w _ h1)).trans h1⟩) h0
set_option maxRecDepth 100000 in
theorem back_im (a : Option Addr) (m c : Nat) (w : World) :
    Calls Try.prog 25 #[.slice a m c] w fun e w' => e = .returned (.func (.func 54) #[] #[.pointer (some ⟨w.heap.size, 0, none⟩)]) ∧ w.alloc (.cells #[.slice a m c] 33) = w' := by
  go_enter Try.func25, Try.ntmps25
  go_wp2_with fail
  go_ret
  exact ⟨rfl, rfl⟩
end Go.Proofs.Ytohlkaoophbinaa.Bom.Im
namespace Go.Proofs.Ytohlkaoophbinaa

section
variable {P : Program} {ops : Array Oper} {Q : Exit → Act → World → Prop} {S : World → Prop}
/-- The region comes to its end. -/
def AtEnd (Q : Exit → Act → World → Prop) (e : Exit) (a : Act) (w : World) : Prop := e = .normal ∧ Q .normal a w
theorem atEnd_in : ¬ LetsOut (AtEnd Q) := fun ⟨_, _, h, _⟩ => by cases h
/-- No operation of it defers. -/
def defersNone (ops : Array Oper) : Bool := ops.toList.all fun o => match o.op with
  | .defer _ => false
  | _ => true
theorem defersNone_at (h : defersNone ops = true) {i : Nat} {o : Oper} (ho : ops[i]? = some o) (c) : o.op ≠ .defer c := fun e => by
  have h1 := List.all_eq_true.1 h o (by rw [Array.mem_toList_iff]; exact Array.mem_of_getElem? ho)
  rw [e] at h1
  cases h1
theorem op_round {lo m : Nat} {o : Oper} (hd : ∀ c, o.op ≠ .defer c) {a : Act} {w : World} {K K' : Act → World → Prop} (hK : ∀ a w, K a w → K' a w) (h : Oper.wp P o a w K (AtEnd Q)) : Oper.wpIn (Fence.wide.inRound lo) m P o a w K' Q := by
  refine ⟨fun _ _ => trivial, ?_⟩
  rw [Oper.semAt_plain _ _ _ hd]
  unfold Oper.wp at h
  generalize (execOp a.eval o).run P w = r at *
  cases r with
  | ok n w' =>
    cases n with
    | value u => exact hK _ _ h
    | skip => exact hK _ _ h
    | defer d => exact hK _ _ h
    | enter f args =>
      refine ⟨fun h0 => (by cases h0), CallsIn.inRound lo (callsIn_wide.2 (Calls.mono h fun e w'' he => ?_))⟩
      cases e with
      | returned u => exact hK _ _ he
      | panicked c => cases he.1
      | outgrown => exact (atEnd_in he).elim
    | row r args =>
      refine ⟨fun h0 => (by cases h0), fun c cs _ => ?_⟩
      obtain ⟨v, w'', he, hs⟩ := h c cs
      exact ⟨v, w'', hK _ _ he, stepsIn_wide.2 hs⟩
    | _ => exact h.elim
  | halt x w' =>
    cases x with
    | panic u => cases h.1
    | _ => exact h.elim
theorem any_round {lo m : Nat} (hd : defersNone ops = true) : ∀ (fuel : Nat) (listed : Array Bool) (a : Act) (w : World), wpAnyH P .any ops (AtEnd Q) S fuel listed a w → wpAnyIn (Fence.wide.inRound lo) m P .any ops Q fuel listed a w
  | 0, _, _, _, h => ⟨h.1, h.2.2⟩
  | fuel + 1, listed, a, w, h => by
    refine ⟨fun h0 => (h.1 h0).2, fun i hi => ?_⟩
    have h1 := h.2 i hi
    unfold wpOp at h1
    unfold wpOpIn
    cases ho : ops[i]? with
    | none =>
      rw [ho] at h1
      exact any_round hd fuel _ _ _ h1.2
    | some o =>
      rw [ho] at h1
      dsimp only at h1 ⊢
      by_cases hw : Region.wanted o (yielded ops a.tmps) = true
      · rw [if_pos hw] at h1 ⊢
        rcases h1 with h1 | h1
        · exact op_round (defersNone_at hd ho) (fun a w hk => any_round hd fuel _ _ _ hk.2) h1
        · exact (atEnd_in h1.2).elim
      · rw [if_neg hw] at h1 ⊢
        exact ⟨fun _ _ => trivial, any_round hd fuel _ _ _ h1.2⟩
/-- A region in a round: a state of the world is chosen, shown where the region begins, and behind each operation that is carried out. -/
theorem wpIn_round_held {lo m id : Nat} {a : Act} {w : World} (S : World → Prop) (hm : P.follows .mixedOrders = true) (hd : defersNone ops = true) (hS : S w.drew)
    (h : S w.drew → wpAnyH P .any ops (AtEnd Q) S ops.size (Array.replicate ops.size false) a w.drew) : (Code.region id ops true).wpIn (Fence.wide.inRound lo) m P Q a w :=
  wpIn_region_any hm (any_round hd _ _ _ _ (h hS))
end
end Go.Proofs.Ytohlkaoophbinaa
namespace Go.Proofs.Ytohlkaoophbinaa.Bom.Im
open Go.RowKit Go.Lib Go.Shelf IRows
open Goods (St Sts OwnS cnt)
open Cat (Cat PB CM CatAt Lim I64 pOf box_cat)
open Recipe (needsE needsL needL up nd BlIn)
open Graph.Im (Gr gr_below gr_setP gr_setQ gr_drew)

theorem load_bm (w : World) (g : Nat) (c0 c1 c2 : Value) (h0 : w.cell? ⟨g, 0, none⟩ = some c0) (h1 : w.cell? ⟨g, 1, none⟩ = some c1) (h2 : w.cell? ⟨g, 2, none⟩ = some c2) : (loadVar 35 ⟨g, 0, none⟩).run Try.prog w = .ok (.agg #[c0, c1, c2]) w :=
  run_loadVar_mid w g 0 35 [c0, c1, c2] _ (fun j v hj => by
    rw [Nat.zero_add]
    match j, hj with
    | 0, hj => injection hj with hj; rw [← hj]; exact h0
    | 1, hj => injection hj with hj; rw [← hj]; exact h1
    | 2, hj => injection hj with hj; rw [← hj]; exact h2) Try.underlying35 rfl (by kernel_rfl)
theorem load_er (w : World) (g : Nat) (x : Int) (h0 : w.cell? ⟨g, 0, none⟩ = some (.int .i64 x)) : (loadVar 36 ⟨g, 0, none⟩).run Try.prog w = .ok (.int .i64 x) w := by
  have hu := Try.underlying36
  simp [loadVar, isAgg, run_underlying hu, go_sem, h0]
theorem results_be {fn : Func} {p u : Tmp} {t : Array Value} {w : World} {g k : Nat} {c0 c1 c2 : Value} {x : Int} (h : fn.results = #[.cell p 35, .cell u 36])
    (hp : t.getD p undef = .pointer (some ⟨g, 0, none⟩)) (hu : t.getD u undef = .pointer (some ⟨k, 0, none⟩)) (h0 : w.cell? ⟨g, 0, none⟩ = some c0) (h1 : w.cell? ⟨g, 1, none⟩ = some c1) (h2 : w.cell? ⟨g, 2, none⟩ = some c2) (h3 : w.cell? ⟨k, 0, none⟩ = some (.int .i64 x)) :
    (results fn t).run Try.prog w = .ok (.tuple #[.agg #[c0, c1, c2], .int .i64 x]) w := by
  have hp' : t[p]?.getD undef = .pointer (some ⟨g, 0, none⟩) := by simpa using hp
  have hu' : t[u]?.getD undef = .pointer (some ⟨k, 0, none⟩) := by simpa using hu
  simp [results, h, hp', hu', asAddr, load_bm w g c0 c1 c2 h0 h1 h2, load_er w k x h3]
theorem ret_be {fn : Func} {R : Ending → World → Prop} {a : Act} {w : World} {p u : Tmp} {g k : Nat} {c0 c1 c2 : Value} {x : Int} (h : fn.results = #[.cell p 35, .cell u 36]) (hd : a.defers = [])
    (hp : a.tmps.getD p undef = .pointer (some ⟨g, 0, none⟩)) (hu : a.tmps.getD u undef = .pointer (some ⟨k, 0, none⟩)) (h0 : w.cell? ⟨g, 0, none⟩ = some c0) (h1 : w.cell? ⟨g, 1, none⟩ = some c1) (h2 : w.cell? ⟨g, 2, none⟩ = some c2) (h3 : w.cell? ⟨k, 0, none⟩ = some (.int .i64 x))
    (hR : R (.returned (.tuple #[.agg #[c0, c1, c2], .int .i64 x])) w) : bodyPost Try.prog fn R .ret a w :=
  bodyPost_ret (results_be h hp hu h0 h1 h2 h3) hd hR
/-- The boxes of what is handed in, and of what is told. -/
theorem four_boxes (w : World) (C : CM) (lv : Int) : ∃ V X1 L X2 R X3 E X, w.heap.size = V ∧ w.alloc (.cells #[.int .i64 C.ty, .slice C.ba C.bn C.bc, .int .i64 C.pl, .slice C.ya C.yn C.yc, .int .i64 C.ch, .int .i64 C.f.broker, .int .i64 C.f.least, .int .i64 C.f.sales] 27) = X1 ∧ X1.heap.size = L ∧ X1.alloc (.cells #[.int .i64 lv] 3) = X2 ∧ X2.heap.size = R ∧ X2.alloc (.cells #[.slice none 0 0, .slice none 0 0, .slice none 0 0] 35) = X3 ∧ X3.heap.size = E ∧ X3.alloc (.cells #[.int .i64 0] 36) = X ∧
    Hid (Below w.heap.size w X ∧ w.heap.size ≤ R ∧ R < E ∧ E < X.heap.size) ∧ Hid (∀ W, Below X.heap.size X W → Cat.CellsC W V C ∧ W.cell? ⟨L, 0, none⟩ = some (.int .i64 lv) ∧ (W.cell? ⟨R, 0, none⟩ = some (.slice none 0 0) ∧ W.cell? ⟨R, 1, none⟩ = some (.slice none 0 0) ∧ W.cell? ⟨R, 2, none⟩ = some (.slice none 0 0) ∧ W.frozen? ⟨R, 0, none⟩ = false ∧ W.frozen? ⟨R, 1, none⟩ = false ∧ W.frozen? ⟨R, 2, none⟩ = false) ∧ W.cell? ⟨E, 0, none⟩ = some (.int .i64 0) ∧ W.frozen? ⟨E, 0, none⟩ = false) := by
  obtain ⟨V, X1, hV, hX1, HB1, HP⟩ := box_cat w C
  have l0 := heap_alloc_new X1 (.cells #[.int .i64 lv] 3)
  generalize hX2 : X1.alloc (.cells #[.int .i64 lv] 3) = X2 at l0
  have r0 := heap_alloc_new X2 (.cells #[.slice none 0 0, .slice none 0 0, .slice none 0 0] 35)
  generalize hX3 : X2.alloc (.cells #[.slice none 0 0, .slice none 0 0, .slice none 0 0] 35) = X3 at r0
  have e0 := heap_alloc_new X3 (.cells #[.int .i64 0] 36)
  generalize hX : X3.alloc (.cells #[.int .i64 0] 36) = X at e0
  have b2 : Below X1.heap.size X1 X2 := by rw [← hX2]; exact (Below.refl _ _).alloc (Nat.le_refl _) _
  have b3 : Below X2.heap.size X2 X3 := by rw [← hX3]; exact (Below.refl _ _).alloc (Nat.le_refl _) _
  have b4 : Below X3.heap.size X3 X := by rw [← hX]; exact (Below.refl _ _).alloc (Nat.le_refl _) _
  have s2 := b2.size; have s3 := b3.size; have s4 := b4.size; have s1 := HB1.out.size
  have z3 : X3.heap.size = X2.heap.size + 1 := by rw [← hX3]; simp
  have z4 : X.heap.size = X3.heap.size + 1 := by rw [← hX]; simp
  refine ⟨V, X1, _, X2, _, X3, _, X, hV, hX1, rfl, hX2, rfl, hX3, rfl, hX, Lib.hid ⟨below_then (below_then (below_then HB1.out b2) b3) b4, by omega, by omega, by omega⟩, Lib.hid fun W hW => ?_⟩
  have b3W := below_then b4 hW
  have b2W := below_then b3 b3W
  have lW := (b2W.block _ (Array.getElem?_eq_some_iff.1 l0).1).trans l0
  have rW := (b3W.block _ (Array.getElem?_eq_some_iff.1 r0).1).trans r0
  have eW := (hW.block _ (Array.getElem?_eq_some_iff.1 e0).1).trans e0
  exact ⟨HP.out W (below_then b2 b2W), cell_block (j := 0) lW rfl, ⟨cell_block (j := 0) rW rfl, cell_block (j := 1) rW rfl, cell_block (j := 2) rW rfl, free_block 0 rW, free_block 1 rW, free_block 2 rW⟩, cell_block (j := 0) eW rfl, free_block 0 eW⟩
/-- A bill that tells nothing. -/
def nilB : BM := ⟨none, 0, 0, [], none, 0, 0, [], none, 0, 0, []⟩
theorem nil_says {C : Cat} {kind n lv : Int} {hv : List St} (h : expE C kind n lv hv ≠ 0) (W : World) : BomAt W nilB ∧ Says nilB (bill C kind n lv hv) := by
  rw [bill_not h]
  exact ⟨⟨⟨rfl, sts_nil _, Nat.zero_le _⟩, ⟨rfl, fun i x hi => by simp [nilB] at hi, Nat.zero_le _⟩, rfl, sts_nil _, Nat.zero_le _⟩, rfl, rfl, rfl⟩
set_option maxRecDepth 100000 in
set_option maxHeartbeats 8000000 in
theorem exp_bad (C : CM) (kind n lv : Int) (a : Option Addr) (m c : Nat) (hv : List St) (w : World) (h : CatAt w C) (hl : Lim C) (hm : hv.length = m) (hs : Sts w a hv) (h4 : m ≤ 1000) (hno : ¬ (Cat.chkC C.p = 0 ∧ AskOk C kind n lv hv)) :
    Calls Try.prog 9 #[C.v, .int .i64 kind, .int .i64 n, .int .i64 lv, .slice a m c] w fun e w' => ∃ b : BM, e = .returned (.tuple #[b.v, .int .i64 (expE C.p kind n lv hv)]) ∧ Hid (BomAt w' b ∧ Says b (bill C.p kind n lv hv) ∧ Below w.heap.size w w') := by
  obtain ⟨V, X1, L, X2, R, X3, E, X, hV, hX1, hL, hX2, hR, hX3, hE, hX, HS, HC⟩ := four_boxes w C lv
  obtain ⟨⟨k0, k1, k2, k3, k4, k5, k6, k7⟩, kl, -⟩ := HC.out X (Below.refl _ _)
  obtain ⟨er, her⟩ : ∃ er, Cat.chkC C.p = er := ⟨_, rfl⟩
  have HM : Hid (Calls Try.prog 22 #[.agg #[.int .i64 C.ty, .slice C.ba C.bn C.bc, .int .i64 C.pl, .slice C.ya C.yn C.yc, .int .i64 C.ch, .int .i64 C.f.broker, .int .i64 C.f.least, .int .i64 C.f.sales]] X fun e w' => ∃ a n c, e = .returned (.tuple #[.slice a n c, .int .i64 er]) ∧ Hid (Below X.heap.size X w')) := Lib.hid (by
    rw [← her]
    refine (order_of C X (h.under HS.out.1) hl).mono ?_
    rintro e w' ⟨a2, n2, c2, rfl, H⟩
    exact ⟨a2, n2, c2, rfl, Lib.hid H.out.2⟩)
  obtain ⟨ta, HA0, EA⟩ := ask_at C kind n lv a m c hv X hm (hs.under HS.out.1) h4
  have HNO : Hid (∀ W (x y z u : Value), Below X.heap.size X W → Below w.heap.size w ((((W.setCell ⟨R, 0, none⟩ x).setCell ⟨R, 1, none⟩ y).setCell ⟨R, 2, none⟩ z).setCell ⟨E, 0, none⟩ u)) := Lib.hid fun W x y z u hW => by
    have h1 := HS.out
    exact ((((below_then h1.1 hW).setCell (p := ⟨R, 0, none⟩) h1.2.1 x).setCell (p := ⟨R, 1, none⟩) h1.2.1 y).setCell (p := ⟨R, 2, none⟩) h1.2.1 z).setCell (p := ⟨E, 0, none⟩) (by show w.heap.size ≤ E; omega) u
  have HRE : Hid (R ≠ E) := Lib.hid (by have := HS.out; omega)
  have HTEL : Hid (∀ (W : World) (z : Int), Below X.heap.size X W → expE C.p kind n lv hv = z → z ≠ 0 → ∃ b : BM, Ending.returned (.tuple #[.agg #[.slice none 0 0, .slice none 0 0, .slice none 0 0], .int .i64 z]) = .returned (.tuple #[b.v, .int .i64 (expE C.p kind n lv hv)]) ∧ Hid (BomAt ((((W.setCell ⟨R, 0, none⟩ (.slice none 0 0)).setCell ⟨R, 1, none⟩ (.slice none 0 0)).setCell ⟨R, 2, none⟩ (.slice none 0 0)).setCell ⟨E, 0, none⟩ (.int .i64 z)) b ∧ Says b (bill C.p kind n lv hv) ∧ Below w.heap.size w ((((W.setCell ⟨R, 0, none⟩ (.slice none 0 0)).setCell ⟨R, 1, none⟩ (.slice none 0 0)).setCell ⟨R, 2, none⟩ (.slice none 0 0)).setCell ⟨E, 0, none⟩ (.int .i64 z)))) := Lib.hid fun W z hW hz h0 => by
    obtain ⟨h1, h2⟩ := nil_says (by rw [hz]; exact h0) ((((W.setCell ⟨R, 0, none⟩ (.slice none 0 0)).setCell ⟨R, 1, none⟩ (.slice none 0 0)).setCell ⟨R, 2, none⟩ (.slice none 0 0)).setCell ⟨E, 0, none⟩ (.int .i64 z))
    exact ⟨nilB, by rw [hz]; rfl, Lib.hid ⟨h1, h2, HNO.out W _ _ _ _ hW⟩⟩
  have HCL : Hid (∀ (W : World) (z : Int), Below X.heap.size X W → ((((W.setCell ⟨R, 0, none⟩ (.slice none 0 0)).setCell ⟨R, 1, none⟩ (.slice none 0 0)).setCell ⟨R, 2, none⟩ (.slice none 0 0)).setCell ⟨E, 0, none⟩ (.int .i64 z)).cell? ⟨R, 0, none⟩ = some (.slice none 0 0) ∧ ((((W.setCell ⟨R, 0, none⟩ (.slice none 0 0)).setCell ⟨R, 1, none⟩ (.slice none 0 0)).setCell ⟨R, 2, none⟩ (.slice none 0 0)).setCell ⟨E, 0, none⟩ (.int .i64 z)).cell? ⟨R, 1, none⟩ = some (.slice none 0 0) ∧ ((((W.setCell ⟨R, 0, none⟩ (.slice none 0 0)).setCell ⟨R, 1, none⟩ (.slice none 0 0)).setCell ⟨R, 2, none⟩ (.slice none 0 0)).setCell ⟨E, 0, none⟩ (.int .i64 z)).cell? ⟨R, 2, none⟩ = some (.slice none 0 0) ∧ ((((W.setCell ⟨R, 0, none⟩ (.slice none 0 0)).setCell ⟨R, 1, none⟩ (.slice none 0 0)).setCell ⟨R, 2, none⟩ (.slice none 0 0)).setCell ⟨E, 0, none⟩ (.int .i64 z)).cell? ⟨E, 0, none⟩ = some (.int .i64 z)) := Lib.hid fun W z hW => by
    obtain ⟨-, -, ⟨r0, r1, r2, -⟩, e0, -⟩ := HC.out W hW
    have hn := HRE.out
    have key : ∀ (Z : World) (j k : Nat) (v x : Value), j ≠ k → Z.cell? ⟨R, k, none⟩ = some x → (Z.setCell ⟨R, j, none⟩ v).cell? ⟨R, k, none⟩ = some x := fun Z j k v x hjk hx => by
      rw [World.cell?_setCell_other (h := addr_ne (.inr hjk))]
      exact hx
    have keyE : ∀ (Z : World) (k : Nat) (v x : Value), Z.cell? ⟨R, k, none⟩ = some x → (Z.setCell ⟨E, 0, none⟩ v).cell? ⟨R, k, none⟩ = some x := fun Z k v x hx => by
      rw [World.cell?_setCell_other (h := addr_ne (.inl hn.symm))]
      exact hx
    have keyR : ∀ (Z : World) (j : Nat) (v x : Value), Z.cell? ⟨E, 0, none⟩ = some x → (Z.setCell ⟨R, j, none⟩ v).cell? ⟨E, 0, none⟩ = some x := fun Z j v x hx => by
      rw [World.cell?_setCell_other (h := addr_ne (.inl hn))]
      exact hx
    refine ⟨keyE _ _ _ _ (key _ _ _ _ _ (by decide) (key _ _ _ _ _ (by decide) (World.cell?_setCell_same _ _ _ r0))), keyE _ _ _ _ (key _ _ _ _ _ (by decide) (World.cell?_setCell_same _ _ _ (key _ _ _ _ _ (by decide) r1))), keyE _ _ _ _ (World.cell?_setCell_same _ _ _ (key _ _ _ _ _ (by decide) (key _ _ _ _ _ (by decide) r2))), World.cell?_setCell_same _ _ _ (keyR _ _ _ _ (keyR _ _ _ _ (keyR _ _ _ _ e0)))⟩
  have HRC : Hid (∀ W, Below X.heap.size X W → (W.cell? ⟨R, 0, none⟩ = some (.slice none 0 0) ∧ W.cell? ⟨R, 1, none⟩ = some (.slice none 0 0) ∧ W.cell? ⟨R, 2, none⟩ = some (.slice none 0 0) ∧ W.frozen? ⟨R, 0, none⟩ = false ∧ W.frozen? ⟨R, 1, none⟩ = false ∧ W.frozen? ⟨R, 2, none⟩ = false) ∧ W.cell? ⟨E, 0, none⟩ = some (.int .i64 0) ∧ W.frozen? ⟨E, 0, none⟩ = false) := Lib.hid fun W hW => (HC.out W hW).2.2
  have hne : (⟨R, 0, none⟩ : Addr) ≠ ⟨E, 0, none⟩ := addr_ne (.inl HRE.out)
  clear h hl hm hs h4
  by_cases he : er = 0
  case neg =>
    have n1 : (er == 0) = false := by simpa using he
    have n2 : (er != 0) = true := by simpa using he
    have HE2 : Hid (expE C.p kind n lv hv = er) := Lib.hid (by
      have hme : mayE C.p kind lv hv = er := by rw [mayE_err (by rw [her]; exact he), her]
      rw [exp_may (by rw [hme]; exact he), hme])
    have HE0 := Lib.hid he
    clear her hno he HA0
    go_enter Try.func9, Try.ntmps9
    go_wp2_with fail
    clear hX hV hX1 hX2 hX3 hL hR hE
    refine HM.out.mono ?_
    rintro e w1 ⟨a9, n9, c9, rfl, H1⟩
    obtain ⟨⟨r0, r1, r2, f0, f1, f2⟩, e0, f3⟩ := HRC.out w1 H1.out
    clear k0 k1 k2 k3 k4 k5 k6 k7 kl
    go_wp2_with fail
    obtain ⟨b0, b1, b2, b3⟩ := HCL.out w1 er H1.out
    exact ret_be rfl rfl rfl rfl b0 b1 b2 b3 (HTEL.out w1 er H1.out HE2.out HE0.out)
  subst he
  have hna : ¬ AskOk C kind n lv hv := fun h => hno ⟨her, h⟩
  obtain rfl : ta = false := by
    cases ta with
    | false => rfl
    | true => exact absurd (EA.out.1 rfl) hna
  have HE2 : Hid (expE C.p kind n lv hv = 1) := Lib.hid (by
    by_cases hm1 : mayE C.p kind lv hv = 0
    · have hz := mayE_zero hm1
      exact exp_num hm1 fun hn => hna ⟨hz.2.1, hn, hz.2.2.1, hz.2.2.2⟩
    · have h1 : mayE C.p kind lv hv = 1 := mayE_bad her fun h => hm1 (mayE_ok her h.1 h.2.1 h.2.2)
      rw [exp_may hm1, h1])
  have HPE : Hid (∀ W, Below X.heap.size X W → Cat.CellsC W V C ∧ W.cell? ⟨L, 0, none⟩ = some (.int .i64 lv)) := Lib.hid fun W hW => ⟨(HC.out W hW).1, (HC.out W hW).2.1⟩
  clear her hno hna
  go_enter Try.func9, Try.ntmps9
  go_wp2_with fail
  clear hX hV hX1 hX2 hX3 hL hR hE
  refine HM.out.mono ?_
  rintro e w1 ⟨a9, n9, c9, rfl, H1⟩
  clear k0 k1 k2 k3 k4 k5 k6 k7 kl
  obtain ⟨⟨y0, y1, y2, y3, y4, y5, y6, y7⟩, yl⟩ := HPE.out w1 H1.out
  have HAK := Lib.hid (HA0.out w1 H1.out)
  go_wp2_with fail
  refine HAK.out.mono ?_
  rintro e w2 ⟨rfl, H2⟩
  have H2' : Hid (Below X.heap.size X w2) := Lib.hid (below_then H1.out H2.out)
  obtain ⟨⟨r0, r1, r2, f0, f1, f2⟩, e0, f3⟩ := HRC.out w2 H2'.out
  clear y0 y1 y2 y3 y4 y5 y6 y7 yl
  go_wp2_with fail
  obtain ⟨b0, b1, b2, b3⟩ := HCL.out w2 1 H2'.out
  exact ret_be rfl rfl rfl rfl b0 b1 b2 b3 (HTEL.out w2 1 H2'.out HE2.out (by omega))
end Go.Proofs.Ytohlkaoophbinaa.Bom.Im
