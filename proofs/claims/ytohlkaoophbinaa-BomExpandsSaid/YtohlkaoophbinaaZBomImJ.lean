/- The program's bill in memory; want. What a blueprint is as the laws have it; rows of stacks; without the program. The program's Check of a blueprint; its in, isLevel, isRuns, may. The library's contracts at this translation, as the kit's command lays them. Words of 64 bits, as package calc uses them: their products, and what is above 0 (behind the shelf). -/
import Derived.Test.YtohlkaoophbinaaZBomImC
import Derived.Test.YtohlkaoophbinaaZGraphImC
import Derived.BigRegion
import Derived.Deep.RegionHeld3
import Derived.Deep.CutRange
import Derived.Test.YtohlkaoophbinaaZRecC
import Derived.Test.YtohlkaoophbinaaZBomD
import Derived.Test.YtohlkaoophbinaaZBomX
import Derived.Test.YtohlkaoophbinaaZGoodsB
import Derived.Test.YtohlkaoophbinaaZRecImCk
import Derived.Shelf.Small.Bits
import Derived.Shelf.Strconv.Itoa0
import Derived.Shelf.Bits.Mul64
import Derived.Test.YtohlkaoophbinaaProg
import Derived.Test.YtohlkaoophbinaaRows
import Derived.WalkSpells
import Derived.WalkLawsBesides
import Derived.RegionTactic
import Derived.Deep.QuietTactic
import Derived.BigQuiet
namespace Go.Proofs.Ytohlkaoophbinaa.Bom.Im
open Go.RowKit Go.Lib IRows
open Goods (St Sts OwnS cnt)
open Graph.Im (Gr gr_below gr_setP gr_setQ gr_drew)

/-- A bill: its three rows and the runs' row. -/
structure BB (W : World) (A G bn : Nat) (P : Px) : Prop where
  w : RI W A 0 P.w
  r : RI W A 33 P.rw
  l : RI W A 66 P.lf
  s : W.cell? ⟨A, 99, none⟩ = some (.slice (some ⟨G, 0, none⟩) bn bn)
  len : P.rs.length = bn
  rs : ∀ (i : Nat) (x : Int), P.rs[i]? = some x → W.cell? ⟨G, i, none⟩ = some (.int .i64 x) ∧ W.frozen? ⟨G, i, none⟩ = false
  ne : A ≠ G
  ia : A < W.heap.size
  ig : G < W.heap.size
  gc : ∃ cs t, W.heap[G]? = some (.cells cs t (0, 0))
theorem BB.same {W W' : World} {A G bn : Nat} {P : Px} (h : BB W A G bn P) (hA : W'.heap[A]? = W.heap[A]?) (hG : W'.heap[G]? = W.heap[G]?) (hs : W.heap.size ≤ W'.heap.size) : BB W' A G bn P :=
  ⟨h.w.same hA, h.r.same hA, h.l.same hA, (World.cell?_of_block hA).trans h.s, h.len, fun i x hx => ⟨(World.cell?_of_block hG).trans (h.rs i x hx).1, (World.frozen?_of_block hG).trans (h.rs i x hx).2⟩, h.ne, Nat.lt_of_lt_of_le h.ia hs, Nat.lt_of_lt_of_le h.ig hs, by obtain ⟨cs, t, e⟩ := h.gc; exact ⟨cs, t, hG.trans e⟩⟩
theorem BB.gcA {W : World} {A G bn : Nat} {P : Px} (h : BB W A G bn P) (j : Nat) (v : Value) : ∃ cs t, (W.setCell ⟨A, j, none⟩ v).heap[G]? = some (.cells cs t (0, 0)) := by
  obtain ⟨cs, t, e⟩ := h.gc
  exact ⟨cs, t, (heap_setCell_other W ⟨A, j, none⟩ G v h.ne.symm).trans e⟩
theorem BB.under {W W' : World} {A G bn : Nat} {P : Px} (h : BB W A G bn P) (hb : Below W.heap.size W W') : BB W' A G bn P := h.same (hb.block A h.ia) (hb.block G h.ig) hb.size
theorem BB.rsA {W : World} {A G bn : Nat} {P : Px} (h : BB W A G bn P) (j : Nat) (v : Value) : ∀ (i : Nat) (x : Int), P.rs[i]? = some x → (W.setCell ⟨A, j, none⟩ v).cell? ⟨G, i, none⟩ = some (.int .i64 x) ∧ (W.setCell ⟨A, j, none⟩ v).frozen? ⟨G, i, none⟩ = false := fun i x hx => by
  rw [World.frozen?_setCell, World.cell?_setCell_other (h := addr_ne (.inl h.ne))]
  exact h.rs i x hx
theorem BB.setW {W : World} {A G bn : Nat} {P : Px} (h : BB W A G bn P) (k : Nat) (hk : k < 33) (v : Int) : BB (W.setCell ⟨A, k, none⟩ (.int .i64 v)) A G bn ⟨upd P.w (k : Int) v, P.rw, P.lf, P.rs⟩ := by
  refine ⟨?_, h.r.other A k _ (.inr (.inl (by omega))), h.l.other A k _ (.inr (.inl (by omega))), ?_, h.len, h.rsA k _, h.ne, by simp [World.setCell]; exact h.ia, by simp [World.setCell]; exact h.ig, h.gcA _ _⟩
  · have := h.w.set k v
    rw [Nat.zero_add] at this
    exact this
  · rw [World.cell?_setCell_other (h := addr_ne (.inr (by omega)))]
    exact h.s
theorem BB.setR {W : World} {A G bn : Nat} {P : Px} (h : BB W A G bn P) (k : Nat) (hk : k < 33) (v : Int) : BB (W.setCell ⟨A, 33 + k, none⟩ (.int .i64 v)) A G bn ⟨P.w, upd P.rw (k : Int) v, P.lf, P.rs⟩ := by
  refine ⟨h.w.other A _ _ (.inr (.inr (by omega))), h.r.set k v, h.l.other A _ _ (.inr (.inl (by omega))), ?_, h.len, h.rsA _ _, h.ne, by simp [World.setCell]; exact h.ia, by simp [World.setCell]; exact h.ig, h.gcA _ _⟩
  rw [World.cell?_setCell_other (h := addr_ne (.inr (by omega)))]
  exact h.s
theorem BB.setL {W : World} {A G bn : Nat} {P : Px} (h : BB W A G bn P) (k : Nat) (hk : k < 33) (v : Int) : BB (W.setCell ⟨A, 66 + k, none⟩ (.int .i64 v)) A G bn ⟨P.w, P.rw, upd P.lf (k : Int) v, P.rs⟩ := by
  refine ⟨h.w.other A _ _ (.inr (.inr (by omega))), h.r.other A _ _ (.inr (.inr (by omega))), h.l.set k v, ?_, h.len, h.rsA _ _, h.ne, by simp [World.setCell]; exact h.ia, by simp [World.setCell]; exact h.ig, h.gcA _ _⟩
  rw [World.cell?_setCell_other (h := addr_ne (.inr (by omega)))]
  exact h.s
theorem BB.setN {W : World} {A G bn : Nat} {P : Px} (h : BB W A G bn P) (k : Nat) (v : Int) : BB (W.setCell ⟨G, k, none⟩ (.int .i64 v)) A G bn ⟨P.w, P.rw, P.lf, P.rs.set k v⟩ := by
  refine ⟨h.w.other G _ _ (.inl h.ne.symm), h.r.other G _ _ (.inl h.ne.symm), h.l.other G _ _ (.inl h.ne.symm), ?_, by show (P.rs.set k v).length = bn; rw [List.length_set]; exact h.len, fun i x hx => ?_, h.ne, by simp [World.setCell]; exact h.ia, by simp [World.setCell]; exact h.ig, by obtain ⟨cs, t, e⟩ := h.gc; exact ⟨_, t, heap_setCell_same W G k cs t _ e⟩⟩
  · rw [World.cell?_setCell_other (h := addr_ne (.inl h.ne.symm))]
    exact h.s
  · have hx : (P.rs.set k v)[i]? = some x := hx
    rw [World.frozen?_setCell]
    by_cases e : k = i
    · subst e
      have hlt : k < P.rs.length := by
        have := (List.getElem?_eq_some_iff.1 hx).1
        rwa [List.length_set] at this
      rw [List.getElem?_set_self hlt] at hx
      injection hx with hx
      subst hx
      obtain ⟨h1, h2⟩ := h.rs k P.rs[k] (List.getElem?_eq_getElem hlt)
      exact ⟨World.cell?_setCell_same W ⟨G, k, none⟩ _ h1, h2⟩
    · rw [List.getElem?_set_ne e] at hx
      obtain ⟨h1, h2⟩ := h.rs i x hx
      rw [World.cell?_setCell_other (h := addr_ne (.inr e))]
      exact ⟨h1, h2⟩
theorem BB.at {W : World} {A G bn : Nat} {P : Px} (h : BB W A G bn P) (k : Nat) (hk : k < 33) : (W.cell? ⟨A, k, none⟩ = some (.int .i64 (P.w (k : Int))) ∧ W.frozen? ⟨A, k, none⟩ = false) ∧ (W.cell? ⟨A, 33 + k, none⟩ = some (.int .i64 (P.rw (k : Int))) ∧ W.frozen? ⟨A, 33 + k, none⟩ = false) ∧ W.cell? ⟨A, 66 + k, none⟩ = some (.int .i64 (P.lf (k : Int))) ∧ W.frozen? ⟨A, 66 + k, none⟩ = false := by
  have h1 := h.w k hk
  rw [Nat.zero_add] at h1
  exact ⟨h1, h.r k hk, h.l k hk⟩
/-- A row that a bill's stores leave alone. -/
def Far (W : World) (A G : Nat) (a : Option Addr) (n : Nat) (l : List St) : Prop := l.length = n ∧ ∀ (V : World) (i : Nat), Gr W V A G → i < n → ∃ g t, a = some ⟨g, 0, none⟩ ∧ Hid (l[i]? = some t) ∧ V.cell? ⟨g, i * 2, none⟩ = some (.int .i64 t.kind) ∧ V.cell? ⟨g, i * 2 + 1, none⟩ = some (.int .i64 t.qty)
theorem far_own {W : World} {B A G : Nat} {a : Option Addr} {n c : Nat} {l : List St} (h : OwnS W B (.slice a n c) l) (hA : A < B) (hG : G < B) : Far W A G a n l := by
  have h0 := h
  obtain ⟨a2, c2, e, _, hat⟩ := Goods.row_st h
  injection e with e1 e2 _
  subst e1
  refine ⟨e2.symm, fun V i hV hi => ?_⟩
  obtain ⟨t, ht⟩ := Goods.nth_at (l := l) (i := i) (by omega)
  obtain ⟨g, e3, hg, k0, k1⟩ := hat i t ht
  have hB : B ≤ g := (h0.lt g (by rw [e3]; rfl)).1
  exact ⟨g, t, e3, Lib.hid ht, (hV.cell _ hg (by omega) (by omega)).trans k0, (hV.cell _ hg (by omega) (by omega)).trans k1⟩
theorem Far.gr {W W' : World} {A G : Nat} {a : Option Addr} {n : Nat} {l : List St} (h : Far W A G a n l) (g : Gr W W' A G) : Far W' A G a n l := ⟨h.1, fun V i hV hi => h.2 V i (g.trans hV) hi⟩
set_option maxRecDepth 100000 in
set_option maxHeartbeats 8000000 in
theorem want_im (A G bn : Nat) (P : Px) (a : Option Addr) (m c : Nat) (l : List St) (w : World) (hB : BB w A G bn P) (hF : Far w A G a m l) (hm : m ≤ 1000) (hl : ∀ t ∈ l, (1 ≤ t.kind ∧ t.kind ≤ 32) ∧ 0 ≤ t.qty ∧ t.qty ≤ 1125899906842624) (hw : ∀ x, 0 ≤ P.w x ∧ P.w x ≤ Recipe.mq) :
    Calls Try.prog 56 #[.pointer (some ⟨A, 0, none⟩), .slice a m c] w fun e w' => ∃ z, e = .returned (.int .i64 z) ∧ Hid (Gr w w' A G ∧ ((addW P.w l = none ∧ z = 5) ∨ ∃ f, addW P.w l = some f ∧ z = 0 ∧ BB w' A G bn ⟨f, P.rw, P.lf, P.rs⟩)) := by
  have HBB := Lib.hid hB
  have HF := Lib.hid hF
  have HL := Lib.hid hl
  have HW := Lib.hid hw
  have hmi : (m : Int) ≤ 1000 := by omega
  clear hB hF hl hw
  go_enter Try.func56, Try.ntmps56
  go_wp2_with fail
  go_loopw [11] (fun v wr => ∃ (i : Nat) (f : Int → Int), v = .int .i64 (i : Int) ∧ i ≤ m ∧ Hid (addW P.w (l.take i) = some f) ∧ Hid (Gr w wr A G ∧ BB wr A G bn ⟨f, P.rw, P.lf, P.rs⟩)) (fun v _ => m - (RowKit.intOf v).toNat)
  case atStart => exact ⟨0, P.w, rfl, by omega, Lib.hid rfl, Lib.hid ⟨Gr.refl _ _ _, HBB.out⟩⟩
  case round =>
    obtain ⟨i, f, rfl, hi, HA, HG⟩ := hrel
    have hi0 : (0 : Int) ≤ (i : Int) := by omega
    by_cases hlt : i < m
    · have hlt2 : (i : Int) < (m : Int) := by omega
      have wi : IntKind.i64.wrap ((i : Int) + 1) = (i : Int) + 1 := IntWalk.i64_in _ (by omega)
      obtain ⟨g, t, rfl, ht, s0, s1⟩ := HF.out.2 wr i HG.out.1 hlt
      obtain ⟨U, Y, hU, hY, u0, u1, HU⟩ := Cat.Im.box_st wr t
      have htb := HL.out t (List.mem_of_getElem? ht.out)
      obtain ⟨k, hk⟩ := Int.eq_ofNat_of_zero_le (show 0 ≤ t.kind by omega)
      have HK : Hid (t.kind = (k : Int) ∧ k < 33) := Lib.hid ⟨hk, by omega⟩
      have hk0 : (0 : Int) ≤ (k : Int) := by omega
      have hk33 : (k : Int) < 33 := by omega
      have HBY : Hid (Gr w Y A G ∧ BB Y A G bn ⟨f, P.rw, P.lf, P.rs⟩) := Lib.hid ⟨HG.out.1.trans (gr_below HU.out), HG.out.2.under HU.out⟩
      obtain ⟨⟨x0, x1⟩, -⟩ := HBY.out.2.at k HK.out.2
      have hfb : 0 ≤ f (k : Int) ∧ f (k : Int) ≤ 1125899906842624 := by
        obtain ⟨a1, a2⟩ := addW_some _ _ _ HA.out
        refine ⟨?_, a2 (fun y => (HW.out y).2) _⟩
        rw [a1]
        have h1 := (HW.out (k : Int)).1
        have h2 := Goods.cnt_nonneg (l := l.take i) (fun s hs => (HL.out s (List.mem_of_mem_take hs)).2.1) (k : Int)
        omega
      obtain ⟨fv, hfv⟩ : ∃ fv, f (k : Int) = fv := ⟨_, rfl⟩
      have x0 : Y.cell? ⟨A, k, none⟩ = some (.int .i64 fv) := by rw [← hfv]; exact x0
      rw [hfv] at hfb
      have HAD : Hid (∀ W, Calls Try.prog 67 #[.int .i64 fv, .int .i64 t.qty] W fun e w' => e = .returned (.tuple #[.int .i64 (fv + t.qty), .int .i64 0]) ∧ W = w') := Lib.hid fun W => by
        have := Calc.add_any fv t.qty W (by omega) (by omega) (by omega) (by omega)
        rw [Calc.valN_in (by omega) (by omega), Calc.valE_in (by omega) (by omega)] at this
        exact this
      have HCS : Hid (Y.drew.cell? ⟨A, k, none⟩ = some (.int .i64 fv) ∧ Y.drew.cell? ⟨U, 0, none⟩ = some (.int .i64 (k : Int)) ∧ Y.drew.cell? ⟨U, 1, none⟩ = some (.int .i64 t.qty)) := Lib.hid ⟨x0, by rw [← hk]; exact u0, u1⟩
      have HBD : Hid (Gr w Y.drew A G ∧ BB Y.drew A G bn ⟨f, P.rw, P.lf, P.rs⟩) := Lib.hid ⟨HBY.out.1.trans (gr_drew _ _ _), HBY.out.2.under (Below.refl _ Y).drew⟩
      have HTS : Hid (l.take (i + 1) = l.take i ++ [t]) := Lib.hid (take_snoc ht.out)
      have HSN : Hid (addW P.w (l.take (i + 1)) = if Recipe.mq - fv < t.qty then none else some (upd f (k : Int) (fv + t.qty))) := Lib.hid (by
        rw [HTS.out, addW_snoc t HA.out, HK.out.1, hfv])
      rw [hk] at s0 u0 hY
      by_cases c1 : 1125899906842624 < fv + t.qty
      · have d1 : decide (1125899906842624 < fv + t.qty) = true := decide_eq_true c1
        have HNN : Hid (addW P.w l = none) := Lib.hid (by
          have h1 := HSN.out
          rw [if_pos (by rw [mq_lit]; omega)] at h1
          have h2 := addW_fail (k := l.drop (i + 1)) h1
          rw [List.take_append_drop] at h2
          exact h2)
        clear hk htb hfb hfv
        go_upto_region 4 with fail
        clear hU hY u0 u1
        go_region_held3 (fun W => W.cell? ⟨A, k, none⟩ = some (.int .i64 fv) ∧ W.cell? ⟨U, 0, none⟩ = some (.int .i64 (k : Int)) ∧ W.cell? ⟨U, 1, none⟩ = some (.int .i64 t.qty))
          (first | exact HCS.out)
          (first
            | (go_at_call 67; refine (HAD.out _).mono ?_; rintro e w6 ⟨rfl, rfl⟩))
        go_wp2_with fail
        go_ret
        exact ⟨5, rfl, Lib.hid ⟨HBD.out.1, .inl ⟨HNN.out, rfl⟩⟩⟩
      · have d1 : decide (1125899906842624 < fv + t.qty) = false := decide_eq_false c1
        have HNN : Hid (addW P.w (l.take (i + 1)) = some (upd f (k : Int) (fv + t.qty))) := Lib.hid (by
          rw [HSN.out, if_neg (by rw [mq_lit]; omega)])
        have HBN : Hid (Gr w ((Y.drew.setCell ⟨A, k, none⟩ (.int .i64 (fv + t.qty)))).drew A G ∧ BB (Y.drew.setCell ⟨A, k, none⟩ (.int .i64 (fv + t.qty))).drew A G bn ⟨upd f (k : Int) (fv + t.qty), P.rw, P.lf, P.rs⟩) := Lib.hid (by
          refine ⟨(HBD.out.1.trans (gr_setP _ A G k _)).trans (gr_drew _ _ _), (HBD.out.2.setW k HK.out.2 (fv + t.qty)).under (Below.refl _ _).drew⟩)
        obtain ⟨y0, y1, y2⟩ := HCS.out
        have y3 := x1
        clear hk htb hfb hfv
        go_upto_region 4 with fail
        clear hU hY u0 u1
        go_region_held3 (fun W => W.cell? ⟨A, k, none⟩ = some (.int .i64 fv) ∧ W.cell? ⟨U, 0, none⟩ = some (.int .i64 (k : Int)) ∧ W.cell? ⟨U, 1, none⟩ = some (.int .i64 t.qty))
          (first | exact HCS.out)
          (first
            | (go_at_call 67; refine (HAD.out _).mono ?_; rintro e w6 ⟨rfl, rfl⟩))
        go_upto_region 7 with fail
        go_region
        go_wp2_with fail
        go_roundw
        case rel => exact ⟨i + 1, _, by go_num, by omega, HNN, HBN⟩
        case measure => simp [RowKit.intOf]; omega
    · obtain rfl : i = m := by omega
      have hd1 : decide (i < i) = false := by simp
      have HE : Hid (addW P.w l = some f) := Lib.hid (by
        have := HA.out
        rw [List.take_of_length_le (by rw [HF.out.1]; exact Nat.le_refl _)] at this
        exact this)
      go_wp2_with fail
      go_ret
      exact ⟨0, rfl, Lib.hid ⟨HG.out.1, .inr ⟨f, HE.out, rfl, HG.out.2⟩⟩⟩
end Go.Proofs.Ytohlkaoophbinaa.Bom.Im
namespace Go.Proofs.Ytohlkaoophbinaa.Recipe
open Go.RowKit Go.Lib
open Goods (St Sts OwnS)

def I64 (x : Int) : Prop := -9223372036854775808 ≤ x ∧ x ≤ 9223372036854775807
def InS (s : List St) : Prop := ∀ t ∈ s, I64 t.kind ∧ I64 t.qty
def InBl (b : Bl) : Prop := I64 b.ot ∧ I64 b.per ∧ I64 b.tm ∧ I64 b.cp ∧ I64 b.st ∧ I64 b.mo ∧ InS b.s
/-- A blueprint as the laws have it. -/
def Fit (w : World) (b : Bl) : Prop := BlIn w b ∧ InBl b ∧ b.sm ≤ 12
theorem Fit.under {w w' : World} {b : Bl} (h : Fit w b) (hb : Below w.heap.size w w') : Fit w' b := ⟨h.1.under hb, h.2⟩
theorem own_sts {w : World} {B : Nat} {a : Option Addr} {n c : Nat} {l : List St} (h : OwnS w B (.slice a n c) l) : l.length = n ∧ Sts w a l := by
  obtain ⟨a', c', e, h1⟩ := Goods.sts_own h
  injection e with e1 e2 _
  subst e1
  exact ⟨e2.symm, h1⟩
open Classical in
/-- Two rows of the same stacks. -/
theorem same_at {W : World} {l : List St} {a b : Option Addr} {n c m d : Nat} (h1 : l.length = n) (s1 : Sts W a l) (h2 : l.length = m) (s2 : Sts W b l) (hl : l.length ≤ 1000) : Calls Try.prog 20 #[.slice a n c, .slice b m d] W fun e w' => e = .returned (.bool true) ∧ Hid (Below W.heap.size W w') := by
  have := Goods.dsame a n c l b m d l W h1 s1 (by omega) h2 s2 (by omega)
  rw [decide_eq_true rfl] at this
  exact this.mono fun _ _ ⟨e, h⟩ => ⟨e, Lib.hid h⟩
/-- Stacks that a composite literal lays. -/
theorem sts_lit {w : World} {g : Nat} {cs : Array Value} {T : TypeId} (l : List St) (h : w.heap[g]? = some (.cells cs T (0, 0))) (hc : cs.toList = Goods.scells l) : Sts w (some ⟨g, 0, none⟩) l := fun i t hi => by
  have hq : ∀ j u, (Goods.stCells t)[j]? = some u → w.cell? ⟨g, 0 + i * 2 + j, none⟩ = some u := fun j u hj => by
    rw [Nat.zero_add]
    refine cell_block (j := i * 2 + j) h ?_
    rw [← Array.getElem?_toList, hc]
    exact Goods.scells_at l i t hi j u hj
  exact ⟨g, 0, rfl, (Array.getElem?_eq_some_iff.1 h).1, hq 0 _ rfl, hq 1 _ rfl⟩
end Go.Proofs.Ytohlkaoophbinaa.Recipe
namespace Go.Proofs.Ytohlkaoophbinaa.Recipe.Im
open Go.RowKit Go.Lib
open Goods (St Sts OwnS)

theorem level_at (n : Int) : ∃ t : Bool, Hid (∀ w, Calls Try.prog 74 #[.int .i64 n] w fun e w' => e = .returned (.bool t) ∧ w = w') ∧ Hid ((t = true → 0 ≤ n ∧ n ≤ 10) ∧ (t = false → ¬ (0 ≤ n ∧ n ≤ 10))) := by
  obtain ⟨t, H, E⟩ := in_at n 0 10
  refine ⟨t, Lib.hid (fun w => ?_), E⟩
  go_enter Try.func74, Try.ntmps74
  go_wp2_with fail
  refine (H.out _).mono ?_
  rintro e w' ⟨rfl, rfl⟩
  go_wp2_with fail
  go_ret
  exact ⟨rfl, rfl⟩
theorem runs_at (n : Int) : ∃ t : Bool, Hid (∀ w, Calls Try.prog 75 #[.int .i64 n] w fun e w' => e = .returned (.bool t) ∧ w = w') ∧ Hid ((t = true → 1 ≤ n ∧ n ≤ 1000) ∧ (t = false → ¬ (1 ≤ n ∧ n ≤ 1000))) := by
  obtain ⟨t, H, E⟩ := in_at n 1 1000
  refine ⟨t, Lib.hid (fun w => ?_), E⟩
  go_enter Try.func75, Try.ntmps75
  go_wp2_with fail
  refine (H.out _).mono ?_
  rintro e w' ⟨rfl, rfl⟩
  go_wp2_with fail
  go_ret
  exact ⟨rfl, rfl⟩
set_option maxRecDepth 100000 in
set_option maxHeartbeats 4000000 in
theorem may_at (b : Bl) (w : World) (hb : BlIn w b) : ∃ t : Bool, Hid (∀ W, Below w.heap.size w W → Calls Try.prog 73 #[blV b] W fun e w' => e = .returned (.bool t) ∧ Hid (Below w.heap.size w w')) ∧ Hid ((t = true → BlOk b 32) ∧ (t = false → ¬ BlOk b 32)) := by
  have HCK := check_at b w hb
  by_cases hok : BlOk b 32
  · refine ⟨true, Lib.hid (fun W hW => ?_), Lib.hid ⟨fun _ => hok, fun h => (by cases h)⟩⟩
    obtain ⟨V, X, hV, hX, HXB, HP⟩ := box_blue W b
    obtain ⟨k0, k1, k2, k3, k4, k5, k6⟩ := HP.out X (Below.refl _ _)
    have HC := Lib.hid (HCK.out X 0 (below_then hW HXB.out) (chkB_yes hok))
    clear hok hb hW HCK
    go_enter Try.func73, Try.ntmps73
    go_wp2_with fail
    clear hX hV
    refine HC.out.mono ?_
    rintro e w1 ⟨rfl, H1⟩
    go_wp2_with fail
    go_ret
    exact ⟨rfl, H1⟩
  · refine ⟨false, Lib.hid (fun W hW => ?_), Lib.hid ⟨fun h => (by cases h), fun _ => hok⟩⟩
    obtain ⟨V, X, hV, hX, HXB, HP⟩ := box_blue W b
    obtain ⟨k0, k1, k2, k3, k4, k5, k6⟩ := HP.out X (Below.refl _ _)
    have HC := Lib.hid (HCK.out X 1 (below_then hW HXB.out) (chkB_no hok))
    clear hok hb hW HCK
    go_enter Try.func73, Try.ntmps73
    go_wp2_with fail
    clear hX hV
    refine HC.out.mono ?_
    rintro e w1 ⟨rfl, H1⟩
    go_wp2_with fail
    go_ret
    exact ⟨rfl, H1⟩
end Go.Proofs.Ytohlkaoophbinaa.Recipe.Im
namespace Go.Proofs
open Go.Shelf
def Try.lays134_ren : Go.Shelf.Ren := ⟨fun | 134 => 99 | 129 => 100 | n => n, fun | 53 => 120 | 3 => 3 | 4 => 4 | 46 => 126 | 5 => 5 | 9 => 9 | n => n, fun | n => n⟩
theorem Try.lays134 : Go.Proofs.Lays.n134 Try.prog Try.lays134_ren := {
  mixed := by kernel_rfl
  f129 := Try.func100.trans (congrArg some (by kernel_rfl))
  f134 := Try.func99.trans (congrArg some (by kernel_rfl))
  t3 := Try.underlying3
  a3 := Try.isAgg3
  z3 := Try.sizeOf3
  v3 := Try.zeroValue3
  t4 := Try.underlying4
  a4 := Try.isAgg4
  z4 := Try.sizeOf4
  v4 := Try.zeroValue4
  t5 := Try.underlying5
  a5 := Try.isAgg5
  z5 := Try.sizeOf5
  v5 := Try.zeroValue5
  t9 := Try.underlying9
  a9 := Try.isAgg9
  z9 := Try.sizeOf9
  v9 := Try.zeroValue9
  t46 := Try.underlying126
  a46 := Try.isAgg126
  z46 := Try.sizeOf126
  v46 := Try.zeroValue126
  t53 := Try.underlying120
  a53 := Try.isAgg120
  z53 := Try.sizeOf120
  v53 := Try.zeroValue120 }
theorem Try.bits_LeadingZeros64 (x : Int) (w : World) (h0 : 0 ≤ x) (h1 : x ≤ 18446744073709551615) :
    Calls Try.prog 99 #[.int .u64 x] w fun e w' => e = .returned (.int .i64 (64 - (Lib.bitLen x.toNat : Int))) ∧ w' = w := Any.bits_LeadingZeros64 Try.lays134 x w h0 h1
def Try.lays129_ren : Go.Shelf.Ren := ⟨fun | 129 => 100 | n => n, fun | 53 => 120 | 3 => 3 | 4 => 4 | 46 => 126 | 5 => 5 | 9 => 9 | n => n, fun | n => n⟩
theorem Try.lays129 : Go.Proofs.Lays.n129 Try.prog Try.lays129_ren := {
  mixed := by kernel_rfl
  f129 := Try.func100.trans (congrArg some (by kernel_rfl))
  t3 := Try.underlying3
  a3 := Try.isAgg3
  z3 := Try.sizeOf3
  v3 := Try.zeroValue3
  t4 := Try.underlying4
  a4 := Try.isAgg4
  z4 := Try.sizeOf4
  v4 := Try.zeroValue4
  t5 := Try.underlying5
  a5 := Try.isAgg5
  z5 := Try.sizeOf5
  v5 := Try.zeroValue5
  t9 := Try.underlying9
  a9 := Try.isAgg9
  z9 := Try.sizeOf9
  v9 := Try.zeroValue9
  t46 := Try.underlying126
  a46 := Try.isAgg126
  z46 := Try.sizeOf126
  v46 := Try.zeroValue126
  t53 := Try.underlying120
  a53 := Try.isAgg120
  z53 := Try.sizeOf120
  v53 := Try.zeroValue120 }
theorem Try.bits_Len64 (x : Int) (w : World) (h0 : 0 ≤ x) (h1 : x ≤ 18446744073709551615) :
    Calls Try.prog 100 #[.int .u64 x] w fun e w' => e = .returned (.int .i64 (Lib.bitLen x.toNat)) ∧ w' = w := Any.bits_Len64 Try.lays129 x w h0 h1
def Try.lays264_ren : Go.Shelf.Ren := ⟨fun | 264 => 93 | n => n, fun | 53 => 120 | 46 => 126 | n => n, fun | n => n⟩
theorem Try.lays264 : Go.Proofs.Lays.n264 Try.prog Try.lays264_ren := {
  mixed := by kernel_rfl
  f264 := Try.func93.trans (congrArg some (by kernel_rfl))
  t46 := Try.underlying126
  a46 := Try.isAgg126
  z46 := Try.sizeOf126
  v46 := Try.zeroValue126
  t53 := Try.underlying120
  a53 := Try.isAgg120
  z53 := Try.sizeOf120
  v53 := Try.zeroValue120 }
open Go.RowKit Go.Lib in
theorem Try.bits_Mul64 (x y : Nat) (hx : x < 18446744073709551616) (hy : y < 18446744073709551616) (w : World) :
    Calls Try.prog 93 #[.int .u64 x, .int .u64 y] w fun e w' => e = .returned (.tuple #[.int .u64 ((x * y / 18446744073709551616 : Nat) : Int), .int .u64 ((x * y % 18446744073709551616 : Nat) : Int)]) ∧ w' = w := Any.bits_Mul64 Try.lays264 x y hx hy w
end Go.Proofs
namespace Go.Proofs.Ytohlkaoophbinaa.Calc
open Go.RowKit Go.Lib

theorem ret_u64 {a b : Int} (h : a = b) : Ending.returned (.int .u64 a) = Ending.returned (.int .u64 b) := by rw [h]
theorem ret_u64_bool {a b : Int} {x y : Bool} (h : a = b) (g : x = y) : Ending.returned (.tuple #[.int .u64 a, .bool x]) = Ending.returned (.tuple #[.int .u64 b, .bool y]) := by rw [h, g]
theorem ret_pair {a b c d : Int} (h : a = b) (g : c = d) : Ending.returned (.tuple #[.int .i64 a, .int .i64 c]) = Ending.returned (.tuple #[.int .i64 b, .int .i64 d]) := by rw [h, g]
set_option maxHeartbeats 400000 in
theorem above_any (n : Int) (w : World) (a0 : 0 ≤ n) (a1 : n < 18446744073709551616) :
    Calls Try.prog 96 #[.int .u64 n] w fun e w' => e = .returned (.tuple #[.int .i64 (valN n), .int .i64 (valE n)]) ∧ w = w' := by
  by_cases h : 9223372036854775807 < n
  · go_enter Try.func96, Try.ntmps96
    go_wp2
    go_ret2
    exact ⟨pair_out (Or.inr h), rfl⟩
  · go_enter Try.func96, Try.ntmps96
    go_wp2
    go_ret2
    exact ⟨pair_in (by omega) (by omega), rfl⟩
/-- The upper and the lower word of a product. -/
def hiW (x y : Int) : Int := x * y / 18446744073709551616
def loW (x y : Int) : Int := x * y % 18446744073709551616
theorem mul64_any (x y : Int) (w : World) (x0 : 0 ≤ x) (x1 : x < 18446744073709551616) (y0 : 0 ≤ y) (y1 : y < 18446744073709551616) :
    Calls Try.prog 93 #[.int .u64 x, .int .u64 y] w fun e w' => e = .returned (.tuple #[.int .u64 (hiW x y), .int .u64 (loW x y)]) ∧ w = w' := by
  obtain ⟨m, rfl⟩ := Int.eq_ofNat_of_zero_le x0
  obtain ⟨n, rfl⟩ := Int.eq_ofNat_of_zero_le y0
  exact (Try.bits_Mul64 m n (by omega) (by omega) w).mono fun e w' ⟨he, hw⟩ => ⟨by rw [he]; simp [hiW, loW], hw.symm⟩
theorem lo_in (x y : Int) : 0 ≤ loW x y ∧ loW x y < 18446744073709551616 := by unfold loW; omega
theorem prod_bound {x y A B : Int} (x0 : 0 ≤ x) (y0 : 0 ≤ y) (hx : x ≤ A) (hy : y ≤ B) (hA : 0 ≤ A) : 0 ≤ x * y ∧ x * y ≤ A * B :=
  ⟨Int.mul_nonneg x0 y0, Int.mul_le_mul hx hy y0 hA⟩
end Go.Proofs.Ytohlkaoophbinaa.Calc
