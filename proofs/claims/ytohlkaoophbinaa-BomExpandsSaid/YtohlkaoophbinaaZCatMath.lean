/- Catalogues: what may be; said without a program. The document's Count. Blueprints in memory; the document's in, Check. -/
import Derived.Test.YtohlkaoophbinaaZRecMath
import Derived.Test.YtohlkaoophbinaaZGraphB
import Derived.Test.YtohlkaoophbinaaZGoodsB
import Derived.BigQuiet
import Derived.RegionTactic
import Derived.Deep.QuietTactic
namespace Go.Proofs.Ytohlkaoophbinaa.Cat
open Goods (St)
open Recipe (Bl)
open Graph (Nd)

/-- A blueprint, wherever its needs lie. -/
structure PB where
  ot : Int
  per : Int
  tm : Int
  s : List St
  cp : Int
  st : Int
  mo : Int
structure Ba where
  pl : Int
  mf : Int
  lb : Int
  rt : Int
structure Cat where
  ty : Int
  bs : List PB
  pl : Int
  ys : List Ba
  ch : Int
  f : Fee.FS
def PB.b (b : PB) : Bl := ⟨b.ot, b.per, b.tm, none, 0, 0, b.s, b.cp, b.st, b.mo⟩
def pOf (b : Bl) : PB := ⟨b.ot, b.per, b.tm, b.s, b.cp, b.st, b.mo⟩
theorem ok_pOf (b : Bl) (ty : Int) : Recipe.BlOk (pOf b).b ty ↔ Recipe.BlOk b ty := Iff.rfl
def zPB : PB := ⟨0, 0, 0, [], 0, 0, 0⟩
def zBa : Ba := ⟨0, 0, 0, 0⟩
def zCat : Cat := ⟨0, [], 0, [], 0, ⟨0, 0, 0⟩⟩
def BaOk (pl : Int) (y : Ba) : Prop := (1 ≤ y.pl ∧ y.pl ≤ pl) ∧ (0 ≤ y.mf ∧ y.mf ≤ 8) ∧ (0 ≤ y.lb ∧ y.lb ≤ 8) ∧ (0 ≤ y.rt ∧ y.rt ≤ 10000)
def CatOk (C : Cat) : Prop := ((1 ≤ C.ty ∧ C.ty ≤ 32) ∧ (1 ≤ C.pl ∧ C.pl ≤ 8) ∧ (1 ≤ C.ch ∧ C.ch ≤ 16) ∧ C.bs.length ≤ 16 ∧ C.ys.length ≤ 8 ∧ Fee.FeeOk C.f) ∧ (∀ b ∈ C.bs, Recipe.BlOk b.b C.ty) ∧ ∀ y ∈ C.ys, BaOk C.pl y
/-- What a blueprint's type needs, of the first so many needs. -/
def nd1 (o : Int) (s : List St) : List Nd := s.map fun t => ⟨o, t.kind⟩
def ndL (bs : List PB) : List Nd := bs.flatMap fun b => nd1 b.ot b.s
open Classical in
noncomputable def chkC (C : Cat) : Int := if CatOk C then (if Graph.ordE C.ty (ndL C.bs) = 0 then (if ∀ d ∈ Graph.degV C.ty (ndL C.bs), d ≤ 8 then 0 else 5) else Graph.ordE C.ty (ndL C.bs)) else 1
theorem chk_arg {C : Cat} (h : ¬ CatOk C) : chkC C = 1 := by unfold chkC; rw [if_neg h]
theorem chk_err {C : Cat} (h : CatOk C) (h2 : ¬ Graph.ordE C.ty (ndL C.bs) = 0) : chkC C = Graph.ordE C.ty (ndL C.bs) := by unfold chkC; rw [if_pos h, if_neg h2]
theorem chk_over {C : Cat} (h : CatOk C) (h2 : Graph.ordE C.ty (ndL C.bs) = 0) (h3 : ¬ ∀ d ∈ Graph.degV C.ty (ndL C.bs), d ≤ 8) : chkC C = 5 := by unfold chkC; rw [if_pos h, if_pos h2, if_neg h3]
theorem chk_fine {C : Cat} (h : CatOk C) (h2 : Graph.ordE C.ty (ndL C.bs) = 0) (h3 : ∀ d ∈ Graph.degV C.ty (ndL C.bs), d ≤ 8) : chkC C = 0 := by unfold chkC; rw [if_pos h, if_pos h2, if_pos h3]
theorem chk_zero {C : Cat} (h : chkC C = 0) : CatOk C := by
  by_cases hk : CatOk C
  · exact hk
  · rw [chk_arg hk] at h; omega
/-- The first blueprint that makes a type, told by its number. -/
def mkr (k : Int) : List PB → Int → Int
  | [], _ => 0
  | b :: l, i => if b.ot = k then i + 1 else mkr k l (i + 1)
open Classical in
noncomputable def bluE (C : Cat) (n : Int) : Int := if 1 ≤ n ∧ n ≤ C.bs.length then 0 else 3
open Classical in
noncomputable def bluV (C : Cat) (n : Int) : PB := if 1 ≤ n ∧ n ≤ C.bs.length then C.bs.getD (n - 1).toNat zPB else zPB
open Classical in
noncomputable def bayE (C : Cat) (n : Int) : Int := if 1 ≤ n ∧ n ≤ C.ys.length then 0 else 3
open Classical in
noncomputable def bayV (C : Cat) (n : Int) : Ba := if 1 ≤ n ∧ n ≤ C.ys.length then C.ys.getD (n - 1).toNat zBa else zBa
theorem mkr_drop {k : Int} {l : List PB} {i : Nat} {b : PB} (h : l[i]? = some b) : mkr k (l.drop i) i = if b.ot = k then (i : Int) + 1 else mkr k (l.drop (i + 1)) ((i + 1 : Nat) : Int) := by
  obtain ⟨hi, e⟩ := List.getElem?_eq_some_iff.1 h
  rw [List.drop_eq_getElem_cons hi, e]
  rfl
end Go.Proofs.Ytohlkaoophbinaa.Cat
namespace Go.Proofs.Ytohlkaoophbinaa.Goods
open Go.RowKit Go.Lib

set_option maxRecDepth 100000 in
set_option maxHeartbeats 2000000 in
theorem dcount (a : Option Addr) (n c : Nat) (l : List St) (k : Int) (w : World) (hl : l.length = n) (hs : Sts w a l) (hn : n ≤ 4096) :
    Calls Try.prog 30 #[.slice a n c, .int .i64 k] w fun e w' => e = .returned (.int .i64 (cnt (valN l) k)) ∧ Below w.heap.size w w' := by
  have HN := Lib.hid (dnorm2 a n c l w hl hs hn)
  have hlen := len_valN l
  have HR := Lib.hid (norm_valN l).rise
  have hl4 : (valN l).length ≤ 4096 := by omega
  clear hl hs hn hlen
  go_enter Try.func30, Try.ntmps30
  go_wp2_with fail
  refine HN.out.mono ?_
  rintro e w1 ⟨a', m, c', rfl, _, HV⟩
  have HT := sts_at HV.out.2.1
  have HM := Lib.hid HV.out.1
  have hm1 : (m : Int) ≤ 1048576 := by have := HM.out; omega
  go_wp2_with fail
  go_loopw [7] (fun t wr => ∃ i : Nat, t = .int .i64 i ∧ i ≤ m ∧ w1 = wr ∧ Hid (∀ s ∈ (valN l).take i, s.kind ≠ k)) (fun t _ => m - (RowKit.intOf t).toNat)
  case atStart => exact ⟨0, rfl, by omega, rfl, Lib.hid (fun s hs => by simp at hs)⟩
  case round =>
    obtain ⟨i, rfl, hi, rfl, HZ⟩ := hrel
    have hi0 : (0 : Int) ≤ (i : Int) := by omega
    by_cases hlt : i < m
    · have hlt2 : (i : Int) < (m : Int) := by omega
      obtain ⟨g, off, t, rfl, ht, k0, k1⟩ := HT.out w1 i (Below.refl _ _) (by rw [HM.out]; exact hlt)
      by_cases hk : t.kind = k
      · have HE : Hid (cnt (valN l) k = t.qty) := Lib.hid (by rw [← hk]; exact cnt_at HR.out (List.mem_of_getElem? ht.out))
        have hk2 : (t.kind == k) = true := by simpa using hk
        clear hk
        go_wp2_with fail
        go_ret
        exact ⟨ret_i64 HE.out.symm, HV.out.2.2.2⟩
      · have HZ2 : Hid (∀ s ∈ (valN l).take (i + 1), s.kind ≠ k) := Lib.hid (fun s hs => by
          rcases (mem_take_succ ht.out).1 hs with hs | rfl
          · exact HZ.out s hs
          · exact hk)
        have hk2 : (t.kind == k) = false := by simpa using hk
        clear hk
        go_wp2_with fail
        go_roundw
        case rel => exact ⟨i + 1, by go_num, by omega, by first | rfl | trivial, HZ2⟩
        case measure => simp [RowKit.intOf]; omega
    · obtain rfl : i = m := by omega
      have HE : Hid (cnt (valN l) k = 0) := Lib.hid (by
        have := HZ.out
        rw [List.take_of_length_le (by rw [HM.out]; exact Nat.le_refl _)] at this
        exact cnt_none this)
      go_wp2_with fail
      go_ret
      exact ⟨ret_i64 HE.out.symm, HV.out.2.2.2⟩
end Go.Proofs.Ytohlkaoophbinaa.Goods
namespace Go.Proofs.Ytohlkaoophbinaa.Recipe
open Go.RowKit Go.Lib
open Goods (St Sts OwnS)

abbrev blV (b : Bl) : Value := .agg #[.int .i64 b.ot, .int .i64 b.per, .int .i64 b.tm, .slice b.sa b.sm b.sc, .int .i64 b.cp, .int .i64 b.st, .int .i64 b.mo]
/-- The needs lie where the blueprint says. -/
def BlIn (w : World) (b : Bl) : Prop := b.s.length = b.sm ∧ Sts w b.sa b.s ∧ b.sm ≤ 1000
theorem BlIn.under {w w' : World} {b : Bl} (h : BlIn w b) (hb : Below w.heap.size w w') : BlIn w' b := ⟨h.1, h.2.1.under hb, h.2.2⟩
/-- The seven cells of a blueprint in a box of its own. -/
def CellsU (w : World) (V : Nat) (b : Bl) : Prop := w.cell? ⟨V, 0, none⟩ = some (.int .i64 b.ot) ∧ w.cell? ⟨V, 1, none⟩ = some (.int .i64 b.per) ∧ w.cell? ⟨V, 2, none⟩ = some (.int .i64 b.tm) ∧ w.cell? ⟨V, 3, none⟩ = some (.slice b.sa b.sm b.sc) ∧ w.cell? ⟨V, 4, none⟩ = some (.int .i64 b.cp) ∧ w.cell? ⟨V, 5, none⟩ = some (.int .i64 b.st) ∧ w.cell? ⟨V, 6, none⟩ = some (.int .i64 b.mo)
theorem box_blue (w : World) (b : Bl) : ∃ V X, w.heap.size = V ∧ w.alloc (.cells #[.int .i64 b.ot, .int .i64 b.per, .int .i64 b.tm, .slice b.sa b.sm b.sc, .int .i64 b.cp, .int .i64 b.st, .int .i64 b.mo] 54) = X ∧ Hid (Below w.heap.size w X) ∧ Hid (∀ W, Below X.heap.size X W → CellsU W V b) := by
  refine ⟨_, _, rfl, rfl, Lib.hid ((Below.refl _ w).alloc (Nat.le_refl _) _), Lib.hid (fun W hW => ?_)⟩
  have h0 := heap_alloc_new w (.cells #[.int .i64 b.ot, .int .i64 b.per, .int .i64 b.tm, .slice b.sa b.sm b.sc, .int .i64 b.cp, .int .i64 b.st, .int .i64 b.mo] 54)
  have h1 := (hW.block _ (Array.getElem?_eq_some_iff.1 h0).1).trans h0
  exact ⟨cell_block (j := 0) h1 rfl, cell_block (j := 1) h1 rfl, cell_block (j := 2) h1 rfl, cell_block (j := 3) h1 rfl, cell_block (j := 4) h1 rfl, cell_block (j := 5) h1 rfl, cell_block (j := 6) h1 rfl⟩
theorem in_yes (n a b : Int) (w : World) (h0 : a ≤ n) (h1 : n ≤ b) : Calls Try.prog 62 #[.int .i64 n, .int .i64 a, .int .i64 b] w fun e w' => e = .returned (.bool true) ∧ w = w' := by
  have d1 : decide (a ≤ n) = true := decide_eq_true h0
  have d2 : decide (n ≤ b) = true := decide_eq_true h1
  go_enter Try.func62, Try.ntmps62
  go_wp2_with fail
  go_ret
  exact ⟨rfl, rfl⟩
theorem in_no (n a b : Int) (w : World) (h : n < a ∨ b < n) : Calls Try.prog 62 #[.int .i64 n, .int .i64 a, .int .i64 b] w fun e w' => e = .returned (.bool false) ∧ w = w' := by
  by_cases k : a ≤ n
  · have d1 : decide (a ≤ n) = true := decide_eq_true k
    have d2 : decide (n ≤ b) = false := decide_eq_false (by omega)
    clear h
    go_enter Try.func62, Try.ntmps62
    go_wp2_with fail
    go_ret
    exact ⟨rfl, rfl⟩
  · have d1 : decide (a ≤ n) = false := decide_eq_false k
    clear h
    go_enter Try.func62, Try.ntmps62
    go_wp2_with fail
    go_ret
    exact ⟨rfl, rfl⟩
/-- As walks want it: what it tells is named ahead. -/
theorem in_at (n a b : Int) : ∃ t : Bool, Hid (∀ w, Calls Try.prog 62 #[.int .i64 n, .int .i64 a, .int .i64 b] w fun e w' => e = .returned (.bool t) ∧ w = w') ∧ Hid ((t = true → a ≤ n ∧ n ≤ b) ∧ (t = false → ¬ (a ≤ n ∧ n ≤ b))) := by
  by_cases h : a ≤ n ∧ n ≤ b
  · exact ⟨true, Lib.hid fun w => in_yes n a b w h.1 h.2, Lib.hid ⟨fun _ => h, fun h => (by cases h)⟩⟩
  · exact ⟨false, Lib.hid fun w => in_no n a b w (by omega), Lib.hid ⟨fun h => (by cases h), fun _ => h⟩⟩
set_option maxRecDepth 100000 in
set_option maxHeartbeats 8000000 in
theorem dcheck (b : Bl) (ty : Int) (w : World) (hb : BlIn w b) :
    Calls Try.prog 61 #[blV b, .int .i64 ty] w fun e w' => e = .returned (.int .i64 (chkB b ty)) ∧ Below w.heap.size w w' := by
  obtain ⟨V, X, hV, hX, HXB, HP⟩ := box_blue w b
  obtain ⟨k0, k1, k2, k3, k4, k5, k6⟩ := HP.out X (Below.refl _ _)
  obtain ⟨t0, H0, E0⟩ := in_at (ty) 0 (32)
  obtain ⟨t1, H1, E1⟩ := in_at (b.ot) 1 (ty)
  obtain ⟨t2, H2, E2⟩ := in_at (b.per) 1 (1048576)
  obtain ⟨t3, H3, E3⟩ := in_at (b.tm) 1 (1048576)
  obtain ⟨t4, H4, E4⟩ := in_at (b.cp) 0 (1048576)
  obtain ⟨t5, H5, E5⟩ := in_at (b.st) 0 (1048576)
  obtain ⟨t6, H6, E6⟩ := in_at (b.mo) 1 (1000)
  have HCK : Hid (∀ z, Goods.chk b.s ty = z → Calls Try.prog 58 #[.slice b.sa b.sm b.sc, .int .i64 ty] X fun e w' => e = .returned (.int .i64 z) ∧ Hid (Below X.heap.size X w')) := Lib.hid (fun z hz => by
    subst hz
    exact (Goods.dcheck b.sa b.sm b.sc b.s ty X hb.1 (hb.2.1.under HXB.out) (by have := hb.2.2; omega)).mono fun _ _ ⟨e, h⟩ => ⟨e, Lib.hid h⟩)
  have HCN : Hid (∀ W z, Below X.heap.size X W → Goods.cnt (Goods.valN b.s) b.ot = z → Calls Try.prog 30 #[.slice b.sa b.sm b.sc, .int .i64 b.ot] W fun e w' => e = .returned (.int .i64 z) ∧ Hid (Below X.heap.size X w')) := Lib.hid (fun W z hW hz => by
    subst hz
    exact (Goods.dcount b.sa b.sm b.sc b.s b.ot W hb.1 (hb.2.1.under (below_then HXB.out hW)) (by have := hb.2.2; omega)).mono fun _ _ ⟨e, h⟩ => ⟨e, Lib.hid (below_then hW h)⟩)
  have HNO : Hid (∀ W, Below X.heap.size X W → Below w.heap.size w W) := Lib.hid (fun W hW => below_then HXB.out hW)
  clear hb
  rcases t0 with _ | _
  · have hc : chkB b ty = 1 := chkB_no fun h => E0.out.2 rfl (h.1)
    rw [hc]
    clear hc
    go_enter Try.func61, Try.ntmps61
    go_wp2_with fail
    clear hX hV
    refine (H0.out _).mono ?_
    rintro e w' ⟨rfl, rfl⟩
    go_wp2_with fail
    go_ret
    exact ⟨rfl, HXB.out⟩
  rcases t1 with _ | _
  · have hc : chkB b ty = 1 := chkB_no fun h => E1.out.2 rfl (h.2.1)
    rw [hc]
    clear hc
    go_enter Try.func61, Try.ntmps61
    go_wp2_with fail
    clear hX hV
    refine (H0.out _).mono ?_
    rintro e w' ⟨rfl, rfl⟩
    go_wp2_with fail
    refine (H1.out _).mono ?_
    rintro e w' ⟨rfl, rfl⟩
    go_wp2_with fail
    go_ret
    exact ⟨rfl, HXB.out⟩
  rcases t2 with _ | _
  · have hc : chkB b ty = 1 := chkB_no fun h => E2.out.2 rfl (h.2.2.1)
    rw [hc]
    clear hc
    go_enter Try.func61, Try.ntmps61
    go_wp2_with fail
    clear hX hV
    refine (H0.out _).mono ?_
    rintro e w' ⟨rfl, rfl⟩
    go_wp2_with fail
    refine (H1.out _).mono ?_
    rintro e w' ⟨rfl, rfl⟩
    go_wp2_with fail
    refine (H2.out _).mono ?_
    rintro e w' ⟨rfl, rfl⟩
    go_wp2_with fail
    go_ret
    exact ⟨rfl, HXB.out⟩
  rcases t3 with _ | _
  · have hc : chkB b ty = 1 := chkB_no fun h => E3.out.2 rfl (h.2.2.2.1)
    rw [hc]
    clear hc
    go_enter Try.func61, Try.ntmps61
    go_wp2_with fail
    clear hX hV
    refine (H0.out _).mono ?_
    rintro e w' ⟨rfl, rfl⟩
    go_wp2_with fail
    refine (H1.out _).mono ?_
    rintro e w' ⟨rfl, rfl⟩
    go_wp2_with fail
    refine (H2.out _).mono ?_
    rintro e w' ⟨rfl, rfl⟩
    go_wp2_with fail
    refine (H3.out _).mono ?_
    rintro e w' ⟨rfl, rfl⟩
    go_wp2_with fail
    go_ret
    exact ⟨rfl, HXB.out⟩
  rcases t4 with _ | _
  · have hc : chkB b ty = 1 := chkB_no fun h => E4.out.2 rfl (h.2.2.2.2.1)
    rw [hc]
    clear hc
    go_enter Try.func61, Try.ntmps61
    go_wp2_with fail
    clear hX hV
    refine (H0.out _).mono ?_
    rintro e w' ⟨rfl, rfl⟩
    go_wp2_with fail
    refine (H1.out _).mono ?_
    rintro e w' ⟨rfl, rfl⟩
    go_wp2_with fail
    refine (H2.out _).mono ?_
    rintro e w' ⟨rfl, rfl⟩
    go_wp2_with fail
    refine (H3.out _).mono ?_
    rintro e w' ⟨rfl, rfl⟩
    go_wp2_with fail
    refine (H4.out _).mono ?_
    rintro e w' ⟨rfl, rfl⟩
    go_wp2_with fail
    go_ret
    exact ⟨rfl, HXB.out⟩
  rcases t5 with _ | _
  · have hc : chkB b ty = 1 := chkB_no fun h => E5.out.2 rfl (h.2.2.2.2.2.1)
    rw [hc]
    clear hc
    go_enter Try.func61, Try.ntmps61
    go_wp2_with fail
    clear hX hV
    refine (H0.out _).mono ?_
    rintro e w' ⟨rfl, rfl⟩
    go_wp2_with fail
    refine (H1.out _).mono ?_
    rintro e w' ⟨rfl, rfl⟩
    go_wp2_with fail
    refine (H2.out _).mono ?_
    rintro e w' ⟨rfl, rfl⟩
    go_wp2_with fail
    refine (H3.out _).mono ?_
    rintro e w' ⟨rfl, rfl⟩
    go_wp2_with fail
    refine (H4.out _).mono ?_
    rintro e w' ⟨rfl, rfl⟩
    go_wp2_with fail
    refine (H5.out _).mono ?_
    rintro e w' ⟨rfl, rfl⟩
    go_wp2_with fail
    go_ret
    exact ⟨rfl, HXB.out⟩
  rcases t6 with _ | _
  · have hc : chkB b ty = 1 := chkB_no fun h => E6.out.2 rfl (h.2.2.2.2.2.2.1)
    rw [hc]
    clear hc
    go_enter Try.func61, Try.ntmps61
    go_wp2_with fail
    clear hX hV
    refine (H0.out _).mono ?_
    rintro e w' ⟨rfl, rfl⟩
    go_wp2_with fail
    refine (H1.out _).mono ?_
    rintro e w' ⟨rfl, rfl⟩
    go_wp2_with fail
    refine (H2.out _).mono ?_
    rintro e w' ⟨rfl, rfl⟩
    go_wp2_with fail
    refine (H3.out _).mono ?_
    rintro e w' ⟨rfl, rfl⟩
    go_wp2_with fail
    refine (H4.out _).mono ?_
    rintro e w' ⟨rfl, rfl⟩
    go_wp2_with fail
    refine (H5.out _).mono ?_
    rintro e w' ⟨rfl, rfl⟩
    go_wp2_with fail
    refine (H6.out _).mono ?_
    rintro e w' ⟨rfl, rfl⟩
    go_wp2_with fail
    go_ret
    exact ⟨rfl, HXB.out⟩
  by_cases hl : Goods.Listed b.s ty
  case neg =>
    have hc : chkB b ty = 1 := chkB_no fun h => hl h.2.2.2.2.2.2.2.1
    have HC := Lib.hid (HCK.out 1 (Goods.chk_no hl))
    rw [hc]
    clear hc hl
    go_enter Try.func61, Try.ntmps61
    go_wp2_with fail
    clear hX hV
    refine (H0.out _).mono ?_
    rintro e w' ⟨rfl, rfl⟩
    go_wp2_with fail
    refine (H1.out _).mono ?_
    rintro e w' ⟨rfl, rfl⟩
    go_wp2_with fail
    refine (H2.out _).mono ?_
    rintro e w' ⟨rfl, rfl⟩
    go_wp2_with fail
    refine (H3.out _).mono ?_
    rintro e w' ⟨rfl, rfl⟩
    go_wp2_with fail
    refine (H4.out _).mono ?_
    rintro e w' ⟨rfl, rfl⟩
    go_wp2_with fail
    refine (H5.out _).mono ?_
    rintro e w' ⟨rfl, rfl⟩
    go_wp2_with fail
    refine (H6.out _).mono ?_
    rintro e w' ⟨rfl, rfl⟩
    go_wp2_with fail
    refine HC.out.mono ?_
    rintro e w2 ⟨rfl, H⟩
    go_wp2_with fail
    go_ret
    exact ⟨rfl, HNO.out _ H.out⟩
  have HC := Lib.hid (HCK.out 0 (Goods.chk_yes hl))
  obtain ⟨z, hz⟩ : ∃ z, Goods.cnt (Goods.valN b.s) b.ot = z := ⟨_, rfl⟩
  have HN : Hid (∀ W, Below X.heap.size X W → Calls Try.prog 30 #[.slice b.sa b.sm b.sc, .int .i64 b.ot] W fun e w' => e = .returned (.int .i64 z) ∧ Hid (Below X.heap.size X w')) := Lib.hid (fun W hW => HCN.out W z hW hz)
  by_cases hn : 0 < z
  · have hc : chkB b ty = 1 := chkB_no fun h => h.2.2.2.2.2.2.2.2 (by rw [hz]; exact hn)
    have d1 : decide (0 < z) = true := decide_eq_true hn
    rw [hc]
    clear hc hl hn hz
    go_enter Try.func61, Try.ntmps61
    go_wp2_with fail
    clear hX hV
    refine (H0.out _).mono ?_
    rintro e w' ⟨rfl, rfl⟩
    go_wp2_with fail
    refine (H1.out _).mono ?_
    rintro e w' ⟨rfl, rfl⟩
    go_wp2_with fail
    refine (H2.out _).mono ?_
    rintro e w' ⟨rfl, rfl⟩
    go_wp2_with fail
    refine (H3.out _).mono ?_
    rintro e w' ⟨rfl, rfl⟩
    go_wp2_with fail
    refine (H4.out _).mono ?_
    rintro e w' ⟨rfl, rfl⟩
    go_wp2_with fail
    refine (H5.out _).mono ?_
    rintro e w' ⟨rfl, rfl⟩
    go_wp2_with fail
    refine (H6.out _).mono ?_
    rintro e w' ⟨rfl, rfl⟩
    go_wp2_with fail
    refine HC.out.mono ?_
    rintro e w2 ⟨rfl, H⟩
    obtain ⟨y0, y1, y2, y3, y4, y5, y6⟩ := HP.out w2 H.out
    clear k0 k1 k2 k3 k4 k5 k6
    go_wp2_with fail
    refine (HN.out w2 H.out).mono ?_
    rintro e w3 ⟨rfl, HH⟩
    go_wp2_with fail
    go_ret
    exact ⟨rfl, HNO.out _ HH.out⟩
  · have hc : chkB b ty = 0 := chkB_yes ⟨E0.out.1 rfl, E1.out.1 rfl, E2.out.1 rfl, E3.out.1 rfl, E4.out.1 rfl, E5.out.1 rfl, E6.out.1 rfl, hl, by rw [hz]; exact hn⟩
    have d1 : decide (0 < z) = false := decide_eq_false hn
    rw [hc]
    clear hc hl hn hz
    go_enter Try.func61, Try.ntmps61
    go_wp2_with fail
    clear hX hV
    refine (H0.out _).mono ?_
    rintro e w' ⟨rfl, rfl⟩
    go_wp2_with fail
    refine (H1.out _).mono ?_
    rintro e w' ⟨rfl, rfl⟩
    go_wp2_with fail
    refine (H2.out _).mono ?_
    rintro e w' ⟨rfl, rfl⟩
    go_wp2_with fail
    refine (H3.out _).mono ?_
    rintro e w' ⟨rfl, rfl⟩
    go_wp2_with fail
    refine (H4.out _).mono ?_
    rintro e w' ⟨rfl, rfl⟩
    go_wp2_with fail
    refine (H5.out _).mono ?_
    rintro e w' ⟨rfl, rfl⟩
    go_wp2_with fail
    refine (H6.out _).mono ?_
    rintro e w' ⟨rfl, rfl⟩
    go_wp2_with fail
    refine HC.out.mono ?_
    rintro e w2 ⟨rfl, H⟩
    obtain ⟨y0, y1, y2, y3, y4, y5, y6⟩ := HP.out w2 H.out
    clear k0 k1 k2 k3 k4 k5 k6
    go_wp2_with fail
    refine (HN.out w2 H.out).mono ?_
    rintro e w3 ⟨rfl, HH⟩
    go_wp2_with fail
    go_ret
    exact ⟨rfl, HNO.out _ HH.out⟩
/-- As walks want it. -/
theorem check_at (b : Bl) (w : World) (hb : BlIn w b) : Hid (∀ W z, Below w.heap.size w W → chkB b 32 = z → Calls Try.prog 61 #[blV b, .int .i64 32] W fun e w' => e = .returned (.int .i64 z) ∧ Hid (Below w.heap.size w w')) := Lib.hid (fun W z hW hz => by
  subst hz
  exact (dcheck b 32 W (hb.under hW)).mono fun _ _ ⟨e, h⟩ => ⟨e, Lib.hid (below_then hW h)⟩)
end Go.Proofs.Ytohlkaoophbinaa.Recipe
