/- Needs in a row of one's own; one more at its end. The document's Needs. -/
import Derived.Test.YtdbhdlgoecpeaaaZGraphA
import Derived.Test.YtdbhdlgoecpeaaaZGoodsMath
import Derived.Test.YtdbhdlgoecpeaaaZRecA
import Derived.BigRegion
namespace Go.Proofs.Ytdbhdlgoecpeaaa.Graph
open Go.RowKit Go.Lib IRows

theorem own_same {w w' : World} {B : Nat} {e : TypeId} {size n : Nat} {v : Value} {xs : List Value} (h : w.ownsRow B e size v n xs) (hs : ∀ q, v.ownBlock = some q → w'.heap[q]? = w.heap[q]?) : w'.ownsRow B e size v n xs := by
  refine ⟨h.1, ?_⟩
  rcases h.2 with h1 | ⟨g, cap, cur, hv, h1, h2, h3⟩
  · exact .inl h1
  · exact .inr ⟨g, cap, cur, hv, h1, (hs g (by rw [hv]; rfl)).trans h2, h3⟩
theorem own_under {w w' : World} {B : Nat} {e : TypeId} {size n : Nat} {v : Value} {xs : List Value} (h : w.ownsRow B e size v n xs) (hb : Below w.heap.size w w') : w'.ownsRow B e size v n xs := own_same h (fun q hq => hb.block q (h.lt q hq).2)
abbrev sV (t : Nd) : Value := .agg #[.int .i64 t.a, .int .i64 t.b]
def ndCells (t : Nd) : List Value := [.int .i64 t.a, .int .i64 t.b]
def Nd.cells (t : Nd) : Array Value := #[.int .i64 t.a, .int .i64 t.b]
def ncells (l : List Nd) : List Value := l.flatMap ndCells
theorem ncells_cons (t : Nd) (l : List Nd) : ncells (t :: l) = ndCells t ++ ncells l := by simp [ncells]
theorem ncells_append (l m : List Nd) : ncells (l ++ m) = ncells l ++ ncells m := by simp [ncells]
theorem ncells_length : ∀ l : List Nd, (ncells l).length = l.length * 2
  | [] => rfl
  | p :: l => by rw [ncells_cons, List.length_append, ncells_length l]; simp [ndCells]; omega
theorem ncells_at : ∀ (l : List Nd) (i : Nat) (p : Nd), l[i]? = some p → ∀ (j : Nat) (v : Value), (ndCells p)[j]? = some v → (ncells l)[i * 2 + j]? = some v
  | [], i, p, h => by simp at h
  | q :: l, 0, p, h => by
    intro j v hj
    have : q = p := by simpa using h
    subst this
    have hlt : j < (ndCells q).length := (List.getElem?_eq_some_iff.1 hj).1
    rw [ncells_cons, List.getElem?_append_left (by simpa using hlt)]
    simpa using hj
  | q :: l, i + 1, p, h => by
    intro j v hj
    have ih := ncells_at l i p (by simpa using h) j v hj
    rw [ncells_cons, show (i + 1) * 2 + j = 2 + (i * 2 + j) by omega, List.getElem?_append_right (by simp [ndCells])]
    simpa [ndCells] using ih
theorem ncells_one : ∀ (l : List Nd), ∀ u ∈ ncells l, u.oneCell' = true
  | [], u, h => by cases h
  | p :: l, u, h => by
    rw [ncells_cons] at h
    rcases List.mem_append.1 h with h | h
    · simp [ndCells] at h
      rcases h with rfl | rfl <;> rfl
    · exact ncells_one l u h
theorem take_nd (l : List Nd) (n : Nat) : ncells (l.take n) = (ncells l).take (n * 2) := by
  induction n generalizing l with
  | zero => simp [ncells]
  | succ n ih =>
    cases l with
    | nil => simp [ncells]
    | cons k l => rw [List.take_succ_cons, ncells_cons, ncells_cons, ih, show (n + 1) * 2 = (ndCells k).length + n * 2 by show _ = 2 + n * 2; omega, List.take_length_add_append]
theorem drop_nd (l : List Nd) (n : Nat) : ncells (l.drop n) = (ncells l).drop (n * 2) := by
  induction n generalizing l with
  | zero => simp
  | succ n ih =>
    cases l with
    | nil => simp [ncells]
    | cons k l => rw [List.drop_succ_cons, ncells_cons, ih, show (n + 1) * 2 = (ndCells k).length + n * 2 by show _ = 2 + n * 2; omega, List.drop_length_add_append]
/-- Needs in a row of one's own. -/
abbrev OwnN (w : World) (B : Nat) (v : Value) (l : List Nd) : Prop := w.ownsRow B 28 2 v l.length (ncells l)
abbrev zeroNdV : Value := .agg #[.int .i64 0, .int .i64 0]
theorem info_nd : (Try.prog.info? 28).map (fun i => (i.zero, i.size, i.bytes)) = some (some zeroNdV, 2, 16) := by kernel_rfl
theorem elem_nd : Program.elem Try.prog 94 = 28 := by kernel_rfl
theorem under_nd : Try.prog.underlying 94 = some (.slice (Program.elem Try.prog 94)) := by
  rw [elem_nd]
  exact Try.underlying94
theorem rowN {w : World} {B : Nat} {v : Value} {l : List Nd} (h : OwnN w B v l) : ∃ a c, v = .slice a l.length c ∧ l.length ≤ c ∧ c ≤ maxLen ∧ (a = none ∨ ∃ g, a = some ⟨g, 0, none⟩) ∧ ∀ j u, (ncells l)[j]? = some u → ∃ g, a = some ⟨g, 0, none⟩ ∧ g < w.heap.size ∧ w.cell? ⟨g, j, none⟩ = some u := by
  rcases h.2 with ⟨hv, h0⟩ | ⟨g, cap, cur, hv, _, hg, hn, hm, _⟩
  · refine ⟨none, 0, by rw [hv, h0], by omega, by unfold maxLen; omega, .inl rfl, fun j u hj => ?_⟩
    have := (List.getElem?_eq_some_iff.1 hj).1
    rw [ncells_length, h0] at this
    omega
  · refine ⟨some ⟨g, 0, none⟩, cap, hv, hn, hm, .inr ⟨g, rfl⟩, fun j u hj => ⟨g, rfl, (Array.getElem?_eq_some_iff.1 hg).1, ?_⟩⟩
    have := h.cells (g := g) (by rw [hv]; rfl) j u hj
    rw [addr_add, Nat.zero_add] at this
    exact this
theorem row_nd {w : World} {B : Nat} {v : Value} {l : List Nd} (h : OwnN w B v l) : ∃ a c, v = .slice a l.length c ∧ l.length ≤ c ∧ ∀ (i : Nat) (p : Nd), l[i]? = some p → ∃ g, a = some ⟨g, 0, none⟩ ∧ g < w.heap.size ∧
    w.cell? ⟨g, i * 2, none⟩ = some (.int .i64 p.a) ∧ w.cell? ⟨g, i * 2 + 1, none⟩ = some (.int .i64 p.b) := by
  obtain ⟨a, c, hv, hc, _, _, hat⟩ := rowN h
  refine ⟨a, c, hv, hc, fun i p hi => ?_⟩
  obtain ⟨g, rfl, hg, c0⟩ := hat _ _ (ncells_at l i p hi 0 _ rfl)
  have hh : ∀ j u, (ndCells p)[j]? = some u → w.cell? ⟨g, i * 2 + j, none⟩ = some u := fun j u hj => by
    obtain ⟨g2, e, _, c1⟩ := hat _ _ (ncells_at l i p hi j u hj)
    cases e
    exact c1
  exact ⟨g, rfl, hg, c0, hh 1 _ rfl⟩
theorem app_nd (w : World) (B : Nat) (v : Value) (xs ys : List Nd) (h : OwnN w B v xs) (xa : Option Addr) (m xc : Nat) (hm : m = ys.length) (hsrc : ∀ j u, (ncells ys)[j]? = some u → ∃ ad, xa = some ad ∧ w.cell? (ad.add j) = some u) (hl : xs.length + ys.length ≤ 1099511627776) (hB : B ≤ w.heap.size) :
    ∃ v' w', (Builtin.append_ #[94, 94] 94 #[v, .slice xa m xc]).run Try.prog w = .ok v' w' ∧ OwnN w' B v' (xs ++ ys) ∧ Below B w w' := by
  obtain ⟨i0, hi, hz0, hz1, hz2⟩ := info_parts info_nd
  subst hm
  obtain ⟨v', w', hr, h2, h3⟩ := app_any (P := Try.prog) (t := 94) (e := 28) (i := i0) w B 94 zeroNdV 2 16 Try.underlying94 hi hz0 hz1 hz2 rfl (by omega) v xs.length (ncells xs) h xa ys.length xc (ncells ys) (ncells_length ys) hsrc (ncells_one ys) (by unfold maxLen; omega) (by omega) hB
  rw [← ncells_append, ← List.length_append] at h2
  exact ⟨v', w', hr, h2, (Below.refl B w).grown h3 hB (fun k hk => (h.lt k hk).1)⟩
theorem src_take_nd {w : World} {B : Nat} {a : Option Addr} {c : Nat} {l : List Nd} (h : OwnN w B (.slice a l.length c) l) (n : Nat) :
    ∀ j u, (ncells (l.take n))[j]? = some u → ∃ ad, a = some ad ∧ w.cell? (ad.add j) = some u := fun j u hj => by
  obtain ⟨a', c', e, _, _, _, hs⟩ := rowN h
  injection e with e1 _ _
  subst e1
  rw [take_nd] at hj
  have hlt := (List.getElem?_eq_some_iff.1 hj).1
  rw [List.length_take] at hlt
  rw [List.getElem?_take_of_lt (by omega)] at hj
  obtain ⟨g, rfl, _, hc⟩ := hs j u hj
  exact ⟨_, rfl, by rw [addr_add, Nat.zero_add]; exact hc⟩
theorem src_drop_nd {w : World} {B : Nat} {a : Option Addr} {c : Nat} {l : List Nd} (h : OwnN w B (.slice a l.length c) l) (n : Nat) :
    ∀ j u, (ncells (l.drop n))[j]? = some u → ∃ ad, atAddr a 2 n c = some ad ∧ w.cell? (ad.add j) = some u := fun j u hj => by
  obtain ⟨a', c', e, hlc, _, _, hs⟩ := rowN h
  injection e with e1 _ e3
  subst e1; subst e3
  have hn : n < l.length := by
    have hlt := (List.getElem?_eq_some_iff.1 hj).1
    rw [ncells_length, List.length_drop] at hlt
    omega
  rw [drop_nd, List.getElem?_drop] at hj
  obtain ⟨g, rfl, _, hc⟩ := hs _ u hj
  refine ⟨⟨g, n * 2, none⟩, ?_, ?_⟩
  · unfold atAddr
    rw [if_neg (by omega)]
    simp [addr_add]
  · rw [addr_add]
    exact hc
theorem nds_own {w : World} {B : Nat} {a : Option Addr} {n c : Nat} {l : List Nd} (h : OwnN w B (.slice a n c) l) : l.length = n ∧ Nds w a l := by
  obtain ⟨a', c', e, _, hat⟩ := row_nd h
  injection e with e1 e2 _
  subst e1
  refine ⟨e2.symm, fun i t hi => ?_⟩
  obtain ⟨g, e, hg, k0, k1⟩ := hat i t hi
  exact ⟨g, 0, e, hg, by simpa using k0, by simpa using k1⟩
/-- One more need at a row's end, as walks want it. -/
theorem app1n (W : World) {B : Nat} {a : Option Addr} {m c : Nat} {o : List Nd} (t : Nd) (h : OwnN W B (.slice a m c) o) (hm : m ≤ 1048576) (hB : B ≤ W.heap.size) :
    ∃ a' c' W', Hid ((Builtin.append_ #[94, 94] 94 #[.slice a m c, .slice (some ⟨W.heap.size, 0, none⟩) 1 1]).run Try.prog (W.alloc (.cells #[.int .i64 t.a, .int .i64 t.b] 28)) = .ok (.slice a' (m + 1) c') W') ∧ OwnN W' B (.slice a' (m + 1) c') (o ++ [t]) ∧ Below B W W' := by
  have hl : o.length = m := (nds_own h).1
  have hA : Below B W (W.alloc (.cells #[.int .i64 t.a, .int .i64 t.b] 28)) := (Below.refl B W).alloc hB _
  obtain ⟨v2, W3, r2, o2, b2⟩ := app_nd (W.alloc (.cells #[.int .i64 t.a, .int .i64 t.b] 28)) B _ o [t] (h.alloc _) (some ⟨W.heap.size, 0, none⟩) 1 1 rfl (fun j u hj => ⟨_, rfl, by
    have hblk := heap_alloc_new W (.cells #[.int .i64 t.a, .int .i64 t.b] 28)
    rw [addr_add, Nat.zero_add]
    refine cell_block (j := j) hblk ?_
    rw [← Array.getElem?_toList]
    exact hj⟩) (by simp; omega) (Nat.le_trans hB hA.size)
  obtain ⟨a2, c2, rfl, _⟩ := rowN o2
  have e : (o ++ [t]).length = m + 1 := by simp [hl]
  rw [e] at r2 o2
  exact ⟨a2, c2, W3, Lib.hid r2, by rw [e] at *; exact o2, ⟨b2.os.trans hA.os, b2.tape.trans hA.tape, b2.output.trans hA.output, Nat.le_trans hA.size b2.size, fun q hq => (b2.block q hq).trans (hA.block q hq)⟩⟩
end Go.Proofs.Ytdbhdlgoecpeaaa.Graph
namespace Go.Proofs.Ytdbhdlgoecpeaaa.Cat
open Go.RowKit Go.Lib
open Goods (St Sts OwnS)
open Recipe (Bl BlIn blV)
open Graph (Nd Nds OwnN)

theorem ndL_take {l : List PB} {i : Nat} {b : PB} (h : l[i]? = some b) : ndL (l.take (i + 1)) = ndL (l.take i) ++ nd1 b.ot b.s := by
  rw [List.take_add_one, h]
  simp [ndL]
theorem nd1_take {o : Int} {s : List St} {k : Nat} {t : St} (h : s[k]? = some t) : nd1 o (s.take (k + 1)) = nd1 o (s.take k) ++ [⟨o, t.kind⟩] := by
  unfold nd1
  rw [List.take_add_one, h, List.map_append]
  rfl
theorem nd1_length (o : Int) (s : List St) : (nd1 o s).length = s.length := by simp [nd1]
set_option maxRecDepth 100000 in
set_option maxHeartbeats 8000000 in
theorem dneeds (C : CM) (w : World) (h : CatAt w C) (hl : Lim C) :
    Calls Try.prog 65 #[C.v] w fun e w' => ∃ a n c, e = .returned (.slice a n c) ∧ Hid ((ndL C.p.bs).length = n ∧ n ≤ 240 ∧ OwnN w' w.heap.size (.slice a n c) (ndL C.p.bs) ∧ Below w.heap.size w w') := by
  obtain ⟨V, X, hV, hX, HXB, HP⟩ := box_cat w C
  obtain ⟨k0, k1, k2, k3, k4, k5, k6, k7⟩ := HP.out X (Below.refl _ _)
  have HB := blue_at (h.under HXB.out)
  have HSM : Hid (∀ b ∈ C.bs, b.sm ≤ 12) := Lib.hid hl.1
  have HL := Lib.hid h.1.1
  have hb1 : C.bn ≤ 20 := hl.2.1
  have hb2 : (C.bn : Int) ≤ 20 := by omega
  have H0 : Hid (OwnN X X.heap.size (.slice none 0 0) []) := Lib.hid (World.ownsRow_nil _ _ _ _)
  clear h hl
  go_enter Try.func65, Try.ntmps65
  go_wp2_with fail
  clear hX hV
  go_loopw [3, 4] (fun v t wr => ∃ (i j : Nat) (a1 : Option Addr) (c1 : Nat), v = .slice a1 j c1 ∧ t = .int .i64 (i : Int) ∧ i ≤ C.bn ∧ Hid (j ≤ 12 * i) ∧ Hid (OwnN wr X.heap.size (.slice a1 j c1) (ndL (C.p.bs.take i)) ∧ Below X.heap.size X wr)) (fun _ t _ => C.bn - (RowKit.intOf t).toNat)
  case atStart => exact ⟨0, 0, none, 0, rfl, rfl, by omega, Lib.hid (by omega), Lib.hid ⟨H0.out, Below.refl _ _⟩⟩
  case round =>
    clear H0
    obtain ⟨i, j, a1, c1, rfl, rfl, hi, HJ, HO⟩ := hrel
    have hi0 : (0 : Int) ≤ (i : Int) := by omega
    obtain ⟨k0, k1, k2, k3, k4, k5, k6, k7⟩ := HP.out wr HO.out.2
    by_cases hlt : i < C.bn
    · have hlt2 : (i : Int) < (C.bn : Int) := by omega
      obtain ⟨g, off, b, hba, ht, q0, q1, q2, q3, q4, q5, q6⟩ := HB.out wr i HO.out.2 hlt
      rw [hba] at k1
      have hp : C.p.bs[i]? = some (pOf b) := by unfold CM.p; simp [ht.out.1]
      have HM := Lib.hid (ndL_take hp)
      have hsm := HSM.out b (List.mem_of_getElem? ht.out.1)
      have hsm1 : (b.sm : Int) ≤ 12 := by omega
      have wi : IntKind.i64.wrap ((i : Int) + 1) = (i : Int) + 1 := IntWalk.i64_in _ (by omega)
      have HBI : Hid (∀ W, Below X.heap.size X W → CellsB W g (off + i * 7) b) := Lib.hid (fun W hW => by
        obtain ⟨g2, off2, b2, hba2, ht2, c⟩ := HB.out W i hW hlt
        rw [hba] at hba2
        injection hba2 with e
        cases e
        have e2 := ht2.out.1
        rw [ht.out.1] at e2
        cases e2
        exact c)
      have HSL := Lib.hid ht.out.2.1
      have HST := Lib.hid (fun W (hW : Below X.heap.size X W) => by
        obtain ⟨g2, off2, b2, hba2, ht2, c⟩ := HB.out W i hW hlt
        have e2 := ht2.out.1
        rw [ht.out.1] at e2
        cases e2
        exact (Goods.sts_at ht2.out.2.2).out)
      obtain ⟨W0, rfl⟩ : ∃ W0, W0 = wr := ⟨_, rfl⟩
      clear hp ht
      go_wp2_with fail
      go_loopw [3, 5] (fun v t wr => ∃ (k m : Nat) (a1 : Option Addr) (c1 : Nat), v = .slice a1 m c1 ∧ t = .int .i64 (k : Int) ∧ k ≤ b.sm ∧ Hid (m ≤ 12 * i + k) ∧ Hid (OwnN wr X.heap.size (.slice a1 m c1) (ndL (C.p.bs.take i) ++ nd1 b.ot (b.s.take k)) ∧ Below X.heap.size X wr)) (fun _ t _ => b.sm - (RowKit.intOf t).toNat)
      case atStart => exact ⟨0, j, a1, c1, rfl, rfl, by omega, Lib.hid (by have := HJ.out; omega), Lib.hid ⟨by simpa [nd1] using HO.out.1, HO.out.2⟩⟩
      case round =>
        clear HO HJ k0 k1 k2 k3 k4 k5 k6 k7 q0 q1 q2 q3 q4 q5 q6
        obtain ⟨k, m, a3, c3, rfl, rfl, hk, HJ, HO⟩ := hrel
        have hk0 : (0 : Int) ≤ (k : Int) := by omega
        obtain ⟨k0, k1, k2, k3, k4, k5, k6, k7⟩ := HP.out wr HO.out.2
        obtain ⟨q0, q1, q2, q3, q4, q5, q6⟩ := HBI.out wr HO.out.2
        rw [hba] at k1
        by_cases hkt : k < b.sm
        · have hkt2 : (k : Int) < (b.sm : Int) := by omega
          have wk : IntKind.i64.wrap ((k : Int) + 1) = (k : Int) + 1 := IntWalk.i64_in _ (by omega)
          obtain ⟨g2, off2, t, hsa, hts, z0, z1⟩ := (HST.out wr HO.out.2) wr k (Below.refl _ _) (by rw [HSL.out]; exact hkt)
          rw [hsa] at q3
          obtain ⟨a2, c2, W2, HR1, o2, b2⟩ := Graph.app1n wr.drew ⟨b.ot, t.kind⟩ (Graph.own_under HO.out.1 (Below.refl _ wr).drew) (by have := HJ.out; omega) HO.out.2.size
          have HO2 : Hid (OwnN W2 X.heap.size (.slice a2 (m + 1) c2) (ndL (C.p.bs.take i) ++ nd1 b.ot (b.s.take (k + 1))) ∧ Below X.heap.size X W2) := Lib.hid ⟨by
            rw [nd1_take hts.out, ← List.append_assoc]
            exact o2, HO.out.2.drew.trans b2⟩
          clear o2 b2
          go_wp2_with fail
          go_region_law (first | (refine step_run (by rfl) _ _ _ _ (by rfl) _ _ (by rfl) (by rfl) HR1.out ?_))
          all_goals
            go_wp2_with fail
            go_roundw
            case rel => exact ⟨k + 1, m + 1, a2, c2, rfl, by go_num, by omega, Lib.hid (by have := HJ.out; omega), HO2⟩
            case measure => simp [RowKit.intOf]; omega
        · obtain rfl : k = b.sm := by omega
          have HO2 : Hid (OwnN wr X.heap.size (.slice a3 m c3) (ndL (C.p.bs.take (i + 1))) ∧ Below X.heap.size X wr) := Lib.hid (by
            have := HO.out
            rw [List.take_of_length_le (l := b.s) (by rw [HSL.out]; exact Nat.le_refl _)] at this
            rw [HM.out]
            exact this)
          go_wp2_with fail
          go_roundw
          case rel => exact ⟨i + 1, m, a3, c3, rfl, by go_num, by omega, Lib.hid (by have := HJ.out; omega), HO2⟩
          case measure => simp [RowKit.intOf]; omega
    · obtain rfl : i = C.bn := by omega
      have HF : Hid (OwnN wr X.heap.size (.slice a1 j c1) (ndL C.p.bs)) := Lib.hid (by
        have := HO.out.1
        rw [List.take_of_length_le (by unfold CM.p; rw [List.length_map, HL.out]; exact Nat.le_refl _)] at this
        exact this)
      go_wp2_with fail
      go_ret
      exact ⟨a1, j, c1, rfl, Lib.hid ⟨(Graph.nds_own HF.out).1, by have := HJ.out; omega, World.ownsRow.mono HF.out HXB.out.size, below_then HXB.out HO.out.2⟩⟩
end Go.Proofs.Ytdbhdlgoecpeaaa.Cat
