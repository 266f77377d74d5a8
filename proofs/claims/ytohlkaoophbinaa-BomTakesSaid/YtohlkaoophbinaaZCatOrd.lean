/- Orders by reckoning; a list of one stack. What the laws ask of the program's bills; the catalogue of what must come, and what is told of it. -/
import Derived.Test.YtohlkaoophbinaaZCatMath
import Derived.Test.YtohlkaoophbinaaZGraphB
import Derived.Test.YtohlkaoophbinaaZCatA
import Derived.Test.YtohlkaoophbinaaZBomH
import Derived.Test.YtohlkaoophbinaaZBomFits
import Derived.Test.YtohlkaoophbinaaZBomA
import Derived.Test.YtohlkaoophbinaaZCatRow
namespace Go.Proofs.Ytohlkaoophbinaa.Cat
open Go.RowKit Go.Lib
open Goods (St Sts OwnS)
open Graph (Nd)

/-! Orders by reckoning. -/
def readyB (l : List Nd) (out : List Int) (k : Int) : Bool := !out.contains k && l.all fun t => t.a != k || out.contains t.b
theorem ready_iff (l : List Nd) (out : List Int) (k : Int) : Graph.Ready l out k ↔ readyB l out k = true := by
  unfold Graph.Ready readyB
  simp only [Bool.and_eq_true, Bool.not_eq_true', List.all_eq_true, Bool.or_eq_true, bne_iff_ne, ne_eq, List.contains_iff_mem]
  constructor
  · rintro ⟨h1, h2⟩
    refine ⟨by simpa using h1, fun t ht => ?_⟩
    by_cases e : t.a = k
    · exact .inr (by simpa using h2 t ht e)
    · exact .inl e
  · rintro ⟨h1, h2⟩
    refine ⟨by simpa using h1, fun t ht e => ?_⟩
    rcases h2 t ht with h | h
    · exact absurd e h
    · simpa using h
def nxB (n : Int) (l : List Nd) (out : List Int) : Nat → Int
  | 0 => 0
  | m + 1 => if readyB l out (n - m) then n - m else nxB n l out m
theorem nx_eq (n : Int) (l : List Nd) (out : List Int) : ∀ m, Graph.nx n l out m = nxB n l out m
  | 0 => rfl
  | m + 1 => by
    by_cases h : Graph.Ready l out (n - m)
    · rw [Graph.nx_yes h]
      unfold nxB
      rw [if_pos ((ready_iff _ _ _).1 h)]
    · rw [Graph.nx_no h, nx_eq n l out m]
      conv => rhs; unfold nxB
      rw [if_neg fun e => h ((ready_iff _ _ _).2 e)]
def ordB (n : Int) (l : List Nd) : Nat → List Int → Option (List Int)
  | 0, out => some out
  | m + 1, out => if nxB n l out n.toNat = 0 then none else ordB n l m (out ++ [nxB n l out n.toNat])
theorem ord_eq (n : Int) (l : List Nd) : ∀ m out, Graph.ordF n l m out = ordB n l m out
  | 0, _ => rfl
  | m + 1, out => by
    unfold Graph.ordF ordB
    rw [nx_eq, ord_eq n l m]
/-- What a catalogue's check tells of its needs. -/
def gC (n : Int) (l : List Nd) : Int :=
  match ordB n l n.toNat [] with
  | none => 9
  | some k => if (Graph.deepD l k (List.replicate n.toNat 0)).all fun d => decide (d ≤ 8) then 0 else 5
theorem chk_gC {C : Cat} (h : CatOk C) (hm : Graph.May C.ty (ndL C.bs)) : chkC C = gC C.ty (ndL C.bs) := by
  unfold gC
  cases ho : ordB C.ty (ndL C.bs) C.ty.toNat [] with
  | none =>
    obtain ⟨e, _⟩ := Graph.ord_none hm ((ord_eq _ _ _ _).trans ho)
    rw [chk_err h (by omega), e]
  | some k =>
    obtain ⟨e, ek⟩ := Graph.ord_some hm ((ord_eq _ _ _ _).trans ho)
    have ed : Graph.degV C.ty (ndL C.bs) = Graph.deepD (ndL C.bs) k (List.replicate C.ty.toNat 0) := by unfold Graph.degV; rw [if_pos e, ek]
    dsimp only
    by_cases hd : ∀ d ∈ Graph.degV C.ty (ndL C.bs), d ≤ 8
    · rw [chk_fine h e hd, if_pos]
      rw [List.all_eq_true]
      intro d hm
      rw [ed] at hd
      exact decide_eq_true (hd d hm)
    · rw [chk_over h e hd, if_neg]
      intro ha
      rw [List.all_eq_true] at ha
      rw [ed] at hd
      exact hd fun d hm => of_decide_eq_true (ha d hm)
/-- One need of a blueprint. -/
theorem one_listed {k ty o : Int} (h1 : 1 ≤ k) (h2 : k ≤ ty) (h3 : k ≠ o) : Goods.Listed [⟨k, 1⟩] ty ∧ ¬ 0 < Goods.cnt (Goods.valN [⟨k, 1⟩]) o := by
  have hf : Goods.Fine [⟨k, 1⟩] := fun s hs => by simp at hs; subst hs; exact ⟨h1, by show (0 : Int) ≤ 1; omega⟩
  have hov : ¬ Goods.Over [⟨k, 1⟩] := by
    rintro ⟨j, hj⟩
    have h1 : Goods.cnt [⟨k, 1⟩] j ≤ 1 := by
      simp only [Goods.cnt]
      split <;> omega
    unfold Goods.mq at hj
    omega
  have he := Goods.errN_ok hf hov
  have hn : Goods.nl [⟨k, 1⟩] = [⟨k, 1⟩] := Goods.nl_norm ⟨List.pairwise_singleton _ _, fun s hs => by simp at hs; subst hs; exact h1, fun s hs => by simp at hs; subst hs; show (1 : Int) ≤ 1; omega⟩
  refine ⟨⟨by simp, he, hn, fun s hs => by simp at hs; subst hs; exact h2⟩, ?_⟩
  rw [Goods.valN_ok he, hn, Goods.cnt_none fun s hs => by simp at hs; subst hs; exact h3]
  omega
theorem ret_cat {fn : Func} {R : Ending → World → Prop} {a : Act} {w : World} {p : Tmp} {g : Nat} {c0 c1 c2 c3 c4 c5 c6 c7 : Value} {T : TypeId} (h : fn.results = #[.cell p 27]) (hd : a.defers = [])
    (ht : a.tmps.getD p undef = .pointer (some ⟨g, 0, none⟩)) (hb : w.heap[g]? = some (.cells #[c0, c1, c2, c3, c4, c5, c6, c7] T (0, 0))) (hR : R (.returned (.agg #[c0, c1, c2, c3, c4, c5, c6, c7])) w) : bodyPost Try.prog fn R .ret a w :=
  bodyPost_ret (v := .agg #[c0, c1, c2, c3, c4, c5, c6, c7]) (results_cell_row h _ w g T #[c0, c1, c2, c3, c4, c5, c6, c7] (0, 0) _ ht hb Try.underlying27 rfl (by kernel_rfl)) hd hR
end Go.Proofs.Ytohlkaoophbinaa.Cat
namespace Go.Proofs.Ytohlkaoophbinaa.Bom
open Go.RowKit Go.Lib IRows
open Goods (St Sts OwnS cnt)
open Cat (Cat PB CM CatAt Lim I64 pOf)
open Recipe (needsE needsL needL up nd BlIn)

def InS (l : List St) : Prop := ∀ t ∈ l, I64 t.kind ∧ I64 t.qty
def InL (l : List Int) : Prop := ∀ x ∈ l, I64 x
open Classical in
/-- The program's functions answer in the document's words. -/
structure Impl : Prop where
  expand : ∀ (C : CM) (k n lv : Int) (a : Option Addr) (m c : Nat) (hv : List St) (w : World), Cat.Fit w C → hv.length = m → Sts w a hv → m ≤ 1000 → InS hv → I64 k → I64 n → I64 lv →
    Calls Try.prog 9 #[C.v, .int .i64 k, .int .i64 n, .int .i64 lv, .slice a m c] w fun e w' => ∃ b : BM, e = .returned (.tuple #[b.v, .int .i64 (expE C.p k n lv hv)]) ∧ Hid (BomAt w' b ∧ Says b (bill C.p k n lv hv) ∧ Below w.heap.size w w')
  path : ∀ (C : CM) (k : Int) (a : Option Addr) (m c : Nat) (rs : List Int) (lv : Int) (w : World), Cat.Fit w C → rs.length = m → IRow w a rs → m ≤ 1000 → InL rs → I64 k → I64 lv →
    Calls Try.prog 12 #[C.v, .int .i64 k, .slice a m c, .int .i64 lv] w fun e w' => e = .returned (.tuple #[.int .i64 (pathA C.p k rs lv), .int .i64 (pathE C.p k rs lv)]) ∧ Below w.heap.size w w'
  whole : ∀ (C : CM) (a : Option Addr) (m c : Nat) (rs : List Int) (lv : Int) (w : World), Cat.Fit w C → rs.length = m → IRow w a rs → m ≤ 1000 → InL rs → I64 lv →
    Calls Try.prog 14 #[C.v, .slice a m c, .int .i64 lv] w fun e w' => e = .returned (.tuple #[.int .i64 (wholeV C.p rs lv), .int .i64 (wholeE C.p rs lv)]) ∧ Below w.heap.size w w'
  fits : ∀ (C : CM) (k n lv : Int) (a : Option Addr) (m c : Nat) (raw : List St) (ra : Option Addr) (rm rc : Nat) (rs : List Int) (w : World), Cat.Fit w C → raw.length = m → Sts w a raw → m ≤ 1000 → InS raw → rs.length = rm → IRow w ra rs → rm ≤ 1000 → InL rs → I64 k → I64 n → I64 lv →
    Calls Try.prog 16 #[C.v, .int .i64 k, .int .i64 n, .int .i64 lv, .slice a m c, .slice ra rm rc] w fun e w' => e = .returned (.bool (decide (FitsP C.p k n lv raw rs))) ∧ Below w.heap.size w w'
/-- The document's, in the same words. -/
theorem dexpand (C : CM) (k n lv : Int) (a : Option Addr) (m c : Nat) (hv : List St) (w : World) (h : CatAt w C) (hl : Lim C) (hm : hv.length = m) (hs : Sts w a hv) (h4 : m ≤ 1000) :
    Calls Try.prog 10 #[C.v, .int .i64 k, .int .i64 n, .int .i64 lv, .slice a m c] w fun e w' => ∃ b : BM, e = .returned (.tuple #[b.v, .int .i64 (expE C.p k n lv hv)]) ∧ Hid (BomAt w' b ∧ Says b (bill C.p k n lv hv) ∧ Below w.heap.size w w') := by
  by_cases ho : mayE C.p k lv hv = 0 ∧ 1 ≤ n ∧ n ≤ Recipe.mq
  · exact dexp_go C k n lv a m c hv w h hl hm hs (by omega) ho.1 ho.2
  · refine (dexp_not C k n lv a m c hv w h hl hm hs (by omega) ho).mono ?_
    rintro e w' ⟨rfl, hb⟩
    have hz : expE C.p k n lv hv ≠ 0 := fun h0 => by
      by_cases h1 : mayE C.p k lv hv = 0
      · by_cases h2 : 1 ≤ n ∧ n ≤ Recipe.mq
        · exact ho ⟨h1, h2⟩
        · rw [exp_num h1 h2] at h0
          omega
      · rw [exp_may h1] at h0
        exact h1 h0
    refine ⟨⟨none, 0, 0, [], none, 0, 0, [], none, 0, 0, []⟩, rfl, Lib.hid ⟨⟨⟨rfl, sts_nil _, Nat.zero_le _⟩, ⟨rfl, fun i x hi => by simp at hi, Nat.zero_le _⟩, rfl, sts_nil _, Nat.zero_le _⟩, ?_, hb⟩⟩
    rw [bill_not hz]
    exact ⟨rfl, rfl, rfl⟩
/-! the catalogue of what must come -/
theorem norm_one1 {k q : Int} (h1 : 1 ≤ k) (hq : 1 ≤ q ∧ q ≤ 1125899906842624) : Goods.Norm [⟨k, q⟩] ∧ Goods.errN [⟨k, q⟩] = 0 ∧ Goods.valN [⟨k, q⟩] = [⟨k, q⟩] := by
  have hN : Goods.Norm [⟨k, q⟩] := ⟨List.pairwise_singleton _ _, fun s hs => by simp at hs; subst hs; exact h1, fun s hs => by simp at hs; subst hs; exact hq.1⟩
  have hov : ¬ Goods.Over [⟨k, q⟩] := by
    rintro ⟨j, hj⟩
    have h1 : cnt [⟨k, q⟩] j ≤ q := by
      simp only [Goods.cnt]
      split <;> omega
    unfold Goods.mq at hj
    omega
  have he := Goods.errN_ok (Goods.fine_norm hN) hov
  exact ⟨hN, he, by rw [Goods.valN_ok he, Goods.nl_norm hN]⟩
theorem listed_one {k q ty : Int} (h1 : 1 ≤ k) (h2 : k ≤ ty) (hq : 1 ≤ q ∧ q ≤ 1125899906842624) : Goods.Listed [⟨k, q⟩] ty := by
  obtain ⟨hN, he, _⟩ := norm_one1 h1 hq
  exact ⟨by simp, he, Goods.nl_norm hN, fun s hs => by simp at hs; subst hs; exact h2⟩
theorem listed_nil (ty : Int) : Goods.Listed [] ty := by
  have hN : Goods.Norm [] := ⟨.nil, fun s hs => (by cases hs), fun s hs => (by cases hs)⟩
  have hov : ¬ Goods.Over [] := fun ⟨j, hj⟩ => by
    rw [Goods.cnt_nil] at hj
    unfold Goods.mq at hj
    omega
  exact ⟨by simp, Goods.errN_ok (Goods.fine_norm hN) hov, Goods.nl_norm hN, fun s hs => (by cases hs)⟩
theorem blok_one {ot per tm k q mo ty : Int} {sa : Option Addr} {sm sc : Nat} (hty : 0 ≤ ty ∧ ty ≤ 32) (h1 : 1 ≤ ot ∧ ot ≤ ty) (h2 : 1 ≤ per ∧ per ≤ 1048576) (h3 : 1 ≤ tm ∧ tm ≤ 1048576) (h4 : 1 ≤ mo ∧ mo ≤ 1000) (h5 : 1 ≤ k ∧ k ≤ ty) (h6 : 1 ≤ q ∧ q ≤ 1125899906842624) (h7 : k ≠ ot) : Recipe.BlOk ⟨ot, per, tm, sa, sm, sc, [⟨k, q⟩], 0, 0, mo⟩ ty := by
  refine ⟨hty, h1, h2, h3, (by show (0 : Int) ≤ 0 ∧ (0 : Int) ≤ 1048576; omega), (by show (0 : Int) ≤ 0 ∧ (0 : Int) ≤ 1048576; omega), h4, listed_one h5.1 h5.2 h6, ?_⟩
  rw [(norm_one1 h5.1 h6).2.2, Goods.cnt_none fun s hs => by simp at hs; subst hs; exact h7]
  omega
abbrev paA (g : Nat) : Recipe.Bl := ⟨2, 5, 10, some ⟨g, 0, none⟩, 1, 1, [⟨1, 3⟩], 0, 0, 5⟩
abbrev paB (g : Nat) : Recipe.Bl := ⟨3, 1, 7, some ⟨g, 0, none⟩, 1, 1, [⟨2, 2⟩], 0, 0, 5⟩
abbrev paC (g1 g2 g3 : Nat) : CM := ⟨3, some ⟨g3, 0, none⟩, 2, 2, [paA g1, paB g2], 1, none, 0, 0, [], 1, ⟨0, 0, 0⟩⟩
/-- It, without where it lies. -/
def paP : Cat := ⟨3, [⟨2, 5, 10, [⟨1, 3⟩], 0, 0, 5⟩, ⟨3, 1, 7, [⟨2, 2⟩], 0, 0, 5⟩], 1, [], 1, ⟨0, 0, 0⟩⟩
theorem pa_p (g1 g2 g3 : Nat) : (paC g1 g2 g3).p = paP := rfl
theorem pa_a : Recipe.BlOk (⟨2, 5, 10, [⟨1, 3⟩], 0, 0, 5⟩ : PB).b 3 := blok_one (by omega) (by decide) (by decide) (by decide) (by decide) (by decide) (by decide) (by decide)
theorem pa_b : Recipe.BlOk (⟨3, 1, 7, [⟨2, 2⟩], 0, 0, 5⟩ : PB).b 3 := blok_one (by omega) (by decide) (by decide) (by decide) (by decide) (by decide) (by decide) (by decide)
theorem pa_ok : Cat.CatOk paP := by
  refine ⟨⟨⟨?_, ?_⟩, ⟨?_, ?_⟩, ⟨?_, ?_⟩, ?_, ?_, ?_⟩, fun b hb => ?_, fun y hy => by cases hy⟩
  any_goals simp [paP]
  · simp [Fee.FeeOk]
  · simp [paP] at hb
    rcases hb with rfl | rfl
    · exact pa_a
    · exact pa_b
theorem pa_nd : Cat.ndL paP.bs = [⟨2, 1⟩, ⟨3, 2⟩] := rfl
theorem pa_may : Graph.May paP.ty (Cat.ndL paP.bs) := by
  rw [pa_nd]
  refine ⟨⟨?_, ?_⟩, by simp, fun t ht => ?_⟩
  · simp [paP]
  · simp [paP]
  · simp at ht
    rcases ht with rfl | rfl <;> simp [Graph.OkNd, paP]
theorem pa_chk : Cat.chkC paP = 0 := by
  rw [Cat.chk_gC pa_ok pa_may, pa_nd]
  show Cat.gC 3 [⟨2, 1⟩, ⟨3, 2⟩] = 0
  decide +kernel
theorem pa_top : topV paP = [3, 2, 1] := by
  unfold topV
  have h := (Graph.ord_some pa_may (k := [1, 2, 3]) (by
    rw [Cat.ord_eq, pa_nd]
    show Cat.ordB 3 [⟨2, 1⟩, ⟨3, 2⟩] 3 [] = some [1, 2, 3]
    decide +kernel)).2
  rw [h]
  rfl
theorem pa_mayE {l : List St} (h : Goods.Listed l 3) : mayE paP 3 0 l = 0 := mayE_ok pa_chk ⟨by omega, by show (3 : Int) ≤ 3; omega⟩ ⟨by omega, by omega⟩ h
theorem pa_need {b : PB} {r : Int} (hb : Recipe.BlOk b.b 3) (hr : 1 ≤ r ∧ r ≤ 1000) (hq : ∀ t ∈ b.s, nd t.qty 0 r ≤ Recipe.mq) : needsE b.b 0 r = 0 := (Recipe.needsE_ok (blok_32 hb) ⟨⟨by omega, by omega⟩, hr⟩ hq).1
theorem pa_run : ∃ w, runE paP 3 1 0 [] = some ⟨w, [1, 1], [⟨1, 3⟩], [⟨2, 3⟩]⟩ := by
  have n1 : needsE (⟨2, 5, 10, [⟨1, 3⟩], 0, 0, 5⟩ : PB).b 0 1 = 0 := pa_need pa_a (by omega) fun t ht => by
    simp at ht
    subst ht
    decide
  have n2 : needsE (⟨3, 1, 7, [⟨2, 2⟩], 0, 0, 5⟩ : PB).b 0 1 = 0 := pa_need pa_b (by omega) fun t ht => by
    simp at ht
    subst ht
    decide
  obtain ⟨f0, hf0⟩ : ∃ f, upd (fun _ => 0) 3 1 = f := ⟨_, rfl⟩
  obtain ⟨f1, hf1⟩ : ∃ f, upd f0 2 2 = f := ⟨_, rfl⟩
  obtain ⟨f2, hf2⟩ : ∃ f, upd f1 1 3 = f := ⟨_, rfl⟩
  have v03 : f0 3 = 1 := by rw [← hf0]; rfl
  have v02 : f0 2 = 0 := by rw [← hf0]; rfl
  have v12 : f1 2 = 2 := by rw [← hf1]; rfl
  have v11 : f1 1 = 0 := by rw [← hf1, ← hf0]; rfl
  have v21 : f2 1 = 3 := by rw [← hf2]; rfl
  have c0 : ∀ t, cnt [] t = 0 := fun t => rfl
  have s1 : stp paP.bs 0 [] 3 ⟨f0, [0, 0], [], []⟩ = some ⟨f1, [0, 1], [], []⟩ := by
    have hm : mo [] 3 ⟨f0, [0, 0], [], []⟩ = 1 := by unfold mo; rw [c0]; show f0 3 - min (f0 3) 0 = 1; rw [v03]; rfl
    rw [stp_made (i := 1) (b := ⟨3, 1, 7, [⟨2, 2⟩], 0, 0, 5⟩) (by rw [hm]; omega) rfl, hm]
    have ha : addW f0 (needL [⟨2, 2⟩] 0 1) = some f1 := by
      show (if Recipe.mq - f0 2 < 2 then none else addW (upd f0 2 (f0 2 + 2)) []) = _
      rw [v02, if_neg (by decide)]
      show some (upd f0 2 (0 + 2)) = _
      rw [← hf1]
      rfl
    rw [made_fine (w' := f1) (by decide) n2 ha]
    rfl
  have s2 : stp paP.bs 0 [] 2 ⟨f1, [0, 1], [], []⟩ = some ⟨f2, [1, 1], [], [⟨2, 3⟩]⟩ := by
    have hm : mo [] 2 ⟨f1, [0, 1], [], []⟩ = 2 := by unfold mo; rw [c0]; show f1 2 - min (f1 2) 0 = 2; rw [v12]; rfl
    rw [stp_made (i := 0) (b := ⟨2, 5, 10, [⟨1, 3⟩], 0, 0, 5⟩) (by rw [hm]; omega) rfl, hm]
    have ha : addW f1 (needL [⟨1, 3⟩] 0 1) = some f2 := by
      show (if Recipe.mq - f1 1 < 3 then none else addW (upd f1 1 (f1 1 + 3)) []) = _
      rw [v11, if_neg (by decide)]
      show some (upd f1 1 (0 + 3)) = _
      rw [← hf2]
      rfl
    rw [made_fine (w' := f2) (by decide) n1 ha]
    rfl
  have s3 : stp paP.bs 0 [] 1 ⟨f2, [1, 1], [], [⟨2, 3⟩]⟩ = some ⟨f2, [1, 1], [⟨1, 3⟩], [⟨2, 3⟩]⟩ := by
    have hm : mo [] 1 ⟨f2, [1, 1], [], [⟨2, 3⟩]⟩ = 3 := by unfold mo; rw [c0]; show f2 1 - min (f2 1) 0 = 3; rw [v21]; rfl
    rw [stp_raw (by rw [hm]; omega) rfl, hm]
    rfl
  refine ⟨f2, ?_⟩
  unfold runE
  rw [pa_top]
  show rn paP.bs 0 [] [3, 2, 1] ⟨upd (fun _ => 0) 3 1, [0, 0], [], []⟩ = _
  rw [hf0]
  unfold rn
  rw [s1]
  show rn paP.bs 0 [] [2, 1] ⟨f1, [0, 1], [], []⟩ = _
  unfold rn
  rw [s2]
  show rn paP.bs 0 [] [1] ⟨f2, [1, 1], [], [⟨2, 3⟩]⟩ = _
  unfold rn
  rw [s3]
  rfl
theorem pa_exp : expE paP 3 1 0 [] = 0 ∧ (bill paP 3 1 0 []).raw = [⟨1, 3⟩] ∧ (bill paP 3 1 0 []).rs = [1, 1] ∧ (bill paP 3 1 0 []).left = [⟨2, 3⟩] := by
  obtain ⟨w, h⟩ := pa_run
  have hn : (1 : Int) ≤ 1 ∧ (1 : Int) ≤ Recipe.mq := by decide
  have hm := pa_mayE (listed_nil 3)
  rw [bill_some hm hn h]
  exact ⟨exp_some hm hn h, (norm_one1 (by omega) (by omega)).2.2, rfl, (norm_one1 (by omega) (by omega)).2.2⟩
theorem pa_runs {a b : Int} (ha : 0 ≤ a ∧ a ≤ 1000) (hb : 0 ≤ b ∧ b ≤ 1000) : RunsOk paP [a, b] := ⟨rfl, fun r hr => by
  simp at hr
  rcases hr with rfl | rfl
  · exact ha
  · exact hb⟩
theorem pa_tim {b : PB} {r : Int} (hb : Recipe.BlOk b.b 3) (hr : 1 ≤ r ∧ r ≤ 1000) : tim 0 b r = Recipe.tmv b.tm 0 r := by
  unfold tim
  rw [if_neg (by omega), (Recipe.time_ok (blok_32 hb) ⟨⟨by omega, by omega⟩, hr⟩).2]
  rfl
theorem pa_path : pathA paP 3 [1, 1] 0 = 17 ∧ pathE paP 3 [1, 1] 0 = 0 := by
  have hm := pa_mayE (listed_nil 3)
  have hk : RunsOk paP [1, 1] := pa_runs (by omega) (by omega)
  refine ⟨?_, by unfold pathE; rw [if_pos hm, if_pos hk]⟩
  unfold pathA
  rw [if_pos ⟨hm, hk⟩]
  show pth paP [1, 1] 0 4 3 = 17
  have e1 : ∀ f, pth paP [1, 1] 0 (f + 1) 1 = 0 := fun f => rfl
  have e2 : ∀ f, pth paP [1, 1] 0 (f + 2) 2 = 10 := fun f => by
    show (if (1 : Int) = 0 then 0 else tim 0 ⟨2, 5, 10, [⟨1, 3⟩], 0, 0, 5⟩ 1 + maxL [pth paP [1, 1] 0 (f + 1) 1]) = 10
    rw [if_neg (by omega), pa_tim pa_a (by omega), e1]
    decide
  show (if (1 : Int) = 0 then 0 else tim 0 ⟨3, 1, 7, [⟨2, 2⟩], 0, 0, 5⟩ 1 + maxL [pth paP [1, 1] 0 3 2]) = 17
  rw [if_neg (by omega), pa_tim pa_b (by omega), e2 1]
  decide
theorem pa_whole : wholeV paP [2, 0] 0 = 20 ∧ wholeE paP [2, 0] 0 = 0 := by
  have hm : mayE paP 1 0 [] = 0 := mayE_ok pa_chk ⟨by omega, by show (1 : Int) ≤ 3; omega⟩ ⟨by omega, by omega⟩ (listed_nil 3)
  have hk : RunsOk paP [2, 0] := pa_runs (by omega) (by omega)
  refine ⟨?_, by unfold wholeE; rw [if_pos hm, if_pos hk]⟩
  unfold wholeV
  rw [if_pos ⟨hm, hk⟩]
  show tim 0 ⟨2, 5, 10, [⟨1, 3⟩], 0, 0, 5⟩ 2 + (tim 0 ⟨3, 1, 7, [⟨2, 2⟩], 0, 0, 5⟩ 0 + 0) = 20
  rw [pa_tim pa_a (by omega)]
  unfold tim
  rw [if_pos rfl]
  decide
theorem pa_fits : FitsP paP 3 1 0 [⟨1, 3⟩] [1, 1] := by
  obtain ⟨w, h⟩ := pa_run
  have hT := (chk_top pa_chk).1
  have hJ := J.run (kind := 3) (n := 1) (lv := 0) (hv := []) hT (fun x hx => by cases hx) (fun b hb => (pa_ok.2.1 b hb).2.2.1.1) (topV paP) [] _ _ rfl (J.start (by decide)) h
  exact hJ.fits hT (fun x => by show cnt [⟨1, 3⟩] x = cnt [⟨1, 3⟩] x + 0; omega) (pa_mayE (listed_one (by omega) (by omega) (by omega))) (by decide)
theorem pa_more : ¬ FitsP paP 3 2 0 [⟨1, 3⟩] [1, 1] := fun h => by
  have h1 := h.2.2.2.2 3 (by omega) (by show (3 : Int) ≤ 3; omega)
  rw [if_pos rfl] at h1
  have h2 : 0 ≤ nS 0 3 paP.bs [1, 1] := by
    show 0 ≤ (if (0 : Int) < 1 then cnt (needL [⟨1, 3⟩] 0 1) 3 else 0) + ((if (0 : Int) < 1 then cnt (needL [⟨2, 2⟩] 0 1) 3 else 0) + 0)
    decide
  have h3 : mS 3 paP.bs [1, 1] = 1 := by decide
  have h4 : cnt [⟨1, 3⟩] 3 = 0 := by decide
  omega
end Go.Proofs.Ytohlkaoophbinaa.Bom
