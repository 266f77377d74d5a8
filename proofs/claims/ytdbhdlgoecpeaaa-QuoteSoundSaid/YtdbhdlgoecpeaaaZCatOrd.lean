/- Orders by reckoning; a list of one stack. What the laws ask of the program's plans; a plan fits; the catalogue of what must come, and what is told of it. Plain mathematics for the calc layer: what the sum, the difference, the product of two numbers is, and when it is too great; no walk in this text. Package calc's Add, as later layers call it. -/
import Derived.Test.YtdbhdlgoecpeaaaZGraphD
import Derived.Test.YtdbhdlgoecpeaaaZRecA
import Derived.Test.YtdbhdlgoecpeaaaZQuoD
import Derived.Test.YtdbhdlgoecpeaaaZQuoF
import Derived.Test.YtdbhdlgoecpeaaaZCatRow
import Derived.WalkKit
import Derived.Lib.Hide
import Derived.Test.YtdbhdlgoecpeaaaRows
import Derived.WalkSpells
import Derived.WalkLawsBesides
import Derived.RegionTactic
import Derived.Deep.QuietTactic
import Derived.BigQuiet
namespace Go.Proofs.Ytdbhdlgoecpeaaa.Cat
open Go.RowKit Go.Lib
open Goods (St Sts OwnS)
open Graph (Nd)

/-! Orders by reckoning. -/
def readyB (l : List Nd) (out : List Int) (k : Int) : Bool := !out.contains k && l.all fun t => t.a != k || out.contains t.b
theorem ready_iff (l : List Nd) (out : List Int) (k : Int) : Graph.Ready l out k ↔ readyB l out k = true := by
  unfold Graph.Ready readyB
  simp only [Bool.and_eq_true, Bool.not_eq_true', List.all_eq_true, Bool.or_eq_true, bne_iff_ne, ne_eq, List.contains_iff_mem]
  constructor
  · rintro ⟨h1, h2⟩
    refine ⟨by simpa using h1, fun t ht => ?_⟩
    by_cases e : t.a = k
    · exact .inr (by simpa using h2 t ht e)
    · exact .inl e
  · rintro ⟨h1, h2⟩
    refine ⟨by simpa using h1, fun t ht e => ?_⟩
    rcases h2 t ht with h | h
    · exact absurd e h
    · simpa using h
def nxB (n : Int) (l : List Nd) (out : List Int) : Nat → Int
  | 0 => 0
  | m + 1 => if readyB l out (n - m) then n - m else nxB n l out m
theorem nx_eq (n : Int) (l : List Nd) (out : List Int) : ∀ m, Graph.nx n l out m = nxB n l out m
  | 0 => rfl
  | m + 1 => by
    by_cases h : Graph.Ready l out (n - m)
    · rw [Graph.nx_yes h]
      unfold nxB
      rw [if_pos ((ready_iff _ _ _).1 h)]
    · rw [Graph.nx_no h, nx_eq n l out m]
      conv => rhs; unfold nxB
      rw [if_neg fun e => h ((ready_iff _ _ _).2 e)]
def ordB (n : Int) (l : List Nd) : Nat → List Int → Option (List Int)
  | 0, out => some out
  | m + 1, out => if nxB n l out n.toNat = 0 then none else ordB n l m (out ++ [nxB n l out n.toNat])
theorem ord_eq (n : Int) (l : List Nd) : ∀ m out, Graph.ordF n l m out = ordB n l m out
  | 0, _ => rfl
  | m + 1, out => by
    unfold Graph.ordF ordB
    rw [nx_eq, ord_eq n l m]
/-- What a catalogue's check tells of its needs. -/
def gC (n : Int) (l : List Nd) : Int :=
  match ordB n l n.toNat [] with
  | none => 9
  | some k => if (Graph.deepD l k (List.replicate n.toNat 0)).all fun d => decide (d ≤ 8) then 0 else 5
theorem chk_gC {C : Cat} (h : CatOk C) (hm : Graph.May C.ty (ndL C.bs)) : chkC C = gC C.ty (ndL C.bs) := by
  unfold gC
  cases ho : ordB C.ty (ndL C.bs) C.ty.toNat [] with
  | none =>
    obtain ⟨e, _⟩ := Graph.ord_none hm ((ord_eq _ _ _ _).trans ho)
    rw [chk_err h (by omega), e]
  | some k =>
    obtain ⟨e, ek⟩ := Graph.ord_some hm ((ord_eq _ _ _ _).trans ho)
    have ed : Graph.degV C.ty (ndL C.bs) = Graph.deepD (ndL C.bs) k (List.replicate C.ty.toNat 0) := by unfold Graph.degV; rw [if_pos e, ek]
    dsimp only
    by_cases hd : ∀ d ∈ Graph.degV C.ty (ndL C.bs), d ≤ 8
    · rw [chk_fine h e hd, if_pos]
      rw [List.all_eq_true]
      intro d hm
      rw [ed] at hd
      exact decide_eq_true (hd d hm)
    · rw [chk_over h e hd, if_neg]
      intro ha
      rw [List.all_eq_true] at ha
      rw [ed] at hd
      exact hd fun d hm => of_decide_eq_true (ha d hm)
/-- One need of a blueprint. -/
theorem one_listed {k ty o : Int} (h1 : 1 ≤ k) (h2 : k ≤ ty) (h3 : k ≠ o) : Goods.Listed [⟨k, 1⟩] ty ∧ ¬ 0 < Goods.cnt (Goods.valN [⟨k, 1⟩]) o := by
  have hf : Goods.Fine [⟨k, 1⟩] := fun s hs => by simp at hs; subst hs; exact ⟨h1, by show (0 : Int) ≤ 1; omega⟩
  have hov : ¬ Goods.Over [⟨k, 1⟩] := by
    rintro ⟨j, hj⟩
    have h1 : Goods.cnt [⟨k, 1⟩] j ≤ 1 := by
      simp only [Goods.cnt]
      split <;> omega
    unfold Goods.mq at hj
    omega
  have he := Goods.errN_ok hf hov
  have hn : Goods.nl [⟨k, 1⟩] = [⟨k, 1⟩] := Goods.nl_norm ⟨List.pairwise_singleton _ _, fun s hs => by simp at hs; subst hs; exact h1, fun s hs => by simp at hs; subst hs; show (1 : Int) ≤ 1; omega⟩
  refine ⟨⟨by simp, he, hn, fun s hs => by simp at hs; subst hs; exact h2⟩, ?_⟩
  rw [Goods.valN_ok he, hn, Goods.cnt_none fun s hs => by simp at hs; subst hs; exact h3]
  omega
theorem ret_cat {fn : Func} {R : Ending → World → Prop} {a : Act} {w : World} {p : Tmp} {g : Nat} {c0 c1 c2 c3 c4 c5 c6 c7 : Value} {T : TypeId} (h : fn.results = #[.cell p 27]) (hd : a.defers = [])
    (ht : a.tmps.getD p undef = .pointer (some ⟨g, 0, none⟩)) (hb : w.heap[g]? = some (.cells #[c0, c1, c2, c3, c4, c5, c6, c7] T (0, 0))) (hR : R (.returned (.agg #[c0, c1, c2, c3, c4, c5, c6, c7])) w) : bodyPost Try.prog fn R .ret a w :=
  bodyPost_ret (v := .agg #[c0, c1, c2, c3, c4, c5, c6, c7]) (results_cell_row h _ w g T #[c0, c1, c2, c3, c4, c5, c6, c7] (0, 0) _ ht hb Try.underlying27 rfl (by kernel_rfl)) hd hR
end Go.Proofs.Ytdbhdlgoecpeaaa.Cat
namespace Go.Proofs.Ytdbhdlgoecpeaaa.Quo
open Go.RowKit Go.Lib IRows
open Goods (St Sts OwnS)
open Cat (Cat PB Ba CM CatAt Lim I64 pOf)
open Bom (RunsOk tim tim_le tim_nonneg)

open Classical in
/-- The program's functions answer in the document's words. -/
structure Impl : Prop where
  fee : ∀ (C : CM) (bay : Int) (a : Option Addr) (n c : Nat) (rs : List Int) (lv : Int) (w : World), CatAt w C → Lim C → rs.length = n → IRow w a rs → n ≤ 1000 →
    Calls Try.prog 10 #[C.v, .int .i64 bay, .slice a n c, .int .i64 lv] w fun e w' => e = .returned (.tuple #[.int .i64 (feeQ C.p bay rs lv), .int .i64 (mayQ C.p bay rs lv)]) ∧ Below w.heap.size w w'
  cheap : ∀ (C : CM) (a : Option Addr) (n c : Nat) (rs : List Int) (lv : Int) (w : World), CatAt w C → Lim C → rs.length = n → IRow w a rs → n ≤ 1000 →
    Calls Try.prog 12 #[C.v, .slice a n c, .int .i64 lv] w fun e w' => e = .returned (.tuple #[.int .i64 (cheapV C.p rs lv), .int .i64 (cheapE C.p rs lv)]) ∧ Below w.heap.size w w'
  plan : ∀ (C : CM) (bay : Int) (a : Option Addr) (n c : Nat) (rs : List Int) (lv : Int) (w : World), CatAt w C → Lim C → rs.length = n → IRow w a rs → n ≤ 1000 →
    Calls Try.prog 8 #[C.v, .int .i64 bay, .slice a n c, .int .i64 lv] w fun e w' => ∃ a' n' c', e = .returned (.tuple #[.slice a' n' c', .int .i64 (planE C.p bay rs lv)]) ∧ Hid ((planL C.p bay rs lv).length = n' ∧ Spa w' a' (planL C.p bay rs lv) ∧ Below w.heap.size w w')
  fits : ∀ (C : CM) (bay : Int) (a : Option Addr) (n c : Nat) (rs : List Int) (lv : Int) (la : Option Addr) (ln lc : Nat) (l : List Sp) (w : World), CatAt w C → Lim C → rs.length = n → IRow w a rs → n ≤ 1000 → l.length = ln → Spa w la l → InSp l → ln ≤ 1000 →
    Calls Try.prog 15 #[C.v, .int .i64 bay, .slice a n c, .int .i64 lv, .slice la ln lc] w fun e w' => e = .returned (.bool (decide (FitsQ C.p bay rs lv l))) ∧ Below w.heap.size w w'
/-! a plan fits -/
theorem fits_same {J : Jb} {s e s' e' : Nat → Int} (h : ∀ k, k < J.n → s' k = s k ∧ e' k = e k) (hf : FitsJ J s e) : FitsJ J s' e' := by
  refine ⟨fun k hk hj => ?_, fun k hk hj => ?_, fun k x hk hx hj hw => ?_, fun k hk hj => ?_⟩
  · rw [(h k hk).1, (h k hk).2]
    exact hf.1 k hk hj
  · rw [(h k hk).1, (h k hk).2]
    exact hf.2.1 k hk hj
  · rw [(h k hk).1, (h x hx).2]
    exact hf.2.2.1 k x hk hx hj hw
  · have := hf.2.2.2 k hk hj
    rw [cntB_congr (g := fun x => J.j x && (decide (s x ≤ s k) && decide (s k < e x))) J.n fun i hi => by show (J.j i && (decide (s' i ≤ s' k) && decide (s' k < e' i))) = _; rw [(h k hk).1, (h i hi).1, (h i hi).2]]
    exact this
theorem spans_sAt {n : Nat} {s e : Nat → Int} {k : Nat} (h : k < n) : sAt (spans n s e) k = s k ∧ eAt (spans n s e) k = e k := at_is (spans_at h)
/-- What is said of a plan that is told. -/
theorem plan_told {C : Cat} {bay lv : Int} {rs : List Int} (h : planE C bay rs lv = 0) : mayQ C bay rs lv = 0 ∧ planL C bay rs lv = spans C.bs.length (planP C bay rs lv).s (planP C bay rs lv).e ∧ Fine (jbB C bay rs lv) ∧ pl (jbB C bay rs lv) start = some (planP C bay rs lv) := by
  have hm : mayQ C bay rs lv = 0 := by
    by_cases e : mayQ C bay rs lv = 0
    · exact e
    · rw [(plan_err e).1] at h
      exact absurd h e
  obtain ⟨hc, hb, ha⟩ := may_zero hm
  have hs : ¬ (0 < jobsN C rs lv (Cat.bayV C bay).mf ∧ (Cat.bayV C bay).mf = 0) := fun k => by
    rw [(plan_slots hm k).1] at h
    omega
  have hy : 0 ≤ (Cat.bayV C bay).mf := by
    unfold Cat.bayV
    rw [if_pos hb]
    have hi : (bay - 1).toNat < C.ys.length := by omega
    have e : C.ys.getD (bay - 1).toNat Cat.zBa = C.ys[(bay - 1).toNat] := by rw [List.getD_eq_getElem?_getD, List.getElem?_eq_getElem hi]; rfl
    rw [e]
    exact (bay_ok hc (List.getElem?_eq_getElem hi)).1.1
  obtain ⟨q, hq⟩ := jb_plan (C := C) (rs := rs) (lv := lv) (m := (Cat.bayV C bay).mf) hc ha (by
    by_cases e : (Cat.bayV C bay).mf = 0
    · exact .inr (by
        have : ¬ 0 < jobsN C rs lv (Cat.bayV C bay).mf := fun k => hs ⟨k, e⟩
        unfold jobsN at this
        omega)
    · exact .inl (by omega))
  refine ⟨hm, (plan_ok hm hs).2, jb_ok hc ha, ?_⟩
  show pl (jbOf C rs lv (Cat.bayV C bay).mf) start = some ((pl (jbOf C rs lv (Cat.bayV C bay).mf) start).getD start)
  rw [hq]
  rfl
theorem plan_fits {C : Cat} {bay lv : Int} {rs : List Int} (h : planE C bay rs lv = 0) : FitsQ C bay rs lv (planL C bay rs lv) := by
  obtain ⟨hm, hl, hF, hq⟩ := plan_told h
  rw [hl]
  exact ⟨hm, spans_len _ _ _, fits_same (fun k hk => spans_sAt hk) (pl_sound hF hq).1⟩
theorem plan_none {C : Cat} {bay lv : Int} {rs : List Int} (h : planE C bay rs lv ≠ 0) : planL C bay rs lv = [] := by
  unfold planL
  rw [if_neg h]
/-! the catalogue of what must come -/
theorem norm_one1 {k q : Int} (h1 : 1 ≤ k) (hq : 1 ≤ q ∧ q ≤ 1125899906842624) : Goods.Norm [⟨k, q⟩] ∧ Goods.errN [⟨k, q⟩] = 0 ∧ Goods.valN [⟨k, q⟩] = [⟨k, q⟩] := by
  have hN : Goods.Norm [⟨k, q⟩] := ⟨List.pairwise_singleton _ _, fun s hs => by simp at hs; subst hs; exact h1, fun s hs => by simp at hs; subst hs; exact hq.1⟩
  have hov : ¬ Goods.Over [⟨k, q⟩] := by
    rintro ⟨j, hj⟩
    have h1 : Goods.cnt [⟨k, q⟩] j ≤ q := by
      simp only [Goods.cnt]
      split <;> omega
    unfold Goods.mq at hj
    omega
  have he := Goods.errN_ok (Goods.fine_norm hN) hov
  exact ⟨hN, he, by rw [Goods.valN_ok he, Goods.nl_norm hN]⟩
theorem listed_one {k q ty : Int} (h1 : 1 ≤ k) (h2 : k ≤ ty) (hq : 1 ≤ q ∧ q ≤ 1125899906842624) : Goods.Listed [⟨k, q⟩] ty := by
  obtain ⟨hN, he, _⟩ := norm_one1 h1 hq
  exact ⟨by simp, he, Goods.nl_norm hN, fun s hs => by simp at hs; subst hs; exact h2⟩
theorem blok_one {ot per tm k q mo ty : Int} {sa : Option Addr} {sm sc : Nat} (hty : 0 ≤ ty ∧ ty ≤ 32) (h1 : 1 ≤ ot ∧ ot ≤ ty) (h2 : 1 ≤ per ∧ per ≤ 1048576) (h3 : 1 ≤ tm ∧ tm ≤ 1048576) (h4 : 1 ≤ mo ∧ mo ≤ 1000) (h5 : 1 ≤ k ∧ k ≤ ty) (h6 : 1 ≤ q ∧ q ≤ 1125899906842624) (h7 : k ≠ ot) : Recipe.BlOk ⟨ot, per, tm, sa, sm, sc, [⟨k, q⟩], 0, 0, mo⟩ ty := by
  refine ⟨hty, h1, h2, h3, (by show (0 : Int) ≤ 0 ∧ (0 : Int) ≤ 1048576; omega), (by show (0 : Int) ≤ 0 ∧ (0 : Int) ≤ 1048576; omega), h4, listed_one h5.1 h5.2 h6, ?_⟩
  rw [(norm_one1 h5.1 h6).2.2, Goods.cnt_none fun s hs => by simp at hs; subst hs; exact h7]
  omega
abbrev paA (g : Nat) : Recipe.Bl := ⟨2, 5, 10, some ⟨g, 0, none⟩, 1, 1, [⟨1, 3⟩], 0, 0, 5⟩
abbrev paB (g : Nat) : Recipe.Bl := ⟨3, 1, 7, some ⟨g, 0, none⟩, 1, 1, [⟨2, 2⟩], 0, 0, 5⟩
abbrev paD (g : Nat) : Recipe.Bl := ⟨4, 1, 5, some ⟨g, 0, none⟩, 1, 1, [⟨1, 2⟩], 0, 0, 5⟩
abbrev paC (g1 g2 g3 g4 g5 : Nat) : CM := ⟨4, some ⟨g4, 0, none⟩, 3, 3, [paA g1, paB g2, paD g3], 1, some ⟨g5, 0, none⟩, 2, 2, [⟨1, 2, 0, 2000⟩, ⟨1, 1, 0, 500⟩], 1, ⟨0, 0, 0⟩⟩
/-- It, without where it lies. -/
def paP : Cat := ⟨4, [⟨2, 5, 10, [⟨1, 3⟩], 0, 0, 5⟩, ⟨3, 1, 7, [⟨2, 2⟩], 0, 0, 5⟩, ⟨4, 1, 5, [⟨1, 2⟩], 0, 0, 5⟩], 1, [⟨1, 2, 0, 2000⟩, ⟨1, 1, 0, 500⟩], 1, ⟨0, 0, 0⟩⟩
theorem pa_p (g1 g2 g3 g4 g5 : Nat) : (paC g1 g2 g3 g4 g5).p = paP := rfl
theorem pa_a : Recipe.BlOk (⟨2, 5, 10, [⟨1, 3⟩], 0, 0, 5⟩ : PB).b 4 := blok_one (by omega) (by decide) (by decide) (by decide) (by decide) (by decide) (by decide) (by decide)
theorem pa_b : Recipe.BlOk (⟨3, 1, 7, [⟨2, 2⟩], 0, 0, 5⟩ : PB).b 4 := blok_one (by omega) (by decide) (by decide) (by decide) (by decide) (by decide) (by decide) (by decide)
theorem pa_d : Recipe.BlOk (⟨4, 1, 5, [⟨1, 2⟩], 0, 0, 5⟩ : PB).b 4 := blok_one (by omega) (by decide) (by decide) (by decide) (by decide) (by decide) (by decide) (by decide)
theorem pa_ok : Cat.CatOk paP := by
  refine ⟨⟨⟨?_, ?_⟩, ⟨?_, ?_⟩, ⟨?_, ?_⟩, ?_, ?_, ?_⟩, fun b hb => ?_, fun y hy => ?_⟩
  any_goals simp [paP]
  · simp [Fee.FeeOk]
  · simp [paP] at hb
    rcases hb with rfl | rfl | rfl
    · exact pa_a
    · exact pa_b
    · exact pa_d
  · simp [paP] at hy
    rcases hy with rfl | rfl <;> simp [Cat.BaOk]
theorem pa_nd : Cat.ndL paP.bs = [⟨2, 1⟩, ⟨3, 2⟩, ⟨4, 1⟩] := rfl
theorem pa_may : Graph.May paP.ty (Cat.ndL paP.bs) := by
  rw [pa_nd]
  refine ⟨⟨?_, ?_⟩, by simp, fun t ht => ?_⟩
  · simp [paP]
  · simp [paP]
  · simp at ht
    rcases ht with rfl | rfl | rfl <;> simp [Graph.OkNd, paP]
theorem pa_chk : Cat.chkC paP = 0 := by
  rw [Cat.chk_gC pa_ok pa_may, pa_nd]
  show Cat.gC 4 [⟨2, 1⟩, ⟨3, 2⟩, ⟨4, 1⟩] = 0
  decide +kernel
theorem pa_arg : ArgOk paP [1, 1, 2] 0 := ⟨⟨rfl, fun r hr => by
  simp at hr
  rcases hr with rfl | rfl <;> simp⟩, by omega, by omega⟩
theorem pa_mq {k : Int} (h : k = 1 ∨ k = 2) : mayQ paP k [1, 1, 2] 0 = 0 := may_ok pa_chk (by show 1 ≤ k ∧ k ≤ 2; omega) pa_arg
theorem pa_tim {b : PB} {r : Int} (hb : Recipe.BlOk b.b 4) (hr : 1 ≤ r ∧ r ≤ 1000) : tim 0 b r = Recipe.tmv b.tm 0 r := by
  have hk : Recipe.BlOk b.b 32 := ⟨⟨by omega, by omega⟩, ⟨hb.2.1.1, by have := hb.2.1.2; omega⟩, hb.2.2.1, hb.2.2.2.1, hb.2.2.2.2.1, hb.2.2.2.2.2.1, hb.2.2.2.2.2.2.1, ⟨hb.2.2.2.2.2.2.2.1.1, hb.2.2.2.2.2.2.2.1.2.1, hb.2.2.2.2.2.2.2.1.2.2.1, fun s hs => by have := hb.2.2.2.2.2.2.2.1.2.2.2 s hs; omega⟩, hb.2.2.2.2.2.2.2.2⟩
  unfold tim
  rw [if_neg (by omega), (Recipe.time_ok hk ⟨⟨by omega, by omega⟩, hr⟩).2]
  rfl
theorem pa_t1 : tim 0 ⟨2, 5, 10, [⟨1, 3⟩], 0, 0, 5⟩ 1 = 10 := by rw [pa_tim pa_a (by omega)]; decide
theorem pa_t2 : tim 0 ⟨3, 1, 7, [⟨2, 2⟩], 0, 0, 5⟩ 1 = 7 := by rw [pa_tim pa_b (by omega)]; decide
theorem pa_t3 : tim 0 ⟨4, 1, 5, [⟨1, 2⟩], 0, 0, 5⟩ 2 = 10 := by rw [pa_tim pa_d (by omega)]; decide
def paT : Nat → Int
  | 0 => 10
  | 1 => 7
  | 2 => 10
  | _ => 0
def paJ (m : Int) : Jb := ⟨3, fun k => decide (0 < ([1, 1, 2] : List Int).getD k 0), waitsB paP.bs [1, 1, 2], paT, m⟩
theorem pa_j (m : Int) : jbOf paP [1, 1, 2] 0 m = paJ m := by
  have e : (fun k : Nat => match paP.bs[k]? with
    | none => 0
    | some b => tim 0 b (([1, 1, 2] : List Int).getD k 0)) = paT := funext fun k => by
    rcases k with _ | _ | _ | k
    · exact pa_t1
    · exact pa_t2
    · exact pa_t3
    · rfl
  show (⟨3, _, _, _, m⟩ : Jb) = _
  unfold paJ
  rw [← e]
  rfl
theorem pa_y1 : Cat.bayV paP 1 = ⟨1, 2, 0, 2000⟩ := by
  unfold Cat.bayV
  rw [if_pos (by show (1 : Int) ≤ 1 ∧ (1 : Int) ≤ 2; omega)]
  rfl
theorem pa_y2 : Cat.bayV paP 2 = ⟨1, 1, 0, 500⟩ := by
  unfold Cat.bayV
  rw [if_pos (by show (1 : Int) ≤ 2 ∧ (2 : Int) ≤ 2; omega)]
  rfl
theorem pa_e1 : planE paP 1 [1, 1, 2] 0 = 0 := (plan_ok (pa_mq (.inl rfl)) (by rw [pa_y1]; exact fun h => by have : (2 : Int) = 0 := h.2; omega)).1
theorem pa_e2 : planE paP 2 [1, 1, 2] 0 = 0 := (plan_ok (pa_mq (.inr rfl)) (by rw [pa_y2]; exact fun h => by have : (1 : Int) = 0 := h.2; omega)).1
theorem pa_pl (_ : Int) (s e : Nat → Int) : spans 3 s e = [⟨s 0, e 0⟩, ⟨s 1, e 1⟩, ⟨s 2, e 2⟩] := rfl
theorem pa_run2 : (((pl (paJ 2) start).getD start).s 0 = 0 ∧ ((pl (paJ 2) start).getD start).e 0 = 10) ∧ (((pl (paJ 2) start).getD start).s 1 = 10 ∧ ((pl (paJ 2) start).getD start).e 1 = 17) ∧ ((pl (paJ 2) start).getD start).s 2 = 0 ∧ ((pl (paJ 2) start).getD start).e 2 = 10 := by decide +kernel
theorem pa_run1 : (((pl (paJ 1) start).getD start).s 0 = 0 ∧ ((pl (paJ 1) start).getD start).e 0 = 10) ∧ (((pl (paJ 1) start).getD start).s 1 = 10 ∧ ((pl (paJ 1) start).getD start).e 1 = 17) ∧ ((pl (paJ 1) start).getD start).s 2 = 17 ∧ ((pl (paJ 1) start).getD start).e 2 = 27 := by decide +kernel
theorem pa_l1 : planL paP 1 [1, 1, 2] 0 = [⟨0, 10⟩, ⟨10, 17⟩, ⟨0, 10⟩] := by
  rw [(plan_told pa_e1).2.1]
  show spans 3 (planP paP 1 [1, 1, 2] 0).s (planP paP 1 [1, 1, 2] 0).e = _
  unfold planP
  rw [pa_y1, pa_j, pa_pl 0, pa_run2.1.1, pa_run2.1.2, pa_run2.2.1.1, pa_run2.2.1.2, pa_run2.2.2.1, pa_run2.2.2.2]
theorem pa_l2 : planL paP 2 [1, 1, 2] 0 = [⟨0, 10⟩, ⟨10, 17⟩, ⟨17, 27⟩] := by
  rw [(plan_told pa_e2).2.1]
  show spans 3 (planP paP 2 [1, 1, 2] 0).s (planP paP 2 [1, 1, 2] 0).e = _
  unfold planP
  rw [pa_y2, pa_j, pa_pl 0, pa_run1.1.1, pa_run1.1.2, pa_run1.2.1.1, pa_run1.2.1.2, pa_run1.2.2.1, pa_run1.2.2.2]
theorem pa_fits : FitsQ paP 1 [1, 1, 2] 0 [⟨0, 10⟩, ⟨10, 17⟩, ⟨0, 10⟩] := by
  have := plan_fits pa_e1
  rw [pa_l1] at this
  exact this
theorem pa_more : ¬ FitsQ paP 2 [1, 1, 2] 0 [⟨0, 10⟩, ⟨10, 17⟩, ⟨0, 10⟩] := fun h => by
  have h1 := h.2.2
  unfold jbB at h1
  rw [pa_y2, pa_j] at h1
  have h2 := h1.2.2.2 0 (by show 0 < 3; omega) rfl
  exact absurd h2 (by decide +kernel)
theorem pa_f {rt a b c : Int} (h1 : Fee.bayV rt 10 = a) (h2 : Fee.bayV rt 7 = b) (hc : a + (b + (a + 0)) = c) : feeV rt 0 paP.bs [1, 1, 2] = c := by
  show (if (0 : Int) < 1 then Fee.bayV rt (tim 0 ⟨2, 5, 10, [⟨1, 3⟩], 0, 0, 5⟩ 1) else 0) + ((if (0 : Int) < 1 then Fee.bayV rt (tim 0 ⟨3, 1, 7, [⟨2, 2⟩], 0, 0, 5⟩ 1) else 0) + ((if (0 : Int) < 2 then Fee.bayV rt (tim 0 ⟨4, 1, 5, [⟨1, 2⟩], 0, 0, 5⟩ 2) else 0) + 0)) = c
  rw [pa_t1, pa_t2, pa_t3, if_pos (by omega), if_pos (by omega), if_pos (by omega), h1, h2]
  exact hc
theorem pa_f1 : feeV 2000 0 paP.bs [1, 1, 2] = 6 := pa_f (a := 2) (b := 2) (by decide +kernel) (by decide +kernel) rfl
theorem pa_f2 : feeV 500 0 paP.bs [1, 1, 2] = 3 := pa_f (a := 1) (b := 1) (by decide +kernel) (by decide +kernel) rfl
theorem pa_fee : feeQ paP 1 [1, 1, 2] 0 = 6 := by
  rw [fee_is (pa_mq (.inl rfl)), pa_y1]
  exact pa_f1
theorem pa_cheap : cheapV paP [1, 1, 2] 0 = 2 ∧ cheapE paP [1, 1, 2] 0 = 0 := by
  have hn : ¬ ∀ y ∈ paP.ys, y.mf = 0 := fun h => by
    have : (2 : Int) = 0 := h ⟨1, 2, 0, 2000⟩ (by simp [paP])
    omega
  have h := cheap_ok pa_chk hn pa_arg
  refine ⟨?_, h.1⟩
  rw [h.2]
  have o1 : feeOf paP [1, 1, 2] 0 ⟨1, 2, 0, 2000⟩ = 6 := pa_f1
  have o2 : feeOf paP [1, 1, 2] 0 ⟨1, 1, 0, 500⟩ = 3 := pa_f2
  have c1 : chp (feeOf paP [1, 1, 2] 0) paP.ys 1 = (1, 6) := by
    rw [chp_next (j := 0) (y := ⟨1, 2, 0, 2000⟩) rfl, o1, if_neg (by show ¬ (2 : Int) = 0; omega), if_pos (.inl rfl)]
    rfl
  show (chp (feeOf paP [1, 1, 2] 0) paP.ys 2).1 = 2
  rw [chp_next (j := 1) (y := ⟨1, 1, 0, 500⟩) rfl, c1, o2, if_neg (by show ¬ (1 : Int) = 0; omega), if_pos (.inr (by show (3 : Int) < 6; omega))]
  rfl
end Go.Proofs.Ytdbhdlgoecpeaaa.Quo
namespace Go.Proofs.Ytdbhdlgoecpeaaa.Calc
open Go.RowKit

/-- Is a number one of 64 bits with a sign? -/
def fits (n : Int) : Bool := decide (-9223372036854775808 ≤ n ∧ n ≤ 9223372036854775807)
/-- A number as an answer: itself, or 0 beside an error. -/
def valN (n : Int) : Int := if fits n = true then n else 0
/-- The error beside it: none, or ErrOver. -/
def valE (n : Int) : Int := if fits n = true then 0 else 5
theorem fits_true {n : Int} (h1 : -9223372036854775808 ≤ n) (h2 : n ≤ 9223372036854775807) : fits n = true := by unfold fits; exact decide_eq_true ⟨h1, h2⟩
theorem fits_false {n : Int} (h : n < -9223372036854775808 ∨ 9223372036854775807 < n) : fits n = false := by unfold fits; exact decide_eq_false (by omega)
theorem valN_in {n : Int} (h1 : -9223372036854775808 ≤ n) (h2 : n ≤ 9223372036854775807) : valN n = n := by unfold valN; rw [if_pos (fits_true h1 h2)]
theorem valE_in {n : Int} (h1 : -9223372036854775808 ≤ n) (h2 : n ≤ 9223372036854775807) : valE n = 0 := by unfold valE; rw [if_pos (fits_true h1 h2)]
theorem valN_out {n : Int} (h : n < -9223372036854775808 ∨ 9223372036854775807 < n) : valN n = 0 := by unfold valN; rw [fits_false h]; rfl
theorem valE_out {n : Int} (h : n < -9223372036854775808 ∨ 9223372036854775807 < n) : valE n = 5 := by unfold valE; rw [fits_false h]; rfl
/-- The pair as a value. -/
def pairV (n e : Int) : Value := .tuple #[.int .i64 n, .int .i64 e]
theorem pair_in {n : Int} (h1 : -9223372036854775808 ≤ n) (h2 : n ≤ 9223372036854775807) : Ending.returned (.tuple #[.int .i64 n, .int .i64 0]) = Ending.returned (.tuple #[.int .i64 (valN n), .int .i64 (valE n)]) := by rw [valN_in h1 h2, valE_in h1 h2]
theorem pair_out {n : Int} (h : n < -9223372036854775808 ∨ 9223372036854775807 < n) : Ending.returned (.tuple #[.int .i64 0, .int .i64 5]) = Ending.returned (.tuple #[.int .i64 (valN n), .int .i64 (valE n)]) := by rw [valN_out h, valE_out h]

theorem wrap_over {n : Int} (h1 : 9223372036854775807 < n) (h2 : n ≤ 18446744073709551615) : wrap64 n < n - 9223372036854775807 ∧ wrap64 n < 0 := by unfold wrap64; omega
theorem wrap_under {n : Int} (h1 : n < -9223372036854775808) (h2 : -18446744073709551616 ≤ n) : n + 9223372036854775807 < wrap64 n ∧ 0 ≤ wrap64 n := by unfold wrap64; omega
end Go.Proofs.Ytdbhdlgoecpeaaa.Calc
namespace Go.Proofs.Ytdbhdlgoecpeaaa.Calc
open Go.RowKit Go.Lib

set_option maxHeartbeats 400000 in
theorem add_any (a b : Int) (w : World) (a1 : -9223372036854775808 ≤ a) (a2 : a ≤ 9223372036854775807) (b1 : -9223372036854775808 ≤ b) (b2 : b ≤ 9223372036854775807) :
    Calls Try.prog 50 #[.int .i64 a, .int .i64 b] w fun e w' => e = .returned (.tuple #[.int .i64 (valN (a + b)), .int .i64 (valE (a + b))]) ∧ w = w' := by
  by_cases h1 : a + b < -9223372036854775808
  · obtain ⟨hw1, hw2⟩ := wrap_under h1 (by omega)
    have hd1 : decide (wrap64 (a + b) < a) = false := by simp; omega
    have hd2 : decide (b < 0) = true := by simp; omega
    go_enter Try.func50, Try.ntmps50
    go_wp2
    go_ret2
    exact ⟨pair_out (Or.inl h1), rfl⟩
  · by_cases h2 : 9223372036854775807 < a + b
    · obtain ⟨hw1, hw2⟩ := wrap_over h2 (by omega)
      have hd1 : decide (wrap64 (a + b) < a) = true := by simp; omega
      have hd2 : decide (b < 0) = false := by simp; omega
      go_enter Try.func50, Try.ntmps50
      go_wp2
      go_ret2
      exact ⟨pair_out (Or.inr h2), rfl⟩
    · have h3 : -9223372036854775808 ≤ a + b := by omega
      have h4 : a + b ≤ 9223372036854775807 := by omega
      clear h1 h2
      by_cases hb : b < 0
      · have hd1 : decide (a + b < a) = true := by simp; omega
        have hd2 : decide (b < 0) = true := by simp; omega
        go_enter Try.func50, Try.ntmps50
        go_wp2
        go_ret2
        exact ⟨pair_in h3 h4, rfl⟩
      · have hd1 : decide (a + b < a) = false := by simp; omega
        have hd2 : decide (b < 0) = false := by simp; omega
        go_enter Try.func50, Try.ntmps50
        go_wp2
        go_ret2
        exact ⟨pair_in h3 h4, rfl⟩
end Go.Proofs.Ytdbhdlgoecpeaaa.Calc
