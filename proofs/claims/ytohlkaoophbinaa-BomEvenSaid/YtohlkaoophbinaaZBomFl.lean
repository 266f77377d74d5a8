/- A catalogue that is filled blueprint by blueprint. -/
import Derived.Test.YtohlkaoophbinaaZBomEv
namespace Go.Proofs.Ytohlkaoophbinaa.Bom
open Go.RowKit Go.Lib IRows
open Goods (St Sts OwnS cnt)
open Cat (Cat PB CM CatAt Lim I64 pOf InC OwnB NeedsAt own_by own_type app_b grown_block blues_own)
open Recipe (BlIn)

theorem blk8 {w : World} {k : Nat} {a b c d e f g i : Value} {T : TypeId} (h : w.heap[k]? = some (.cells #[a, b, c, d, e, f, g, i] T (0, 0))) : (w.cell? ⟨k, 0, none⟩ = some a ∧ w.cell? ⟨k, 1, none⟩ = some b ∧ w.cell? ⟨k, 2, none⟩ = some c ∧ w.cell? ⟨k, 3, none⟩ = some d ∧ w.cell? ⟨k, 4, none⟩ = some e ∧ w.cell? ⟨k, 5, none⟩ = some f ∧ w.cell? ⟨k, 6, none⟩ = some g ∧ w.cell? ⟨k, 7, none⟩ = some i) ∧ w.frozen? ⟨k, 0, none⟩ = false ∧ w.frozen? ⟨k, 1, none⟩ = false ∧ w.frozen? ⟨k, 2, none⟩ = false ∧ w.frozen? ⟨k, 3, none⟩ = false ∧ w.frozen? ⟨k, 4, none⟩ = false ∧ w.frozen? ⟨k, 5, none⟩ = false ∧ w.frozen? ⟨k, 6, none⟩ = false ∧ w.frozen? ⟨k, 7, none⟩ = false :=
  ⟨⟨cell_block (j := 0) h rfl, cell_block (j := 1) h rfl, cell_block (j := 2) h rfl, cell_block (j := 3) h rfl, cell_block (j := 4) h rfl, cell_block (j := 5) h rfl, cell_block (j := 6) h rfl, cell_block (j := 7) h rfl⟩, free_block 0 h, free_block 1 h, free_block 2 h, free_block 3 h, free_block 4 h, free_block 5 h, free_block 6 h, free_block 7 h⟩
theorem own_past {w w' : World} {B : Nat} {e : TypeId} {size n : Nat} {v : Value} {xs : List Value} {g : Nat} (h : w.ownsRow B e size v n xs) (hg : w.grownBy w' (some g)) (hb : g < B) : w'.ownsRow B e size v n xs := own_by h hg fun k cur e h1 hv => by
  injection e with e
  have h2 := (own_type h hv).1
  omega
theorem own_set {w : World} {B : Nat} {e : TypeId} {size n : Nat} {v : Value} {xs : List Value} {g : Nat} (h : w.ownsRow B e size v n xs) (j : Nat) (u : Value) (hb : g < B) : (w.setCell ⟨g, j, none⟩ u).ownsRow B e size v n xs := own_past h (only_setCell (only_refl w (some g)) j u) hb
/-- A catalogue that is filled blueprint by blueprint. -/
structure Fill (X w : World) (K : Nat) (c : Array Value) (v : Value) (bs : List Recipe.Bl) : Prop where
  below : Below X.heap.size X w
  here : X.heap.size ≤ K
  blk : w.heap[K]? = some (.cells c 27 (0, 0))
  own : OwnB w (K + 1) v bs
  needs : NeedsAt w (K + 1) bs
theorem Fill.more {X w : World} {K : Nat} {cs : Array Value} {a : Option Addr} {m c : Nat} {bs : List Recipe.Bl} (k s q : Int) (h : Fill X w K cs (.slice a m c) bs) (hm : m ≤ 1000) :
    ∃ a' c' W', Hid ((Builtin.append_ #[22, 22] 22 #[.slice a m c, .slice (some ⟨w.heap.size + 1, 0, none⟩) 1 1]).run Try.prog ((w.alloc (.cells #[.int .i64 s, .int .i64 q] 51)).alloc (.cells #[.int .i64 k, .int .i64 1, .int .i64 1, .slice (some ⟨w.heap.size, 0, none⟩) 1 1, .int .i64 0, .int .i64 0, .int .i64 1] 54)) = .ok (.slice a' (m + 1) c') W') ∧ Hid (Fill X W' K cs (.slice a' (m + 1) c') (bs ++ [⟨k, 1, 1, some ⟨w.heap.size, 0, none⟩, 1, 1, [⟨s, q⟩], 0, 0, 1⟩])) := by
  obtain ⟨Y, hY⟩ : ∃ Y, w.alloc (.cells #[.int .i64 s, .int .i64 q] 51) = Y := ⟨_, rfl⟩
  rw [hY]
  have hb : Below w.heap.size w Y := by rw [← hY]; exact (Below.refl _ w).alloc (Nat.le_refl _) _
  have hst : Y.heap[w.heap.size]? = some (.cells #[.int .i64 s, .int .i64 q] 51 (0, 0)) := by rw [← hY]; exact heap_alloc_new w _
  have hK : K < w.heap.size := (Array.getElem?_eq_some_iff.1 h.blk).1
  have ho : OwnB Y (K + 1) (.slice a m c) bs := Goods.own_under h.own hb
  have hsz := hb.size
  obtain ⟨a2, c2, W2, hr, ho2, hg⟩ := app_b Y ⟨k, 1, 1, some ⟨w.heap.size, 0, none⟩, 1, 1, [⟨s, q⟩], 0, 0, 1⟩ ho (by omega) (by omega)
  have hs1 : Y.heap.size = w.heap.size + 1 := by rw [← hY]; simp
  rw [hs1] at hr
  have hkB : Y.heap[K]? = some (.cells cs 27 (0, 0)) := (hb.block K hK).trans h.blk
  refine ⟨a2, c2, W2, hr, Lib.hid ⟨?_, h.here, grown_block hg hkB (fun e => ?_), ho2, fun x hx => ?_⟩⟩
  · have hy := below_then h.below hb
    refine ⟨hg.os.trans hy.os, hg.tape.trans hy.tape, hg.output.trans hy.output, Nat.le_trans hy.size hg.size, fun i hi => (hg.block i (Nat.lt_of_lt_of_le hi hy.size) (fun e => ?_)).trans (hy.block i hi)⟩
    have h1 := (own_type ho e.symm).1
    have h2 := h.here
    omega
  · have h1 := (own_type ho e).1
    omega
  · have hfar : ∀ g cur, (Value.slice a m c).ownBlock = some g → ¬ Y.heap[g]? = some (.cells cur 51 (0, 0)) := fun g cur e h3 => by
      obtain ⟨_, _, c4, h4⟩ := own_type ho e
      rw [h4] at h3
      injection h3 with h3
      injection h3 with _ hT
      exact absurd hT (by decide)
    rcases List.mem_append.1 hx with hx | hx
    · exact own_by (Goods.own_under (h.needs x hx) hb) hg fun g cur e h3 => absurd h3 (hfar g cur e)
    · rw [List.mem_singleton.1 hx]
      have hs : OwnS Y (K + 1) (.slice (some ⟨w.heap.size, 0, none⟩) 1 1) [⟨s, q⟩] := ⟨rfl, .inr ⟨_, 1, _, rfl, by omega, hst, by show 1 ≤ 1; omega, by unfold maxLen; omega, rfl, rfl⟩⟩
      exact own_by hs hg fun g cur e h3 => absurd h3 (hfar g cur e)
theorem Fill.set {X w : World} {K : Nat} {cs : Array Value} {v : Value} {bs : List Recipe.Bl} (h : Fill X w K cs v bs) (j : Nat) (u : Value) : Fill X (w.setCell ⟨K, j, none⟩ u) K (cs.setIfInBounds j u) v bs := by
  have hg : w.grownBy (w.setCell ⟨K, j, none⟩ u) (some K) := only_setCell (only_refl w (some K)) j u
  exact ⟨below_of_only h.below h.here hg, h.here, heap_setCell_same w K j _ _ u h.blk, own_set h.own j u (by omega), fun b hb => own_set (h.needs b hb) j u (by omega)⟩
theorem wF_b {l : List Int} {n : Int} (hl : l.length ≤ 8) (hq : ∀ q ∈ l, 1 ≤ q ∧ q ≤ 16) (hn : 1 ≤ n ∧ n ≤ 4) : 1 ≤ wF n l ∧ wF n l ≤ 17179869184 := by
  have hw := wF_in l n hn.1 hq
  have h16 : 16 ^ l.length ≤ 16 ^ 8 := Nat.pow_le_pow_right (by omega) hl
  have e8 : 16 ^ 8 = 4294967296 := by decide
  obtain ⟨P, hP⟩ : ∃ P, 16 ^ l.length = P := ⟨_, rfl⟩
  rw [hP] at h16 hw
  have h2 : n * (P : Int) ≤ 4 * 4294967296 := Int.mul_le_mul hn.2 (by omega) (by omega) (by omega)
  omega
theorem Fill.fit {X w : World} {K : Nat} {cs : Array Value} {a : Option Addr} {m c : Nat} {bs : List Recipe.Bl} {l : List Int} (h : Fill X w K cs (.slice a m c) bs) (hp : bs.map pOf = chn l) (hl : l.length = m) (hm : m ≤ 8) (hq : ∀ q ∈ l, 1 ≤ q ∧ q ≤ 16) :
    Cat.Fit w ⟨(m : Int) + 1, a, m, c, bs, 1, none, 0, 0, [], 1, ⟨0, 0, 0⟩⟩ ∧ CM.p ⟨(m : Int) + 1, a, m, c, bs, 1, none, 0, 0, [], 1, ⟨0, 0, 0⟩⟩ = evP l := by
  refine ⟨?_, ?_⟩
  case refine_2 =>
    show (⟨(m : Int) + 1, bs.map pOf, 1, [], 1, ⟨0, 0, 0⟩⟩ : Cat) = _
    rw [hp, ← hl]
    rfl
  obtain ⟨q1, q2⟩ := blues_own h.own
  have hone : ∀ b ∈ bs, ∃ k s q : Int, pOf b = lnk k s q ∧ 2 ≤ k ∧ k ≤ (l.length : Int) + 1 ∧ 1 ≤ s ∧ s = k - 1 ∧ q ∈ l := fun b hb => chn_mem (by rw [← hp]; exact List.mem_map.2 ⟨b, hb, rfl⟩)
  have hsm : ∀ b ∈ bs, b.s.length = b.sm ∧ Sts w b.sa b.s := fun b hb => by
    obtain ⟨a', c', e, q⟩ := Goods.sts_own (h.needs b hb)
    injection e with e1 e2 _
    subst e1
    exact ⟨e2.symm, q⟩
  refine ⟨⟨⟨q1, q2, hsm⟩, rfl, fun i y hi => by simp at hi⟩, ⟨fun b hb => ?_, by show m ≤ 20; omega, by show 0 ≤ 12; omega⟩, ⟨by show I64 ((m : Int) + 1); unfold I64; omega, fun b hb => ?_, by show I64 1; simp [I64], fun y hy => (by cases hy), by show I64 1; simp [I64], by show I64 0; simp [I64], by show I64 0; simp [I64], by show I64 0; simp [I64]⟩⟩
  · obtain ⟨k, s, q, e, _⟩ := hone b hb
    have h1 : b.s = [⟨s, q⟩] := congrArg (fun x : PB => x.s) e
    have h2 := (hsm b hb).1
    rw [h1] at h2
    simp at h2
    omega
  · obtain ⟨k, s, q, e, k1, k2, s1, s2, hql⟩ := hone b hb
    have hqb := hq q hql
    have e1 : b.ot = k := congrArg (fun x : PB => x.ot) e
    have e2 : b.per = 1 := congrArg (fun x : PB => x.per) e
    have e3 : b.tm = 1 := congrArg (fun x : PB => x.tm) e
    have e4 : b.cp = 0 := congrArg (fun x : PB => x.cp) e
    have e5 : b.st = 0 := congrArg (fun x : PB => x.st) e
    have e6 : b.mo = 1 := congrArg (fun x : PB => x.mo) e
    have e7 : b.s = [⟨s, q⟩] := congrArg (fun x : PB => x.s) e
    refine ⟨by rw [e1]; unfold I64; omega, by rw [e2]; simp [I64], by rw [e3]; simp [I64], by rw [e4]; simp [I64], by rw [e5]; simp [I64], by rw [e6]; simp [I64], fun t ht => ?_⟩
    rw [e7] at ht
    simp at ht
    subst ht
    exact ⟨by show I64 s; unfold I64; omega, by show I64 q; unfold I64; omega⟩
end Go.Proofs.Ytohlkaoophbinaa.Bom
