/- What is there above what is needed: the mathematics of the program's Fits. -/
import Derived.Test.YtohlkaoophbinaaZBomImC
import Derived.Test.YtohlkaoophbinaaZCalcScaleP
import Derived.Test.YtohlkaoophbinaaZBomImW
import Derived.Test.YtohlkaoophbinaaZGraphImC
import Derived.Test.YtohlkaoophbinaaZBomF
namespace Go.Proofs.Ytohlkaoophbinaa.Bom.Im
open Go.RowKit Go.Lib IRows
open Goods (St Sts OwnS cnt)
open Cat (Cat PB CM CatAt Lim I64 pOf)
open Recipe (needsE needsL needL up nd BlIn)
open Graph.Im (Gr gr_below gr_setP)

/-- What is there of a type above what is needed, behind so many blueprints. -/
def spF (bs : List PB) (raw : List St) (kind n lv : Int) (rs : List Int) (i : Nat) (t : Int) : Int := cnt raw t - (if t = kind then n else 0) + mS t (bs.take i) (rs.take i) - nS lv t (bs.take i) (rs.take i)
theorem sp_zero (bs : List PB) (raw : List St) (kind n lv : Int) (rs : List Int) (t : Int) : spF bs raw kind n lv rs 0 t = upd (cnt raw) kind (cnt raw kind - n) t := by
  unfold spF upd
  simp only [List.take_zero, mS, nS]
  by_cases e : t = kind
  · subst e
    rw [if_pos rfl, if_pos rfl]
    omega
  · rw [if_neg e, if_neg e]
    omega
theorem sp_next {bs : List PB} {raw : List St} {kind n lv : Int} {rs : List Int} {i : Nat} {b : PB} {r : Int} (hb : bs[i]? = some b) (hr : rs[i]? = some r) (t : Int) :
    spF bs raw kind n lv rs (i + 1) t = spF bs raw kind n lv rs i t + (if b.ot = t then r * b.per else 0) - (if 0 < r then cnt (needL b.s lv r) t else 0) := by
  unfold spF
  rw [mS_take hb hr, nS_take hb hr]
  omega
theorem sp_skip {bs : List PB} {raw : List St} {kind n lv : Int} {rs : List Int} {i : Nat} {b : PB} (hb : bs[i]? = some b) (hr : rs[i]? = some 0) (t : Int) :
    spF bs raw kind n lv rs (i + 1) t = spF bs raw kind n lv rs i t := by
  rw [sp_next hb hr]
  simp
/-- Numbers that are no greater than so often the greatest number. -/
def Bd (k : Nat) (f : Int → Int) : Prop := ∀ t, -(((k : Int) + 1) * 1125899906842624) ≤ f t ∧ f t ≤ ((k : Int) + 1) * 1125899906842624
theorem Bd.more {k : Nat} {f : Int → Int} (h : Bd k f) : Bd (k + 1) f := fun t => by
  have := h t
  rw [show (((k + 1 : Nat) : Int) + 1) = ((k : Int) + 1) + 1 by omega, Int.add_mul]
  omega
theorem Bd.in {k : Nat} {f : Int → Int} (h : Bd k f) (hk : k ≤ 25) (t : Int) : -29273397577908224 ≤ f t ∧ f t ≤ 29273397577908224 := by
  have := h t
  have h2 : ((k : Int) + 1) * 1125899906842624 ≤ 26 * 1125899906842624 := Int.mul_le_mul_of_nonneg_right (by omega) (by omega)
  omega
theorem mS_out {x : Int} : ∀ (bs : List PB) (rs : List Int), (∀ b ∈ bs, b.ot ≠ x) → mS x bs rs = 0 := fun _ _ h => mS_none h
theorem nS_out {lv x : Int} : ∀ (bs : List PB) (rs : List Int), (∀ b ∈ bs, ∀ s ∈ b.s, s.kind ≠ x) → nS lv x bs rs = 0
  | [], rs, _ => by cases rs <;> simp [nS]
  | b :: bs, [], _ => by simp [nS]
  | b :: bs, r :: rs, h => by
    rw [nS, nS_out bs rs fun c hc => h c (List.mem_cons_of_mem _ hc), cnt_need (h b (List.mem_cons_self ..))]
    simp
theorem take_le {l : List St} (h : ∀ s ∈ l, 0 ≤ s.qty) (i : Nat) (x : Int) : 0 ≤ cnt (l.take i) x ∧ cnt (l.take i) x ≤ cnt l x := by
  have h1 := Goods.cnt_nonneg (l := l.take i) (fun s hs => h s (List.mem_of_mem_take hs)) x
  have h2 := Goods.cnt_nonneg (l := l.drop i) (fun s hs => h s (List.mem_of_mem_drop hs)) x
  have h3 : cnt l x = cnt (l.take i) x + cnt (l.drop i) x := by rw [← Goods.cnt_append, List.take_append_drop]
  omega
theorem needL_qty {s : List St} {lv r : Int} (hr : 0 ≤ r) : ∀ t ∈ needL s lv r, 0 ≤ t.qty := fun t ht => by
  obtain ⟨u, hu, rfl⟩ := List.mem_map.1 ht
  have := Recipe.nd_run u.qty lv r
  show 0 ≤ nd u.qty lv r
  omega
theorem needL_kind {s : List St} {lv r ty : Int} (h : ∀ t ∈ s, 1 ≤ t.kind ∧ t.kind ≤ ty) : ∀ t ∈ needL s lv r, 1 ≤ t.kind ∧ t.kind ≤ ty := fun t ht => by
  obtain ⟨u, hu, rfl⟩ := List.mem_map.1 ht
  exact h u hu
/-- What has turned but one block beyond a place keeps what lies below. -/
theorem below_gr {X W W' : World} {A : Nat} (h : Below X.heap.size X W) (g : Gr W W' A A) (hA : X.heap.size ≤ A) : Below X.heap.size X W' :=
  ⟨g.os.trans h.os, g.tape.trans h.tape, g.output.trans h.output, Nat.le_trans h.size g.size, fun k hk => (g.block k (Nat.lt_of_lt_of_le hk h.size) (by omega) (by omega)).trans (h.block k hk)⟩
/-- The cells of a row of the call's own that lies beyond a block. -/
theorem own_cells {W : World} {B A : Nat} {a : Option Addr} {n c : Nat} {l : List St} (h : OwnS W B (.slice a n c) l) (hA : A < B) : l.length = n ∧ Hid (∀ (V : World) (i : Nat), Gr W V A A → i < n → ∃ g t, a = some ⟨g, 0, none⟩ ∧ Hid (l[i]? = some t) ∧ V.cell? ⟨g, i * 2, none⟩ = some (.int .i64 t.kind) ∧ V.cell? ⟨g, i * 2 + 1, none⟩ = some (.int .i64 t.qty)) := by
  have h0 := h
  obtain ⟨a2, c2, e, _, hat⟩ := Goods.row_st h
  injection e with e1 e2 _
  subst e1
  refine ⟨e2.symm, Lib.hid fun V i hV hi => ?_⟩
  obtain ⟨t, ht⟩ := Goods.nth_at (l := l) (i := i) (by omega)
  obtain ⟨g, e3, hg, k0, k1⟩ := hat i t ht
  have hB : B ≤ g := (h0.lt g (by rw [e3]; rfl)).1
  refine ⟨g, t, e3, Lib.hid ht, ?_, ?_⟩
  · exact (hV.cell _ hg (by omega) (by omega)).trans k0
  · exact (hV.cell _ hg (by omega) (by omega)).trans k1
/-- Whether it is enough. -/
theorem sp_fits {C : Cat} {raw : List St} {kind n lv : Int} {rs : List Int} (hm : mayE C kind lv raw = 0) (hn : 1 ≤ n ∧ n ≤ Recipe.mq) (hr : RunsOk C rs) (hne : ∀ (i : Nat) (b : PB) (r : Int), C.bs[i]? = some b → rs[i]? = some r → r ≠ 0 → needsE b.b lv r = 0) :
    0 ≤ minF (spF C.bs raw kind n lv rs C.bs.length) 32 ↔ FitsP C kind n lv raw rs := by
  have hz := mayE_zero hm
  have hk := Cat.chk_zero hz.1
  have hL := kind_listed hz.2.2.2
  have hty := hk.1.1
  have e : ∀ t, spF C.bs raw kind n lv rs C.bs.length t = cnt raw t - (if t = kind then n else 0) + mS t C.bs rs - nS lv t C.bs rs := fun t => by
    unfold spF
    rw [List.take_of_length_le (Nat.le_refl _), List.take_of_length_le (by rw [hr.1]; exact Nat.le_refl _)]
  have hout : ∀ t, ¬ (1 ≤ t ∧ t ≤ C.ty) → spF C.bs raw kind n lv rs C.bs.length t = 0 := fun t ht => by
    rw [e, mS_out _ _ fun b hb e2 => ?_, nS_out _ _ fun b hb s hs e2 => ?_, Goods.cnt_none fun s hs e2 => ?_, if_neg fun e2 => ?_]
    · rfl
    · rw [e2] at ht
      exact ht hz.2.1
    · exact ht (by have := hL s hs; omega)
    · have := kind_listed (hk.2.1 b hb).2.2.2.2.2.2.2.1 s hs
      exact ht (by omega)
    · have := (hk.2.1 b hb).2.1
      exact ht (by rw [← e2]; exact this)
  rw [minF_ge]
  constructor
  · intro h
    refine ⟨hm, hn, hr, hne, fun t h1 h2 => ?_⟩
    have := h t.toNat (by omega)
    rw [show ((t.toNat : Nat) : Int) = t by omega, e] at this
    omega
  · rintro ⟨_, _, _, _, h⟩ i hi
    by_cases ht : 1 ≤ (i : Int) ∧ (i : Int) ≤ C.ty
    · have := h i ht.1 ht.2
      rw [e]
      omega
    · rw [hout _ ht]
      exact Int.le_refl _
end Go.Proofs.Ytohlkaoophbinaa.Bom.Im
