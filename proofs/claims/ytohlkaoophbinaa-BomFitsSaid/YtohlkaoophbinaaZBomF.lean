/- The document's Fits. -/
import Derived.Test.YtohlkaoophbinaaZBomX
import Derived.Test.YtohlkaoophbinaaZBomD
import Derived.Test.YtohlkaoophbinaaZRecC
import Derived.Test.YtohlkaoophbinaaZCatMath
import Derived.BigQuiet
namespace Go.Proofs.Ytohlkaoophbinaa.Bom
open Go.RowKit Go.Lib IRows
open Goods (St Sts OwnS cnt)
open Cat (Cat PB CM CatAt Lim box_cat pOf)
open Recipe (needsE needsL needL up nd BlIn)

set_option maxHeartbeats 400000 in
theorem radd_yes (a b : Int) (a1 : 0 ≤ a) (b1 : 0 ≤ b) (h : a + b ≤ 9223372036854775807) (w : World) :
    Calls Try.prog 48 #[.int .i64 a, .int .i64 b] w fun e w' => e = .returned (.tuple #[.int .i64 (a + b), .int .i64 0]) ∧ w = w' := by
  by_cases h0 : 0 < b
  · have hd0 : decide (0 < b) = true := by simp; omega
    have hd1 : decide (9223372036854775807 - b < a) = false := by simp; omega
    have hd2 : decide (b < 0) = false := by simp; omega
    go_enter Try.func48, Try.ntmps48
    go_wp2
    go_ret2
    exact ⟨rfl, rfl⟩
  · have hd0 : decide (0 < b) = false := by simp; omega
    have hd1 : decide (b < 0) = false := by simp; omega
    go_enter Try.func48, Try.ntmps48
    go_wp2
    go_ret2
    exact ⟨rfl, rfl⟩
/-- What runs need is a list of normal stacks. -/
theorem needs_norm {b : Recipe.Bl} {lv r : Int} (h : needsE b lv r = 0) : Goods.valN (needL b.s lv r) = needL b.s lv r ∧ ∀ x, 0 ≤ cnt (needL b.s lv r) x ∧ cnt (needL b.s lv r) x ≤ 1125899906842624 := by
  obtain ⟨hok, hlv, _⟩ := Recipe.needsE_zero h
  have hli := hok.2.2.2.2.2.2.2.1
  have hq : ∀ t ∈ b.s, nd t.qty lv r ≤ Recipe.mq := by
    by_cases hq : ∀ t ∈ b.s, nd t.qty lv r ≤ Recipe.mq
    · exact hq
    · have := (Recipe.needsE_over hok hlv hq).1
      rw [h] at this
      cases this
  have hno : Goods.Norm b.s := by
    rw [← hli.2.2.1]
    exact Goods.norm_nl (Goods.errN_zero hli.2.1).1
  have hN : Goods.Norm (needL b.s lv r) := by
    refine ⟨Goods.rise_map hno.rise _, fun s hs => ?_, fun s hs => ?_⟩
    · obtain ⟨u, hu, rfl⟩ := List.mem_map.1 hs
      exact hno.kind u hu
    · obtain ⟨u, hu, rfl⟩ := List.mem_map.1 hs
      have := Recipe.nd_run u.qty lv r
      have := hlv.2
      show 1 ≤ nd u.qty lv r
      omega
  have hb : ∀ x, 0 ≤ cnt (needL b.s lv r) x ∧ cnt (needL b.s lv r) x ≤ 1125899906842624 := fun x => by
    refine ⟨need_nonneg (by have := hlv.2; omega) x, ?_⟩
    by_cases hx : ∃ s ∈ needL b.s lv r, s.kind = x
    · obtain ⟨s, hs, rfl⟩ := hx
      rw [Goods.cnt_at hN.rise hs]
      obtain ⟨u, hu, rfl⟩ := List.mem_map.1 hs
      exact hq u hu
    · rw [Goods.cnt_none fun s hs e => hx ⟨s, hs, e⟩]
      omega
  refine ⟨?_, hb⟩
  rw [Goods.valN_ok (Goods.errN_ok (Goods.fine_norm hN) fun ⟨k, hk⟩ => by have := (hb k).2; have e : Goods.mq = 1125899906842624 := rfl; omega)]
  exact Goods.nl_norm hN
theorem nS_take {lv x : Int} : ∀ {bs : List PB} {rs : List Int} {i : Nat} {b : PB} {r : Int}, bs[i]? = some b → rs[i]? = some r → nS lv x (bs.take (i + 1)) (rs.take (i + 1)) = nS lv x (bs.take i) (rs.take i) + (if 0 < r then cnt (needL b.s lv r) x else 0)
  | [], _, i, b, r, h, _ => by simp at h
  | _ :: _, [], i, b, r, _, h => by simp at h
  | c :: bs, q :: rs, 0, b, r, h1, h2 => by
    simp at h1 h2
    subst h1 h2
    simp [nS]
  | c :: bs, q :: rs, i + 1, b, r, h1, h2 => by
    have h1 : bs[i]? = some b := by simpa using h1
    have h2 : rs[i]? = some r := by simpa using h2
    have := nS_take (lv := lv) (x := x) h1 h2
    rw [List.take_succ_cons, List.take_succ_cons, nS, this, List.take_succ_cons, List.take_succ_cons, nS]
    omega
theorem mS_take {x : Int} : ∀ {bs : List PB} {rs : List Int} {i : Nat} {b : PB} {r : Int}, bs[i]? = some b → rs[i]? = some r → mS x (bs.take (i + 1)) (rs.take (i + 1)) = mS x (bs.take i) (rs.take i) + (if b.ot = x then r * b.per else 0)
  | [], _, i, b, r, h, _ => by simp at h
  | _ :: _, [], i, b, r, _, h => by simp at h
  | c :: bs, q :: rs, 0, b, r, h1, h2 => by
    simp at h1 h2
    subst h1 h2
    simp [mS]
  | c :: bs, q :: rs, i + 1, b, r, h1, h2 => by
    have h1 : bs[i]? = some b := by simpa using h1
    have h2 : rs[i]? = some r := by simpa using h2
    have := mS_take (x := x) h1 h2
    rw [List.take_succ_cons, List.take_succ_cons, mS, this, List.take_succ_cons, List.take_succ_cons, mS]
    omega
/-- All that is asked ahead of the sums. -/
def FitsA (C : Cat) (kind n lv : Int) (raw : List St) (rs : List Int) : Prop := mayE C kind lv raw = 0 ∧ (1 ≤ n ∧ n ≤ Recipe.mq) ∧ RunsOk C rs
theorem fits_not {C : Cat} {kind n lv : Int} {raw : List St} {rs : List Int} (h : ¬ FitsA C kind n lv raw rs) : ¬ FitsP C kind n lv raw rs := fun k => h ⟨k.1, k.2.1, k.2.2.1⟩
end Go.Proofs.Ytohlkaoophbinaa.Bom
