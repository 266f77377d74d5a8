/- GraphStands: its mathematics; its argument's rows; a row of numbers that make has made. -/
import Derived.Test.YtghjcefigdkhnaaGraphH
import Derived.Test.YtghjcefigdkhnaaGraphRows
namespace Go.Proofs.Ytghjcefigdkhnaa.Graph
open Go.RowKit Go.Lib IRows

/-- Pairs of small numbers that lie somewhere. -/
def Us (w : World) (a : Option Addr) (us : List (Nat × Nat)) : Prop := ∀ (i : Nat) (u : Nat × Nat), us[i]? = some u → ∃ g off, a = some ⟨g, off, none⟩ ∧ g < w.heap.size ∧ w.cell? ⟨g, off + i * 2, none⟩ = some (.int .u8 (u.1 : Nat)) ∧ w.cell? ⟨g, off + i * 2 + 1, none⟩ = some (.int .u8 (u.2 : Nat))
theorem us_at {w : World} {a : Option Addr} {us : List (Nat × Nat)} (h : Us w a us) : Hid (∀ W i, Below w.heap.size w W → i < us.length → ∃ g off x y, a = some ⟨g, off, none⟩ ∧ Hid (us[i]? = some (x, y)) ∧ W.cell? ⟨g, off + i * 2, none⟩ = some (.int .u8 (x : Nat)) ∧ W.cell? ⟨g, off + i * 2 + 1, none⟩ = some (.int .u8 (y : Nat))) := Lib.hid (fun W i hW hi => by
  obtain ⟨g, off, e, hg, k0, k1⟩ := h i us[i] (List.getElem?_eq_getElem hi)
  exact ⟨g, off, us[i].1, us[i].2, e, Lib.hid (List.getElem?_eq_getElem hi), ((bcell hW).1 g _ hg).trans k0, ((bcell hW).1 g _ hg).trans k1⟩)
/-- The need that a pair of small numbers stands for. -/
def ndOf (n : Nat) (u : Nat × Nat) : Nd := ⟨((1 + u.1 % n : Nat) : Int), ((1 + u.2 % n : Nat) : Int)⟩
def LL (n : Nat) (us : List (Nat × Nat)) : List Nd := us.map (ndOf n)
theorem LL_take {n : Nat} {us : List (Nat × Nat)} {i : Nat} {u : Nat × Nat} (h : us[i]? = some u) : LL n (us.take (i + 1)) = LL n (us.take i) ++ [ndOf n u] := by
  unfold LL
  rw [List.take_add_one, h, List.map_append]
  rfl
theorem LL_in {n : Nat} (hn : 1 ≤ n) {us : List (Nat × Nat)} {t : Nd} (h : t ∈ LL n us) : ∃ p q : Nat, t = ⟨(p : Int), (q : Int)⟩ ∧ (1 ≤ p ∧ p ≤ n) ∧ 1 ≤ q ∧ q ≤ n := by
  obtain ⟨u, _, rfl⟩ := List.mem_map.1 h
  have h1 := Nat.mod_lt u.1 (show 0 < n by omega)
  have h2 := Nat.mod_lt u.2 (show 0 < n by omega)
  exact ⟨1 + u.1 % n, 1 + u.2 % n, rfl, by omega, by omega⟩
theorem LL_may {n : Nat} (h1 : 1 ≤ n) (h2 : n ≤ 12) {us : List (Nat × Nat)} (hl : us.length ≤ 40) : May (n : Int) (LL n us) := by
  refine ⟨by omega, by unfold LL; rw [List.length_map]; omega, fun t ht => ?_⟩
  obtain ⟨p, q, rfl, hp, hq⟩ := LL_in h1 ht
  unfold OkNd
  simp only
  omega
theorem may_in {n : Int} {l : List Nd} (h : May n l) : InN l := fun t ht => by
  have h1 := h.2.2 t ht
  have h2 := h.1
  unfold OkNd at h1
  unfold I64
  omega
/-- Where there is an order: what is below a node is another one, and ways lead there, not too many. -/
theorem below_fine {n : Int} {l : List Nd} {x y : Int} (he : ordE n l = 0) (hl : l.length ≤ 40) (hx : 1 ≤ x ∧ x ≤ n) (hy : y ∈ belV n l x) : y ≠ x ∧ (1 ≤ y ∧ y ≤ n) ∧ wayE n l x y = 0 ∧ 1 ≤ wayV n l x y := by
  obtain ⟨hm, hst, hlen⟩ := ord_zero he
  have hL := (mem_bel ⟨hm, hx.1, hx.2⟩).1 hy
  have hyb := lead_in hm hL
  have hne : y ≠ x := fun e => by
    rw [e] at hL
    exact (order_iff hm).1 he x hL
  have h1 := nw_lead he hL hx.1 hx.2
  have h2 := nw_bound (to := y) he hx.1 hx.2
  have h3 : 2 ^ l.length ≤ 2 ^ 40 := Nat.pow_le_pow_right (by omega) hl
  have h4 : (2 : Nat) ^ 40 ≤ mi := by decide
  obtain ⟨g1, g2⟩ := way_fine (n := n) (l := l) (x := x) (y := y) ⟨hm, hx, hyb⟩ he (by omega)
  exact ⟨hne, hyb, g1, by rw [g2]; omega⟩
/-- Where there is none, a node is below itself. -/
theorem round_is {n : Int} {l : List Nd} (hm : May n l) (he : ordE n l ≠ 0) : ∃ x, (1 ≤ x ∧ x ≤ n) ∧ x ∈ belV n l x := by
  have h1 : ¬ ∀ x, ¬ Lead l x x := fun h => he ((order_iff hm).2 h)
  obtain ⟨x, hx⟩ := Classical.not_forall.1 h1
  have hx2 : Lead l x x := Classical.not_not.1 hx
  have hb := lead_in hm hx2
  exact ⟨x, hb, (mem_bel ⟨hm, hb.1, hb.2⟩).2 hx2⟩
theorem ord_nine {n : Int} {l : List Nd} (hm : May n l) (he : ordE n l ≠ 0) : ordE n l = 9 ∧ ordV n l = [] ∧ degV n l = [] := by
  cases ho : ordF n l n.toNat [] with
  | none =>
    obtain ⟨e1, e2⟩ := ord_none hm ho
    exact ⟨e1, e2, by unfold degV; rw [if_neg he]⟩
  | some o => exact absurd (ord_some hm ho).1 he
/-- A row of numbers that make has made. -/
structure IO (W : World) (A N : Nat) (f : Nat → Int) : Prop where
  ints : ∀ i, i ≤ N → W.cell? ⟨A, i, none⟩ = some (.int .i64 (f i)) ∧ W.frozen? ⟨A, i, none⟩ = false
theorem IO.setI {W : World} {A N : Nat} {f : Nat → Int} (h : IO W A N f) (k : Nat) (v : Int) : IO (W.setCell ⟨A, k, none⟩ (.int .i64 v)) A N (up f k v) := by
  refine ⟨fun i hi => ?_⟩
  rw [World.frozen?_setCell]
  refine ⟨?_, (h.ints i hi).2⟩
  unfold up
  by_cases e : i = k
  · subst e
    rw [if_pos rfl, World.cell?_setCell_same (h := (h.ints i hi).1)]
  · rw [if_neg e, World.cell?_setCell_other (h := addr_ne (.inr fun x => e x.symm))]
    exact (h.ints i hi).1
/-- Where each of the first i of an order stands, from 1 on; 0 of the others. -/
structure Placed (o : List Int) (i : Nat) (f : Nat → Int) : Prop where
  done : ∀ (j p : Nat), j < i → o[j]? = some (p : Int) → f p = (j : Int) + 1
  not : ∀ q : Nat, (q : Int) ∉ o.take i → f q = 0
theorem placed_zero (o : List Int) : Placed o 0 (fun _ => 0) := ⟨fun j p h => by omega, fun _ _ => rfl⟩
theorem Placed.more {o : List Int} {i p : Nat} {f : Nat → Int} (h : Placed o i f) (hd : o.Nodup) (hp : o[i]? = some (p : Int)) : Placed o (i + 1) (up f p ((i : Int) + 1)) := by
  refine ⟨fun j q hj hq => ?_, fun q hq => ?_⟩
  · unfold up
    by_cases e : q = p
    · rw [if_pos e]
      have hij : j = i := by
        obtain ⟨h1, h2⟩ := List.getElem?_eq_some_iff.1 hq
        obtain ⟨h3, h4⟩ := List.getElem?_eq_some_iff.1 hp
        rcases Nat.lt_trichotomy j i with h5 | h5 | h5
        · exact absurd (by rw [h2, h4, e]) (List.pairwise_iff_getElem.1 hd j i h1 h3 h5)
        · exact h5
        · omega
      rw [hij]
    · rw [if_neg e]
      refine h.done j q ?_ hq
      rcases Nat.lt_or_ge j i with h5 | h5
      · exact h5
      · have : j = i := by omega
        subst this
        rw [hp] at hq
        injection hq with hq
        omega
  · rw [List.take_add_one, hp] at hq
    unfold up
    rw [if_neg (fun e => hq (by simp [e]))]
    exact h.not q fun h2 => hq (by simp [h2])
theorem placed_behind {n : Int} {l : List Nd} {o : List Int} {f : Nat → Int} {p q : Nat} (h : Placed o o.length f) (hst : Stands n l o) (hlen : o.length = n.toNat) (ht : (⟨(p : Int), (q : Int)⟩ : Nd) ∈ l) (hp : 1 ≤ (p : Int) ∧ (p : Int) ≤ n) : f q < f p := by
  have hx := stands_all hst hlen hp.1 hp.2
  obtain ⟨i, hi, hxi⟩ := List.getElem_of_mem hx
  have hx2 : o[i]? = some (p : Int) := by rw [← hxi]; exact List.getElem?_eq_getElem hi
  have hb := hst.behind i (p : Int) hx2 _ ht rfl
  obtain ⟨j, hj, hjx⟩ := List.getElem_of_mem hb
  rw [List.length_take] at hj
  rw [List.getElem_take] at hjx
  have hjx : o[j] = (q : Int) := hjx
  have h1 := h.done i p hi hx2
  have h2 := h.done j q (by omega) (by rw [← hjx]; exact List.getElem?_eq_getElem (by omega))
  omega
end Go.Proofs.Ytghjcefigdkhnaa.Graph
