/- Where a key stands: the search, and its closure. -/
import Derived.Test.YtkljaaeeocghjaaTinImA
namespace Go.Proofs.Ytkljaaeeocghjaa.Tab.Im
open Go.RowKit Go.Lib

theorem place_bound {l : List Pair} {k : Key} {n : Nat} (hn : n ≤ l.length) (h1 : ∀ t p, t < n → l[t]? = some p → cmp p.k k < 0) (h2 : ∀ t p, n ≤ t → l[t]? = some p → 0 ≤ cmp p.k k) : place l k = n := by
  unfold place
  rw [← List.take_append_drop n l, List.filter_append, List.length_append]
  have e1 : (l.take n).filter (below k) = l.take n := by
    refine List.filter_eq_self.2 (fun p hp => ?_)
    obtain ⟨t, ht, rfl⟩ := List.getElem_of_mem hp
    rw [List.length_take] at ht
    unfold below
    refine decide_eq_true (h1 t _ (by omega) ?_)
    rw [List.getElem_take]
    exact List.getElem?_eq_getElem (by omega)
  have e2 : (l.drop n).filter (below k) = [] := by
    refine List.filter_eq_nil_iff.2 (fun p hp => ?_)
    obtain ⟨t, ht, rfl⟩ := List.getElem_of_mem hp
    rw [List.length_drop] at ht
    have := h2 (n + t) _ (by omega) (List.getElem?_eq_getElem (by omega))
    unfold below
    rw [List.getElem_drop]
    simp
    omega
  rw [e1, e2, List.length_take, List.length_nil]
  omega
theorem has_at {l : List Pair} (hr : Rising l) (k : Key) : (has l k = true ↔ ∃ p, l[place l k]? = some p ∧ p.k = k) := by
  obtain ⟨A, B, hA, hB, hp, hc⟩ := rising_split k hr
  rw [hp]
  rcases hc with ⟨c1, c2⟩ | ⟨c1, v, c2⟩
  · rw [c1, c2]
    refine ⟨fun h => (by cases h), fun ⟨p, h1, h2⟩ => ?_⟩
    rw [List.getElem?_append_right (Nat.le_refl _), Nat.sub_self] at h1
    have h3 := hB p (List.mem_of_getElem? h1)
    rw [h2] at h3
    have := cmp_zero.2 (rfl : k = k)
    omega
  · rw [c1, c2]
    refine ⟨fun _ => ⟨⟨k, v⟩, ?_, rfl⟩, fun _ => rfl⟩
    rw [List.getElem?_append_right (Nat.le_refl _), Nat.sub_self]
    rfl
def up (l : List Pair) (k : Key) (i : Nat) : Bool := match l[i]? with | some p => decide (0 ≤ cmp p.k k) | none => false
theorem up_some {l : List Pair} {k : Key} {i : Nat} {p : Pair} (h : l[i]? = some p) : up l k i = decide (0 ≤ cmp p.k k) := by unfold up; rw [h]
theorem up_mono {l : List Pair} (hr : Rising l) (k : Key) (a b : Nat) (hab : a ≤ b) (hb : b < l.length) (h : up l k a = true) : up l k b = true := by
  rcases Nat.eq_or_lt_of_le hab with rfl | hlt
  · exact h
  · have ha : l[a]? = some l[a] := List.getElem?_eq_getElem (by omega)
    have hb' : l[b]? = some l[b] := List.getElem?_eq_getElem hb
    rw [up_some ha] at h
    rw [up_some hb']
    have h1 := of_decide_eq_true h
    have h2 : cmp l[a].k l[b].k < 0 := List.pairwise_iff_getElem.1 hr a b (by omega) hb hlt
    refine decide_eq_true ?_
    rcases Int.lt_or_le (cmp l[b].k k) 0 with h3 | h3
    · have := cmp_trans h2 h3
      omega
    · exact h3
theorem row_key {w : World} {B : Nat} {v : Value} {l : List Key} (h : OwnK w B v l) : ∃ a c, v = .slice a l.length c ∧ l.length ≤ c ∧ ∀ (i : Nat) (p : Key), l[i]? = some p → ∃ g, a = some ⟨g, 0, none⟩ ∧ g < w.heap.size ∧
    w.cell? ⟨g, i * 4, none⟩ = some (.int .i64 p.a) ∧ w.cell? ⟨g, i * 4 + 1, none⟩ = some (.int .i64 p.b) ∧ w.cell? ⟨g, i * 4 + 2, none⟩ = some (.int .i64 p.c) ∧ w.cell? ⟨g, i * 4 + 3, none⟩ = some (.int .i64 p.d) := by
  obtain ⟨a, c, hv, hc, _, _, hat⟩ := rowK h
  refine ⟨a, c, hv, hc, fun i p hi => ?_⟩
  obtain ⟨g, rfl, hg, c0⟩ := hat _ _ (kcells_at l i p hi 0 _ rfl)
  have hh : ∀ j u, (keyCells p)[j]? = some u → w.cell? ⟨g, i * 4 + j, none⟩ = some u := fun j u hj => by
    obtain ⟨g2, e, _, c1⟩ := hat _ _ (kcells_at l i p hi j u hj)
    cases e
    exact c1
  exact ⟨g, rfl, hg, c0, hh 1 _ rfl, hh 2 _ rfl, hh 3 _ rfl⟩
set_option maxRecDepth 100000 in
set_option maxHeartbeats 2000000 in
theorem closure_any (l : List Pair) (k : Key) (ks : Value) (b1 b2 i : Nat) (w : World) (hi : i < l.length) (h1 : w.cell? ⟨b1, 0, none⟩ = some ks) (h2 : w.heap[b2]? = some (.cells k.cells 81 (0, 0))) (hk : OwnK w 0 ks (keys l)) :
    Calls Try.prog 66 #[.int .i64 (i : Nat), ptr b1, ptr b2] w fun e w' => e = .returned (.bool (up l k i)) ∧ Below w.heap.size w w' := by
  obtain ⟨p, hp⟩ : ∃ p, l[i]? = some p := ⟨l[i], List.getElem?_eq_getElem hi⟩
  obtain ⟨a, c, rfl, hlc, hat⟩ := row_key hk
  have hkp : (keys l)[i]? = some p.k := by unfold keys; rw [List.getElem?_map, hp]; rfl
  obtain ⟨g, rfl, hg, c0, c1, c2, c3⟩ := hat i p.k hkp
  have hlen : (keys l).length = l.length := by unfold keys; rw [List.length_map]
  obtain ⟨n, hn⟩ : ∃ n, (keys l).length = n := ⟨_, rfl⟩
  rw [hn] at h1 hlc hlen
  have d0 := key_at h2 0 (by omega); have d1 := key_at h2 1 (by omega); have d2 := key_at h2 2 (by omega); have d3 := key_at h2 3 (by omega)
  simp only [Key.at] at d0 d1 d2 d3
  obtain ⟨r, hr⟩ : ∃ r, cmp p.k k = r := ⟨_, rfl⟩
  have HU : Hid (up l k i = decide (0 ≤ r)) := Lib.hid (by rw [up_some hp, hr])
  have HC : Hid (∀ W, Below w.heap.size w W → Calls Try.prog 67 #[kV p.k, kV k] W fun e w' => e = .returned (.int .i64 r) ∧ Hid (Below w.heap.size w w')) := Lib.hid (fun W hW => by
    refine (tcompare_any p.k k W).mono ?_
    rintro e w' ⟨rfl, hb⟩
    rw [hr]
    exact ⟨rfl, Lib.hid (below_then hW hb)⟩)
  have hin : (i : Int) < (n : Int) := by omega
  have hi0 : (0 : Int) ≤ (i : Int) := by omega
  clear h2 hk hat hkp hn hlen hp hr hi
  go_enter Try.func66, Try.ntmps66
  go_wp2_with fail
  go_region_with (go_at_call 67; with_reducible (refine (HC.out _ ((Below.refl _ w).drew)).mono ?_); rintro e w3 ⟨rfl, hb3⟩)
  all_goals
    go_wp2_with fail
    go_ret
    exact ⟨ret_bool HU.out.symm, hb3.out⟩
set_option maxRecDepth 100000 in
set_option maxHeartbeats 4000000 in
theorem search_any (n : Nat) (p : Nat → Bool) (b1 b2 : Nat) (w : World) (hn : n ≤ 1048576)
    (hf : ∀ (W : World) (i : Nat), Below w.heap.size w W → i < n → Calls Try.prog 66 #[.int .i64 (i : Nat), ptr b1, ptr b2] W fun e w' => e = .returned (.bool (p i)) ∧ Below W.heap.size W w')
    (hmono : ∀ a b, a ≤ b → b < n → p a = true → p b = true) :
    Calls Try.prog 65 #[.int .i64 (n : Nat), .func (.func 66) #[] #[ptr b1, ptr b2]] w fun e w' => ∃ m : Nat, e = .returned (.int .i64 (m : Nat)) ∧ (m ≤ n ∧ (∀ t, t < m → p t = false) ∧ ∀ t, m ≤ t → t < n → p t = true) ∧ Below w.heap.size w w' := by
  have hn2 : (n : Int) ≤ 1048576 := by omega
  have HF : Hid (∀ (W : World) (i : Nat) (b : Bool), Below w.heap.size w W → i < n → p i = b → Calls Try.prog 66 #[.int .i64 (i : Nat), ptr b1, ptr b2] W fun e w' => e = .returned (.bool b) ∧ Hid (Below w.heap.size w w')) := Lib.hid (fun W i b hW hi hb => by
    subst hb
    refine (hf W i hW hi).mono ?_
    rintro e w' ⟨rfl, hb⟩
    exact ⟨rfl, Lib.hid (below_then hW hb)⟩)
  have HM := Lib.hid hmono
  clear hf hmono hn
  go_enter Try.func65, Try.ntmps65
  go_wp2_with fail
  go_loopw [5, 6] (fun s t wr => ∃ lo hi : Nat, s = .int .i64 lo ∧ t = .int .i64 hi ∧ lo ≤ hi ∧ hi ≤ n ∧ Hid ((∀ t, t < lo → p t = false) ∧ (∀ t, hi ≤ t → t < n → p t = true)) ∧ Hid (Below w.heap.size w wr)) (fun s t _ => (RowKit.intOf t - RowKit.intOf s).toNat)
  case atStart => exact ⟨0, n, rfl, rfl, by omega, by omega, Lib.hid ⟨fun t ht => by omega, fun t h1 h2 => by omega⟩, Lib.hid (Below.refl _ _)⟩
  case round =>
    obtain ⟨lo, hi, rfl, rfl, hlh, hin, HI, HB⟩ := hrel
    by_cases hlt : lo < hi
    · obtain ⟨mid, hmid⟩ : ∃ mid, (lo + hi) / 2 = mid := ⟨_, rfl⟩
      have hm1 : lo ≤ mid := by omega
      have hm2 : mid < hi := by omega
      have hmi : ((lo : Int) + (hi : Int)) / 2 = (mid : Int) := by omega
      have hlt2 : (lo : Int) < (hi : Int) := by omega
      have hl0 : (0 : Int) ≤ (lo : Int) := by omega
      have hhi2 : (hi : Int) ≤ 1048576 := by omega
      cases hp : p mid with
      | false =>
        have HC := Lib.hid (HF.out wr mid false HB.out (by omega) hp)
        have HI2 : Hid ((∀ t, t < mid + 1 → p t = false) ∧ (∀ t, hi ≤ t → t < n → p t = true)) := Lib.hid ⟨fun t ht => (by
          cases h : p t with
          | false => rfl
          | true => have := HM.out t mid (by omega) (by omega) h; rw [hp] at this; cases this), HI.out.2⟩
        clear hp hmid
        go_wp2_with fail
        refine HC.out.mono ?_
        rintro e w' ⟨rfl, hb⟩
        go_wp2_with fail
        go_roundw
        case rel => exact ⟨mid + 1, hi, by go_num, rfl, by omega, by omega, HI2, hb⟩
        case measure => simp [RowKit.intOf]; omega
      | true =>
        have HC := Lib.hid (HF.out wr mid true HB.out (by omega) hp)
        have HI2 : Hid ((∀ t, t < lo → p t = false) ∧ (∀ t, mid ≤ t → t < n → p t = true)) := Lib.hid ⟨HI.out.1, fun t h1 h2 => HM.out mid t h1 h2 hp⟩
        clear hp hmid
        go_wp2_with fail
        refine HC.out.mono ?_
        rintro e w' ⟨rfl, hb⟩
        go_wp2_with fail
        go_roundw
        case rel => exact ⟨lo, mid, rfl, by go_num, by omega, by omega, HI2, hb⟩
        case measure => simp [RowKit.intOf]; omega
    · obtain rfl : hi = lo := by omega
      go_wp2_with fail
      go_ret
      exact ⟨hi, rfl, ⟨hin, HI.out⟩, HB.out⟩
end Go.Proofs.Ytkljaaeeocghjaa.Tab.Im
