/- How the program compares keys; rows that nobody turned. -/
import Derived.Test.YtfebaiefoonncaaTbA
namespace Go.Proofs.Ytfebaiefoonncaa.Tb
open Go.RowKit Go.Lib

theorem own_same {w w' : World} {B : Nat} {e : TypeId} {size n : Nat} {v : Value} {xs : List Value} (h : w.ownsRow B e size v n xs) (hs : ∀ q, v.ownBlock = some q → w'.heap[q]? = w.heap[q]?) : w'.ownsRow B e size v n xs := by
  refine ⟨h.1, ?_⟩
  rcases h.2 with h1 | ⟨g, cap, cur, hv, h1, h2, h3⟩
  · exact .inl h1
  · exact .inr ⟨g, cap, cur, hv, h1, (hs g (by rw [hv]; rfl)).trans h2, h3⟩
/-- A slice of a row of the table's. -/
theorem rowK {w : World} {B : Nat} {v : Value} {l : List Key} (h : OwnK w B v l) : ∃ a c, v = .slice a l.length c ∧ l.length ≤ c ∧ c ≤ maxLen ∧ (a = none ∨ ∃ g, a = some ⟨g, 0, none⟩) ∧ ∀ j u, (kcells l)[j]? = some u → ∃ g, a = some ⟨g, 0, none⟩ ∧ g < w.heap.size ∧ w.cell? ⟨g, j, none⟩ = some u := by
  rcases h.2 with ⟨hv, h0⟩ | ⟨g, cap, cur, hv, _, hg, hn, hm, _⟩
  · refine ⟨none, 0, by rw [hv, h0], by omega, by unfold maxLen; omega, .inl rfl, fun j u hj => ?_⟩
    have := (List.getElem?_eq_some_iff.1 hj).1
    rw [kcells_length, h0] at this
    omega
  · refine ⟨some ⟨g, 0, none⟩, cap, hv, hn, hm, .inr ⟨g, rfl⟩, fun j u hj => ⟨g, rfl, (Array.getElem?_eq_some_iff.1 hg).1, ?_⟩⟩
    have := h.cells (g := g) (by rw [hv]; rfl) j u hj
    rw [addr_add, Nat.zero_add] at this
    exact this
set_option maxRecDepth 100000 in
theorem isNaN_any (a : Int) (w : World) : Calls Try.prog 51 #[.int .i64 a] w fun e w' => e = .returned (.bool false) ∧ w = w' := by
  go_enter Try.func51, Try.ntmps51
  go_wp2_with fail
  go_ret
  exact ⟨by simp, rfl⟩
def cmpI (a b : Int) : Int := if a < b then -1 else if b < a then 1 else 0
set_option maxRecDepth 100000 in
theorem cmp_any (a b : Int) (w : World) : Calls Try.prog 50 #[.int .i64 a, .int .i64 b] w fun e w' => e = .returned (.int .i64 (cmpI a b)) ∧ w = w' := by
  have HA := Lib.hid (isNaN_any a w)
  have HB := Lib.hid (isNaN_any b w)
  by_cases h1 : a < b
  · have HC : Hid (cmpI a b = -1) := Lib.hid (by unfold cmpI; rw [if_pos h1])
    go_enter Try.func50, Try.ntmps50
    go_wp2_with fail
    refine HA.out.mono ?_
    rintro e w' ⟨rfl, rfl⟩
    go_wp2_with fail
    refine HB.out.mono ?_
    rintro e w' ⟨rfl, rfl⟩
    go_wp2_with fail
    go_ret
    exact ⟨ret_i64 HC.out.symm, rfl⟩
  · by_cases h2 : b < a
    · have HC : Hid (cmpI a b = 1) := Lib.hid (by unfold cmpI; rw [if_neg h1, if_pos h2])
      go_enter Try.func50, Try.ntmps50
      go_wp2_with fail
      refine HA.out.mono ?_
      rintro e w' ⟨rfl, rfl⟩
      go_wp2_with fail
      refine HB.out.mono ?_
      rintro e w' ⟨rfl, rfl⟩
      go_wp2_with fail
      go_ret
      exact ⟨ret_i64 HC.out.symm, rfl⟩
    · have HC : Hid (cmpI a b = 0) := Lib.hid (by unfold cmpI; rw [if_neg h1, if_neg h2])
      go_enter Try.func50, Try.ntmps50
      go_wp2_with fail
      refine HA.out.mono ?_
      rintro e w' ⟨rfl, rfl⟩
      go_wp2_with fail
      refine HB.out.mono ?_
      rintro e w' ⟨rfl, rfl⟩
      go_wp2_with fail
      go_ret
      exact ⟨ret_i64 HC.out.symm, rfl⟩
theorem cmpI_from (x y : Key) (i : Nat) (h : i < 4) (hc : cmp x y = cmpFrom x y i (4 - i)) : (cmpI (x.at i) (y.at i) = 0 ∧ cmp x y = cmpFrom x y (i + 1) (4 - (i + 1))) ∨ (cmpI (x.at i) (y.at i) ≠ 0 ∧ cmpI (x.at i) (y.at i) = cmp x y) := by
  have hn : 4 - i = (4 - (i + 1)) + 1 := by omega
  rw [hn] at hc
  unfold cmpI
  by_cases h1 : x.at i < y.at i
  · rw [if_pos h1, hc, cmpFrom_less x y i _ h1]
    exact .inr ⟨by decide, rfl⟩
  · by_cases h2 : y.at i < x.at i
    · rw [if_neg h1, if_pos h2, hc, cmpFrom_more x y i _ h2]
      exact .inr ⟨by decide, rfl⟩
    · rw [if_neg h1, if_neg h2, hc, cmpFrom_step x y i _ (by omega)]
      exact .inl ⟨rfl, rfl⟩
set_option maxRecDepth 100000 in
set_option maxHeartbeats 2000000 in
theorem ints_any (b1 b2 : Nat) (x y : Key) (w : World) (h1 : w.heap[b1]? = some (.cells x.cells 65 (0, 0))) (h2 : w.heap[b2]? = some (.cells y.cells 65 (0, 0))) :
    Calls Try.prog 49 #[.slice (some ⟨b1, 0, none⟩) 4 4, .slice (some ⟨b2, 0, none⟩) 4 4] w fun e w' => e = .returned (.int .i64 (cmp x y)) ∧ w = w' := by
  have H1 := Lib.hid h1; have H2 := Lib.hid h2
  clear h1 h2
  go_enter Try.func49, Try.ntmps49
  go_wp2_with fail
  go_loopw [11] (fun t wr => ∃ i : Nat, t = .int .i64 i ∧ i ≤ 4 ∧ wr = w ∧ Hid (cmp x y = cmpFrom x y i (4 - i))) (fun t _ => 4 - (RowKit.intOf t).toNat)
  case atStart => exact ⟨0, rfl, by omega, rfl, Lib.hid rfl⟩
  case round =>
    obtain ⟨i, rfl, hi, rfl, HC⟩ := hrel
    by_cases hlt : i < 4
    · have hx := key_at H1.out i hlt
      have hy := key_at H2.out i hlt
      have HCC := cmpI_from x y i hlt HC.out
      obtain ⟨a, ha⟩ : ∃ a, x.at i = a := ⟨_, rfl⟩
      obtain ⟨b, hb⟩ : ∃ b, y.at i = b := ⟨_, rfl⟩
      rw [ha] at hx HCC
      rw [hb] at hy HCC
      have HCM := Lib.hid (cmp_any a b wr)
      obtain ⟨r, hr⟩ : ∃ r, cmpI a b = r := ⟨_, rfl⟩
      rw [hr] at HCM HCC
      clear ha hb hr
      have hi0 : (0 : Int) ≤ (i : Int) := by omega
      have hi4 : (i : Int) < 4 := by omega
      have hi5 : ¬ (4 : Int) ≤ (i : Int) := by omega
      rcases HCC with ⟨rfl, hc⟩ | ⟨hr, hc⟩
      · have HE := Lib.hid hc
        clear hc
        go_wp2_with fail
        refine HCM.out.mono ?_
        rintro e w' ⟨rfl, rfl⟩
        go_wp2_with fail
        go_roundw
        case rel => exact ⟨i + 1, by go_num, by omega, (by first | rfl | trivial), HE⟩
        case measure => simp [RowKit.intOf]; omega
      · have HE := Lib.hid hc
        have hr2 : (r == 0) = false := by simpa using hr
        have hr3 : (r != 0) = true := by simpa using hr
        clear hc
        go_wp2_with fail
        refine HCM.out.mono ?_
        rintro e w' ⟨rfl, rfl⟩
        go_wp2_with fail
        go_ret
        exact ⟨ret_i64 HE.out, rfl⟩
    · obtain rfl : i = 4 := by omega
      have HE : Hid (cmp x y = 0) := Lib.hid HC.out
      go_wp2_with fail
      go_ret
      exact ⟨ret_i64 HE.out.symm, rfl⟩
set_option maxRecDepth 100000 in
set_option maxHeartbeats 2000000 in
theorem tcompare_any (x y : Key) (w : World) :
    Calls Try.prog 46 #[kV x, kV y] w fun e w' => e = .returned (.int .i64 (cmp x y)) ∧ Below w.heap.size w w' := by
  obtain ⟨Z, hZ⟩ : ∃ Z, (w.alloc (.cells #[.int .i64 x.a, .int .i64 x.b, .int .i64 x.c, .int .i64 x.d] 65)).alloc (.cells #[.int .i64 y.a, .int .i64 y.b, .int .i64 y.c, .int .i64 y.d] 65) = Z := ⟨_, rfl⟩
  have hY : (w.alloc (.cells x.cells 65)).alloc (.cells y.cells 65) = Z := hZ
  have b0 : Z.heap[w.heap.size]? = some (.cells x.cells 65 (0, 0)) := by
    rw [← hY, heap_alloc_old _ _ (by simp)]
    exact heap_alloc_new w _
  have b1 : Z.heap[w.heap.size + 1]? = some (.cells y.cells 65 (0, 0)) := by
    rw [← hY]
    have := heap_alloc_new (w.alloc (.cells x.cells 65)) (.cells y.cells 65)
    simpa using this
  have HB : Hid (∀ m, Below w.heap.size w (Z.drewN m)) := Lib.hid (fun m => by
    have h := ((Below.refl _ w).alloc (Nat.le_refl _) (.cells x.cells 65)).alloc (by simp) (.cells y.cells 65)
    have h2 : Below w.heap.size w Z := by rw [← hY]; exact h
    exact below_drewN h2 m)
  have HC := Lib.hid (fun m => quiet_same (ints_any w.heap.size (w.heap.size + 1) x y (Z.drewN m) b0 b1))
  clear b0 b1 hY
  go_enter Try.func46, Try.ntmps46
  go_wp2_with fail
  clear hZ
  go_quiet (first | (go_at_call 49; exact HC.out _))
  go_wp2_with fail
  go_ret
  exact ⟨rfl, HB.out _⟩
theorem own_under {w w' : World} {B : Nat} {e : TypeId} {size n : Nat} {v : Value} {xs : List Value} (h : w.ownsRow B e size v n xs) (hb : Below w.heap.size w w') : w'.ownsRow B e size v n xs := own_same h (fun q hq => hb.block q (h.lt q hq).2)
end Go.Proofs.Ytfebaiefoonncaa.Tb
