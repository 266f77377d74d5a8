/- Where a key stands: the search, and its closure. -/
import Derived.Test.YtfebaiefoonncaaTdrA
namespace Go.Proofs.Ytfebaiefoonncaa.Tb.Dr
open Go.RowKit Go.Lib Draft

set_option maxRecDepth 100000 in
set_option maxHeartbeats 2000000 in
theorem closure_any (l : List Pr) (k : Key) (ks : Value) (b1 b2 i : Nat) (w : World) (hi : i < l.length) (h1 : w.cell? ⟨b1, 0, none⟩ = some ks) (h2 : w.heap[b2]? = some (.cells k.cells 65 (0, 0))) (hk : OwnK w 0 ks (keys l)) :
    Calls Try.prog 45 #[.int .i64 (i : Nat), ptr b1, ptr b2] w fun e w' => e = .returned (.bool (up l k i)) ∧ Below w.heap.size w w' := by
  obtain ⟨p, hp⟩ : ∃ p, l[i]? = some p := ⟨l[i], List.getElem?_eq_getElem hi⟩
  obtain ⟨a, c, rfl, hlc, hat⟩ := row_key hk
  have hkp : (keys l)[i]? = some p.k := by unfold keys; rw [List.getElem?_map, hp]; rfl
  obtain ⟨g, rfl, hg, c0, c1, c2, c3⟩ := hat i p.k hkp
  have hlen : (keys l).length = l.length := by unfold keys; rw [List.length_map]
  obtain ⟨n, hn⟩ : ∃ n, (keys l).length = n := ⟨_, rfl⟩
  rw [hn] at h1 hlc hlen
  have d0 := key_at h2 0 (by omega); have d1 := key_at h2 1 (by omega); have d2 := key_at h2 2 (by omega); have d3 := key_at h2 3 (by omega)
  simp only [Key.at] at d0 d1 d2 d3
  obtain ⟨r, hr⟩ : ∃ r, cmp p.k k = r := ⟨_, rfl⟩
  have HU : Hid (up l k i = decide (0 ≤ r)) := Lib.hid (by rw [up_some hp, hr])
  have HC : Hid (∀ W, Below w.heap.size w W → Calls Try.prog 46 #[kV p.k, kV k] W fun e w' => e = .returned (.int .i64 r) ∧ Hid (Below w.heap.size w w')) := Lib.hid (fun W hW => by
    refine (tcompare_any p.k k W).mono ?_
    rintro e w' ⟨rfl, hb⟩
    rw [hr]
    exact ⟨rfl, Lib.hid (below_then hW hb)⟩)
  have hin : (i : Int) < (n : Int) := by omega
  have hi0 : (0 : Int) ≤ (i : Int) := by omega
  clear h2 hk hat hkp hn hlen hp hr hi
  go_enter Try.func45, Try.ntmps45
  go_wp2_with fail
  go_region_with (go_at_call 46; with_reducible (refine (HC.out _ ((Below.refl _ w).drew)).mono ?_); rintro e w3 ⟨rfl, hb3⟩)
  all_goals
    go_wp2_with fail
    go_ret
    exact ⟨ret_bool HU.out.symm, hb3.out⟩
set_option maxRecDepth 100000 in
set_option maxHeartbeats 4000000 in
theorem search_any (n : Nat) (p : Nat → Bool) (b1 b2 : Nat) (w : World) (hn : n ≤ 1048576)
    (hf : ∀ (W : World) (i : Nat), Below w.heap.size w W → i < n → Calls Try.prog 45 #[.int .i64 (i : Nat), ptr b1, ptr b2] W fun e w' => e = .returned (.bool (p i)) ∧ Below W.heap.size W w')
    (hmono : ∀ a b, a ≤ b → b < n → p a = true → p b = true) :
    Calls Try.prog 44 #[.int .i64 (n : Nat), .func (.func 45) #[] #[ptr b1, ptr b2]] w fun e w' => ∃ m : Nat, e = .returned (.int .i64 (m : Nat)) ∧ (m ≤ n ∧ (∀ t, t < m → p t = false) ∧ ∀ t, m ≤ t → t < n → p t = true) ∧ Below w.heap.size w w' := by
  have hn2 : (n : Int) ≤ 1048576 := by omega
  have HF : Hid (∀ (W : World) (i : Nat) (b : Bool), Below w.heap.size w W → i < n → p i = b → Calls Try.prog 45 #[.int .i64 (i : Nat), ptr b1, ptr b2] W fun e w' => e = .returned (.bool b) ∧ Hid (Below w.heap.size w w')) := Lib.hid (fun W i b hW hi hb => by
    subst hb
    refine (hf W i hW hi).mono ?_
    rintro e w' ⟨rfl, hb⟩
    exact ⟨rfl, Lib.hid (below_then hW hb)⟩)
  have HM := Lib.hid hmono
  clear hf hmono hn
  go_enter Try.func44, Try.ntmps44
  go_wp2_with fail
  go_loopw [5, 6] (fun s t wr => ∃ lo hi : Nat, s = .int .i64 lo ∧ t = .int .i64 hi ∧ lo ≤ hi ∧ hi ≤ n ∧ Hid ((∀ t, t < lo → p t = false) ∧ (∀ t, hi ≤ t → t < n → p t = true)) ∧ Hid (Below w.heap.size w wr)) (fun s t _ => (RowKit.intOf t - RowKit.intOf s).toNat)
  case atStart => exact ⟨0, n, rfl, rfl, by omega, by omega, Lib.hid ⟨fun t ht => by omega, fun t h1 h2 => by omega⟩, Lib.hid (Below.refl _ _)⟩
  case round =>
    obtain ⟨lo, hi, rfl, rfl, hlh, hin, HI, HB⟩ := hrel
    by_cases hlt : lo < hi
    · obtain ⟨mid, hmid⟩ : ∃ mid, (lo + hi) / 2 = mid := ⟨_, rfl⟩
      have hm1 : lo ≤ mid := by omega
      have hm2 : mid < hi := by omega
      have hmi : ((lo : Int) + (hi : Int)) / 2 = (mid : Int) := by omega
      have hlt2 : (lo : Int) < (hi : Int) := by omega
      have hl0 : (0 : Int) ≤ (lo : Int) := by omega
      have hhi2 : (hi : Int) ≤ 1048576 := by omega
      cases hp : p mid with
      | false =>
        have HC := Lib.hid (HF.out wr mid false HB.out (by omega) hp)
        have HI2 : Hid ((∀ t, t < mid + 1 → p t = false) ∧ (∀ t, hi ≤ t → t < n → p t = true)) := Lib.hid ⟨fun t ht => (by
          cases h : p t with
          | false => rfl
          | true => have := HM.out t mid (by omega) (by omega) h; rw [hp] at this; cases this), HI.out.2⟩
        clear hp hmid
        go_wp2_with fail
        refine HC.out.mono ?_
        rintro e w' ⟨rfl, hb⟩
        go_wp2_with fail
        go_roundw
        case rel => exact ⟨mid + 1, hi, by go_num, rfl, by omega, by omega, HI2, hb⟩
        case measure => simp [RowKit.intOf]; omega
      | true =>
        have HC := Lib.hid (HF.out wr mid true HB.out (by omega) hp)
        have HI2 : Hid ((∀ t, t < lo → p t = false) ∧ (∀ t, mid ≤ t → t < n → p t = true)) := Lib.hid ⟨HI.out.1, fun t h1 h2 => HM.out mid t h1 h2 hp⟩
        clear hp hmid
        go_wp2_with fail
        refine HC.out.mono ?_
        rintro e w' ⟨rfl, hb⟩
        go_wp2_with fail
        go_roundw
        case rel => exact ⟨lo, mid, rfl, by go_num, by omega, by omega, HI2, hb⟩
        case measure => simp [RowKit.intOf]; omega
    · obtain rfl : hi = lo := by omega
      go_wp2_with fail
      go_ret
      exact ⟨hi, rfl, ⟨hin, HI.out⟩, HB.out⟩
end Go.Proofs.Ytfebaiefoonncaa.Tb.Dr
