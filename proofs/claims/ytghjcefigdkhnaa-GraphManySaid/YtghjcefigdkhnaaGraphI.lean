/- GraphMany, for any graph that keeps its contracts. -/
import Derived.Test.YtghjcefigdkhnaaGraphH
import Derived.Test.YtghjcefigdkhnaaGraphRows
namespace Go.Proofs.Ytghjcefigdkhnaa.Graph
open Go.RowKit Go.Lib IRows

/-- A ladder: two needs for each step. -/
def lad : Nat → List Nd
  | 0 => []
  | i + 1 => (lad i ++ [⟨(i : Int) + 1, (i : Int) + 1 + 1⟩]) ++ [⟨(i : Int) + 1, (i : Int) + 1 + 1⟩]
theorem lad_length : ∀ n, (lad n).length = 2 * n
  | 0 => rfl
  | n + 1 => by
    unfold lad
    simp [lad_length n]
    omega
theorem lad_mem : ∀ {n : Nat} {t : Nd}, t ∈ lad n → 1 ≤ t.a ∧ t.a ≤ n ∧ t.b = t.a + 1
  | n + 1, t, h => by
    have key : t ∈ lad n ∨ t = ⟨(n : Int) + 1, (n : Int) + 1 + 1⟩ := by
      unfold lad at h
      simp at h
      exact h
    rcases key with h | h
    · have := lad_mem h
      omega
    · rw [h]
      exact ⟨by show (1 : Int) ≤ (n : Int) + 1; omega, by show (n : Int) + 1 ≤ ((n + 1 : Nat) : Int); omega, rfl⟩
theorem lad_may {n : Nat} (hn : n ≤ 63) : May ((n : Int) + 1) (lad n) := by
  refine ⟨by omega, by rw [lad_length]; omega, fun t ht => ?_⟩
  have := lad_mem ht
  unfold OkNd
  omega
theorem lad_up {n : Nat} {x y : Int} (h : Lead (lad n) x y) : x < y := by
  induction h with
  | one ht e =>
    have h1 := (lad_mem ht).2.2
    rw [e] at h1
    omega
  | more _ ht e ih =>
    have h1 := (lad_mem ht).2.2
    rw [e] at h1
    omega
theorem lad_order {n : Nat} (hn : n ≤ 63) : ordE ((n : Int) + 1) (lad n) = 0 := (order_iff (lad_may hn)).2 fun x hx => by
  have := lad_up hx
  omega
theorem sum_lad (x : Int) (g : Int → Nat) : ∀ n : Nat, sumA x g (lad n) = if 1 ≤ x ∧ x ≤ n then 2 * g (x + 1) else 0
  | 0 => by
    rw [if_neg (by omega)]
    rfl
  | n + 1 => by
    unfold lad
    rw [sumA_append, sumA_append, sum_lad x g n]
    simp only [sumA, Nat.add_zero]
    by_cases e : (n : Int) + 1 = x
    · rw [if_pos e, if_neg (by omega), if_pos (by omega), show (n : Int) + 1 + 1 = x + 1 by omega]
      omega
    · rw [if_neg e]
      by_cases h : 1 ≤ x ∧ x ≤ n
      · rw [if_pos h, if_pos (by omega)]
        omega
      · rw [if_neg h, if_neg (by omega)]
theorem lad_ways {n : Nat} (hn : n ≤ 63) : ∀ d : Nat, d ≤ n → nw ((n : Int) + 1) (lad n) ((n : Int) + 1) ((n : Int) + 1 - d) = 2 ^ d
  | 0, _ => by
    rw [nw_rec (lad_order hn) (by omega) (by omega), sum_lad]
    unfold one
    rw [if_pos (by omega), if_neg (by omega)]
  | d + 1, hd => by
    have ih := lad_ways hn d (by omega)
    rw [nw_rec (lad_order hn) (by omega) (by omega), sum_lad]
    unfold one
    rw [if_neg (by omega), if_pos (by omega), show (n : Int) + 1 - ((d + 1 : Nat) : Int) + 1 = (n : Int) + 1 - d by omega, ih, Nat.pow_succ]
    omega
theorem lad_way {n : Nat} (h1 : 1 ≤ n) (hn : n ≤ 63) : (n < 63 → wayE ((n : Int) + 1) (lad n) 1 ((n : Int) + 1) = 0 ∧ wayV ((n : Int) + 1) (lad n) 1 ((n : Int) + 1) = ((2 ^ n : Nat) : Int)) ∧ (63 ≤ n → wayE ((n : Int) + 1) (lad n) 1 ((n : Int) + 1) = 5 ∧ wayV ((n : Int) + 1) (lad n) 1 ((n : Int) + 1) = 0) := by
  have e := lad_ways hn n (Nat.le_refl _)
  rw [show (n : Int) + 1 - n = 1 by omega] at e
  have ok : WayOk ((n : Int) + 1) (lad n) 1 ((n : Int) + 1) := ⟨lad_may hn, by omega, by omega⟩
  refine ⟨fun h => ?_, fun h => ?_⟩
  · have h2 : 2 ^ n ≤ 2 ^ 62 := Nat.pow_le_pow_right (by omega) (by omega)
    have := way_fine ok (lad_order hn) (by rw [e]; unfold mi; omega)
    rw [e] at this
    exact this
  · obtain rfl : n = 63 := by omega
    exact way_over ok (lad_order hn) (by rw [e]; decide)
theorem pow_wrap (i : Nat) (h : i < 63) : wrap64 ((2 : Int) ^ i) = ((2 ^ i : Nat) : Int) := by
  have hle : 2 ^ i ≤ 4611686018427387904 := Nat.le_trans (Nat.pow_le_pow_right (by omega) (show i ≤ 62 by omega)) (by decide)
  have e : (2 : Int) ^ i = ((2 ^ i : Nat) : Int) := by
    rw [Int.natCast_pow]
    rfl
  rw [e]
  obtain ⟨q, hq⟩ : ∃ q, 2 ^ i = q := ⟨_, rfl⟩
  rw [hq] at hle ⊢
  exact IntWalk.wrap64_in _ (by omega)
theorem lad_in (n : Nat) (hn : n ≤ 63) : InN (lad n) := fun t ht => by
  have := lad_mem ht
  unfold I64
  omega
set_option maxRecDepth 100000 in
set_option maxHeartbeats 4000000 in
theorem graphMany_in (I : Impl) (s : Nat) (w : World) (hs : s ≤ 255) :
    Calls Try.prog 6 #[.int .u8 (s : Nat)] w fun e w' => e = .returned (.bool true) ∧ Below w.heap.size w w' := by
  have HW := awake_at I w
  obtain ⟨r, hr⟩ : ∃ r, s % 63 = r := ⟨_, rfl⟩
  obtain ⟨n, hn⟩ : ∃ n, 1 + r = n := ⟨_, rfl⟩
  have h1 : 1 ≤ n := by omega
  have h2 : n ≤ 63 := by omega
  have t1 : ((s : Nat) : Int).tmod 63 = (r : Int) := by rw [Int.tmod_eq_emod_of_nonneg (by omega)]; omega
  have w0 : IntKind.i64.wrap ((s : Nat) : Int) = ((s : Nat) : Int) := IntWalk.i64_in _ (by omega)
  have w1 : IntKind.i64.wrap ((1 : Int) + (r : Int)) = (n : Int) := by rw [show (1 : Int) + (r : Int) = (n : Int) by omega]; exact IntWalk.i64_in _ (by omega)
  have HWY := Lib.hid (lad_way h1 h2)
  have H0 : Hid (OwnN w w.heap.size (.slice none 0 0) []) := Lib.hid (World.ownsRow_nil _ _ _ _)
  have hn63 : (n : Int) ≤ 63 := by omega
  have hn1 : (1 : Int) ≤ (n : Int) := by omega
  clear hr hn hs
  go_enter Try.func6, Try.ntmps6
  go_wp2_with fail
  go_loopw [4, 5] (fun v t wr => ∃ (i : Nat) (a1 : Option Addr) (c1 : Nat), v = .slice a1 (2 * i) c1 ∧ t = .int .i64 ((i : Int) + 1) ∧ i ≤ n ∧ Hid (OwnN wr w.heap.size (.slice a1 (2 * i) c1) (lad i) ∧ Below w.heap.size w wr)) (fun _ t _ => n + 1 - (RowKit.intOf t).toNat)
  case atStart => exact ⟨0, none, 0, rfl, rfl, by omega, Lib.hid ⟨H0.out, Below.refl _ _⟩⟩
  case round =>
    clear H0
    obtain ⟨i, a1, c1, rfl, rfl, hi, HO⟩ := hrel
    have hi0 : (0 : Int) ≤ (i : Int) := by omega
    by_cases hlt : i < n
    · have d1 : decide ((i : Int) + 1 ≤ (n : Int)) = true := decide_eq_true (by omega)
      have wi : IntKind.i64.wrap ((i : Int) + 1 + 1) = (i : Int) + 1 + 1 := IntWalk.i64_in _ (by omega)
      obtain ⟨a2, c2, W2, HR1, o2, b2⟩ := app1n wr ⟨(i : Int) + 1, (i : Int) + 1 + 1⟩ HO.out.1 (by omega) HO.out.2.size
      obtain ⟨a3, c3, W3, HR2, o3, b3⟩ := app1n W2 ⟨(i : Int) + 1, (i : Int) + 1 + 1⟩ o2 (by omega) (Nat.le_trans HO.out.2.size b2.size)
      have HO3 : Hid (OwnN W3 w.heap.size (.slice a3 (2 * (i + 1)) c3) (lad (i + 1)) ∧ Below w.heap.size w W3) := Lib.hid ⟨o3, HO.out.2.trans (b2.trans b3)⟩
      clear o2 b2 o3 b3
      go_wp2_with (at_builtin; first | refine walk_run (v' := .slice a2 (2 * i + 1) c2) (w' := W2) rfl _ _ _ _ rfl _ _ rfl rfl HR1.out ?_ | refine walk_run (v' := .slice a3 (2 * i + 1 + 1) c3) (w' := W3) rfl _ _ _ _ rfl _ _ rfl rfl HR2.out ?_)
      go_roundw
      case rel => exact ⟨i + 1, a3, c3, rfl, by go_num, by omega, HO3⟩
      case measure => simp [RowKit.intOf]; omega
    · obtain rfl : i = n := by omega
      have d1 : decide ((i : Int) + 1 ≤ (i : Int)) = false := decide_eq_false (by omega)
      have wi : IntKind.i64.wrap ((i : Int) + 1) = (i : Int) + 1 := IntWalk.i64_in _ (by omega)
      obtain ⟨er, her⟩ : ∃ er, wayE ((i : Int) + 1) (lad i) 1 ((i : Int) + 1) = er := ⟨_, rfl⟩
      obtain ⟨v, hv⟩ : ∃ v, wayV ((i : Int) + 1) (lad i) 1 ((i : Int) + 1) = v := ⟨_, rfl⟩
      have HC : Hid (Calls Try.prog 15 #[.int .i64 ((i : Int) + 1), .slice a1 (2 * i) c1, .int .i64 1, .int .i64 ((i : Int) + 1)] wr fun e w' => e = .returned (.tuple #[.int .i64 v, .int .i64 er]) ∧ Hid (Below w.heap.size w w')) := Lib.hid (by
        obtain ⟨e1, e2⟩ := nds_own HO.out.1
        have := I.ways ((i : Int) + 1) a1 (2 * i) c1 (lad i) 1 ((i : Int) + 1) wr e1 e2 (by omega) (lad_in i h2) (by unfold I64; omega) (by unfold I64; omega) (by unfold I64; omega)
        rw [her, hv] at this
        exact this.mono fun _ _ ⟨e, h⟩ => ⟨e, Lib.hid (below_then HO.out.2 h)⟩)
      rw [her, hv] at HWY
      by_cases h63 : i < 63
      · obtain ⟨rfl, hvv⟩ := HWY.out.1 h63
        have hsh := pow_wrap i h63
        rw [← hvv] at hsh
        have e1 : (v == v) = true := by simp
        have d2 : decide ((63 : Int) ≤ (i : Int)) = false := decide_eq_false (by omega)
        have h63' : ¬ (63 : Int) ≤ (i : Int) := by omega
        clear her hv hi d1 hvv
        go_wp2_with fail
        refine HC.out.mono ?_
        rintro e w2 ⟨rfl, B2⟩
        have H9 := Lib.hid (HW.out w2 B2.out)
        go_wp2_with fail
        refine H9.out.mono ?_
        rintro e w3 ⟨rfl, B3⟩
        go_wp2_with fail
        go_ret
        exact ⟨rfl, B3.out⟩
      · obtain ⟨rfl, rfl⟩ := HWY.out.2 (by omega)
        have d2 : decide ((63 : Int) ≤ (i : Int)) = true := decide_eq_true (by omega)
        have h63' : (63 : Int) ≤ (i : Int) := by omega
        clear her hv hi d1
        go_wp2_with fail
        refine HC.out.mono ?_
        rintro e w2 ⟨rfl, B2⟩
        have H9 := Lib.hid (HW.out w2 B2.out)
        go_wp2_with fail
        refine H9.out.mono ?_
        rintro e w3 ⟨rfl, B3⟩
        go_wp2_with fail
        go_ret
        exact ⟨rfl, B3.out⟩
end Go.Proofs.Ytghjcefigdkhnaa.Graph
