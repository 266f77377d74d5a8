/- The law on a row of types, each made one by one of so many of the one ahead. -/
import Derived.Test.YtohlkaoophbinaaZBomK
import Derived.Test.YtohlkaoophbinaaZBomFl
namespace Go.Proofs.Ytohlkaoophbinaa.Bom
open Go.RowKit Go.Lib IRows
open Goods (St Sts OwnS cnt)
open Cat (Cat PB CM CatAt Lim I64 pOf InC)

theorem box_bill2 (w : World) (ra : Option Addr) (rn rc : Nat) (ua : Option Addr) (un uc : Nat) (la : Option Addr) (ln lc : Nat) : ∃ V X, w.heap.size = V ∧ w.alloc (.cells #[.slice ra rn rc, .slice ua un uc, .slice la ln lc] 35) = X ∧ Hid (Below w.heap.size w X) ∧ Hid (∀ W, Below X.heap.size X W → W.cell? ⟨V, 0, none⟩ = some (.slice ra rn rc) ∧ W.cell? ⟨V, 1, none⟩ = some (.slice ua un uc) ∧ W.cell? ⟨V, 2, none⟩ = some (.slice la ln lc)) := by
  refine ⟨_, _, rfl, rfl, Lib.hid ((Below.refl _ w).alloc (Nat.le_refl _) _), Lib.hid (fun W hW => ?_)⟩
  have h0 := heap_alloc_new w (.cells #[.slice ra rn rc, .slice ua un uc, .slice la ln lc] 35)
  have h1 := (hW.block _ (Array.getElem?_eq_some_iff.1 h0).1).trans h0
  exact ⟨cell_block (j := 0) h1 rfl, cell_block (j := 1) h1 rfl, cell_block (j := 2) h1 rfl⟩
theorem rem_of (z : Int) (hz : 0 ≤ z ∧ z ≤ 255) : ∃ t, IntKind.i64.wrap z = z ∧ z.tmod 16 = t ∧ IntKind.i64.wrap t = t ∧ IntKind.i64.wrap (1 + t) = 1 + t ∧ 1 + z % 16 = 1 + t ∧ 0 ≤ t ∧ t ≤ 15 := by
  have e : z.tmod 16 = z % 16 := Int.tmod_eq_emod_of_nonneg hz.1
  exact ⟨z % 16, IntWalk.i64_in _ (by omega), e, IntWalk.i64_in _ (by omega), IntWalk.i64_in _ (by omega), rfl, by omega, by omega⟩
theorem many_of (z : Int) (hz : 0 ≤ z ∧ z ≤ 255) : ∃ t n, IntKind.i64.wrap z = z ∧ z.tmod 4 = t ∧ IntKind.i64.wrap t = t ∧ IntKind.i64.wrap (1 + t) = n ∧ 1 ≤ n ∧ n ≤ 4 := by
  have e : z.tmod 4 = z % 4 := Int.tmod_eq_emod_of_nonneg hz.1
  exact ⟨z % 4, 1 + z % 4, IntWalk.i64_in _ (by omega), e, IntWalk.i64_in _ (by omega), IntWalk.i64_in _ (by omega), by omega, by omega⟩
open Classical in
set_option maxRecDepth 100000 in
set_option maxHeartbeats 16000000 in
theorem bomEven_in (I : Impl) (a0 : Option Addr) (m c0 : Nat) (Z : Nat → Int) (many : Nat) (w : World) (_ : m ≤ maxLen) (hc : ∀ j, j < m → ∃ b off, a0 = some ⟨b, off, none⟩ ∧ b < w.heap.size ∧ w.cell? ⟨b, off + j, none⟩ = some (.int .u8 (Z j))) (hz : ∀ j, j < m → 0 ≤ Z j ∧ Z j ≤ 255) (hmany : many ≤ 255) :
    Calls Try.prog 6 #[.slice a0 m c0, .int .u8 (many : Int)] w fun e w' => e = .returned (.bool true) ∧ Below w.heap.size w w' := by
  have HAW := awake_at I w
  by_cases hm8 : (8 : Int) < (m : Int)
  · clear hc hz hmany I
    go_enter Try.func6, Try.ntmps6
    go_wp2_with fail
    refine (HAW.out w (Below.refl _ w)).mono ?_
    rintro e w1 ⟨rfl, H1⟩
    go_wp2_with fail
    go_ret
    exact ⟨rfl, H1.out⟩
  obtain ⟨t4, n, e1, e2, e3, e4, hn1, hn4⟩ := many_of (many : Int) (by omega)
  obtain ⟨ql, hql⟩ : ∃ ql, (List.range m).map (fun j => 1 + Z (m - 1 - j) % 16) = ql := ⟨_, rfl⟩
  have hqn : ql.length = m := by rw [← hql]; simp
  have hqa : ∀ j, j < m → ql[j]? = some (1 + Z (m - 1 - j) % 16) := fun j hj => by rw [← hql, List.getElem?_map, List.getElem?_range hj]; rfl
  have hqq : ∀ q ∈ ql, 1 ≤ q ∧ q ≤ 16 := fun q hq => by
    rw [← hql] at hq
    obtain ⟨j, _, rfl⟩ := List.mem_map.1 hq
    omega
  have hqt : ∀ j, ∀ q ∈ ql.take j, 1 ≤ q ∧ q ≤ 16 := fun j q hq => hqq q (List.mem_of_mem_take hq)
  have hcl := chn_length ql
  have HQA : Hid (∀ j, j < m → ql[j]? = some (1 + Z (m - 1 - j) % 16) ∧ (chn ql)[j]? = some (lnk ((m : Int) - j + 1) ((m : Int) - j) (1 + Z (m - 1 - j) % 16))) := Lib.hid fun j hj => by
    have h := chn_at (hqa j hj)
    rw [hqn] at h
    exact ⟨hqa j hj, h⟩
  have HWB : Hid (∀ j, j ≤ m → 1 ≤ wF n (ql.take j) ∧ wF n (ql.take j) ≤ 17179869184) := Lib.hid fun j hj => wF_b (by rw [List.length_take]; omega) (hqt j) ⟨hn1, hn4⟩
  have HALL : Hid (ql.take m = ql ∧ (chn ql).take m = chn ql) := Lib.hid ⟨List.take_of_length_le (by omega), List.take_of_length_le (by omega)⟩
  have hexp := ev_exp (l := ql) (n := n) (by omega) hqq ⟨hn1, hn4⟩
  rw [hqn] at hexp
  have HCEL : Hid (∀ W j, Below w.heap.size w W → j < m → ∃ b off, a0 = some ⟨b, off, none⟩ ∧ W.cell? ⟨b, off + j, none⟩ = some (.int .u8 (Z j))) := Lib.hid fun W j hW hj => by
    obtain ⟨b, off, e, hb, h⟩ := hc j hj
    exact ⟨b, off, e, ((bcell hW).1 b _ hb).trans h⟩
  have HZ : Hid (∀ j, j < m → 0 ≤ Z j ∧ Z j ≤ 255) := Lib.hid hz
  have HEX : Hid (∀ W (a : Option Addr) (c : Nat) (bs : List Recipe.Bl), Cat.Fit W ⟨(m : Int) + 1, a, m, c, bs, 1, none, 0, 0, [], 1, ⟨0, 0, 0⟩⟩ ∧ CM.p ⟨(m : Int) + 1, a, m, c, bs, 1, none, 0, 0, [], 1, ⟨0, 0, 0⟩⟩ = evP ql → Calls Try.prog 9 #[.agg #[.int .i64 ((m : Int) + 1), .slice a m c, .int .i64 1, .slice none 0 0, .int .i64 1, .int .i64 0, .int .i64 0, .int .i64 0], .int .i64 ((m : Int) + 1), .int .i64 n, .int .i64 0, .slice none 0 0] W fun e w' => ∃ b : BM, e = .returned (.tuple #[b.v, .int .i64 (expE (evP ql) ((m : Int) + 1) n 0 [])]) ∧ Hid (BomAt w' b ∧ Says b (bill (evP ql) ((m : Int) + 1) n 0 []) ∧ Below W.heap.size W w')) := Lib.hid fun W a c bs ⟨hf, hp⟩ => by
    have := I.expand ⟨(m : Int) + 1, a, m, c, bs, 1, none, 0, 0, [], 1, ⟨0, 0, 0⟩⟩ ((m : Int) + 1) n 0 none 0 0 [] W hf rfl (sts_nil W) (by omega) (fun t ht => by cases ht) (by unfold I64; omega) (by unfold I64; omega) (by simp [I64])
    rw [hp] at this
    exact this
  have HEY : Hid (fB n ql = true → ∀ W (a : Option Addr) (c : Nat) (bs : List Recipe.Bl), Cat.Fit W ⟨(m : Int) + 1, a, m, c, bs, 1, none, 0, 0, [], 1, ⟨0, 0, 0⟩⟩ ∧ CM.p ⟨(m : Int) + 1, a, m, c, bs, 1, none, 0, 0, [], 1, ⟨0, 0, 0⟩⟩ = evP ql → Calls Try.prog 9 #[.agg #[.int .i64 ((m : Int) + 1), .slice a m c, .int .i64 1, .slice none 0 0, .int .i64 1, .int .i64 0, .int .i64 0, .int .i64 0], .int .i64 ((m : Int) + 1), .int .i64 n, .int .i64 0, .slice none 0 0] W fun e w' => ∃ ra rc ua un uc la lc, e = .returned (.tuple #[.agg #[.slice ra 1 rc, .slice ua un uc, .slice la 0 lc], .int .i64 0]) ∧ Hid (Sts w' ra [⟨1, wF n ql⟩] ∧ Below W.heap.size W w')) := Lib.hid fun hf W a c bs h => by
    refine (HEX.out W a c bs h).mono ?_
    rintro e w' ⟨b, rfl, H⟩
    obtain ⟨h1, h2, h3⟩ := H.out
    obtain ⟨x1, x2, x3⟩ := hexp.1 hf
    obtain ⟨ra, rn, rc, rl, ua, un, uc, ul, la, ln, lc, ll⟩ := b
    obtain ⟨y1, y2, y3⟩ := h2
    obtain ⟨⟨f1, g1, _⟩, ⟨f2, _, _⟩, f3, _, _⟩ := h1
    rw [x2] at y1
    rw [x3] at y3
    dsimp only at y1 y3 f1 f3 g1
    subst y1 y3
    subst f1 f3
    rw [x1]
    exact ⟨ra, rc, ua, un, uc, la, lc, rfl, Lib.hid ⟨g1, h3⟩⟩
  have HEN : Hid (fB n ql = false → ∀ W (a : Option Addr) (c : Nat) (bs : List Recipe.Bl), Cat.Fit W ⟨(m : Int) + 1, a, m, c, bs, 1, none, 0, 0, [], 1, ⟨0, 0, 0⟩⟩ ∧ CM.p ⟨(m : Int) + 1, a, m, c, bs, 1, none, 0, 0, [], 1, ⟨0, 0, 0⟩⟩ = evP ql → Calls Try.prog 9 #[.agg #[.int .i64 ((m : Int) + 1), .slice a m c, .int .i64 1, .slice none 0 0, .int .i64 1, .int .i64 0, .int .i64 0, .int .i64 0], .int .i64 ((m : Int) + 1), .int .i64 n, .int .i64 0, .slice none 0 0] W fun e w' => ∃ ra rn rc ua un uc la ln lc, e = .returned (.tuple #[.agg #[.slice ra rn rc, .slice ua un uc, .slice la ln lc], .int .i64 5]) ∧ Hid (Below W.heap.size W w')) := Lib.hid fun hf W a c bs h => by
    refine (HEX.out W a c bs h).mono ?_
    rintro e w' ⟨b, rfl, H⟩
    obtain ⟨ra, rn, rc, rl, ua, un, uc, ul, la, ln, lc, ll⟩ := b
    rw [hexp.2 hf]
    exact ⟨ra, rn, rc, ua, un, uc, la, ln, lc, rfl, Lib.hid H.out.2.2⟩
  have HSA : Hid (∀ W B ra rc (v : Int), Sts W ra [⟨1, v⟩] → W.heap[B]? = some (.cells #[.int .i64 1, .int .i64 v] 51 (0, 0)) → Calls Try.prog 20 #[.slice ra 1 rc, .slice (some ⟨B, 0, none⟩) 1 1] W fun e w' => e = .returned (.bool true) ∧ Hid (Below W.heap.size W w')) := Lib.hid fun W B ra rc v h1 h2 => by
    have := Goods.dsame ra 1 rc [⟨1, v⟩] (some ⟨B, 0, none⟩) 1 1 [⟨1, v⟩] W rfl h1 (by omega) rfl (Cat.sts_lay [⟨1, v⟩] h2 rfl) (by omega)
    refine this.mono ?_
    rintro e w' ⟨rfl, h⟩
    exact ⟨by simp, Lib.hid h⟩
  have HFIT : Hid (∀ X W K cs (a : Option Addr) (c : Nat) (bs : List Recipe.Bl), Fill X W K cs (.slice a m c) bs → bs.map pOf = chn ql → Cat.Fit W ⟨(m : Int) + 1, a, m, c, bs, 1, none, 0, 0, [], 1, ⟨0, 0, 0⟩⟩ ∧ CM.p ⟨(m : Int) + 1, a, m, c, bs, 1, none, 0, 0, [], 1, ⟨0, 0, 0⟩⟩ = evP ql) := Lib.hid fun X W K cs a c bs h hp => h.fit hp hqn (by omega) hqq
  have wm1 : IntKind.i64.wrap ((m : Int) + 1) = (m : Int) + 1 := IntWalk.i64_in _ (by omega)
  have wm2 : IntKind.i64.wrap ((m : Int) - 1) = (m : Int) - 1 := IntWalk.i64_in _ (by omega)
  have hm9 : m ≤ 8 := by omega
  clear hql hqn hqa hqq hqt hcl hexp hc hz hmany I
  go_enter Try.func6, Try.ntmps6
  go_upto_region 5 with fail
  obtain ⟨K, hK⟩ : ∃ K, w.heap.size = K := ⟨_, rfl⟩
  obtain ⟨X, hX⟩ : ∃ X, w.alloc (.cells #[.int .i64 ((m : Int) + 1), .slice none 0 0, .int .i64 1, .slice none 0 0, .int .i64 1, .int .i64 0, .int .i64 0, .int .i64 0] 27) = X := ⟨_, rfl⟩
  have HF0 : Hid (Fill w X K #[.int .i64 ((m : Int) + 1), .slice none 0 0, .int .i64 1, .slice none 0 0, .int .i64 1, .int .i64 0, .int .i64 0, .int .i64 0] (.slice none 0 0) []) := Lib.hid ⟨by rw [← hX]; exact (Below.refl _ w).alloc (Nat.le_refl _) _, by rw [hK]; exact Nat.le_refl _, by rw [← hX, ← hK]; exact heap_alloc_new w _, World.ownsRow_nil _ _ _ _, fun b hb => by cases hb⟩
  rw [hX, hK]
  clear hX hK e1 e2 e3 e4
  go_wp2_with fail
  go_loopw [7, 8, 9] (fun u f t wr => ∃ (j : Nat) (z x : Int) (fb : Bool) (a : Option Addr) (c : Nat) (bs : List Recipe.Bl), u = .int .i64 x ∧ f = .bool fb ∧ t = .int .i64 z ∧ z = (m : Int) - 1 - j ∧ j ≤ m ∧ Hid (Fill w wr K #[.int .i64 ((m : Int) + 1), .slice a j c, .int .i64 1, .slice none 0 0, .int .i64 1, .int .i64 0, .int .i64 0, .int .i64 0] (.slice a j c) bs) ∧ Hid (bs.map pOf = (chn ql).take j) ∧ Hid (wF n (ql.take j) = x) ∧ (1 ≤ x ∧ x ≤ 17179869184) ∧ Hid (fB n (ql.take j) = fb)) (fun _ _ t _ => (RowKit.intOf t + 1).toNat)
  case atStart => exact ⟨0, (m : Int) - 1, n, true, none, 0, [], rfl, rfl, rfl, by omega, by omega, HF0, Lib.hid rfl, Lib.hid rfl, by omega, Lib.hid rfl⟩
  case round =>
    clear HF0
    obtain ⟨j, z, x, fb, a, c, bs, rfl, rfl, rfl, hzj, hj, HF, HB, HX, hx, HFB⟩ := hrel
    obtain ⟨W0, rfl⟩ : ∃ W0, W0 = wr := ⟨_, rfl⟩
    obtain ⟨⟨k0, k1, k2, k3, k4, k5, k6, k7⟩, f0, f1, f2, f3, f4, f5, f6, f7⟩ := blk8 HF.out.blk
    by_cases hlt : j < m
    · obtain ⟨k, rfl⟩ := Int.eq_ofNat_of_zero_le (show 0 ≤ z by omega)
      have hkm : k < m := by omega
      have hkj : k = m - 1 - j := by omega
      have hk0 : (0 : Int) ≤ (k : Int) := by omega
      have hkm2 : (k : Int) < (m : Int) := by omega
      have d1 : decide ((0 : Int) ≤ (k : Int)) = true := decide_eq_true hk0
      have hZk := HZ.out k hkm
      obtain ⟨b, off, rfl, y0⟩ := HCEL.out W0 k HF.out.below hkm
      obtain ⟨zk, hzk⟩ : ∃ zk, Z k = zk := ⟨_, rfl⟩
      rw [hzk] at hZk y0
      obtain ⟨t, g1, g2, g3, g4, g5, ht0, ht1⟩ := rem_of zk hZk
      have HAT := HQA.out j hlt
      rw [← hkj, hzk, g5] at HAT
      have HTK : Hid (ql.take (j + 1) = ql.take j ++ [1 + t] ∧ (chn ql).take (j + 1) = (chn ql).take j ++ [lnk ((k : Int) + 2) ((k : Int) + 1) (1 + t)]) := Lib.hid (by
        refine ⟨by rw [List.take_add_one, HAT.1]; rfl, ?_⟩
        rw [List.take_add_one, HAT.2, show (m : Int) - j + 1 = (k : Int) + 2 by omega, show (m : Int) - j = (k : Int) + 1 by omega]
        rfl)
      obtain ⟨x2, hx2e⟩ : ∃ x2, x * (1 + t) = x2 := ⟨_, rfl⟩
      have HX2 : Hid (wF n (ql.take (j + 1)) = x2) := Lib.hid (by rw [HTK.out.1, wF_snoc, HX.out, hx2e])
      have hx2 : 1 ≤ x2 ∧ x2 ≤ 17179869184 := by rw [← HX2.out]; exact HWB.out (j + 1) hlt
      have v1 : IntKind.i64.wrap ((k : Int) + 2) = (k : Int) + 2 := IntWalk.i64_in _ (by omega)
      have v2 : IntKind.i64.wrap ((k : Int) + 1) = (k : Int) + 1 := IntWalk.i64_in _ (by omega)
      have v3 : IntKind.i64.wrap ((k : Int) - 1) = (k : Int) - 1 := IntWalk.i64_in _ (by omega)
      have v4 : IntKind.i64.wrap (x * (1 + t)) = x2 := by rw [hx2e]; exact IntWalk.i64_in _ (by omega)
      obtain ⟨a2, c2, W2, HR, HF2⟩ := HF.out.more ((k : Int) + 2) ((k : Int) + 1) (1 + t) (by omega)
      obtain ⟨⟨q0, q1, q2, q3, q4, q5, q6, q7⟩, h0, h1, h2, h3, h4, h5, h6, h7⟩ := blk8 HF2.out.blk
      have HB2 : Hid ((bs ++ [(⟨(k : Int) + 2, 1, 1, some ⟨W0.heap.size, 0, none⟩, 1, 1, [⟨(k : Int) + 1, 1 + t⟩], 0, 0, 1⟩ : Recipe.Bl)]).map pOf = (chn ql).take (j + 1)) := Lib.hid (by rw [List.map_append, HB.out, HTK.out.2]; rfl)
      have HFS : Hid (fB n (ql.take (j + 1)) = (fb && decide (x ≤ 1000))) := Lib.hid (by rw [HTK.out.1, fB_snoc, HFB.out, HX.out])
      have HZJ := Lib.hid hzj
      clear HAT hzk g5 hx2e hkj hzj
      cases fb with
      | false =>
        have HFB2 : Hid (fB n (ql.take (j + 1)) = false) := Lib.hid (by rw [HFS.out]; rfl)
        go_wp2_with (at_builtin; refine walk_run (v' := .slice a2 (j + 1) c2) (w' := W2) rfl _ _ _ _ rfl _ _ rfl rfl ?_ ?_; exact HR.out)
        go_roundw
        case rel => exact ⟨j + 1, (k : Int) - 1, x2, false, a2, c2, _, rfl, rfl, rfl, by have := HZJ.out; omega, by omega, Lib.hid (HF2.out.set 1 _), HB2, HX2, hx2, HFB2⟩
        case measure => simp [RowKit.intOf]
      | true =>
        by_cases h1000 : x ≤ 1000
        · have d2 : decide (x ≤ 1000) = true := decide_eq_true h1000
          have HFB2 : Hid (fB n (ql.take (j + 1)) = true) := Lib.hid (by rw [HFS.out, d2]; rfl)
          go_wp2_with (at_builtin; refine walk_run (v' := .slice a2 (j + 1) c2) (w' := W2) rfl _ _ _ _ rfl _ _ rfl rfl ?_ ?_; exact HR.out)
          go_roundw
          case rel => exact ⟨j + 1, (k : Int) - 1, x2, true, a2, c2, _, rfl, rfl, rfl, by have := HZJ.out; omega, by omega, Lib.hid (HF2.out.set 1 _), HB2, HX2, hx2, HFB2⟩
          case measure => simp [RowKit.intOf]
        · have d2 : decide (x ≤ 1000) = false := decide_eq_false h1000
          have HFB2 : Hid (fB n (ql.take (j + 1)) = false) := Lib.hid (by rw [HFS.out, d2]; rfl)
          go_wp2_with (at_builtin; refine walk_run (v' := .slice a2 (j + 1) c2) (w' := W2) rfl _ _ _ _ rfl _ _ rfl rfl ?_ ?_; exact HR.out)
          go_roundw
          case rel => exact ⟨j + 1, (k : Int) - 1, x2, false, a2, c2, _, rfl, rfl, rfl, by have := HZJ.out; omega, by omega, Lib.hid (HF2.out.set 1 _), HB2, HX2, hx2, HFB2⟩
          case measure => simp [RowKit.intOf]
    · obtain rfl : j = m := by omega
      obtain rfl : z = -1 := by omega
      have hB : bs.map pOf = chn ql := by rw [HB.out, HALL.out.2]
      have HFI := Lib.hid (HFIT.out w W0 K _ a c bs HF.out hB)
      have HX2 : Hid (wF n ql = x) := Lib.hid (by have := HX.out; rw [HALL.out.1] at this; exact this)
      have HFB2 : Hid (fB n ql = fb) := Lib.hid (by have := HFB.out; rw [HALL.out.1] at this; exact this)
      clear hB
      cases fb with
      | false =>
        have HCK := Lib.hid (HEN.out HFB2.out W0 a c bs HFI.out)
        go_wp2_with fail
        refine HCK.out.mono ?_
        rintro e w3 ⟨ra, rn, rc, ua, un, uc, la, ln, lc, rfl, H3⟩
        go_upto_region 15 with fail
        obtain ⟨V1, X1, hV1, hX1, HB1, HP1⟩ := box_bill2 w3 ra rn rc ua un uc la ln lc
        have HX1 : Hid (Below w.heap.size w X1) := Lib.hid (below_then HF.out.below (below_then H3.out HB1.out))
        rw [hV1, hX1]
        clear hV1 hX1
        go_wp2_with fail
        refine (HAW.out X1 HX1.out).mono ?_
        rintro e w4 ⟨rfl, H4⟩
        go_wp2_with fail
        go_ret
        exact ⟨rfl, H4.out⟩
      | true =>
        have HCK := Lib.hid (HEY.out HFB2.out W0 a c bs HFI.out)
        go_wp2_with fail
        refine HCK.out.mono ?_
        rintro e w3 ⟨ra, rc, ua, un, uc, la, lc, rfl, H3⟩
        go_upto_region 15 with fail
        obtain ⟨V1, X1, hV1, hX1, HB1, HP1⟩ := box_bill2 w3 ra 1 rc ua un uc la 0 lc
        have HX1 : Hid (Below w.heap.size w X1) := Lib.hid (below_then HF.out.below (below_then H3.out.2 HB1.out))
        have HST : Hid (Sts X1 ra [⟨1, x⟩]) := Lib.hid (by have := H3.out.1; rw [HX2.out] at this; exact this.under HB1.out)
        rw [hV1, hX1]
        clear hV1 hX1
        obtain ⟨r0, r1, r2⟩ := HP1.out X1 (Below.refl _ _)
        have HN : Hid (Below X1.heap.size X1 (X1.alloc (.cells #[.int .i64 1, .int .i64 x] 51))) := Lib.hid ((Below.refl _ X1).alloc (Nat.le_refl _) _)
        have HSM := Lib.hid (HSA.out (X1.alloc (.cells #[.int .i64 1, .int .i64 x] 51)) X1.heap.size ra rc x (HST.out.under HN.out) (heap_alloc_new _ _))
        go_wp2_with fail
        refine HSM.out.mono ?_
        rintro e w5 ⟨rfl, H5⟩
        obtain ⟨s0', s1, s2⟩ := HP1.out w5 (below_then HN.out H5.out)
        clear r0 r1 r2
        go_wp2_with fail
        refine (HAW.out w5 (below_then HX1.out (below_then HN.out H5.out))).mono ?_
        rintro e w6 ⟨rfl, H6⟩
        go_wp2_with fail
        go_ret
        exact ⟨rfl, H6.out⟩
end Go.Proofs.Ytohlkaoophbinaa.Bom
