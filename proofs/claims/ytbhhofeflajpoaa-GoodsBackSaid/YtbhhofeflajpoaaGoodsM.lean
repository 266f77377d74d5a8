/- GoodsTimes, walked for any goods. -/
import Derived.Test.YtbhhofeflajpoaaGoodsL
namespace Go.Proofs.Ytbhhofeflajpoaa.Goods
open Go.RowKit Go.Lib

theorem errT_zero {l : List St} {n : Int} (h : errT l n = 0) : errN l = 0 ∧ 0 ≤ n ∧ ∀ s ∈ nl l, n ≤ mq / s.qty := by
  unfold errT at h
  split at h
  · rename_i h1
    split at h
    · exact absurd h (by decide)
    · rename_i h2
      split at h
      · exact absurd h (by decide)
      · rename_i h3
        refine ⟨h1, by omega, fun s hs => ?_⟩
        by_cases h4 : mq / s.qty < n
        · exact absurd ⟨s, hs, h4⟩ h3
        · omega
  · rename_i h1
    exact absurd h h1
theorem valT_yes {l : List St} {n : Int} (h : errT l n = 0) : valT l n = timesL (nl l) n := by unfold valT; rw [if_pos h]
/-- So often there are no more than there may be. -/
theorem cnt_often {l : List St} {n : Int} (h : errT l n = 0) (k : Int) : n * cnt (nl l) k ≤ mq := by
  obtain ⟨h1, h2, h3⟩ := errT_zero h
  have hN := norm_nl (errN_zero h1).1
  by_cases hk : ∃ s ∈ nl l, s.kind = k
  · obtain ⟨s, hs, rfl⟩ := hk
    rw [cnt_at hN.rise hs]
    exact (Int.le_ediv_iff_mul_le (by have := hN.qty s hs; omega)).1 (h3 s hs)
  · rw [cnt_none fun s hs e => hk ⟨s, hs, e⟩]
    unfold mq
    omega
theorem errN_times {l : List St} {n : Int} (h : errT l n = 0) : errN (timesL (nl l) n) = 0 ∧ Norm (timesL (nl l) n) := by
  obtain ⟨h1, h2, _⟩ := errT_zero h
  have hN := norm_times (norm_nl (errN_zero h1).1) h2
  refine ⟨errN_ok (fine_norm hN) ?_, hN⟩
  rintro ⟨k, hk⟩
  rw [cnt_times] at hk
  have := cnt_often h k
  omega
theorem kind_times {l : List St} {n : Int} : ∀ s ∈ timesL l n, ∃ x ∈ l, x.kind = s.kind := fun s hs => by
  unfold timesL at hs
  split at hs
  · simp at hs
  · obtain ⟨x, hx, rfl⟩ := List.mem_map.1 hs
    exact ⟨x, hx, rfl⟩
theorem in_valT {l : List St} (h : In64 l) (n : Int) : In64 (valT l n) := by
  by_cases he : errT l n = 0
  · rw [valT_yes he]
    obtain ⟨t1, N1⟩ := errN_times he
    obtain ⟨g0, _, _⟩ := errT_zero he
    intro s hs
    have h1 := valN_le (timesL (nl l) n) s (by rw [valN_ok t1, nl_norm N1]; exact hs)
    have h2 := N1.qty s hs
    unfold mq at h1
    obtain ⟨x, hx, e⟩ := kind_times s hs
    refine ⟨?_, by unfold Ints.I64; omega⟩
    rw [← e]
    exact (in_nl h g0 x hx).1
  · unfold valT
    rw [if_neg he]
    exact in_nil
/-- So often, and so often again. -/
theorem often_both {l : List St} {n m : Int} (h : errT l n = 0) (h2 : errT l m = 0) (h3 : errT l (n + m) = 0) :
    errA (timesL (nl l) n) (timesL (nl l) m) = 0 ∧ valA (timesL (nl l) n) (timesL (nl l) m) = timesL (nl l) (n + m) := by
  obtain ⟨e1, N1⟩ := errN_times h
  obtain ⟨e2, N2⟩ := errN_times h2
  obtain ⟨h0, hn, _⟩ := errT_zero h
  obtain ⟨_, hm, _⟩ := errT_zero h2
  have hN := norm_nl (errN_zero h0).1
  have e3 : errN (nl (timesL (nl l) n) ++ nl (timesL (nl l) m)) = 0 := by
    rw [nl_norm N1, nl_norm N2]
    refine errN_ok (fine_append (fine_norm N1) (fine_norm N2)) ?_
    rintro ⟨k, hk⟩
    rw [cnt_append, cnt_times, cnt_times, ← Int.add_mul] at hk
    have := cnt_often h3 k
    omega
  have e4 := errA_of e1 e2 e3
  refine ⟨e4, ?_⟩
  rw [valA_yes e4, nl_norm N1, nl_norm N2]
  exact times_both hN hn hm
set_option maxRecDepth 100000 in
set_option maxHeartbeats 4000000 in
theorem goodsTimes_in (I : Impl) (a : Option Addr) (n c : Nat) (l : List St) (x y : Int) (w : World) (hl : l.length = n) (hs : Sts w a l) (hil : In64 l) (hx : 0 ≤ x ∧ x ≤ 65535) (hy : 0 ≤ y ∧ y ≤ 65535) :
    Calls Try.prog 6 #[.slice a n c, .int .u16 x, .int .u16 y] w fun e w' => e = .returned (.bool true) ∧ Below w.heap.size w w' := by
  have HW := awake_at I w
  obtain ⟨x0, x1⟩ := hx
  obtain ⟨y0, y1⟩ := hy
  have wx : IntKind.i64.wrap x = x := IntWalk.i64_in _ (by omega)
  have wy : IntKind.i64.wrap y = y := IntWalk.i64_in _ (by omega)
  have wxy : IntKind.i64.wrap (x + y) = x + y := IntWalk.i64_in _ (by omega)
  by_cases h20 : (20 : Int) < (n : Int)
  · have H0 := Lib.hid (HW.out w (Below.refl _ _))
    clear hl hs hil HW I
    go_enter Try.func6, Try.ntmps6
    go_wp2_with fail
    refine H0.out.mono ?_
    rintro e w1 ⟨rfl, B1⟩
    go_wp2_with fail
    go_ret
    exact ⟨rfl, B1.out⟩
  have hn : n ≤ 20 := by omega
  obtain ⟨e1, he1⟩ : ∃ e, errT l x = e := ⟨_, rfl⟩
  obtain ⟨e2, he2⟩ : ∃ e, errT l y = e := ⟨_, rfl⟩
  obtain ⟨e3, he3⟩ : ∃ e, errT l (x + y) = e := ⟨_, rfl⟩
  have H1 := tells_of (w := w) (f := 21) (args := #[.slice a n c, .int .i64 x]) (l := valT l x) (er := e1) fun W hW => by
    rw [← he1]; exact I.times a n c l x W hl (hs.under hW) (by omega) hil (by unfold Ints.I64; omega)
  have H2 := tells_of (w := w) (f := 21) (args := #[.slice a n c, .int .i64 y]) (l := valT l y) (er := e2) fun W hW => by
    rw [← he2]; exact I.times a n c l y W hl (hs.under hW) (by omega) hil (by unfold Ints.I64; omega)
  have H3 := tells_of (w := w) (f := 21) (args := #[.slice a n c, .int .i64 (x + y)]) (l := valT l (x + y)) (er := e3) fun W hW => by
    rw [← he3]; exact I.times a n c l (x + y) W hl (hs.under hW) (by omega) hil (by unfold Ints.I64; omega)
  by_cases hok : e1 = 0 ∧ e2 = 0 ∧ e3 = 0
  · obtain ⟨rfl, rfl, rfl⟩ := hok
    obtain ⟨b1, b2⟩ := often_both he1 he2 he3
    obtain ⟨t1, N1⟩ := errN_times he1
    have v1 := valT_yes he1
    have v2 := valT_yes he2
    have v3 := valT_yes he3
    obtain ⟨g0, _, _⟩ := errT_zero he1
    have hq := tot_times (nl l) x
    have l1 : (valT l x).length ≤ 20 := by have := len_valT l x; omega
    have l2 : (valT l y).length ≤ 20 := by have := len_valT l y; omega
    have l3 : (valT l (x + y)).length ≤ 20 := by have := len_valT l (x + y); omega
    have hin : 0 ≤ tot (timesL (nl l) x) ∧ tot (timesL (nl l) x) ≤ 20 * mq := by
      have hb : ∀ s ∈ timesL (nl l) x, 0 ≤ s.qty ∧ s.qty ≤ mq := fun s hs => by
        have h1 := valN_le (timesL (nl l) x) s (by rw [valN_ok t1, nl_norm N1]; exact hs)
        have h2 := N1.qty s hs
        omega
      have h1 := tot_le hb
      have h2 : (timesL (nl l) x).length ≤ 20 := by rw [← v1]; exact l1
      refine ⟨h1.1, Int.le_trans h1.2 ?_⟩
      unfold mq
      omega
    obtain ⟨q, hq0⟩ : ∃ q, tot (nl l) = q := ⟨_, rfl⟩
    obtain ⟨p, hp0⟩ : ∃ p, tot (timesL (nl l) x) = p := ⟨_, rfl⟩
    rw [hq0, hp0] at hq
    rw [hp0] at hin
    have wq : IntKind.i64.wrap (x * q) = p := by rw [← hq]; exact IntWalk.i64_in _ (by unfold mq at hin; omega)
    have HA : Hid (∀ W v z u v' z' u', Lies W v z (valT l x) → Lies W v' z' (valT l y) → Calls Try.prog 17 #[.slice v z u, .slice v' z' u'] W fun e w' => ∃ a' m' d', e = .returned (.tuple #[.slice a' m' d', .int .i64 0]) ∧ Hid (Lies w' a' m' (valT l (x + y)) ∧ Below W.heap.size W w')) := Lib.hid (fun W v z u v' z' u' hv hv' => by
      have := I.add v z u (valT l x) v' z' u' (valT l y) W hv.1 hv.2 (by rw [← hv.1]; omega) (in_valT hil x) hv'.1 hv'.2 (by rw [← hv'.1]; omega) (in_valT hil y)
      rw [v1, v2, b1, b2, ← v3] at this
      refine this.mono ?_
      rintro e w' ⟨v, rfl, h1, h2⟩
      obtain ⟨a, m, c, rfl, h3⟩ := lies_own h1
      exact ⟨a, m, c, rfl, Lib.hid ⟨h3, h2⟩⟩)
    have HP : Hid (∀ W v z u, Lies W v z (valT l x) → Calls Try.prog 10 #[.slice v z u] W fun e w' => e = .returned (.tuple #[.int .i64 p, .int .i64 0]) ∧ Hid (Below W.heap.size W w')) := Lib.hid (fun W v z u hv => by
      have := I.size v z u (valT l x) W hv.1 hv.2 (by rw [← hv.1]; omega) (in_valT hil x)
      rw [v1, t1, valN_ok t1, nl_norm N1, hp0] at this
      exact this.mono fun _ _ ⟨e, h⟩ => ⟨e, Lib.hid h⟩)
    have HQ : Hid (∀ W, Below w.heap.size w W → Calls Try.prog 10 #[.slice a n c] W fun e w' => e = .returned (.tuple #[.int .i64 q, .int .i64 0]) ∧ Hid (Below W.heap.size W w')) := Lib.hid (fun W hW => by
      have := I.size a n c l W hl (hs.under hW) (by omega) hil
      rw [g0, valN_ok g0, hq0] at this
      exact this.mono fun _ _ ⟨e, h⟩ => ⟨e, Lib.hid h⟩)
    have SA := same_in (w := w) (show (valT l (x + y)).length ≤ 4096 by omega)
    have epp : (p == p) = true := by simp
    clear hl hs hn hil I he1 he2 he3 b1 b2 t1 N1 v1 v2 v3 g0 l1 l2 l3 hin hq0 hp0 hq
    go_enter Try.func6, Try.ntmps6
    go_wp2_with fail
    refine (H1.out w (Below.refl _ _)).mono ?_
    rintro e w1 ⟨v1, m1, d1, rfl, V1⟩
    go_wp2_with fail
    refine (H2.out w1 V1.out.2).mono ?_
    rintro e w2 ⟨v2, m2, d2, rfl, V2⟩
    have B2 := Lib.hid (below_then V1.out.2 V2.out.2)
    have L1 := Lib.hid (V1.out.1.under V2.out.2); have L2 := Lib.hid V2.out.1
    clear V1 V2
    go_wp2_with fail
    refine (H3.out w2 B2.out).mono ?_
    rintro e w3 ⟨v3, m3, d3, rfl, V3⟩
    have B3 := Lib.hid (below_then B2.out V3.out.2)
    have M1 := Lib.hid (L1.out.under V3.out.2); have M2 := Lib.hid (L2.out.under V3.out.2); have M3 := Lib.hid V3.out.1
    clear V3 B2 L1 L2
    go_wp2_with fail
    refine (HA.out w3 v1 m1 d1 v2 m2 d2 M1.out M2.out).mono ?_
    rintro e w4 ⟨v4, m4, d4, rfl, V4⟩
    have B4 := Lib.hid (below_then B3.out V4.out.2)
    have L1 := Lib.hid (M1.out.under V4.out.2); have L3 := Lib.hid (M3.out.under V4.out.2); have L4 := Lib.hid V4.out.1
    clear V4 B3 M1 M2 M3
    go_wp2_with fail
    refine (HP.out w4 v1 m1 d1 L1.out).mono ?_
    rintro e w5 ⟨rfl, B⟩
    have B5 := Lib.hid (below_then B4.out B.out)
    have M3 := Lib.hid (L3.out.under B.out); have M4 := Lib.hid (L4.out.under B.out)
    clear B B4 L1 L3 L4
    go_wp2_with fail
    refine (HQ.out w5 B5.out).mono ?_
    rintro e w6 ⟨rfl, B⟩
    have B6 := Lib.hid (below_then B5.out B.out)
    have L3 := Lib.hid (M3.out.under B.out); have L4 := Lib.hid (M4.out.under B.out)
    clear B B5 M3 M4
    go_wp2_with fail
    refine (SA.out w6 v3 m3 d3 v4 m4 d4 B6.out L3.out.1 L3.out.2 L4.out.1 L4.out.2).mono ?_
    rintro e w7 ⟨rfl, B⟩
    have B7 := Lib.hid (below_then B6.out B.out)
    clear B B6 L3 L4
    go_wp2_with fail
    refine (HW.out w7 B7.out).mono ?_
    rintro e w8 ⟨rfl, B8⟩
    go_wp2_with fail
    go_ret
    exact ⟨rfl, B8.out⟩
  · clear hl hs hn hil I he1 he2 he3
    have hno : e1 ≠ 0 ∨ (e1 = 0 ∧ e2 ≠ 0) ∨ (e1 = 0 ∧ e2 = 0 ∧ e3 ≠ 0) := by omega
    rcases hno with n1 | ⟨rfl, n1⟩ | ⟨rfl, rfl, n1⟩
    all_goals
      have n2 : ¬ _ = _ := n1
      have n3 : (_ == _) = false := beq_eq_false_iff_ne.2 n1
      clear hok n1
      go_enter Try.func6, Try.ntmps6
      go_wp2_with fail
      refine (H1.out w (Below.refl _ _)).mono ?_
      rintro e w1 ⟨v1, m1, d1, rfl, V1⟩
      go_wp2_with fail
      refine (H2.out w1 V1.out.2).mono ?_
      rintro e w2 ⟨v2, m2, d2, rfl, V2⟩
      have B2 := Lib.hid (below_then V1.out.2 V2.out.2)
      clear V1 V2
      go_wp2_with fail
      refine (H3.out w2 B2.out).mono ?_
      rintro e w3 ⟨v3, m3, d3, rfl, V3⟩
      have B3 := Lib.hid (below_then B2.out V3.out.2)
      clear V3 B2
      go_wp2_with fail
      refine (HW.out w3 B3.out).mono ?_
      rintro e w8 ⟨rfl, B8⟩
      go_wp2_with fail
      go_ret
      exact ⟨rfl, B8.out⟩
end Go.Proofs.Ytbhhofeflajpoaa.Goods
