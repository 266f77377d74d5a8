/- GoodsBack, walked for any goods. -/
import Derived.Test.YtbhhofeflajpoaaGoodsK
namespace Go.Proofs.Ytbhhofeflajpoaa.Goods
open Go.RowKit Go.Lib

theorem errA_zero {l k : List St} (h : errA l k = 0) : errN l = 0 ∧ errN k = 0 ∧ errN (nl l ++ nl k) = 0 := by
  unfold errA at h
  split at h
  · rename_i h1
    obtain ⟨h2, h3⟩ := errB_zero h1
    exact ⟨h2, h3, h⟩
  · rename_i h1
    exact absurd h h1
theorem errA_of {l k : List St} (h1 : errN l = 0) (h2 : errN k = 0) (h3 : errN (nl l ++ nl k) = 0) : errA l k = 0 := by
  have h : errB l k = 0 := by unfold errB; rw [if_pos h1, h2]
  unfold errA
  rw [if_pos h, h3]
theorem errN_swap {l k : List St} (h : errN (l ++ k) = 0) : errN (k ++ l) = 0 := by
  obtain ⟨h1, h2⟩ := errN_zero h
  refine errN_ok (fun s hs => h1 s (by rw [List.mem_append] at hs ⊢; exact hs.symm)) fun e => h2 ((over_same fun x => ?_).1 e)
  rw [cnt_append, cnt_append]
  omega
theorem errA_swap {l k : List St} (h : errA l k = 0) : errA k l = 0 := by
  obtain ⟨h1, h2, h3⟩ := errA_zero h
  exact errA_of h2 h1 (errN_swap h3)
theorem valA_yes {l k : List St} (h : errA l k = 0) : valA l k = nl (nl l ++ nl k) := by
  obtain ⟨h1, h2, h3⟩ := errA_zero h
  have hb : errB l k = 0 := by unfold errB; rw [if_pos h1, h2]
  unfold valA
  rw [if_pos hb, valN_ok h3]
theorem valA_swap {l k : List St} (h : errA l k = 0) : valA k l = valA l k := by
  rw [valA_yes h, valA_yes (errA_swap h)]
  obtain ⟨h1, _⟩ := errN_zero (errA_zero h).2.2
  obtain ⟨h2, _⟩ := errN_zero (errA_zero (errA_swap h)).2.2
  exact nl_same h2 h1 fun x => by rw [cnt_append, cnt_append]; omega
theorem errN_nl {l : List St} (h : errN l = 0) : errN (nl l) = 0 := by
  obtain ⟨h1, h2⟩ := errN_zero h
  exact errN_ok (fine_norm (norm_nl h1)) fun e => h2 ((over_same fun k => cnt_nl k l).1 e)
theorem nl_nl {l : List St} (h : errN l = 0) : nl (nl l) = nl l := nl_norm (norm_nl (errN_zero h).1)
/-- One list without another one that it holds. -/
theorem sub_yes {x k : List St} (h1 : errN x = 0) (h2 : errN k = 0) (h : ∀ z, cnt (nl k) z ≤ cnt (nl x) z) : errS x k = 0 ∧ valS x k = subL (nl x) (nl k) := by
  have hb : errB x k = 0 := by unfold errB; rw [if_pos h1, h2]
  have he : errS x k = 0 := by
    unfold errS
    rw [if_pos hb, if_neg]
    rintro ⟨s, hs, hlt⟩
    have h3 := h s.kind
    rw [cnt_at (norm_nl (errN_zero h2).1).rise hs] at h3
    omega
  refine ⟨he, ?_⟩
  unfold valS
  rw [if_pos he]
theorem back_yes {l k : List St} (h : errA l k = 0) : errS (valA l k) k = 0 ∧ valS (valA l k) k = nl l := by
  obtain ⟨h1, h2, h3⟩ := errA_zero h
  rw [valA_yes h]
  obtain ⟨h4, h5⟩ := sub_yes (x := nl (nl l ++ nl k)) (k := k) (errN_nl h3) h2 (fun z => by
    rw [nl_nl h3, cnt_nl z (nl l ++ nl k), cnt_append]
    have := cnt_nonneg (fun s hs => by have := (norm_nl (errN_zero h1).1).qty s hs; omega : ∀ s ∈ nl l, 0 ≤ s.qty) z
    omega)
  refine ⟨h4, ?_⟩
  rw [h5, nl_nl h3]
  exact add_back (errN_zero h1).1 (errN_zero h2).1
theorem none_yes {l k : List St} (h : errA l k = 0) : errS (valA l k) (valA k l) = 0 ∧ valS (valA l k) (valA k l) = [] := by
  obtain ⟨h1, h2, h3⟩ := errA_zero h
  rw [valA_swap h, valA_yes h]
  obtain ⟨h4, h5⟩ := sub_yes (x := nl (nl l ++ nl k)) (k := nl (nl l ++ nl k)) (errN_nl h3) (errN_nl h3) fun z => by omega
  refine ⟨h4, ?_⟩
  rw [h5]
  exact sub_self (norm_nl (errN_zero (errN_nl h3)).1)
theorem lies_nil {w : World} {v : Option Addr} {m : Nat} (h : Lies w v m []) : m = 0 := h.1.symm
set_option maxRecDepth 100000 in
set_option maxHeartbeats 4000000 in
theorem goodsBack_in (I : Impl) (a : Option Addr) (n c : Nat) (l : List St) (b : Option Addr) (m d : Nat) (k : List St) (w : World) (hl : l.length = n) (hs : Sts w a l) (hil : In64 l) (hk : k.length = m) (ht : Sts w b k) (hik : In64 k) :
    Calls Try.prog 5 #[.slice a n c, .slice b m d] w fun e w' => e = .returned (.bool true) ∧ Below w.heap.size w w' := by
  have HW := awake_at I w
  by_cases h20 : (20 : Int) < (n : Int)
  · have H0 := Lib.hid (HW.out w (Below.refl _ _))
    clear hl hs hil HW I hk ht hik
    go_enter Try.func5, Try.ntmps5
    go_wp2_with fail
    refine H0.out.mono ?_
    rintro e w1 ⟨rfl, B1⟩
    go_wp2_with fail
    go_ret
    exact ⟨rfl, B1.out⟩
  by_cases h21 : (20 : Int) < (m : Int)
  · have H0 := Lib.hid (HW.out w (Below.refl _ _))
    clear hl hs hil HW I hk ht hik
    go_enter Try.func5, Try.ntmps5
    go_wp2_with fail
    refine H0.out.mono ?_
    rintro e w1 ⟨rfl, B1⟩
    go_wp2_with fail
    go_ret
    exact ⟨rfl, B1.out⟩
  have hn : n ≤ 20 := by omega
  have hm : m ≤ 20 := by omega
  by_cases h0 : errA l k = 0
  · have h0b := errA_swap h0
    have hx := valA_swap h0
    obtain ⟨hg, _, _⟩ := errA_zero h0
    obtain ⟨hb1, hb2⟩ := back_yes h0
    obtain ⟨hi1, hi2⟩ := none_yes h0
    rw [hx] at hi1 hi2
    have hix := in_valA hil hik
    have hlx : (valA l k).length ≤ 64 := by have := len_valA l k; omega
    have H1 := tells_of (w := w) (f := 17) (args := #[.slice a n c, .slice b m d]) (l := valA l k) (er := 0) fun W hW => by
      rw [← h0]; exact I.add a n c l b m d k W hl (hs.under hW) (by omega) hil hk (ht.under hW) (by omega) hik
    have H2 := tells_of (w := w) (f := 17) (args := #[.slice b m d, .slice a n c]) (l := valA l k) (er := 0) fun W hW => by
      rw [← h0b, ← hx]; exact I.add b m d k a n c l W hk (ht.under hW) (by omega) hik hl (hs.under hW) (by omega) hil
    have H3 := tells_of (w := w) (f := 8) (args := #[.slice a n c]) (l := nl l) (er := 0) fun W hW => by
      have := I.norm a n c l W hl (hs.under hW) (by omega) hil
      rw [hg, valN_ok hg] at this
      exact this
    have H4 : Hid (∀ W v z u, Lies W v z (valA l k) → Below w.heap.size w W → Calls Try.prog 19 #[.slice v z u, .slice b m d] W fun e w' => ∃ x p r, e = .returned (.tuple #[.slice x p r, .int .i64 0]) ∧ Hid (Lies w' x p (nl l) ∧ Below W.heap.size W w')) := Lib.hid (fun W v z u hv hW => by
      have := I.sub v z u (valA l k) b m d k W hv.1 hv.2 (by rw [← hv.1]; omega) hix hk (ht.under hW) (by omega) hik
      rw [hb1, hb2] at this
      refine this.mono ?_
      rintro e w' ⟨v, rfl, h1, h2⟩
      obtain ⟨a, m, c, rfl, h3⟩ := lies_own h1
      exact ⟨a, m, c, rfl, Lib.hid ⟨h3, h2⟩⟩)
    have H5 : Hid (∀ W v z u v' z' u', Lies W v z (valA l k) → Lies W v' z' (valA l k) → Calls Try.prog 19 #[.slice v z u, .slice v' z' u'] W fun e w' => ∃ x r, e = .returned (.tuple #[.slice x 0 r, .int .i64 0]) ∧ Hid (Below W.heap.size W w')) := Lib.hid (fun W v z u v' z' u' hv hv' => by
      have := I.sub v z u (valA l k) v' z' u' (valA l k) W hv.1 hv.2 (by rw [← hv.1]; omega) hix hv'.1 hv'.2 (by rw [← hv'.1]; omega) hix
      rw [hi1, hi2] at this
      refine this.mono ?_
      rintro e w' ⟨v, rfl, h1, h2⟩
      obtain ⟨a, m, c, rfl, h3⟩ := lies_own h1
      obtain rfl := lies_nil h3
      exact ⟨a, c, rfl, Lib.hid h2⟩)
    have SA := same_in (w := w) (show (valA l k).length ≤ 4096 by omega)
    have SS := same_in (w := w) (show (nl l).length ≤ 4096 by have := len_nl l; omega)
    clear hl hs hn hil I hk ht hm hik h0 h0b hx hg hb1 hb2 hi1 hi2 hlx hix
    go_enter Try.func5, Try.ntmps5
    go_wp2_with fail
    refine (H1.out w (Below.refl _ _)).mono ?_
    rintro e w1 ⟨v1, m1, d1, rfl, V1⟩
    go_wp2_with fail
    refine (H2.out w1 V1.out.2).mono ?_
    rintro e w2 ⟨v2, m2, d2, rfl, V2⟩
    have B2 := Lib.hid (below_then V1.out.2 V2.out.2)
    have L1 := Lib.hid (V1.out.1.under V2.out.2); have L2 := Lib.hid V2.out.1
    clear V1 V2
    go_wp2_with fail
    refine (H3.out w2 B2.out).mono ?_
    rintro e w3 ⟨v3, m3, d3, rfl, V3⟩
    have B3 := Lib.hid (below_then B2.out V3.out.2)
    have M1 := Lib.hid (L1.out.under V3.out.2); have M2 := Lib.hid (L2.out.under V3.out.2); have M3 := Lib.hid V3.out.1
    clear V3 B2 L1 L2
    go_wp2_with fail
    refine (H4.out w3 v1 m1 d1 M1.out B3.out).mono ?_
    rintro e w4 ⟨v4, m4, d4, rfl, V4⟩
    have B4 := Lib.hid (below_then B3.out V4.out.2)
    have L1 := Lib.hid (M1.out.under V4.out.2); have L2 := Lib.hid (M2.out.under V4.out.2); have L3 := Lib.hid (M3.out.under V4.out.2); have L4 := Lib.hid V4.out.1
    clear V4 B3 M1 M2 M3
    go_wp2_with fail
    refine (H5.out w4 v1 m1 d1 v2 m2 d2 L1.out L2.out).mono ?_
    rintro e w5 ⟨v5, d5, rfl, V5⟩
    have B5 := Lib.hid (below_then B4.out V5.out)
    have M1 := Lib.hid (L1.out.under V5.out); have M2 := Lib.hid (L2.out.under V5.out); have M3 := Lib.hid (L3.out.under V5.out); have M4 := Lib.hid (L4.out.under V5.out)
    clear V5 B4 L1 L2 L3 L4
    go_wp2_with fail
    refine (SA.out w5 v1 m1 d1 v2 m2 d2 B5.out M1.out.1 M1.out.2 M2.out.1 M2.out.2).mono ?_
    rintro e w6 ⟨rfl, B⟩
    have B6 := Lib.hid (below_then B5.out B.out)
    have L3 := Lib.hid (M3.out.under B.out); have L4 := Lib.hid (M4.out.under B.out)
    clear B B5 M1 M2 M3 M4
    go_wp2_with fail
    refine (SS.out w6 v4 m4 d4 v3 m3 d3 B6.out L4.out.1 L4.out.2 L3.out.1 L3.out.2).mono ?_
    rintro e w7 ⟨rfl, B⟩
    have B7 := Lib.hid (below_then B6.out B.out)
    clear B B6 L3 L4
    go_wp2_with fail
    refine (HW.out w7 B7.out).mono ?_
    rintro e w8 ⟨rfl, B8⟩
    go_wp2_with fail
    go_ret
    exact ⟨rfl, B8.out⟩
  · have h0b : errA k l ≠ 0 := fun e => h0 (errA_swap e)
    obtain ⟨ea, hea⟩ : ∃ er, errA l k = er := ⟨_, rfl⟩
    obtain ⟨eb, heb⟩ : ∃ er, errA k l = er := ⟨_, rfl⟩
    have H1 := tells_of (w := w) (f := 17) (args := #[.slice a n c, .slice b m d]) (l := valA l k) (er := ea) fun W hW => by
      rw [← hea]; exact I.add a n c l b m d k W hl (hs.under hW) (by omega) hil hk (ht.under hW) (by omega) hik
    have H2 := tells_of (w := w) (f := 17) (args := #[.slice b m d, .slice a n c]) (l := valA k l) (er := eb) fun W hW => by
      rw [← heb]; exact I.add b m d k a n c l W hk (ht.under hW) (by omega) hik hl (hs.under hW) (by omega) hil
    rw [hea] at h0
    rw [heb] at h0b
    have n1 : (ea == 0) = false := by simpa using h0
    have n2 : (eb == 0) = false := by simpa using h0b
    have n3 : ¬ eb = 0 := h0b
    clear hl hs hn hil I hk ht hm hik hea heb h0b
    go_enter Try.func5, Try.ntmps5
    go_wp2_with fail
    refine (H1.out w (Below.refl _ _)).mono ?_
    rintro e w1 ⟨v1, m1, d1, rfl, V1⟩
    go_wp2_with fail
    refine (H2.out w1 V1.out.2).mono ?_
    rintro e w2 ⟨v2, m2, d2, rfl, V2⟩
    have B2 := Lib.hid (below_then V1.out.2 V2.out.2)
    clear V1 V2
    go_wp2_with fail
    refine (HW.out w2 B2.out).mono ?_
    rintro e w8 ⟨rfl, B8⟩
    go_wp2_with fail
    go_ret
    exact ⟨rfl, B8.out⟩
end Go.Proofs.Ytbhhofeflajpoaa.Goods
