/- GoodsNorms, walked for any goods. -/
import Derived.Test.YtbhhofeflajpoaaGoodsI
namespace Go.Proofs.Ytbhhofeflajpoaa.Goods
open Go.RowKit Go.Lib

open Classical in
/-- Rows of one list are the same. -/
theorem same_in {w : World} {l : List St} (h : l.length ≤ 4096) : Hid (∀ W a n c b m d, Below w.heap.size w W → l.length = n → Sts W a l → l.length = m → Sts W b l → Calls Try.prog 12 #[.slice a n c, .slice b m d] W fun e w' => e = .returned (.bool true) ∧ Hid (Below W.heap.size W w')) := Lib.hid (fun W a n c b m d _ hn hs hm ht => by
  have := dsame a n c l b m d l W hn hs (by omega) hm ht (by omega)
  rw [decide_eq_true rfl] at this
  exact this.mono fun _ _ ⟨e, h⟩ => ⟨e, Lib.hid h⟩)
theorem awake_at (I : Impl) (w : World) : Hid (∀ W, Below w.heap.size w W → Calls Try.prog 7 #[] W fun e w' => e = .returned (.bool true) ∧ Hid (Below w.heap.size w w')) := Lib.hid (fun W hW => (awake_in I W).mono fun _ _ ⟨e, h⟩ => ⟨e, Lib.hid (below_then hW h)⟩)
set_option maxRecDepth 100000 in
set_option maxHeartbeats 4000000 in
theorem goodsNorms_in (I : Impl) (a : Option Addr) (n c : Nat) (l : List St) (ty kd : Int) (w : World) (hl : l.length = n) (hs : Sts w a l) (hil : In64 l) (hkd : Ints.I64 kd) :
    Calls Try.prog 3 #[.slice a n c, .int .i64 ty, .int .i64 kd] w fun e w' => e = .returned (.bool true) ∧ Below w.heap.size w w' := by
  have HW := awake_at I w
  by_cases h20 : (20 : Int) < (n : Int)
  · have H0 := Lib.hid (HW.out w (Below.refl _ _))
    clear hl hs hil HW I
    go_enter Try.func3, Try.ntmps3
    go_wp2_with fail
    refine H0.out.mono ?_
    rintro e w1 ⟨rfl, B1⟩
    go_wp2_with fail
    go_ret
    exact ⟨rfl, B1.out⟩
  · have hn : n ≤ 20 := by omega
    have HL := Lib.hid (show (valN l).length ≤ 4096 by have := len_valN l; omega)
    have HS := same_in (w := w) HL.out
    obtain ⟨er, her⟩ : ∃ er, errN l = er := ⟨_, rfl⟩
    have H1 : Hid (∀ W, Below w.heap.size w W → Calls Try.prog 8 #[.slice a n c] W fun e w' => ∃ v m d, e = .returned (.tuple #[.slice v m d, .int .i64 er]) ∧ Hid ((valN l).length = m ∧ Sts w' v (valN l) ∧ Below W.heap.size W w')) := Lib.hid (fun W hW => by
      rw [← her]
      refine (I.norm a n c l W hl (hs.under hW) (by omega) hil).mono ?_
      rintro e w' ⟨v, rfl, h1, h2⟩
      obtain ⟨a', c', rfl, h3⟩ := sts_own h1
      exact ⟨a', _, c', rfl, Lib.hid ⟨rfl, h3, h2⟩⟩)
    have H2 : Hid (∀ W, Below w.heap.size w W → Calls Try.prog 9 #[.slice a n c] W fun e w' => ∃ v m d, e = .returned (.tuple #[.slice v m d, .int .i64 er]) ∧ Hid ((valN l).length = m ∧ Sts w' v (valN l) ∧ Below W.heap.size W w')) := Lib.hid (fun W hW => by
      rw [← her]
      exact (dnorm2 a n c l W hl (hs.under hW) (by omega)).mono fun _ _ ⟨a', m, c', e, _, h⟩ => ⟨a', m, c', e, Lib.hid ⟨h.out.1, h.out.2.1, h.out.2.2.2⟩⟩)
    obtain ⟨z, hz⟩ : ∃ z, tot (valN l) = z := ⟨_, rfl⟩
    have H3 : Hid (∀ W, Below w.heap.size w W → Calls Try.prog 10 #[.slice a n c] W fun e w' => e = .returned (.tuple #[.int .i64 z, .int .i64 er]) ∧ Hid (Below W.heap.size W w')) := Lib.hid (fun W hW => by
      rw [← her, ← hz]
      exact (I.size a n c l W hl (hs.under hW) (by omega) hil).mono fun _ _ ⟨e, h⟩ => ⟨e, Lib.hid h⟩)
    have H4 : Hid (∀ W, Below w.heap.size w W → Calls Try.prog 11 #[.slice a n c] W fun e w' => e = .returned (.tuple #[.int .i64 z, .int .i64 er]) ∧ Hid (Below W.heap.size W w')) := Lib.hid (fun W hW => by
      rw [← her, ← hz]
      exact (dsize a n c l W hl (hs.under hW) (by omega)).mono fun _ _ ⟨e, h⟩ => ⟨e, Lib.hid h⟩)
    obtain ⟨q, hq⟩ : ∃ q, chk l ty = q := ⟨_, rfl⟩
    have H5 : Hid (∀ W, Below w.heap.size w W → Calls Try.prog 13 #[.slice a n c, .int .i64 ty] W fun e w' => e = .returned (.int .i64 q) ∧ Hid (Below w.heap.size w w')) := Lib.hid (fun W hW => by
      rw [← hq]
      exact (I.check a n c l ty W hl (hs.under hW) (by omega) hil).mono fun _ _ ⟨e, h⟩ => ⟨e, Lib.hid (below_then hW h)⟩)
    have H6 : Hid (∀ W, Below w.heap.size w W → Calls Try.prog 14 #[.slice a n c, .int .i64 ty] W fun e w' => e = .returned (.int .i64 q) ∧ Hid (Below w.heap.size w w')) := Lib.hid (fun W hW => by
      rw [← hq]
      exact (dcheck a n c l ty W hl (hs.under hW) (by omega)).mono fun _ _ ⟨e, h⟩ => ⟨e, Lib.hid (below_then hW h)⟩)
    obtain ⟨x, hx⟩ : ∃ x, cnt (valN l) kd = x := ⟨_, rfl⟩
    have H7 : Hid (∀ W, Below w.heap.size w W → Calls Try.prog 15 #[.slice a n c, .int .i64 kd] W fun e w' => e = .returned (.int .i64 x) ∧ Hid (Below w.heap.size w w')) := Lib.hid (fun W hW => by
      rw [← hx]
      exact (I.count a n c l kd W hl (hs.under hW) (by omega) hil hkd).mono fun _ _ ⟨e, h⟩ => ⟨e, Lib.hid (below_then hW h)⟩)
    have H8 : Hid (∀ W, Below w.heap.size w W → Calls Try.prog 16 #[.slice a n c, .int .i64 kd] W fun e w' => e = .returned (.int .i64 x) ∧ Hid (Below w.heap.size w w')) := Lib.hid (fun W hW => by
      rw [← hx]
      exact (dcount a n c l kd W hl (hs.under hW) (by omega)).mono fun _ _ ⟨e, h⟩ => ⟨e, Lib.hid (below_then hW h)⟩)
    have e1 : (er == er) = true := by simp
    have e2 : (z == z) = true := by simp
    have e3 : (q == q) = true := by simp
    have e4 : (x == x) = true := by simp
    clear hl hs hn hil I her hz hq hx HL
    go_enter Try.func3, Try.ntmps3
    go_wp2_with fail
    refine (H1.out w (Below.refl _ _)).mono ?_
    rintro e w1 ⟨v1, m1, d1, rfl, V1⟩
    go_wp2_with fail
    refine (H2.out w1 V1.out.2.2).mono ?_
    rintro e w2 ⟨v2, m2, d2, rfl, V2⟩
    have V3 : Hid (((valN l).length = m1 ∧ Sts w2 v1 (valN l)) ∧ ((valN l).length = m2 ∧ Sts w2 v2 (valN l)) ∧ Below w.heap.size w w2) := Lib.hid ⟨⟨V1.out.1, V1.out.2.1.under V2.out.2.2⟩, ⟨V2.out.1, V2.out.2.1⟩, below_then V1.out.2.2 V2.out.2.2⟩
    clear V1 V2
    go_wp2_with fail
    refine (H3.out w2 V3.out.2.2).mono ?_
    rintro e w3 ⟨rfl, B3⟩
    have V4 : Hid (((valN l).length = m1 ∧ Sts w3 v1 (valN l)) ∧ ((valN l).length = m2 ∧ Sts w3 v2 (valN l)) ∧ Below w.heap.size w w3) := Lib.hid ⟨⟨V3.out.1.1, V3.out.1.2.under B3.out⟩, ⟨V3.out.2.1.1, V3.out.2.1.2.under B3.out⟩, below_then V3.out.2.2 B3.out⟩
    clear V3 B3
    go_wp2_with fail
    refine (H4.out w3 V4.out.2.2).mono ?_
    rintro e w4 ⟨rfl, B4⟩
    have V5 : Hid (((valN l).length = m1 ∧ Sts w4 v1 (valN l)) ∧ ((valN l).length = m2 ∧ Sts w4 v2 (valN l)) ∧ Below w.heap.size w w4) := Lib.hid ⟨⟨V4.out.1.1, V4.out.1.2.under B4.out⟩, ⟨V4.out.2.1.1, V4.out.2.1.2.under B4.out⟩, below_then V4.out.2.2 B4.out⟩
    clear V4 B4
    go_wp2_with fail
    refine (HS.out w4 v1 m1 d1 v2 m2 d2 V5.out.2.2 V5.out.1.1 V5.out.1.2 V5.out.2.1.1 V5.out.2.1.2).mono ?_
    rintro e w5 ⟨rfl, B5⟩
    have B6 := Lib.hid (below_then V5.out.2.2 B5.out)
    clear V5 B5
    go_wp2_with fail
    refine (H5.out w5 B6.out).mono ?_
    rintro e w6 ⟨rfl, B7⟩
    go_wp2_with fail
    refine (H6.out w6 B7.out).mono ?_
    rintro e w7 ⟨rfl, B8⟩
    go_wp2_with fail
    refine (H7.out w7 B8.out).mono ?_
    rintro e w8 ⟨rfl, B9⟩
    go_wp2_with fail
    refine (H8.out w8 B9.out).mono ?_
    rintro e w9 ⟨rfl, B10⟩
    go_wp2_with fail
    refine (HW.out w9 B10.out).mono ?_
    rintro e w10 ⟨rfl, B11⟩
    go_wp2_with fail
    go_ret
    exact ⟨rfl, B11.out⟩
end Go.Proofs.Ytbhhofeflajpoaa.Goods
