/- GoodsSums, walked for any goods. -/
import Derived.Test.YtbhhofeflajpoaaGoodsJ
namespace Go.Proofs.Ytbhhofeflajpoaa.Goods
open Go.RowKit Go.Lib

/-- A row of these stacks, wherever it lies. -/
def Lies (W : World) (v : Option Addr) (m : Nat) (l : List St) : Prop := l.length = m ∧ Sts W v l
theorem Lies.under {w w' : World} {v : Option Addr} {m : Nat} {l : List St} (h : Lies w v m l) (hb : Below w.heap.size w w') : Lies w' v m l := ⟨h.1, h.2.under hb⟩
theorem lies_own {w : World} {B : Nat} {v : Value} {l : List St} (h : OwnS w B v l) : ∃ a m c, v = .slice a m c ∧ Lies w a m l := by
  obtain ⟨a, c, e, hs⟩ := sts_own h
  exact ⟨a, _, c, e, rfl, hs⟩
theorem len_valA (l k : List St) : (valA l k).length ≤ l.length + k.length := by
  unfold valA
  split
  · have h1 := len_valN (nl l ++ nl k)
    have h2 := len_nl l
    have h3 := len_nl k
    rw [List.length_append] at h1
    omega
  · simp
theorem len_valS (l k : List St) : (valS l k).length ≤ l.length := by
  unfold valS
  split
  · have h1 := len_subL (nl l) (nl k)
    have h2 := len_nl l
    omega
  · simp
theorem len_valT (l : List St) (k : Int) : (valT l k).length ≤ l.length := by
  unfold valT
  split
  · have h1 := len_timesL (nl l) k
    have h2 := len_nl l
    omega
  · simp
/-- What a function tells: a row of these stacks, and this error. -/
def Tells (f : FuncId) (args : Array Value) (w : World) (l : List St) (er : Int) : Prop := ∀ W, Below w.heap.size w W → Calls Try.prog f args W fun e w' => ∃ v m d, e = .returned (.tuple #[.slice v m d, .int .i64 er]) ∧ Hid (Lies w' v m l ∧ Below W.heap.size W w')
theorem tells_of {f : FuncId} {args : Array Value} {w : World} {l : List St} {er : Int} (h : ∀ W, Below w.heap.size w W → Calls Try.prog f args W fun e w' => ∃ v, e = .returned (.tuple #[v, .int .i64 er]) ∧ OwnS w' W.heap.size v l ∧ Below W.heap.size W w') : Hid (Tells f args w l er) := Lib.hid (fun W hW => by
  refine (h W hW).mono ?_
  rintro e w' ⟨v, rfl, h1, h2⟩
  obtain ⟨a, m, c, rfl, h3⟩ := lies_own h1
  exact ⟨a, m, c, rfl, Lib.hid ⟨h3, h2⟩⟩)
set_option maxRecDepth 100000 in
set_option maxHeartbeats 4000000 in
theorem goodsSums_in (I : Impl) (a : Option Addr) (n c : Nat) (l : List St) (b : Option Addr) (m d : Nat) (k : List St) (t : Int) (w : World) (hl : l.length = n) (hs : Sts w a l) (hil : In64 l) (hk : k.length = m) (ht : Sts w b k) (hik : In64 k) (hit : Ints.I64 t) :
    Calls Try.prog 4 #[.slice a n c, .slice b m d, .int .i64 t] w fun e w' => e = .returned (.bool true) ∧ Below w.heap.size w w' := by
  have HW := awake_at I w
  by_cases h20 : (20 : Int) < (n : Int)
  · have H0 := Lib.hid (HW.out w (Below.refl _ _))
    clear hl hs hil HW I hk ht hik
    go_enter Try.func4, Try.ntmps4
    go_wp2_with fail
    refine H0.out.mono ?_
    rintro e w1 ⟨rfl, B1⟩
    go_wp2_with fail
    go_ret
    exact ⟨rfl, B1.out⟩
  by_cases h21 : (20 : Int) < (m : Int)
  · have H0 := Lib.hid (HW.out w (Below.refl _ _))
    clear hl hs hil HW I hk ht hik
    go_enter Try.func4, Try.ntmps4
    go_wp2_with fail
    refine H0.out.mono ?_
    rintro e w1 ⟨rfl, B1⟩
    go_wp2_with fail
    go_ret
    exact ⟨rfl, B1.out⟩
  have hn : n ≤ 20 := by omega
  have hm : m ≤ 20 := by omega
  have SA := same_in (w := w) (show (valA l k).length ≤ 4096 by have := len_valA l k; omega)
  have SS := same_in (w := w) (show (valS l k).length ≤ 4096 by have := len_valS l k; omega)
  have ST := same_in (w := w) (show (valT l t).length ≤ 4096 by have := len_valT l t; omega)
  obtain ⟨ea, hea⟩ : ∃ er, errA l k = er := ⟨_, rfl⟩
  obtain ⟨es, hes⟩ : ∃ er, errS l k = er := ⟨_, rfl⟩
  obtain ⟨et, het⟩ : ∃ er, errT l t = er := ⟨_, rfl⟩
  have H1 := tells_of (w := w) (f := 17) (args := #[.slice a n c, .slice b m d]) (l := valA l k) (er := ea) fun W hW => by
    rw [← hea]; exact I.add a n c l b m d k W hl (hs.under hW) (by omega) hil hk (ht.under hW) (by omega) hik
  have H2 := tells_of (w := w) (f := 18) (args := #[.slice a n c, .slice b m d]) (l := valA l k) (er := ea) fun W hW => by
    rw [← hea]; exact (dadd a n c l b m d k W hl (hs.under hW) (by omega) hk (ht.under hW) (by omega)).mono fun _ _ ⟨_, _, _, e, _, h1, h2⟩ => ⟨_, e, h1, h2⟩
  have H3 := tells_of (w := w) (f := 19) (args := #[.slice a n c, .slice b m d]) (l := valS l k) (er := es) fun W hW => by
    rw [← hes]; exact I.sub a n c l b m d k W hl (hs.under hW) (by omega) hil hk (ht.under hW) (by omega) hik
  have H4 := tells_of (w := w) (f := 20) (args := #[.slice a n c, .slice b m d]) (l := valS l k) (er := es) fun W hW => by
    rw [← hes]; exact dsub a n c l b m d k W hl (hs.under hW) (by omega) hk (ht.under hW) (by omega)
  have H5 := tells_of (w := w) (f := 21) (args := #[.slice a n c, .int .i64 t]) (l := valT l t) (er := et) fun W hW => by
    rw [← het]; exact I.times a n c l t W hl (hs.under hW) (by omega) hil hit
  have H6 := tells_of (w := w) (f := 22) (args := #[.slice a n c, .int .i64 t]) (l := valT l t) (er := et) fun W hW => by
    rw [← het]; exact dtimes a n c l t W hl (hs.under hW) (by omega)
  have e1 : (ea == ea) = true := by simp
  have e2 : (es == es) = true := by simp
  have e3 : (et == et) = true := by simp
  clear hl hs hn hil I hk ht hm hik hea hes het
  go_enter Try.func4, Try.ntmps4
  go_wp2_with fail
  refine (H1.out w (Below.refl _ _)).mono ?_
  rintro e w1 ⟨v1, m1, d1, rfl, V1⟩
  go_wp2_with fail
  refine (H2.out w1 V1.out.2).mono ?_
  rintro e w2 ⟨v2, m2, d2, rfl, V2⟩
  have B2 := Lib.hid (below_then V1.out.2 V2.out.2)
  have L1 := Lib.hid (V1.out.1.under V2.out.2); have L2 := Lib.hid V2.out.1
  clear V1 V2
  go_wp2_with fail
  refine (H3.out w2 B2.out).mono ?_
  rintro e w3 ⟨v3, m3, d3, rfl, V3⟩
  have B3 := Lib.hid (below_then B2.out V3.out.2)
  have M1 := Lib.hid (L1.out.under V3.out.2); have M2 := Lib.hid (L2.out.under V3.out.2); have M3 := Lib.hid V3.out.1
  clear V3 B2 L1 L2
  go_wp2_with fail
  refine (H4.out w3 B3.out).mono ?_
  rintro e w4 ⟨v4, m4, d4, rfl, V4⟩
  have B4 := Lib.hid (below_then B3.out V4.out.2)
  have L1 := Lib.hid (M1.out.under V4.out.2); have L2 := Lib.hid (M2.out.under V4.out.2); have L3 := Lib.hid (M3.out.under V4.out.2); have L4 := Lib.hid V4.out.1
  clear V4 B3 M1 M2 M3
  go_wp2_with fail
  refine (H5.out w4 B4.out).mono ?_
  rintro e w5 ⟨v5, m5, d5, rfl, V5⟩
  have B5 := Lib.hid (below_then B4.out V5.out.2)
  have M1 := Lib.hid (L1.out.under V5.out.2); have M2 := Lib.hid (L2.out.under V5.out.2); have M3 := Lib.hid (L3.out.under V5.out.2); have M4 := Lib.hid (L4.out.under V5.out.2); have M5 := Lib.hid V5.out.1
  clear V5 B4 L1 L2 L3 L4
  go_wp2_with fail
  refine (H6.out w5 B5.out).mono ?_
  rintro e w6 ⟨v6, m6, d6, rfl, V6⟩
  have B6 := Lib.hid (below_then B5.out V6.out.2)
  have L1 := Lib.hid (M1.out.under V6.out.2); have L2 := Lib.hid (M2.out.under V6.out.2); have L3 := Lib.hid (M3.out.under V6.out.2); have L4 := Lib.hid (M4.out.under V6.out.2); have L5 := Lib.hid (M5.out.under V6.out.2); have L6 := Lib.hid V6.out.1
  clear V6 B5 M1 M2 M3 M4 M5
  go_wp2_with fail
  refine (SA.out w6 v1 m1 d1 v2 m2 d2 B6.out L1.out.1 L1.out.2 L2.out.1 L2.out.2).mono ?_
  rintro e w7 ⟨rfl, B⟩
  have B7 := Lib.hid (below_then B6.out B.out)
  have M3 := Lib.hid (L3.out.under B.out); have M4 := Lib.hid (L4.out.under B.out); have M5 := Lib.hid (L5.out.under B.out); have M6 := Lib.hid (L6.out.under B.out)
  clear B B6 L1 L2 L3 L4 L5 L6
  go_wp2_with fail
  refine (SS.out w7 v3 m3 d3 v4 m4 d4 B7.out M3.out.1 M3.out.2 M4.out.1 M4.out.2).mono ?_
  rintro e w8 ⟨rfl, B⟩
  have B8 := Lib.hid (below_then B7.out B.out)
  have L5 := Lib.hid (M5.out.under B.out); have L6 := Lib.hid (M6.out.under B.out)
  clear B B7 M3 M4 M5 M6
  go_wp2_with fail
  refine (ST.out w8 v5 m5 d5 v6 m6 d6 B8.out L5.out.1 L5.out.2 L6.out.1 L6.out.2).mono ?_
  rintro e w9 ⟨rfl, B⟩
  have B9 := Lib.hid (below_then B8.out B.out)
  clear B B8 L5 L6
  go_wp2_with fail
  refine (HW.out w9 B9.out).mono ?_
  rintro e w10 ⟨rfl, B10⟩
  go_wp2_with fail
  go_ret
  exact ⟨rfl, B10.out⟩
end Go.Proofs.Ytbhhofeflajpoaa.Goods
