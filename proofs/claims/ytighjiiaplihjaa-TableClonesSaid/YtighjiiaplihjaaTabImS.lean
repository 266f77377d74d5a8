/- The walk of TableClones. -/
import Derived.Test.YtighjiiaplihjaaTabImR
import Derived.Test.YtighjiiaplihjaaTabQ
namespace Go.Proofs.Ytighjiiaplihjaa.Tab.Im
open Go.RowKit Go.Lib

/-- What a clone holds behind acts of its own: 2 Delete, others Put. -/
def moreL (x : List Pair) (B : Nat → AC) : Nat → List Pair
  | 0 => x
  | n + 1 => if (B n).kind = 2 then del (moreL x B n) (B n).k else put (moreL x B n) (B n).k (B n).v
theorem more_ok {x : List Pair} (h : Rising x) (B : Nat → AC) : ∀ n, Rising (moreL x B n) ∧ (moreL x B n).length ≤ x.length + n
  | 0 => ⟨h, Nat.le_refl _⟩
  | n + 1 => by
    obtain ⟨h1, h2⟩ := more_ok h B n
    show Rising (if (B n).kind = 2 then del (moreL x B n) (B n).k else put (moreL x B n) (B n).k (B n).v) ∧ (if (B n).kind = 2 then del (moreL x B n) (B n).k else put (moreL x B n) (B n).k (B n).v).length ≤ x.length + (n + 1)
    split
    · have := length_del (moreL x B n) (B n).k
      exact ⟨rising_del h1 _, by omega⟩
    · have := length_put (moreL x B n) (B n).k (B n).v
      exact ⟨rising_put h1 _ _, by omega⟩
theorem both_other {w W W' : World} {Q Q2 : Nat} {F : Nat → Prop} {xv : Value} {l : List Pair} (h : Both impl w W Q F xv l) (hg : W.grownBy W' (some Q2)) (h1 : ¬ F Q2) (h2 : xv.ownBlock ≠ some Q2) (h3 : w.heap.size ≤ Q2) : Both impl w W' Q F xv l :=
  ⟨impl.keep h.pt hg.size (fun k hk => hg.block k (impl.lt h.pt k hk) (fun e => by cases e; exact h1 hk)), own_same h.pairs (fun q hq => hg.block q (h.pairs.lt q hq).2 (fun e => by cases e; exact h2 hq)), h.far, h.apart, below_of_only h.below h3 hg⟩
/-- The table and its clone. -/
structure Twin (w W : World) (Q Q2 : Nat) (F : Nat → Prop) (xv : Value) (l lc : List Pair) : Prop where
  both : Both impl w W Q F xv l
  clone : ∃ F2, PT W Q2 F2 lc
  far : ¬ F Q2
  apart : xv.ownBlock ≠ some Q2
  new : w.heap.size ≤ Q2
theorem Twin.under {w W W' : World} {Q Q2 : Nat} {F : Nat → Prop} {xv : Value} {l lc : List Pair} (h : Twin w W Q Q2 F xv l lc) (hb : Below W.heap.size W W') : Twin w W' Q Q2 F xv l lc := by
  obtain ⟨F2, h2⟩ := h.clone
  exact ⟨h.both.under hb, ⟨F2, h2.keep hb.size (fun k hk => hb.block k (h2.lt k hk))⟩, h.far, h.apart, h.new⟩
theorem Twin.step {w W W' : World} {Q Q2 : Nat} {F : Nat → Prop} {xv : Value} {l lc lc' : List Pair} (h : Twin w W Q Q2 F xv l lc) (hg : W.grownBy W' (some Q2)) (hc : ∃ F2, PT W' Q2 F2 lc') : Twin w W' Q Q2 F xv l lc' :=
  ⟨both_other h.both hg h.far h.apart h.new, hc, h.far, h.apart, h.new⟩
set_option maxRecDepth 100000 in
set_option maxHeartbeats 8000000 in
theorem clones_in (aa : Option Addr) (an ac : Nat) (A : Nat → AC) (ba : Option Addr) (bn bc : Nat) (B : Nat → AC) (w : World) (hA : Acts w aa an A) (hac : an ≤ ac) (hm : an ≤ maxLen) (hB : Acts w ba bn B) (hbc : bn ≤ bc) (hbm : bn ≤ maxLen) :
    Calls Try.prog 6 #[.slice aa an ac, .slice ba bn bc] w fun e w' => e = .returned (.bool true) ∧ Below w.heap.size w w' := by
  by_cases hbig : 30 < an
  · have hbi : (30 : Int) < (an : Int) := by omega
    go_enter Try.func6, Try.ntmps6
    go_wp2_with fail
    refine (awake_any iters w).mono ?_
    rintro e w' ⟨rfl, hb⟩
    go_wp2_with fail
    go_ret
    exact ⟨rfl, hb⟩
  have hbi : ¬ (30 : Int) < (an : Int) := by omega
  have hbd : decide ((30 : Int) < (an : Int)) = false := decide_eq_false hbi
  by_cases hbig2 : 10 < bn
  · have hci : (10 : Int) < (bn : Int) := by omega
    have hcd : decide ((10 : Int) < (bn : Int)) = true := decide_eq_true hci
    go_enter Try.func6, Try.ntmps6
    go_wp2_with fail
    refine (awake_any iters w).mono ?_
    rintro e w' ⟨rfl, hb⟩
    go_wp2_with fail
    go_ret
    exact ⟨rfl, hb⟩
  have hci : ¬ (10 : Int) < (bn : Int) := by omega
  have hcd : decide ((10 : Int) < (bn : Int)) = false := decide_eq_false hci
  obtain ⟨l, hl⟩ : ∃ l, actsL A an = l := ⟨_, rfl⟩
  obtain ⟨m, hm⟩ : ∃ m, l.length = m := ⟨_, rfl⟩
  have HR : Hid (Rising l) := Lib.hid (hl ▸ rising_acts A an)
  have hm30 : m ≤ 30 := by have := length_acts A an; rw [hl] at this; omega
  have HAC : Hid (Calls Try.prog 9 #[ptr w.heap.size, .slice aa an ac] (w.alloc (.cells zeroT 28)) fun e w' => ∃ xa xc F, e = .returned (.tuple #[.slice xa m xc, .bool true]) ∧ Hid (Both impl w w' w.heap.size F (.slice xa m xc) l)) := Lib.hid (by
    refine (acts_any w.heap.size _ aa an ac A _ hA (by omega) hac (both_start impl w)).mono ?_
    rintro e w' ⟨xv, F, rfl, hb⟩
    rw [hl] at hb
    obtain ⟨a, c, rfl, _⟩ := pairs_slice hb.pairs
    rw [hm] at hb ⊢
    exact ⟨a, c, F, rfl, Lib.hid hb⟩)
  have HL := Lib.hid hm; have HBB := Lib.hid hB
  clear hl hA hm hB
  go_enter Try.func6, Try.ntmps6
  go_wp2_with fail
  refine HAC.out.mono ?_
  rintro e w2 ⟨xa, xc, F, rfl, H2⟩
  have HCL : Hid (Calls Try.prog 20 #[ptr w.heap.size] w2 fun e w' => ∃ Q2, e = .returned (ptr Q2) ∧ Hid (Twin w w' w.heap.size Q2 F (.slice xa m xc) l l)) := Lib.hid (by
    obtain ⟨ks, vs, hv⟩ := (H2.out.pt : PT w2 w.heap.size F l)
    refine (clone_tl w2 hv.tl).mono ?_
    rintro e w' ⟨Q2, F2, rfl, h1, rfl, hb⟩
    exact ⟨_, rfl, Lib.hid ⟨H2.out.under hb, ⟨F2, ks, vs, h1⟩, fun h => by have := hv.lt _ h; omega, fun h => by have := (H2.out.pairs.lt _ h).2; omega, H2.out.below.size⟩⟩)
  go_wp2_with fail
  refine HCL.out.mono ?_
  rintro e w3 ⟨Q2, rfl, H3⟩
  have HALC : Hid (Calls Try.prog 11 #[ptr Q2] w3 fun e w' => ∃ v, e = .returned v ∧ Hid (Own w' w3.heap.size v l ∧ Twin w w' w.heap.size Q2 F (.slice xa m xc) l l)) := Lib.hid (by
    obtain ⟨F2, h2⟩ := H3.out.clone
    refine (all_any iters Q2 F2 l w3 h2 HR.out (by have := HL.out; omega)).mono ?_
    rintro e w' ⟨v, rfl, ho, hb⟩
    exact ⟨v, rfl, Lib.hid ⟨ho, H3.out.under hb⟩⟩)
  go_wp2_with fail
  refine HALC.out.mono ?_
  rintro e w4 ⟨va, rfl, H4⟩
  have HSM : Hid (Calls Try.prog 10 #[va, .slice xa m xc] w4 fun e w' => e = .returned (.bool true) ∧ Hid (Twin w w' w.heap.size Q2 F (.slice xa m xc) l l)) := Lib.hid (by
    refine (same_yes va (.slice xa m xc) l w4 (World.ownsRow.mono H4.out.1 (Nat.zero_le _)) H4.out.2.both.pairs (by have := HL.out; omega)).mono ?_
    rintro e w' ⟨rfl, hb⟩
    exact ⟨rfl, Lib.hid (H4.out.2.under hb)⟩)
  go_wp2_with fail
  refine HSM.out.mono ?_
  rintro e w5 ⟨rfl, H5⟩
  have hbn : (bn : Int) ≤ 1048576 := by omega
  go_wp2_with fail
  go_loopw [9] (fun t wr => ∃ i : Nat, i ≤ bn ∧ t = .int .i64 i ∧ Hid (Twin w wr w.heap.size Q2 F (.slice xa m xc) l (moreL l B i))) (fun t _ => bn - (RowKit.intOf t).toNat)
  case atStart => exact ⟨0, by omega, rfl, H5⟩
  case round =>
    obtain ⟨i, hi, rfl, HT⟩ := hrel
    by_cases hlt : i < bn
    · obtain ⟨b, off, rfl, hbW, c0, c1, c2, c3, c4, c5⟩ := HBB.out i hlt
      obtain ⟨⟨kd, v, k⟩, hact⟩ : ∃ x, B i = x := ⟨_, rfl⟩
      rw [hact] at c0 c1 c2 c3 c4 c5
      simp only at c0 c1 c2 c3 c4 c5
      have hlt2 : (i : Int) < (bn : Int) := by omega
      have hi0 : (0 : Int) ≤ (i : Int) := by omega
      have hh := (bcell HT.out.both.below).1
      have d0 := (hh b _ hbW).trans c0; have d1 := (hh b _ hbW).trans c1; have d2 := (hh b _ hbW).trans c2; have d3 := (hh b _ hbW).trans c3; have d4 := (hh b _ hbW).trans c4; have d5 := (hh b _ hbW).trans c5
      obtain ⟨L, hL⟩ : ∃ L, moreL l B i = L := ⟨_, rfl⟩
      have hok := more_ok HR.out B i
      rw [hL] at HT hok
      have HOK : Hid (Rising L ∧ L.length ≤ 1000) := Lib.hid ⟨hok.1, by have := hok.2; have := HL.out; omega⟩
      have HN : Hid (moreL l B (i + 1) = if kd = 2 then del L k else put L k v) := Lib.hid (by
        show (if (B i).kind = 2 then del (moreL l B i) (B i).k else put (moreL l B i) (B i).k (B i).v) = _
        rw [hact, hL])
      clear c0 c1 c2 c3 c4 c5 hh hact hL hok hbW
      by_cases h2 : kd = 2
      · subst h2
        obtain ⟨fr, hfr⟩ : ∃ b, has L k = b := ⟨_, rfl⟩
        have HDE : Hid (Calls Try.prog 21 #[ptr Q2, kV k] wr fun e w' => e = .returned (.bool fr) ∧ Hid (Twin w w' w.heap.size Q2 F (.slice xa m xc) l (moreL l B (i + 1)))) := Lib.hid (by
          obtain ⟨F2, hp⟩ := HT.out.clone
          refine (del_im k wr hp HOK.out.1 HOK.out.2).mono ?_
          rintro e w' ⟨rfl, F', h3, h4, _⟩
          rw [hfr]
          refine ⟨rfl, Lib.hid ?_⟩
          rw [HN.out, if_pos rfl]
          exact HT.out.step h4 ⟨F', h3⟩)
        clear hfr
        go_wp2_with fail
        refine HDE.out.mono ?_
        rintro e w6 ⟨rfl, H6⟩
        go_wp2_with fail
        go_roundw
        case rel => exact ⟨i + 1, by omega, by go_num, H6⟩
        case measure => simp [RowKit.intOf]; omega
      · have hk2 : decide (kd = 2) = false := decide_eq_false h2
        have hk4 : (kd == 2) = false := by simpa using h2
        obtain ⟨fr, hfr⟩ : ∃ b, (!has L k) = b := ⟨_, rfl⟩
        have HPU : Hid (Calls Try.prog 22 #[ptr Q2, kV k, .int .i64 v] wr.drew fun e w' => e = .returned (.bool fr) ∧ Hid (Twin w w' w.heap.size Q2 F (.slice xa m xc) l (moreL l B (i + 1)))) := Lib.hid (by
          have hT2 := HT.out.under ((Below.refl _ wr).drew)
          obtain ⟨F2, hp⟩ := hT2.clone
          refine (put_im k v wr.drew hp HOK.out.1 HOK.out.2).mono ?_
          rintro e w' ⟨rfl, F', h3, h4, _⟩
          rw [hfr]
          refine ⟨rfl, Lib.hid ?_⟩
          rw [HN.out, if_neg h2]
          exact hT2.step h4 ⟨F', h3⟩)
        clear hfr
        go_wp2_with fail
        go_region_with (go_at_call 22; refine HPU.out.mono ?_; rintro e w6 ⟨rfl, H6⟩)
        all_goals
          go_wp2_with fail
          go_roundw
          case rel => exact ⟨i + 1, by omega, by go_num, H6⟩
          case measure => simp [RowKit.intOf]; omega
    · obtain rfl : i = bn := by omega
      have HALL : Hid (Calls Try.prog 11 #[ptr w.heap.size] wr fun e w' => ∃ v, e = .returned v ∧ Hid (Own w' wr.heap.size v l ∧ Both impl w w' w.heap.size F (.slice xa m xc) l)) := Lib.hid (by
        refine (all_any iters w.heap.size F l wr HT.out.both.pt HR.out (by have := HL.out; omega)).mono ?_
        rintro e w' ⟨v, rfl, ho, hb⟩
        exact ⟨v, rfl, Lib.hid ⟨ho, HT.out.both.under hb⟩⟩)
      go_wp2_with fail
      refine HALL.out.mono ?_
      rintro e w6 ⟨vb, rfl, H6⟩
      have HSM2 : Hid (Calls Try.prog 10 #[vb, .slice xa m xc] w6 fun e w' => e = .returned (.bool true) ∧ Hid (Both impl w w' w.heap.size F (.slice xa m xc) l)) := Lib.hid (by
        refine (same_yes vb (.slice xa m xc) l w6 (World.ownsRow.mono H6.out.1 (Nat.zero_le _)) H6.out.2.pairs (by have := HL.out; omega)).mono ?_
        rintro e w' ⟨rfl, hb⟩
        exact ⟨rfl, Lib.hid (H6.out.2.under hb)⟩)
      go_wp2_with fail
      refine HSM2.out.mono ?_
      rintro e w7 ⟨rfl, H7⟩
      have HGO : Hid (Calls Try.prog 23 #[ptr w.heap.size] w7 fun e w' => ∃ v, e = .returned v ∧ Hid (Own w' w7.heap.size v l ∧ Pairs w' (.slice xa m xc) l ∧ (∃ F', PT w' w.heap.size F' []) ∧ Below w.heap.size w w')) := Lib.hid (by
        refine (gone_any w7 H7.out.pt HR.out (by have := HL.out; omega)).mono ?_
        rintro e w' ⟨v, rfl, ho, hp, hb⟩
        obtain ⟨ks, vs, hv⟩ := (H7.out.pt : PT w7 w.heap.size F l)
        refine ⟨v, rfl, Lib.hid ⟨ho, own_same H7.out.pairs (fun q hq => hb.block q (H7.out.pairs.lt q hq).2 (fun e => ?_)), hp, ?_⟩⟩
        · subst e
          exact (H7.out.apart _ hq).1 hv.self
        · have h1 := H7.out.below
          exact ⟨hb.os.trans h1.os, hb.tape.trans h1.tape, hb.output.trans h1.output, Nat.le_trans h1.size hb.size, fun k hk => (hb.block k (Nat.lt_of_lt_of_le hk h1.size) (by omega)).trans (h1.block k hk)⟩)
      go_wp2_with fail
      refine HGO.out.mono ?_
      rintro e w8 ⟨vg, rfl, H8⟩
      have HSM3 : Hid (Calls Try.prog 10 #[vg, .slice xa m xc] w8 fun e w' => e = .returned (.bool true) ∧ Hid (Below w8.heap.size w8 w')) := Lib.hid (by
        refine (same_yes vg (.slice xa m xc) l w8 (World.ownsRow.mono H8.out.1 (Nat.zero_le _)) H8.out.2.1 (by have := HL.out; omega)).mono ?_
        rintro e w' ⟨rfl, hb⟩
        exact ⟨rfl, Lib.hid hb⟩)
      go_wp2_with fail
      refine HSM3.out.mono ?_
      rintro e w9 ⟨rfl, H9⟩
      have HLE : Hid (Calls Try.prog 24 #[ptr w.heap.size] w9 fun e w' => e = .returned (.int .i64 0) ∧ Hid (Below w.heap.size w w')) := Lib.hid (by
        obtain ⟨F', h1⟩ := H8.out.2.2.1
        refine (len_im w9 (h1.keep H9.out.size (fun k hk => H9.out.block k (h1.lt k hk)))).mono ?_
        rintro e w' ⟨h2, h3⟩
        exact ⟨h2, Lib.hid (below_then (below_then H8.out.2.2.2 H9.out) (below_drawn h3))⟩)
      go_wp2_with fail
      refine HLE.out.mono ?_
      rintro e w10 ⟨rfl, H10⟩
      go_wp2_with fail
      refine (awake_any iters w10).mono ?_
      rintro e w11 ⟨rfl, hb11⟩
      have HE := Lib.hid (below_then H10.out hb11)
      go_wp2_with fail
      go_ret
      exact ⟨rfl, HE.out⟩
end Go.Proofs.Ytighjiiaplihjaa.Tab.Im
