/- The program's purse in memory; what it says of numbers; its embedded table's two calls; Money. -/
import Derived.Test.YteglahogimdnfaaPurH
import Derived.Test.YteglahogimdnfaaPurImMath
import Derived.Test.YteglahogimdnfaaTinImK
import Derived.Test.YteglahogimdnfaaTinImM
import Derived.Test.YteglahogimdnfaaCalcAddP
namespace Go.Proofs.Yteglahogimdnfaa.Purse
open Go.RowKit Go.Lib

theorem below_drewN {B : Nat} {w w' : World} (h : Below B w w') (k : Nat) : Below B w (w'.drewN k) := ⟨h.os, h.tape, h.output, h.size, h.block⟩
/-- The program's purse at block Q: the table of its accounts; R: what it is made of. -/
def PT (w : World) (Q : Nat) (R : Nat → Prop) (l : List Ac) : Prop := Tab.Im.PT w Q R (prs l)
theorem PT.keep {w w' : World} {Q : Nat} {R : Nat → Prop} {l : List Ac} (h : PT w Q R l) (hsz : w.heap.size ≤ w'.heap.size) (hk : ∀ k, R k → w'.heap[k]? = w.heap[k]?) : PT w' Q R l := Tab.Im.PT.keep h hsz hk
theorem PT.lt {w : World} {Q : Nat} {R : Nat → Prop} {l : List Ac} (h : PT w Q R l) (k : Nat) (hk : R k) : k < w.heap.size := Tab.Im.PT.lt h k hk
theorem PT.under {w w' : World} {Q : Nat} {R : Nat → Prop} {l : List Ac} (h : PT w Q R l) (hb : Below w.heap.size w w') : PT w' Q R l := h.keep hb.size fun k hk => hb.block k (h.lt k hk)
theorem PT.self {w : World} {Q : Nat} {R : Nat → Prop} {l : List Ac} (h : PT w Q R l) : R Q := by
  obtain ⟨ks, vs, h⟩ := h
  exact h.self
/-- A call on the purse at Q has turned its block alone; what it is made of then is what it was, or new. -/
structure Up (w w' : World) (Q : Nat) (R R' : Nat → Prop) : Prop where
  grown : w.grownBy w' (some Q)
  more : ∀ j, R' j → R j ∨ w.heap.size ≤ j
theorem Up.refl (w : World) (Q : Nat) (R : Nat → Prop) : Up w w Q R R := ⟨only_refl w _, fun _ h => .inl h⟩
theorem Up.trans {a b c : World} {Q : Nat} {R R1 R2 : Nat → Prop} (h : Up a b Q R R1) (k : Up b c Q R1 R2) : Up a c Q R R2 :=
  ⟨only_trans h.grown k.grown, fun j hj => by
    rcases k.more j hj with h1 | h1
    · exact h.more j h1
    · exact .inr (Nat.le_trans h.grown.size h1)⟩
theorem Up.of_below {w w' : World} {Q : Nat} {R : Nat → Prop} (h : Below w.heap.size w w') : Up w w' Q R R := ⟨⟨h.os, h.tape, h.output, h.size, fun k hk _ => h.block k hk⟩, fun _ h => .inl h⟩
theorem Up.step {w w' : World} {Q : Nat} {R R' : Nat → Prop} (h : Up w w' Q R R') : StepF w w' (fun k => k = Q) (fun k => k = Q) :=
  ⟨h.grown.os, h.grown.tape, h.grown.output, h.grown.size, fun k hk hn => h.grown.block k hk (fun e => hn (by cases e; rfl)), fun _ h => .inl h⟩
/-! upTo -/
theorem upto_yes (n m : Int) (w : World) (h0 : 0 ≤ n) (h1 : n ≤ m) : Calls Try.prog 23 #[.int .i64 n, .int .i64 m] w fun e w' => e = .returned (.bool true) ∧ w = w' := by
  go_enter Try.func23, Try.ntmps23
  go_wp2_with fail
  go_ret
  exact ⟨rfl, rfl⟩
theorem upto_no (n m : Int) (w : World) (h : n < 0 ∨ m < n) : Calls Try.prog 23 #[.int .i64 n, .int .i64 m] w fun e w' => e = .returned (.bool false) ∧ w = w' := by
  have h2 : n < 0 ∨ (¬ n < 0 ∧ m < n) := by omega
  clear h
  rcases h2 with h | ⟨h, k⟩
  · have d1 : decide (0 ≤ n) = false := decide_eq_false (by omega)
    go_enter Try.func23, Try.ntmps23
    go_wp2_with fail
    go_ret
    exact ⟨rfl, rfl⟩
  · have d1 : decide (0 ≤ n) = true := decide_eq_true (by omega)
    have d2 : decide (n ≤ m) = false := decide_eq_false (by omega)
    go_enter Try.func23, Try.ntmps23
    go_wp2_with fail
    go_ret
    exact ⟨rfl, rfl⟩
/-! together -/
theorem sum_yes (a m : Int) (h : 0 ≤ a) (h0 : 0 ≤ m) (hi : a + m ≤ 9223372036854775807) (W : World) :
    Calls Try.prog 38 #[.int .i64 a, .int .i64 m] W fun e w' => e = .returned (.tuple #[.int .i64 (a + m), .int .i64 0]) ∧ W = w' := by
  have := Calc.add_any a m W (by omega) (by omega) (by omega) (by omega)
  rw [Calc.valN_in (by omega) hi, Calc.valE_in (by omega) hi] at this
  exact this
theorem sum_no (a m : Int) (h : 0 ≤ a) (h0 : 0 ≤ m) (ha : a ≤ 9223372036854775807) (hm : m ≤ 9223372036854775807) (hi : 9223372036854775807 < a + m) (W : World) :
    Calls Try.prog 38 #[.int .i64 a, .int .i64 m] W fun e w' => e = .returned (.tuple #[.int .i64 0, .int .i64 5]) ∧ W = w' := by
  have := Calc.add_any a m W (by omega) (by omega) (by omega) (by omega)
  rw [Calc.valN_out (.inr hi), Calc.valE_out (.inr hi)] at this
  exact this
set_option maxRecDepth 100000 in
theorem together_yes (a n : Int) (w : World) (h : 0 ≤ a) (h0 : 0 ≤ n) (hi : a + n ≤ 1152921504606846976) :
    Calls Try.prog 25 #[.int .i64 a, .int .i64 n] w fun e w' => e = .returned (.tuple #[.int .i64 (a + n), .int .i64 0]) ∧ w = w' := by
  have HC := Lib.hid (sum_yes a n h h0 (by omega) w)
  obtain ⟨s, hs⟩ : ∃ s, a + n = s := ⟨_, rfl⟩
  rw [hs] at HC hi ⊢
  have hn : ¬ 1152921504606846976 < s := by omega
  clear hs
  go_enter Try.func25, Try.ntmps25
  go_wp2_with fail
  refine HC.out.mono ?_
  rintro e w' ⟨rfl, rfl⟩
  go_wp2_with fail
  go_ret2
  exact ⟨rfl, rfl⟩
set_option maxRecDepth 100000 in
theorem together_no (a n : Int) (w : World) (h : 0 ≤ a) (h0 : 0 ≤ n) (ha : a ≤ 9223372036854775807) (hm : n ≤ 9223372036854775807) (hi : 1152921504606846976 < a + n) :
    Calls Try.prog 25 #[.int .i64 a, .int .i64 n] w fun e w' => e = .returned (.tuple #[.int .i64 0, .int .i64 5]) ∧ w = w' := by
  by_cases hb : a + n ≤ 9223372036854775807
  · have HC := Lib.hid (sum_yes a n h h0 hb w)
    obtain ⟨s, hs⟩ : ∃ s, a + n = s := ⟨_, rfl⟩
    rw [hs] at HC hi
    have hd : decide (1152921504606846976 < s) = true := decide_eq_true hi
    clear hs hb
    go_enter Try.func25, Try.ntmps25
    go_wp2_with fail
    refine HC.out.mono ?_
    rintro e w' ⟨rfl, rfl⟩
    go_wp2_with fail
    go_ret2
    exact ⟨rfl, rfl⟩
  · have HC := Lib.hid (sum_no a n h h0 ha hm (by omega) w)
    clear hi hb
    go_enter Try.func25, Try.ntmps25
    go_wp2_with fail
    refine HC.out.mono ?_
    rintro e w' ⟨rfl, rfl⟩
    go_wp2_with fail
    go_ret2
    exact ⟨rfl, rfl⟩
/-! the embedded table -/
set_option maxRecDepth 100000 in
theorem of_im {Q : Nat} {R : Nat → Prop} {l : List Ac} (o : Int) (w : World) (h : PT w Q R l) (hr : Rise l) (hl : l.length ≤ 1000) :
    Calls Try.prog 36 #[ptr Q, .int .i64 o] w fun e w' => e = .returned (.tuple #[.int .i64 (monV l o), .bool (decide (pos l o < l.length))]) ∧ Below w.heap.size w w' := by
  have HG := Lib.hid (Tab.Im.get_im (kO o) w h (prs_rising hr) (by rw [prs_length]; exact hl))
  rw [value_prs hr, has_prs] at HG
  obtain ⟨m, hm⟩ : ∃ m, monV l o = m := ⟨_, rfl⟩
  obtain ⟨b, hb⟩ : ∃ b, decide (pos l o < l.length) = b := ⟨_, rfl⟩
  rw [hm, hb] at HG ⊢
  clear h hr hl hm hb
  go_enter Try.func36, Try.ntmps36
  go_wp2_with fail
  refine HG.out.mono ?_
  rintro e w' ⟨rfl, hb⟩
  have HB := Lib.hid hb
  clear hb
  go_wp2_with fail
  go_ret2
  exact ⟨rfl, HB.out⟩
set_option maxRecDepth 100000 in
theorem put_go {Q : Nat} {R : Nat → Prop} {l' : List Ac} {b : Bool} (o n : Int) (w : World) (h : Calls Try.prog 37 #[ptr Q, Tab.kV (kO o), .int .i64 n] w fun e w' => e = .returned (.bool b) ∧ ∃ R', PT w' Q R' l' ∧ Up w w' Q R R') :
    Calls Try.prog 24 #[ptr Q, .int .i64 o, .int .i64 n] w fun e w' => e = .returned (.bool b) ∧ ∃ R', PT w' Q R' l' ∧ Up w w' Q R R' := by
  have HG := Lib.hid h
  clear h
  go_enter Try.func24, Try.ntmps24
  go_wp2_with fail
  refine HG.out.mono ?_
  rintro e w' ⟨rfl, h2⟩
  have HB := Lib.hid h2
  clear h2
  go_wp2_with fail
  go_ret
  exact ⟨rfl, HB.out⟩
theorem put_there {Q : Nat} {R : Nat → Prop} {l : List Ac} (o n : Int) (w : World) (h : PT w Q R l) (hr : Rise l) (hl : l.length ≤ 1000) (hp : pos l o < l.length) :
    Calls Try.prog 24 #[ptr Q, .int .i64 o, .int .i64 n] w fun e w' => e = .returned (.bool false) ∧ ∃ R', PT w' Q R' (setM l (pos l o) n) ∧ Up w w' Q R R' := by
  refine put_go o n w ((Tab.Im.put_yes (kO o) n w h (prs_rising hr) (by rw [prs_length]; exact hl) (by rw [has_prs]; exact decide_eq_true hp)).mono ?_)
  rintro e w' ⟨rfl, R', h1, h2, h3⟩
  rw [put_old n hr hp] at h1
  exact ⟨rfl, R', h1, h2, h3⟩
theorem put_fresh {Q : Nat} {R : Nat → Prop} {l : List Ac} (o n : Int) (w : World) (h : PT w Q R l) (hr : Rise l) (hl : l.length ≤ 1000) (hp : ¬ pos l o < l.length) :
    Calls Try.prog 24 #[ptr Q, .int .i64 o, .int .i64 n] w fun e w' => e = .returned (.bool true) ∧ ∃ R', PT w' Q R' (put l ⟨o, n⟩) ∧ Up w w' Q R R' := by
  refine put_go o n w ((Tab.Im.put_no (kO o) n w h (prs_rising hr) (by rw [prs_length]; exact hl) (by rw [has_prs]; exact decide_eq_false hp)).mono ?_)
  rintro e w' ⟨rfl, R', h1, h2, h3⟩
  rw [put_new n hr hp] at h1
  exact ⟨rfl, R', h1, h2, h3⟩
/-! Money -/
set_option maxRecDepth 100000 in
theorem money_im {Q : Nat} {R : Nat → Prop} {l : List Ac} (o : Int) (w : World) (h : PT w Q R l) (hr : Rise l) (hl : l.length ≤ 1000) :
    Calls Try.prog 22 #[ptr Q, .int .i64 o] w fun e w' => e = .returned (.tuple #[.int .i64 (monV l o), .int .i64 (monE l o)]) ∧ Below w.heap.size w w' := by
  have HG := Lib.hid (of_im o w h hr hl)
  by_cases hp : pos l o < l.length
  · have he : monE l o = 0 := by unfold monE; rw [if_pos hp]
    rw [he]
    rw [decide_eq_true hp] at HG
    obtain ⟨m, hm⟩ : ∃ m, monV l o = m := ⟨_, rfl⟩
    rw [hm] at HG ⊢
    clear h hr hl hm hp he
    go_enter Try.func22, Try.ntmps22
    go_wp2_with fail
    refine HG.out.mono ?_
    rintro e w' ⟨rfl, hb⟩
    have HB := Lib.hid hb
    clear hb
    go_wp2_with fail
    go_ret2
    exact ⟨rfl, HB.out⟩
  · have he : monE l o = 3 := by unfold monE; rw [if_neg hp]
    have hv : monV l o = 0 := by unfold monV; rw [if_neg hp]
    rw [he, hv]
    rw [decide_eq_false hp, hv] at HG
    clear h hr hl hp he hv
    go_enter Try.func22, Try.ntmps22
    go_wp2_with fail
    refine HG.out.mono ?_
    rintro e w' ⟨rfl, hb⟩
    have HB := Lib.hid hb
    clear hb
    go_wp2_with fail
    go_ret2
    exact ⟨rfl, HB.out⟩
set_option maxRecDepth 100000 in
theorem money_nil (o : Int) (w : World) :
    Calls Try.prog 22 #[.pointer none, .int .i64 o] w fun e w' => e = .returned (.tuple #[.int .i64 0, .int .i64 1]) ∧ w = w' := by
  go_enter Try.func22, Try.ntmps22
  go_wp2_with fail
  go_ret2
  exact ⟨rfl, rfl⟩
end Go.Proofs.Yteglahogimdnfaa.Purse
