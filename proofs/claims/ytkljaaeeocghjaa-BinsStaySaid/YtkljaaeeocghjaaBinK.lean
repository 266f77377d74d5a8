/- The law's own do; what must come, whatever the arguments are. What must come, whatever the arguments are. -/
import Derived.Test.YtkljaaeeocghjaaBinJ
namespace Go.Proofs.Ytkljaaeeocghjaa.Bins
open Go.RowKit Go.Lib
open Goods (St Sts OwnS)

def InAct (x : Act) : Prop := I64 x.n ∧ InB x.a ∧ InB x.b ∧ InS x.s
variable {I : Impl}
set_option maxRecDepth 100000 in
set_option maxHeartbeats 4000000 in
theorem pdo {w W : World} {Q : Nat} {l : List Lt} {rows : List (Value × List Lt)} {cl : List Cl} {K : List (Nat × Obj)} (x : Act) (h : PS I w W Q l rows cl K) (hg : Good l) (hl : l.length ≤ 900) (hi : InAct x) (hx : ActOk w x) (hm : x.sm ≤ 100) :
    Calls Try.prog 12 #[ptr Q, actV x] W fun e w' => e = .returned (.int .i64 (doE l x)) ∧ Hid (PS I w w' Q (doL l x) rows cl K) := by
  obtain ⟨V, X, hV, hX, HXB, k0, k1, ⟨k2, k3, k4, k5⟩, ⟨k6, k7, k8, k9⟩, k10⟩ := box_act W x
  have hX2 := h.under HXB.out
  obtain ⟨kd, q, xa, xb, sa, sm, sc, s⟩ := x
  obtain ⟨i0, i1, i2, i3⟩ := hi
  simp only at k0 k1 k2 k3 k4 k5 k6 k7 k8 k9 k10 hm hX
  by_cases c1 : kd = 1
  · subst c1
    have HC := Lib.hid (bs_put xa q hX2 hg (by omega) i1 i0)
    have e1 : doE l ⟨1, q, xa, xb, sa, sm, sc, s⟩ = putE l xa q := by unfold doE; exact if_pos rfl
    have e2 : doL l ⟨1, q, xa, xb, sa, sm, sc, s⟩ = putL l xa q := by unfold doL; exact if_pos rfl
    rw [e1, e2]
    clear hX2 h hg hl hx hm i0 i1 i2 i3 e1 e2
    go_enter Try.func12, Try.ntmps12
    go_wp2_with fail
    clear hX hV
    refine HC.out.mono ?_
    rintro e w1 ⟨rfl, H1⟩
    go_wp2_with fail
    go_ret
    exact ⟨rfl, H1⟩
  have d1 : (kd == 1) = false := by simpa using c1
  by_cases c2 : kd = 2
  · subst c2
    have HC := Lib.hid (bs_take xa q hX2 hg (by omega) i1 i0)
    have e1 : doE l ⟨2, q, xa, xb, sa, sm, sc, s⟩ = takeE l xa q := by unfold doE; rw [if_neg c1]; exact if_pos rfl
    have e2 : doL l ⟨2, q, xa, xb, sa, sm, sc, s⟩ = takeL l xa q := by unfold doL; rw [if_neg c1]; exact if_pos rfl
    rw [e1, e2]
    clear hX2 h hg hl hx hm i0 i1 i2 i3 e1 e2 c1 d1
    go_enter Try.func12, Try.ntmps12
    go_wp2_with fail
    clear hX hV
    refine HC.out.mono ?_
    rintro e w1 ⟨rfl, H1⟩
    go_wp2_with fail
    go_ret
    exact ⟨rfl, H1⟩
  have d2 : (kd == 2) = false := by simpa using c2
  by_cases c3 : kd = 3
  · subst c3
    have HC := Lib.hid (bs_move xa xb q hX2 hg (by omega) i1 i2 i0)
    have e1 : doE l ⟨3, q, xa, xb, sa, sm, sc, s⟩ = moveE l xa xb q := by unfold doE; rw [if_neg c1, if_neg c2]; exact if_pos rfl
    have e2 : doL l ⟨3, q, xa, xb, sa, sm, sc, s⟩ = moveL l xa xb q := by unfold doL; rw [if_neg c1, if_neg c2]; exact if_pos rfl
    rw [e1, e2]
    clear hX2 h hg hl hx hm i0 i1 i2 i3 e1 e2 c1 d1 c2 d2
    go_enter Try.func12, Try.ntmps12
    go_wp2_with fail
    clear hX hV
    refine HC.out.mono ?_
    rintro e w1 ⟨rfl, H1⟩
    go_wp2_with fail
    go_ret
    exact ⟨rfl, H1⟩
  have d3 : (kd == 3) = false := by simpa using c3
  by_cases c4 : kd = 4
  · subst c4
    have HC := Lib.hid (bs_puts xa sa sm sc s hX2 hg hl i1 hx.2 hx.1 hm i3)
    have e1 : doE l ⟨4, q, xa, xb, sa, sm, sc, s⟩ = putsE l xa s := by unfold doE; rw [if_neg c1, if_neg c2, if_neg c3]; exact if_pos rfl
    have e2 : doL l ⟨4, q, xa, xb, sa, sm, sc, s⟩ = putsL l xa s := by unfold doL; rw [if_neg c1, if_neg c2, if_neg c3]; exact if_pos rfl
    rw [e1, e2]
    clear hX2 h hg hl hx hm i0 i1 i2 i3 e1 e2 c1 d1 c2 d2 c3 d3
    go_enter Try.func12, Try.ntmps12
    go_wp2_with fail
    clear hX hV
    refine HC.out.mono ?_
    rintro e w1 ⟨rfl, H1⟩
    go_wp2_with fail
    go_ret
    exact ⟨rfl, H1⟩
  have d4 : (kd == 4) = false := by simpa using c4
  have HC := Lib.hid (bs_takes xa sa sm sc s hX2 hg hl i1 hx.2 hx.1 hm i3)
  have e1 : doE l ⟨kd, q, xa, xb, sa, sm, sc, s⟩ = takesE l xa s := by unfold doE; rw [if_neg c1, if_neg c2, if_neg c3, if_neg c4]
  have e2 : doL l ⟨kd, q, xa, xb, sa, sm, sc, s⟩ = takesL l xa s := by unfold doL; rw [if_neg c1, if_neg c2, if_neg c3, if_neg c4]
  rw [e1, e2]
  clear hX2 h hg hl hx hm i0 i1 i2 i3 e1 e2 c1 c2 c3 c4
  go_enter Try.func12, Try.ntmps12
  go_wp2_with fail
  clear hX hV
  refine HC.out.mono ?_
  rintro e w1 ⟨rfl, H1⟩
  go_wp2_with fail
  go_ret
  exact ⟨rfl, H1⟩
def awx : Bn := ⟨1, 0, 1, 2⟩
def aws : List St := [⟨1, 4⟩, ⟨2, 1⟩]
def aw1 : List Lt := [⟨⟨1, 0, 1, 2⟩, 5⟩]
def aw2 : List Lt := [⟨⟨1, 0, 1, 2⟩, 3⟩]
def aw3 : List Lt := [⟨⟨1, 0, 1, 1⟩, 4⟩, ⟨⟨1, 0, 1, 2⟩, 4⟩]
theorem in_awx : InB awx := by simp [InB, I64, awx]
theorem aw_p : putE [] awx 5 = 0 ∧ putL [] awx 5 = aw1 := ⟨rfl, rfl⟩
theorem aw_t1 : takeE aw1 awx 6 = 7 ∧ takeL aw1 awx 6 = aw1 := ⟨rfl, rfl⟩
theorem aw_t2 : takeE aw1 awx 2 = 0 ∧ takeL aw1 awx 2 = aw2 := ⟨rfl, rfl⟩
theorem aw_listed : Goods.Listed aws 32 := by
  have hf : Goods.Fine aws := fun s hs => by simp [aws] at hs; rcases hs with rfl | rfl <;> simp
  have hov : ¬ Goods.Over aws := by
    rintro ⟨k, hk⟩
    have h1 : Goods.cnt aws k ≤ 5 := by
      simp only [aws, Goods.cnt]
      split <;> split <;> omega
    unfold Goods.mq at hk
    omega
  refine ⟨by decide, Goods.errN_ok hf hov, rfl, fun s hs => by simp [aws] at hs; rcases hs with rfl | rfl <;> simp⟩
theorem aw_s : putsE aw2 awx aws = 0 ∧ putsL aw2 awx aws = aw3 := by
  have h1 : goP awx aw2 aws = (aw3, 0) := rfl
  have h2 : putsE aw2 awx aws = 0 := by unfold putsE; rw [if_pos ⟨by decide, aw_listed⟩, h1]
  refine ⟨h2, ?_⟩
  unfold putsL
  rw [if_pos h2, h1]
theorem aw_q : qty aw3 awx = 4 ∧ tot aw3 1 = 4 ∧ ofL aw3 awx = [⟨1, 4⟩, ⟨2, 4⟩] := ⟨rfl, rfl, rfl⟩
theorem good_aw1 : Good aw1 := by rw [← aw_p.2]; exact good_put good_nil _ _
theorem good_aw2 : Good aw2 := by rw [← aw_t2.2]; exact good_take good_aw1 _ _
theorem good_aw3 : Good aw3 := by rw [← aw_s.2]; exact (good_puts good_aw2 _ _).1
theorem in_aws : InS aws := fun s hs => by simp [aws] at hs; rcases hs with rfl | rfl <;> simp [I64]
end Go.Proofs.Ytkljaaeeocghjaa.Bins
namespace Go.Proofs.Ytkljaaeeocghjaa.Bins
open Go.RowKit Go.Lib
open Goods (St Sts OwnS)

variable {I : Impl}
/-- Stacks in new memory are put. -/
theorem bs_puts_new {w W : World} {Q : Nat} {l : List Lt} {rows : List (Value × List Lt)} {cl : List Cl} {K : List (Nat × Obj)} (x : Bn) (m d : Nat) (s : List St) (o : Obj) (h : PS I w W Q l rows cl K) (hg : Good l) (hl : l.length ≤ 900) (hx : InB x) (hs : Sts (W.alloc o) (some ⟨W.heap.size, 0, none⟩) s) (hm : s.length = m) (hm2 : m ≤ 100) (hi : InS s) :
    Calls Try.prog 23 #[ptr Q, bV x, .slice (some ⟨W.heap.size, 0, none⟩) m d] (W.alloc o) fun e w' => e = .returned (.int .i64 (putsE l x s)) ∧ Hid (PS I w w' Q (putsL l x s) rows cl K) := by
  obtain ⟨F, R, h⟩ := h
  have h2 := h.under ((Below.refl _ W).alloc (Nat.le_refl _) o)
  refine (I.puts x _ m d s _ h2.pq hg hl hx hs hm hm2 hi (fun ad e h0 hf => ?_)).mono fun _ _ ⟨e, F', R', h1, s⟩ => ⟨e, Lib.hid ⟨F', R', h2.step h1 s⟩⟩
  cases e
  have := I.lt h.pq _ (.inl hf)
  simp only at this
  omega
/-- Stacks that a composite literal lays. -/
theorem own_lits {w : World} {B : Nat} {cs : Array Value} (l : List St) (hB : B ≤ w.heap.size) (hl : l.length ≤ 1000) (hc : cs.toList = Goods.scells l) : OwnS (w.alloc (.cells cs 54)) B (.slice (some ⟨w.heap.size, 0, none⟩) l.length l.length) l := by
  have hs : cs.size = l.length * 2 := by rw [← Array.length_toList, hc, Goods.scells_length]
  refine ⟨Goods.scells_length l, .inr ⟨w.heap.size, l.length, cs, rfl, hB, heap_alloc_new w _, Nat.le_refl _, by unfold maxLen; omega, hs, ?_⟩⟩
  rw [hc, List.take_of_length_le (by rw [Goods.scells_length]; exact Nat.le_refl _)]
abbrev awK (V : Nat) : List (Nat × Obj) := [(V, .cells #[.int .i64 1, .int .i64 0, .int .i64 1, .int .i64 2] 25 (0, 0))]
set_option maxRecDepth 100000 in
set_option maxHeartbeats 4000000 in
theorem awake_in (I : Impl) (w : World) : Calls Try.prog 8 #[] w fun e w' => e = .returned (.bool true) ∧ Below w.heap.size w w' := by
  obtain ⟨Q, hQ⟩ : ∃ Q, w.heap.size = Q := ⟨_, rfl⟩
  obtain ⟨Z, hZ⟩ : ∃ Z, w.alloc (.cells zeroBins 64) = Z := ⟨_, rfl⟩
  obtain ⟨V, hV⟩ : ∃ V, Z.heap.size = V := ⟨_, rfl⟩
  have hZ0 : PS I w Z Q [] [] [] [] := by
    rw [← hZ, ← hQ]
    exact ⟨_, _, I.zero w, (Below.refl _ w).alloc (Nat.le_refl _) _, fun k hk => by rw [hk]; exact Nat.le_refl _, fun r hr => (by cases hr), fun c hc => (by cases hc), fun b hb => (by cases hb)⟩
  have H0 : Hid (PS I w (Z.alloc (.cells #[.int .i64 1, .int .i64 0, .int .i64 1, .int .i64 2] 25)) Q [] [] [] (awK V)) := Lib.hid (by
    obtain ⟨F, R, h⟩ := hZ0
    have h2 := h.under ((Below.refl _ Z).alloc (Nat.le_refl _) (.cells #[.int .i64 1, .int .i64 0, .int .i64 1, .int .i64 2] 25))
    refine ⟨F, R, h2.pq, h2.below, h2.new, h2.row, h2.clone, fun b hb => ?_⟩
    obtain rfl := List.mem_singleton.1 hb
    refine ⟨fun hf => ?_, by rw [← hV]; exact heap_alloc_new Z _⟩
    have := I.lt h.pq _ (.inl hf)
    simp only at this
    omega)
  have HK : Hid (∀ W l rows cl, PS I w W Q l rows cl (awK V) → W.cell? ⟨V, 0, none⟩ = some (.int .i64 1) ∧ W.cell? ⟨V, 1, none⟩ = some (.int .i64 0) ∧ W.cell? ⟨V, 2, none⟩ = some (.int .i64 1) ∧ W.cell? ⟨V, 3, none⟩ = some (.int .i64 2)) := Lib.hid (fun W l rows cl h => by
    obtain ⟨F, R, h⟩ := h
    have h1 := (h.kept _ (List.mem_singleton.2 rfl : _ ∈ awK V)).2
    simp only at h1
    exact ⟨cell_block (j := 0) h1 rfl, cell_block (j := 1) h1 rfl, cell_block (j := 2) h1 rfl, cell_block (j := 3) h1 rfl⟩)
  have H1 : Hid (∀ W, PS I w W Q [] [] [] (awK V) → Calls Try.prog 25 #[ptr Q, .agg #[.int .i64 1, .int .i64 0, .int .i64 1, .int .i64 2], .int .i64 5] W fun e w' => e = .returned (.int .i64 0) ∧ Hid (PS I w w' Q aw1 [] [] (awK V))) := Lib.hid (fun W h => by
    have := bs_put awx 5 h good_nil (by simp) in_awx (by simp [I64])
    rw [aw_p.1, aw_p.2] at this
    exact this)
  have H2 : Hid (∀ W, PS I w W Q aw1 [] [] (awK V) → Calls Try.prog 24 #[ptr Q, .agg #[.int .i64 1, .int .i64 0, .int .i64 1, .int .i64 2], .int .i64 6] W fun e w' => e = .returned (.int .i64 7) ∧ Hid (PS I w w' Q aw1 [] [] (awK V))) := Lib.hid (fun W h => by
    have := bs_take awx 6 h good_aw1 (by decide) in_awx (by simp [I64])
    rw [aw_t1.1, aw_t1.2] at this
    exact this)
  have H3 : Hid (∀ W, PS I w W Q aw1 [] [] (awK V) → Calls Try.prog 24 #[ptr Q, .agg #[.int .i64 1, .int .i64 0, .int .i64 1, .int .i64 2], .int .i64 2] W fun e w' => e = .returned (.int .i64 0) ∧ Hid (PS I w w' Q aw2 [] [] (awK V))) := Lib.hid (fun W h => by
    have := bs_take awx 2 h good_aw1 (by decide) in_awx (by simp [I64])
    rw [aw_t2.1, aw_t2.2] at this
    exact this)
  have H4 : Hid (∀ W, PS I w W Q aw2 [] [] (awK V) → Calls Try.prog 23 #[ptr Q, .agg #[.int .i64 1, .int .i64 0, .int .i64 1, .int .i64 2], .slice (some ⟨W.heap.size, 0, none⟩) 2 2] (W.alloc (.cells #[.int .i64 1, .int .i64 4, .int .i64 2, .int .i64 1] 54)) fun e w' => e = .returned (.int .i64 0) ∧ Hid (PS I w w' Q aw3 [] [] (awK V))) := Lib.hid (fun W h => by
    have := bs_puts_new awx 2 2 aws (.cells #[.int .i64 1, .int .i64 4, .int .i64 2, .int .i64 1] 54) h good_aw2 (by decide) in_awx (stk_own (own_lits (w := W) (B := 0) aws (Nat.zero_le _) (by decide) rfl)).2 rfl (by omega) in_aws
    rw [aw_s.1, aw_s.2] at this
    exact this)
  have H5 : Hid (∀ W, PS I w W Q aw3 [] [] (awK V) → Calls Try.prog 15 #[ptr Q, .agg #[.int .i64 1, .int .i64 0, .int .i64 1, .int .i64 2]] W fun e w' => e = .returned (.int .i64 4) ∧ Hid (PS I w w' Q aw3 [] [] (awK V))) := Lib.hid (fun W h => by
    have := bs_qty awx h good_aw3 (by decide) in_awx
    rw [aw_q.1] at this
    exact this)
  have H6 : Hid (∀ W, PS I w W Q aw3 [] [] (awK V) → Calls Try.prog 17 #[ptr Q, .int .i64 1] W fun e w' => e = .returned (.int .i64 4) ∧ Hid (PS I w w' Q aw3 [] [] (awK V))) := Lib.hid (fun W h => by
    have := bs_total 1 h good_aw3 (by decide) (by simp [I64])
    rw [aw_q.2.1] at this
    exact this)
  have H7 : Hid (∀ W, PS I w W Q aw3 [] [] (awK V) → Calls Try.prog 20 #[ptr Q, .agg #[.int .i64 1, .int .i64 0, .int .i64 1, .int .i64 2]] W fun e w' => ∃ a n c, e = .returned (.slice a n c) ∧ Hid (PS I w w' Q aw3 [] [] (awK V) ∧ OwnS w' 0 (.slice a n c) [⟨1, 4⟩, ⟨2, 4⟩])) := Lib.hid (fun W h => by
    have := bs_of awx h good_aw3 (by decide) in_awx
    rw [aw_q.2.2] at this
    exact this)
  have H8 : Hid (∀ W a n c, PS I w W Q aw3 [] [] (awK V) → OwnS W 0 (.slice a n c) [⟨1, 4⟩, ⟨2, 4⟩] → Calls Try.prog 19 #[.slice a n c, .slice (some ⟨W.heap.size, 0, none⟩) 2 2] (W.alloc (.cells #[.int .i64 1, .int .i64 4, .int .i64 2, .int .i64 4] 54)) fun e w' => e = .returned (.bool true) ∧ Hid (PS I w w' Q aw3 [] [] (awK V))) := Lib.hid (fun W a n c h ho => by
    have hA : Below W.heap.size W (W.alloc (.cells #[.int .i64 1, .int .i64 4, .int .i64 2, .int .i64 4] 54)) := (Below.refl _ W).alloc (Nat.le_refl _) _
    refine (stks_at (Goods.own_under ho hA) (own_lits (w := W) (B := 0) [⟨1, 4⟩, ⟨2, 4⟩] (Nat.zero_le _) (by decide) rfl) (by decide)).mono ?_
    rintro e w' ⟨rfl, hb⟩
    exact ⟨rfl, Lib.hid ((h.under hA).under hb.out)⟩)
  have H9 : Hid (∀ W, PS I w W Q aw3 [] [] (awK V) → Calls Try.prog 14 #[ptr Q] W fun e w' => ∃ a c, e = .returned (.slice a 2 c) ∧ Hid (Below w.heap.size w w')) := Lib.hid (fun W h => by
    refine (bs_list h good_aw3 (by decide)).mono ?_
    rintro e w' ⟨a, n, c, rfl, h2⟩
    obtain rfl : n = 2 := ((own_form h2.out.2).1).symm
    exact ⟨a, c, rfl, Lib.hid h2.out.1.below⟩)
  obtain ⟨b0, b1, b2, b3⟩ := HK.out _ _ _ _ H0.out
  clear hZ0
  go_enter Try.func8, Try.ntmps8
  go_wp2_with fail
  clear hZ hQ hV
  refine (H1.out _ H0.out).mono ?_
  rintro e w1 ⟨rfl, P1⟩
  obtain ⟨x0, x1, x2, x3⟩ := HK.out _ _ _ _ P1.out
  clear b0 b1 b2 b3
  go_wp2_with fail
  refine (H2.out w1 P1.out).mono ?_
  rintro e w2 ⟨rfl, P2⟩
  obtain ⟨b0, b1, b2, b3⟩ := HK.out _ _ _ _ P2.out
  clear x0 x1 x2 x3
  go_wp2_with fail
  refine (H3.out w2 P2.out).mono ?_
  rintro e w3 ⟨rfl, P3⟩
  obtain ⟨x0, x1, x2, x3⟩ := HK.out _ _ _ _ P3.out
  clear b0 b1 b2 b3
  go_wp2_with fail
  refine (H4.out w3 P3.out).mono ?_
  rintro e w4 ⟨rfl, P4⟩
  obtain ⟨b0, b1, b2, b3⟩ := HK.out _ _ _ _ P4.out
  clear x0 x1 x2 x3
  go_wp2_with fail
  refine (H5.out w4 P4.out).mono ?_
  rintro e w5 ⟨rfl, P5⟩
  obtain ⟨x0, x1, x2, x3⟩ := HK.out _ _ _ _ P5.out
  clear b0 b1 b2 b3
  go_wp2_with fail
  refine (H6.out w5 P5.out).mono ?_
  rintro e w6 ⟨rfl, P6⟩
  obtain ⟨b0, b1, b2, b3⟩ := HK.out _ _ _ _ P6.out
  clear x0 x1 x2 x3
  go_wp2_with fail
  refine (H7.out w6 P6.out).mono ?_
  rintro e w7 ⟨a, n, c, rfl, P7⟩
  clear b0 b1 b2 b3
  go_wp2_with fail
  refine (H8.out w7 a n c P7.out.1 P7.out.2).mono ?_
  rintro e w8 ⟨rfl, P8⟩
  go_wp2_with fail
  refine (H9.out w8 P8.out).mono ?_
  rintro e w9 ⟨a9, c9, rfl, P9⟩
  go_wp2_with fail
  go_ret
  exact ⟨rfl, P9.out⟩
theorem awake_at (I : Impl) (w : World) : Hid (∀ W, Below w.heap.size w W → Calls Try.prog 8 #[] W fun e w' => e = .returned (.bool true) ∧ Hid (Below w.heap.size w w')) := Lib.hid (fun W hW => (awake_in I W).mono fun _ _ ⟨e, h⟩ => ⟨e, Lib.hid (below_then hW h)⟩)
end Go.Proofs.Ytkljaaeeocghjaa.Bins
