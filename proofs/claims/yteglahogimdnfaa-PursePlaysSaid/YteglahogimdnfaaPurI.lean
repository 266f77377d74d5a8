/- The law's own do; what must come, whatever the arguments are. -/
import Derived.Test.YteglahogimdnfaaPurH
namespace Go.Proofs.Yteglahogimdnfaa.Purse
open Go.RowKit Go.Lib

def InAct (x : Act) : Prop := I64 x.a ∧ I64 x.b ∧ I64 x.n
variable {I : Impl}
set_option maxRecDepth 100000 in
set_option maxHeartbeats 4000000 in
theorem pdo {w W : World} {Q : Nat} {l : List Ac} {rows : List (Value × List Ac)} {cl : List Cl} (x : Act) (h : PS I w W Q l rows cl) (hg : Good l) (hl : l.length ≤ 1000) (hx : InAct x) :
    Calls Try.prog 11 #[ptr Q, actV x] W fun e w' => e = .returned (.tuple #[.int .i64 (doN l x), .int .i64 (doE l x)]) ∧ Hid (PS I w w' Q (doL l x) rows cl) := by
  obtain ⟨kd, xa, xb, xn⟩ := x
  obtain ⟨V, hV⟩ : ∃ V, W.heap.size = V := ⟨_, rfl⟩
  obtain ⟨X, hX⟩ : ∃ X, W.alloc (.cells #[.int .i64 kd, .int .i64 xa, .int .i64 xb, .int .i64 xn] 34) = X := ⟨_, rfl⟩
  have hbX : Below W.heap.size W X := by rw [← hX]; exact (Below.refl _ W).alloc (Nat.le_refl _) _
  have hkX : X.heap[V]? = some (.cells #[.int .i64 kd, .int .i64 xa, .int .i64 xb, .int .i64 xn] 34 (0, 0)) := by rw [← hX, ← hV]; exact heap_alloc_new W _
  have k0 : X.cell? ⟨V, 0, none⟩ = some (.int .i64 kd) := cell_block (j := 0) hkX rfl
  have k1 : X.cell? ⟨V, 1, none⟩ = some (.int .i64 xa) := cell_block (j := 1) hkX rfl
  have k2 : X.cell? ⟨V, 2, none⟩ = some (.int .i64 xb) := cell_block (j := 2) hkX rfl
  have k3 : X.cell? ⟨V, 3, none⟩ = some (.int .i64 xn) := cell_block (j := 3) hkX rfl
  have hX2 := h.under hbX
  obtain ⟨i1, i2, i3⟩ := hx
  by_cases c1 : kd = 1
  · subst c1
    have HC := Lib.hid (ps_open xa hX2 hg hl i1)
    have e1 : doN l ⟨1, xa, xb, xn⟩ = 0 := rfl
    have e2 : doE l ⟨1, xa, xb, xn⟩ = openE l xa := rfl
    have e3 : doL l ⟨1, xa, xb, xn⟩ = openL l xa := rfl
    rw [e1, e2, e3]
    clear hbX hkX hX2 h hg hl i1 i2 i3 e1 e2 e3
    go_enter Try.func11, Try.ntmps11
    go_wp2_with fail
    clear hX hV
    refine HC.out.mono ?_
    rintro e w1 ⟨rfl, H1⟩
    go_wp2_with fail
    go_ret2
    exact ⟨rfl, H1⟩
  have d1 : (kd == 1) = false := by simpa using c1
  by_cases c2 : kd = 2
  · subst c2
    have HC := Lib.hid (ps_give xa xn hX2 hg hl i1 i3)
    have e1 : doN l ⟨2, xa, xb, xn⟩ = 0 := rfl
    have e2 : doE l ⟨2, xa, xb, xn⟩ = giveE l xa xn := rfl
    have e3 : doL l ⟨2, xa, xb, xn⟩ = giveL l xa xn := rfl
    rw [e1, e2, e3]
    clear hbX hkX hX2 h hg hl i1 i2 i3 e1 e2 e3 c1 d1
    go_enter Try.func11, Try.ntmps11
    go_wp2_with fail
    clear hX hV
    refine HC.out.mono ?_
    rintro e w1 ⟨rfl, H1⟩
    go_wp2_with fail
    go_ret2
    exact ⟨rfl, H1⟩
  have d2 : (kd == 2) = false := by simpa using c2
  by_cases c3 : kd = 3
  · subst c3
    have HC := Lib.hid (ps_take xa xn hX2 hg hl i1 i3)
    have e1 : doN l ⟨3, xa, xb, xn⟩ = 0 := rfl
    have e2 : doE l ⟨3, xa, xb, xn⟩ = takeE l xa xn := rfl
    have e3 : doL l ⟨3, xa, xb, xn⟩ = takeL l xa xn := rfl
    rw [e1, e2, e3]
    clear hbX hkX hX2 h hg hl i1 i2 i3 e1 e2 e3 c1 d1 c2 d2
    go_enter Try.func11, Try.ntmps11
    go_wp2_with fail
    clear hX hV
    refine HC.out.mono ?_
    rintro e w1 ⟨rfl, H1⟩
    go_wp2_with fail
    go_ret2
    exact ⟨rfl, H1⟩
  have d3 : (kd == 3) = false := by simpa using c3
  by_cases c4 : kd = 4
  · subst c4
    have HC := Lib.hid (ps_move xa xb xn hX2 hg hl i1 i2 i3)
    have e1 : doN l ⟨4, xa, xb, xn⟩ = 0 := rfl
    have e2 : doE l ⟨4, xa, xb, xn⟩ = moveE l xa xb xn := rfl
    have e3 : doL l ⟨4, xa, xb, xn⟩ = moveL l xa xb xn := rfl
    rw [e1, e2, e3]
    clear hbX hkX hX2 h hg hl i1 i2 i3 e1 e2 e3 c1 d1 c2 d2 c3 d3
    go_enter Try.func11, Try.ntmps11
    go_wp2_with fail
    clear hX hV
    refine HC.out.mono ?_
    rintro e w1 ⟨rfl, H1⟩
    go_wp2_with fail
    go_ret2
    exact ⟨rfl, H1⟩
  have d4 : (kd == 4) = false := by simpa using c4
  have HC := Lib.hid (ps_money xa hX2 hg hl i1)
  have e1 : doN l ⟨kd, xa, xb, xn⟩ = monV l xa := by unfold doN; rw [if_neg]; simp only; omega
  have e2 : doE l ⟨kd, xa, xb, xn⟩ = monE l xa := by unfold doE; simp only; rw [if_neg c1, if_neg c2, if_neg c3, if_neg c4]
  have e3 : doL l ⟨kd, xa, xb, xn⟩ = l := by unfold doL; simp only; rw [if_neg c1, if_neg c2, if_neg c3, if_neg c4]
  rw [e1, e2, e3]
  clear hbX hkX hX2 h hg hl i1 i2 i3 e1 e2 e3 c1 c2 c3 c4
  go_enter Try.func11, Try.ntmps11
  go_wp2_with fail
  clear hX hV
  refine HC.out.mono ?_
  rintro e w1 ⟨rfl, H1⟩
  go_wp2_with fail
  go_ret2
  exact ⟨rfl, H1⟩
def aw1 : List Ac := [⟨1, 0⟩]
def aw2 : List Ac := [⟨1, 0⟩, ⟨2, 0⟩]
def aw3 : List Ac := [⟨1, 10⟩, ⟨2, 0⟩]
def aw4 : List Ac := [⟨1, 6⟩, ⟨2, 4⟩]
theorem aw_o1 : openE [] 1 = 0 ∧ openL [] 1 = aw1 := ⟨rfl, rfl⟩
theorem aw_o2 : openE aw1 2 = 0 ∧ openL aw1 2 = aw2 := ⟨rfl, rfl⟩
theorem aw_o3 : openE aw2 1 = 9 ∧ openL aw2 1 = aw2 := ⟨rfl, rfl⟩
theorem aw_g : giveE aw2 1 10 = 0 ∧ giveL aw2 1 10 = aw3 := ⟨rfl, rfl⟩
theorem aw_m1 : moveE aw3 1 2 11 = 6 ∧ moveL aw3 1 2 11 = aw3 := ⟨rfl, rfl⟩
theorem aw_m2 : moveE aw3 1 2 4 = 0 ∧ moveL aw3 1 2 4 = aw4 := ⟨rfl, rfl⟩
theorem aw_v : monV aw4 2 = 4 ∧ monE aw4 2 = 0 ∧ tot aw4 = 10 := ⟨rfl, rfl, rfl⟩
theorem good_aw1 : Good aw1 := by rw [← aw_o1.2]; exact good_open good_nil 1
theorem good_aw2 : Good aw2 := by rw [← aw_o2.2]; exact good_open good_aw1 2
theorem good_aw3 : Good aw3 := by rw [← aw_g.2]; exact good_give good_aw2 1 10
theorem good_aw4 : Good aw4 := by rw [← aw_m2.2]; exact good_move good_aw3 1 2 4
/-- Accounts that a composite literal lays. -/
theorem own_lit {w : World} {B : Nat} {cs : Array Value} (l : List Ac) (hB : B ≤ w.heap.size) (hl : l.length ≤ 1000) (hc : cs.toList = acells l) : OwnA (w.alloc (.cells cs 63)) B (.slice (some ⟨w.heap.size, 0, none⟩) l.length l.length) l := by
  have hs : cs.size = l.length * 2 := by rw [← Array.length_toList, hc, acells_length]
  refine ⟨acells_length l, .inr ⟨w.heap.size, l.length, cs, rfl, hB, heap_alloc_new w _, Nat.le_refl _, by unfold maxLen; omega, hs, ?_⟩⟩
  rw [hc, List.take_of_length_le (by rw [acells_length]; exact Nat.le_refl _)]
set_option maxRecDepth 100000 in
set_option maxHeartbeats 4000000 in
theorem awake_in (I : Impl) (w : World) : Calls Try.prog 7 #[] w fun e w' => e = .returned (.bool true) ∧ Below w.heap.size w w' := by
  obtain ⟨Q, hQ⟩ : ∃ Q, w.heap.size = Q := ⟨_, rfl⟩
  obtain ⟨Z, hZ⟩ : ∃ Z, w.alloc (.cells zeroPurse 59) = Z := ⟨_, rfl⟩
  have H0 : Hid (PS I w Z Q [] [] []) := Lib.hid (by
    rw [← hZ, ← hQ]
    exact ⟨_, _, I.zero w, (Below.refl _ w).alloc (Nat.le_refl _) _, fun k hk => by rw [hk]; exact Nat.le_refl _, fun r hr => (by cases hr), fun c hc => (by cases hc)⟩)
  have H1 : Hid (∀ W, PS I w W Q [] [] [] → Calls Try.prog 20 #[ptr Q, .int .i64 1] W fun e w' => e = .returned (.int .i64 0) ∧ Hid (PS I w w' Q aw1 [] [])) := Lib.hid (fun W h => by
    have := ps_open 1 h good_nil (by simp) (by simp [I64])
    rw [aw_o1.1, aw_o1.2] at this
    exact this)
  have H2 : Hid (∀ W, PS I w W Q aw1 [] [] → Calls Try.prog 20 #[ptr Q, .int .i64 2] W fun e w' => e = .returned (.int .i64 0) ∧ Hid (PS I w w' Q aw2 [] [])) := Lib.hid (fun W h => by
    have := ps_open 2 h good_aw1 (by decide) (by simp [I64])
    rw [aw_o2.1, aw_o2.2] at this
    exact this)
  have H3 : Hid (∀ W, PS I w W Q aw2 [] [] → Calls Try.prog 20 #[ptr Q, .int .i64 1] W fun e w' => e = .returned (.int .i64 9) ∧ Hid (PS I w w' Q aw2 [] [])) := Lib.hid (fun W h => by
    have := ps_open 1 h good_aw2 (by decide) (by simp [I64])
    rw [aw_o3.1, aw_o3.2] at this
    exact this)
  have H4 : Hid (∀ W, PS I w W Q aw2 [] [] → Calls Try.prog 21 #[ptr Q, .int .i64 1, .int .i64 10] W fun e w' => e = .returned (.int .i64 0) ∧ Hid (PS I w w' Q aw3 [] [])) := Lib.hid (fun W h => by
    have := ps_give 1 10 h good_aw2 (by decide) (by simp [I64]) (by simp [I64])
    rw [aw_g.1, aw_g.2] at this
    exact this)
  have H5 : Hid (∀ W, PS I w W Q aw3 [] [] → Calls Try.prog 19 #[ptr Q, .int .i64 1, .int .i64 2, .int .i64 11] W fun e w' => e = .returned (.int .i64 6) ∧ Hid (PS I w w' Q aw3 [] [])) := Lib.hid (fun W h => by
    have := ps_move 1 2 11 h good_aw3 (by decide) (by simp [I64]) (by simp [I64]) (by simp [I64])
    rw [aw_m1.1, aw_m1.2] at this
    exact this)
  have H6 : Hid (∀ W, PS I w W Q aw3 [] [] → Calls Try.prog 19 #[ptr Q, .int .i64 1, .int .i64 2, .int .i64 4] W fun e w' => e = .returned (.int .i64 0) ∧ Hid (PS I w w' Q aw4 [] [])) := Lib.hid (fun W h => by
    have := ps_move 1 2 4 h good_aw3 (by decide) (by simp [I64]) (by simp [I64]) (by simp [I64])
    rw [aw_m2.1, aw_m2.2] at this
    exact this)
  have H7 : Hid (∀ W, PS I w W Q aw4 [] [] → Calls Try.prog 22 #[ptr Q, .int .i64 2] W fun e w' => e = .returned (.tuple #[.int .i64 4, .int .i64 0]) ∧ Hid (PS I w w' Q aw4 [] [])) := Lib.hid (fun W h => by
    have := ps_money 2 h good_aw4 (by decide) (by simp [I64])
    rw [aw_v.1, aw_v.2.1] at this
    exact this)
  have H8 : Hid (∀ W, PS I w W Q aw4 [] [] → Calls Try.prog 14 #[ptr Q] W fun e w' => e = .returned (.int .i64 10) ∧ Hid (PS I w w' Q aw4 [] [])) := Lib.hid (fun W h => by
    have := ps_total h good_aw4 (by decide)
    rw [aw_v.2.2] at this
    exact this)
  have H9 : Hid (∀ W, PS I w W Q aw4 [] [] → Calls Try.prog 13 #[ptr Q] W fun e w' => ∃ a n c, e = .returned (.slice a n c) ∧ Hid (OwnA w' 0 (.slice a n c) aw4 ∧ Below w.heap.size w w')) := Lib.hid (fun W h => by
    refine (ps_list h good_aw4 (by decide)).mono ?_
    rintro e w' ⟨a, n, c, rfl, h2⟩
    exact ⟨a, n, c, rfl, Lib.hid ⟨h2.out.2, h2.out.1.below⟩⟩)
  have H10 : Hid (∀ W a n c b, OwnA W 0 (.slice a n c) aw4 → OwnA W 0 (.slice b 2 2) aw4 → Calls Try.prog 12 #[.slice a n c, .slice b 2 2] W fun e w' => e = .returned (.bool true) ∧ Hid (Below W.heap.size W w')) := Lib.hid (fun W a n c b h1 h2 => same_at h1 h2 (by decide))
  go_enter Try.func7, Try.ntmps7
  go_wp2_with fail
  clear hZ hQ
  refine (H1.out Z H0.out).mono ?_
  rintro e w1 ⟨rfl, P1⟩
  go_wp2_with fail
  refine (H2.out w1 P1.out).mono ?_
  rintro e w2 ⟨rfl, P2⟩
  go_wp2_with fail
  refine (H3.out w2 P2.out).mono ?_
  rintro e w3 ⟨rfl, P3⟩
  go_wp2_with fail
  refine (H4.out w3 P3.out).mono ?_
  rintro e w4 ⟨rfl, P4⟩
  go_wp2_with fail
  refine (H5.out w4 P4.out).mono ?_
  rintro e w5 ⟨rfl, P5⟩
  go_wp2_with fail
  refine (H6.out w5 P5.out).mono ?_
  rintro e w6 ⟨rfl, P6⟩
  go_wp2_with fail
  refine (H7.out w6 P6.out).mono ?_
  rintro e w7 ⟨rfl, P7⟩
  go_wp2_with fail
  refine (H8.out w7 P7.out).mono ?_
  rintro e w8 ⟨rfl, P8⟩
  go_wp2_with fail
  refine (H9.out w8 P8.out).mono ?_
  rintro e w9 ⟨a, n, c, rfl, P9⟩
  go_wp2_with fail
  have A9 : Below w9.heap.size w9 (w9.alloc (.cells #[.int .i64 1, .int .i64 6, .int .i64 2, .int .i64 4] 63)) := (Below.refl _ w9).alloc (Nat.le_refl _) _
  refine (H10.out _ a n c _ (own_under P9.out.1 A9) (own_lit aw4 (Nat.zero_le _) (by decide) rfl)).mono ?_
  rintro e w10 ⟨rfl, P10⟩
  have B10 := Lib.hid (below_then (below_then P9.out.2 A9) P10.out)
  clear A9
  go_wp2_with fail
  go_ret
  exact ⟨rfl, B10.out⟩
theorem awake_at (I : Impl) (w : World) : Hid (∀ W, Below w.heap.size w W → Calls Try.prog 7 #[] W fun e w' => e = .returned (.bool true) ∧ Hid (Below w.heap.size w w')) := Lib.hid (fun W hW => (awake_in I W).mono fun _ _ ⟨e, h⟩ => ⟨e, Lib.hid (below_then hW h)⟩)
end Go.Proofs.Yteglahogimdnfaa.Purse
