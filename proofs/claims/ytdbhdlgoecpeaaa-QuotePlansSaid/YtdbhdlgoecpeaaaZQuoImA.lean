/- The program's small ones: is, begun, makes, takes, mayBegin, atOnce; jobs in memory. The program's mayBegin, atOnce, next. -/
import Derived.Test.YtdbhdlgoecpeaaaZQuoPl
import Derived.Test.YtdbhdlgoecpeaaaZCatOrd
import Derived.Laws.StructEq
import Derived.BigQuiet
import Derived.Test.YtdbhdlgoecpeaaaZQuoF
namespace Go.Proofs.Ytdbhdlgoecpeaaa.Quo.Im
open Go.RowKit Go.Lib IRows
open Cat (Cat PB Ba CM CatAt Lim box_cat pOf I64)

theorem is_im (t : Int) (a : Option Addr) (n c : Nat) (w : World) (q : Bool) (hq : decide (0 < t) = q) :
    Calls Try.prog 22 #[.agg #[.int .i64 t, .slice a n c]] w fun e w' => e = .returned (.bool q) ∧ Below w.heap.size w w' := by
  have HB : Hid (Below w.heap.size w (w.alloc (.cells #[.int .i64 t, .slice a n c] 59))) := Lib.hid ((Below.refl _ w).alloc (Nat.le_refl _) _)
  go_enter Try.func22, Try.ntmps22
  go_wp2_with fail
  go_ret
  exact ⟨by rw [← hq]; first | rfl | simp, HB.out⟩
theorem begun_im (s e : Int) (w : World) (q : Bool) (hq : decide (0 < e) = q) :
    Calls Try.prog 66 #[.agg #[.int .i64 s, .int .i64 e]] w fun e w' => e = .returned (.bool q) ∧ Below w.heap.size w w' := by
  have HB : Hid (Below w.heap.size w (w.alloc (.cells #[.int .i64 s, .int .i64 e] 46))) := Lib.hid ((Below.refl _ w).alloc (Nat.le_refl _) _)
  go_enter Try.func66, Try.ntmps66
  go_wp2_with fail
  go_ret
  exact ⟨by rw [← hq]; first | rfl | simp, HB.out⟩
theorem makes_im (y : Ba) (w : World) (q : Bool) (hq : decide (0 < y.mf) = q) :
    Calls Try.prog 20 #[.agg #[.int .i64 y.pl, .int .i64 y.mf, .int .i64 y.lb, .int .i64 y.rt]] w fun e w' => e = .returned (.bool q) ∧ Below w.heap.size w w' := by
  have HB : Hid (Below w.heap.size w (w.alloc (.cells #[.int .i64 y.pl, .int .i64 y.mf, .int .i64 y.lb, .int .i64 y.rt] 48))) := Lib.hid ((Below.refl _ w).alloc (Nat.le_refl _) _)
  go_enter Try.func20, Try.ntmps20
  go_wp2_with fail
  go_ret
  exact ⟨by rw [← hq]; first | rfl | simp, HB.out⟩
/-- Two boxes, of a job and of a span. -/
theorem two_box (w : World) (t : Int) (a : Option Addr) (n c : Nat) (s e : Int) : ∃ U X V Y, w.heap.size = U ∧ w.alloc (.cells #[.int .i64 t, .slice a n c] 59) = X ∧ X.heap.size = V ∧ X.alloc (.cells #[.int .i64 s, .int .i64 e] 46) = Y ∧ Hid (Below w.heap.size w Y) ∧
    Hid (∀ W, Below Y.heap.size Y W → W.cell? ⟨U, 0, none⟩ = some (.int .i64 t) ∧ W.cell? ⟨U, 1, none⟩ = some (.slice a n c) ∧ W.cell? ⟨V, 0, none⟩ = some (.int .i64 s) ∧ W.cell? ⟨V, 1, none⟩ = some (.int .i64 e)) := by
  have h0 := heap_alloc_new w (.cells #[.int .i64 t, .slice a n c] 59)
  have b0 : Below w.heap.size w (w.alloc (.cells #[.int .i64 t, .slice a n c] 59)) := (Below.refl _ w).alloc (Nat.le_refl _) _
  obtain ⟨X, hX⟩ : ∃ X, w.alloc (.cells #[.int .i64 t, .slice a n c] 59) = X := ⟨_, rfl⟩
  rw [hX] at h0 b0
  have h1 := heap_alloc_new X (.cells #[.int .i64 s, .int .i64 e] 46)
  have b1 : Below X.heap.size X (X.alloc (.cells #[.int .i64 s, .int .i64 e] 46)) := (Below.refl _ X).alloc (Nat.le_refl _) _
  refine ⟨_, X, _, _, rfl, hX, rfl, rfl, Lib.hid (below_then b0 b1), Lib.hid fun W hW => ?_⟩
  have h2 := (hW.block _ (Array.getElem?_eq_some_iff.1 h1).1).trans h1
  have h3 := ((below_then b1 hW).block _ (Array.getElem?_eq_some_iff.1 h0).1).trans h0
  exact ⟨cell_block (j := 0) h3 rfl, cell_block (j := 1) h3 rfl, cell_block (j := 0) h2 rfl, cell_block (j := 1) h2 rfl⟩
set_option maxRecDepth 100000 in
set_option maxHeartbeats 4000000 in
theorem takes_im (t : Int) (a : Option Addr) (n c : Nat) (s e : Int) (w : World) (ht : 0 ≤ t ∧ t ≤ 104857600000) (hs : I64 s) (he : I64 e) (q : Bool) (hq : (if 0 < t then decide (0 ≤ s) && decide (e = s + t) else decide (s = 0) && decide (e = 0)) = q) :
    Calls Try.prog 33 #[.agg #[.int .i64 t, .slice a n c], .agg #[.int .i64 s, .int .i64 e]] w fun e w' => e = .returned (.bool q) ∧ Below w.heap.size w w' := by
  obtain ⟨U, X, V, Y, hU, hX, hV, hY, HB, HC⟩ := two_box w t a n c s e
  obtain ⟨k0, k1, k2, k3⟩ := HC.out Y (Below.refl _ _)
  obtain ⟨qi, hqi⟩ : ∃ qi, decide (0 < t) = qi := ⟨_, rfl⟩
  have HI := Lib.hid (is_im t a n c Y qi hqi)
  have HQ := Lib.hid hq
  by_cases h0 : 0 < t
  case neg =>
    obtain rfl : qi = false := by rw [← hqi]; exact decide_eq_false h0
    have HQ2 : Hid ((decide (s = 0) && decide (e = 0)) = q) := Lib.hid (by have h1 := HQ.out; rw [if_neg h0] at h1; exact h1)
    clear hqi hq HQ ht hs he h0
    by_cases h1 : s = 0
    · by_cases h2 : e = 0
      · subst h1 h2
        go_enter Try.func33, Try.ntmps33
        go_wp2_with fail
        clear hU hX hV hY
        refine HI.out.mono ?_
        rintro e w1 ⟨rfl, H1⟩
        obtain ⟨y0, y1, y2, y3⟩ := HC.out w1 H1
        clear k0 k1 k2 k3
        go_wp2_with fail
        go_ret
        exact ⟨ret_bool (by rw [← HQ2.out]; simp), below_then HB.out H1⟩
      · subst h1
        have d2 : (e == 0) = false := by simpa using h2
        go_enter Try.func33, Try.ntmps33
        go_wp2_with fail
        clear hU hX hV hY
        refine HI.out.mono ?_
        rintro e w1 ⟨rfl, H1⟩
        obtain ⟨y0, y1, y2, y3⟩ := HC.out w1 H1
        clear k0 k1 k2 k3
        go_wp2_with fail
        go_ret
        exact ⟨ret_bool (by rw [← HQ2.out]; simp [h2]), below_then HB.out H1⟩
    · have d1 : (s == 0) = false := by simpa using h1
      go_enter Try.func33, Try.ntmps33
      go_wp2_with fail
      clear hU hX hV hY
      refine HI.out.mono ?_
      rintro e w1 ⟨rfl, H1⟩
      obtain ⟨y0, y1, y2, y3⟩ := HC.out w1 H1
      clear k0 k1 k2 k3
      go_wp2_with fail
      go_ret
      exact ⟨ret_bool (by rw [← HQ2.out]; simp [h1]), below_then HB.out H1⟩
  obtain rfl : qi = true := by rw [← hqi]; exact decide_eq_true h0
  have HQ2 : Hid ((decide (0 ≤ s) && decide (e = s + t)) = q) := Lib.hid (by have h1 := HQ.out; rw [if_pos h0] at h1; exact h1)
  obtain ⟨sv, hsv⟩ : ∃ sv, Calc.valN (s + t) = sv := ⟨_, rfl⟩
  obtain ⟨se, hse⟩ : ∃ se, Calc.valE (s + t) = se := ⟨_, rfl⟩
  have HA : Hid (∀ W, Calls Try.prog 50 #[.int .i64 s, .int .i64 t] W fun e w' => e = .returned (.tuple #[.int .i64 sv, .int .i64 se]) ∧ W = w') := Lib.hid fun W => by
    rw [← hsv, ← hse]
    exact Calc.add_any s t W hs.1 hs.2 (by omega) (by omega)
  have hcase : (s < 0 ∧ q = false) ∨ (0 ≤ s ∧ se ≠ 0 ∧ q = false) ∨ (0 ≤ s ∧ se = 0 ∧ sv = s + t) := by
    by_cases c1 : s < 0
    · refine .inl ⟨c1, ?_⟩
      rw [← HQ2.out, decide_eq_false (show ¬ 0 ≤ s by omega)]
      rfl
    · by_cases c2 : s + t ≤ 9223372036854775807
      · refine .inr (.inr ⟨by omega, ?_, ?_⟩)
        · rw [← hse, Calc.valE_in (by omega) c2]
        · rw [← hsv, Calc.valN_in (by omega) c2]
      · refine .inr (.inl ⟨by omega, ?_, ?_⟩)
        · rw [← hse]
          unfold Calc.valE
          rw [Calc.fits_false (.inr (by omega))]
          decide
        · rw [← HQ2.out, decide_eq_false (show ¬ e = s + t by have := he.2; omega)]
          simp
  clear hqi hq HQ ht hs he h0 hsv hse
  rcases hcase with ⟨c1, rfl⟩ | ⟨c1, c2, rfl⟩ | ⟨c1, rfl, rfl⟩
  · have d1 : decide (0 ≤ s) = false := decide_eq_false (by omega)
    go_enter Try.func33, Try.ntmps33
    go_wp2_with fail
    clear hU hX hV hY
    refine HI.out.mono ?_
    rintro e w1 ⟨rfl, H1⟩
    obtain ⟨y0, y1, y2, y3⟩ := HC.out w1 H1
    clear k0 k1 k2 k3
    go_wp2_with fail
    refine (HA.out _).mono ?_
    rintro e w2 ⟨rfl, rfl⟩
    go_wp2_with fail
    go_ret
    exact ⟨rfl, below_then HB.out H1⟩
  · have d1 : decide (0 ≤ s) = true := decide_eq_true c1
    have d2 : (se == 0) = false := by simpa using c2
    go_enter Try.func33, Try.ntmps33
    go_wp2_with fail
    clear hU hX hV hY
    refine HI.out.mono ?_
    rintro e w1 ⟨rfl, H1⟩
    obtain ⟨y0, y1, y2, y3⟩ := HC.out w1 H1
    clear k0 k1 k2 k3
    go_wp2_with fail
    refine (HA.out _).mono ?_
    rintro e w2 ⟨rfl, rfl⟩
    go_wp2_with fail
    go_ret
    exact ⟨rfl, below_then HB.out H1⟩
  · have d1 : decide (0 ≤ s) = true := decide_eq_true c1
    obtain ⟨z, hz⟩ : ∃ z, s + t = z := ⟨_, rfl⟩
    rw [hz] at HA HQ2
    have d2 : (decide (e = z)) = q := by rw [← HQ2.out, d1]; rfl
    clear HQ2 hz
    have d3 : (e == z) = q := by
      rw [← d2]
      by_cases h : e = z
      · simp [h]
      · simp [h]
    go_enter Try.func33, Try.ntmps33
    go_wp2_with fail
    clear hU hX hV hY
    refine HI.out.mono ?_
    rintro e w1 ⟨rfl, H1⟩
    obtain ⟨y0, y1, y2, y3⟩ := HC.out w1 H1
    clear k0 k1 k2 k3
    go_wp2_with fail
    refine (HA.out _).mono ?_
    rintro e w2 ⟨rfl, rfl⟩
    go_wp2_with fail
    go_ret
    exact ⟨rfl, below_then HB.out H1⟩
end Go.Proofs.Ytdbhdlgoecpeaaa.Quo.Im
namespace Go.Proofs.Ytdbhdlgoecpeaaa.Quo.Im
open Go.RowKit Go.Lib IRows
open Cat (Cat PB Ba CM CatAt Lim box_cat pOf I64)

/-- One of those for which a job waits is over. -/
def okW (l : List Sp) (now x : Int) : Bool := decide (0 < eAt l x.toNat) && decide (eAt l x.toNat ≤ now)
theorem all_take {α : Type} {l : List α} {i : Nat} {t : α} (f : α → Bool) (h : l[i]? = some t) : (l.take (i + 1)).all f = ((l.take i).all f && f t) := by
  rw [List.take_add_one, h]
  simp
theorem all_not {α : Type} {l : List α} {i : Nat} {t : α} {f : α → Bool} (h : l[i]? = some t) (ht : f t = false) : l.all f = false := by
  cases hx : l.all f with
  | false => rfl
  | true =>
    have := List.all_eq_true.1 hx t (List.mem_of_getElem? h)
    rw [ht] at this
    cases this
theorem box_job (w : World) (t : Int) (a : Option Addr) (n c : Nat) : ∃ U X, w.heap.size = U ∧ w.alloc (.cells #[.int .i64 t, .slice a n c] 59) = X ∧ Hid (Below w.heap.size w X) ∧
    Hid (∀ W, Below X.heap.size X W → W.cell? ⟨U, 0, none⟩ = some (.int .i64 t) ∧ W.cell? ⟨U, 1, none⟩ = some (.slice a n c)) := by
  have h0 := heap_alloc_new w (.cells #[.int .i64 t, .slice a n c] 59)
  refine ⟨_, _, rfl, rfl, Lib.hid ((Below.refl _ w).alloc (Nat.le_refl _) _), Lib.hid fun W hW => ?_⟩
  have h3 := (hW.block _ (Array.getElem?_eq_some_iff.1 h0).1).trans h0
  exact ⟨cell_block (j := 0) h3 rfl, cell_block (j := 1) h3 rfl⟩
theorem box_sp (w : World) (s e : Int) : ∃ U X, w.heap.size = U ∧ w.alloc (.cells #[.int .i64 s, .int .i64 e] 46) = X ∧ Hid (Below w.heap.size w X) ∧
    Hid (∀ W, Below X.heap.size X W → W.cell? ⟨U, 0, none⟩ = some (.int .i64 s) ∧ W.cell? ⟨U, 1, none⟩ = some (.int .i64 e)) := by
  have h0 := heap_alloc_new w (.cells #[.int .i64 s, .int .i64 e] 46)
  refine ⟨_, _, rfl, rfl, Lib.hid ((Below.refl _ w).alloc (Nat.le_refl _) _), Lib.hid fun W hW => ?_⟩
  have h3 := (hW.block _ (Array.getElem?_eq_some_iff.1 h0).1).trans h0
  exact ⟨cell_block (j := 0) h3 rfl, cell_block (j := 1) h3 rfl⟩
set_option maxRecDepth 100000 in
set_option maxHeartbeats 8000000 in
theorem may_im (t : Int) (a : Option Addr) (n c : Nat) (ws : List Int) (la : Option Addr) (m lc : Nat) (l : List Sp) (now : Int) (w : World) (hws : ws.length = n) (hs : IRow w a ws) (hn : n ≤ 1048576) (hl : l.length = m) (hls : Spa w la l) (hm : m ≤ 1048576) (hx : ∀ x ∈ ws, 0 ≤ x ∧ x < (m : Int)) (q : Bool) (hq : ws.all (okW l now) = q) :
    Calls Try.prog 34 #[.agg #[.int .i64 t, .slice a n c], .slice la m lc, .int .i64 now] w fun e w' => e = .returned (.bool q) ∧ Below w.heap.size w w' := by
  obtain ⟨U, X, hU, hX, HXB, HC⟩ := box_job w t a n c
  obtain ⟨k0, k1⟩ := HC.out X (Below.refl _ _)
  have HT := irow_at (hs.under HXB.out)
  have HS := spa_at (hls.under HXB.out)
  have HL := Lib.hid hws
  have HLL := Lib.hid hl
  have HX := Lib.hid hx
  have HQ := Lib.hid hq
  have hn1 : (n : Int) ≤ 1048576 := by omega
  have hm1 : (m : Int) ≤ 1048576 := by omega
  clear hws hs hl hls hx hq
  go_enter Try.func34, Try.ntmps34
  go_wp2_with fail
  clear hU hX
  go_loopw [12] (fun t wr => ∃ i : Nat, t = .int .i64 (i : Int) ∧ i ≤ n ∧ Hid ((ws.take i).all (okW l now) = true) ∧ Hid (Below X.heap.size X wr)) (fun t _ => n - (RowKit.intOf t).toNat)
  case atStart => exact ⟨0, rfl, by omega, Lib.hid rfl, Lib.hid (Below.refl _ _)⟩
  case round =>
    obtain ⟨i, rfl, hi, HI, HW⟩ := hrel
    have hi0 : (0 : Int) ≤ (i : Int) := by omega
    by_cases hlt : i < n
    case neg =>
      obtain rfl : i = n := by omega
      have hd1 : decide (i < i) = false := by simp
      have HF : Hid (true = q) := Lib.hid (by
        have h1 := HI.out
        rw [List.take_of_length_le (by rw [HL.out]; exact Nat.le_refl _), HQ.out] at h1
        exact h1.symm)
      go_wp2_with fail
      go_ret
      exact ⟨ret_bool HF.out, below_then HXB.out HW.out⟩
    have hlt2 : (i : Int) < (n : Int) := by omega
    have hd1 : decide (i < n) = true := decide_eq_true hlt
    have wi : IntKind.i64.wrap ((i : Int) + 1) = (i : Int) + 1 := IntWalk.i64_in _ (by omega)
    obtain ⟨g, off, x, rfl, hxi, q0⟩ := HT.out wr i HW.out (by rw [HL.out]; exact hlt)
    have hxb := HX.out x (List.mem_of_getElem? hxi.out)
    obtain ⟨y, rfl⟩ := Int.eq_ofNat_of_zero_le hxb.1
    have hym : y < m := by omega
    have hy0 : (0 : Int) ≤ (y : Int) := by omega
    have hy1 : (y : Int) < (m : Int) := by omega
    obtain ⟨g2, off2, s, rfl, hsy, r0, r1⟩ := HS.out wr y HW.out (by rw [HLL.out]; exact hym)
    have HOK : Hid (okW l now (y : Int) = (decide (0 < s.e) && decide (s.e ≤ now))) := Lib.hid (by
      unfold okW
      rw [show (y : Int).toNat = y from Int.toNat_natCast y, (at_is hsy.out).2])
    have HNO : Hid ((decide (0 < s.e) && decide (s.e ≤ now)) = false → false = q) := Lib.hid fun h => by
      rw [← HQ.out, all_not hxi.out (by rw [HOK.out]; exact h)]
    have HYES : Hid ((decide (0 < s.e) && decide (s.e ≤ now)) = true → (ws.take (i + 1)).all (okW l now) = true) := Lib.hid fun h => by
      rw [all_take _ hxi.out, HI.out, HOK.out, h]
      rfl
    obtain ⟨qb, hqb⟩ : ∃ qb, decide (0 < s.e) = qb := ⟨_, rfl⟩
    have HB := Lib.hid (begun_im s.s s.e wr qb hqb)
    have HSC : Hid (∀ W, Below X.heap.size X W → W.cell? ⟨g2, off2 + y * 2 + 1, none⟩ = some (.int .i64 s.e)) := Lib.hid fun W hW => by
      obtain ⟨g', off', u, e', hu, _, c1⟩ := HS.out W y hW (by rw [HLL.out]; exact hym)
      cases e'
      have h1 := hu.out
      rw [hsy.out] at h1
      injection h1 with h1
      subst h1
      exact c1
    rcases qb with _ | _
    · have HF := Lib.hid (HNO.out (by rw [hqb]; rfl))
      clear hqb hxb
      go_wp2_with fail
      refine HB.out.mono ?_
      rintro e w1 ⟨rfl, H1⟩
      have HW1 : Hid (Below X.heap.size X w1) := Lib.hid (below_then HW.out H1)
      clear q0 r0 r1 H1
      go_wp2_with fail
      go_ret
      exact ⟨ret_bool HF.out, below_then HXB.out HW1.out⟩
    · by_cases hle : s.e ≤ now
      · have d1 : decide (now < s.e) = false := decide_eq_false (by omega)
        have HI2 := Lib.hid (HYES.out (by rw [hqb, decide_eq_true hle]; rfl))
        clear hqb hxb hle
        go_wp2_with fail
        refine HB.out.mono ?_
        rintro e w1 ⟨rfl, H1⟩
        have HW1 : Hid (Below X.heap.size X w1) := Lib.hid (below_then HW.out H1)
        clear q0 r0 r1 H1
        have r1 := HSC.out w1 HW1.out
        go_wp2_with fail
        go_roundw
        case rel => exact ⟨i + 1, by go_num, by omega, HI2, HW1⟩
        case measure => simp [RowKit.intOf]; omega
      · have d1 : decide (now < s.e) = true := decide_eq_true (by omega)
        have HF := Lib.hid (HNO.out (by rw [hqb, decide_eq_false hle]; rfl))
        clear hqb hxb hle
        go_wp2_with fail
        refine HB.out.mono ?_
        rintro e w1 ⟨rfl, H1⟩
        have HW1 : Hid (Below X.heap.size X w1) := Lib.hid (below_then HW.out H1)
        clear q0 r0 r1 H1
        have r1 := HSC.out w1 HW1.out
        go_wp2_with fail
        go_ret
        exact ⟨ret_bool HF.out, below_then HXB.out HW1.out⟩
/-- What is being done at a time. -/
def onT (l : List Sp) (now : Int) (x : Nat) : Bool := decide (sAt l x ≤ now) && decide (now < eAt l x)
set_option maxRecDepth 100000 in
set_option maxHeartbeats 8000000 in
theorem once_im (la : Option Addr) (m lc : Nat) (l : List Sp) (now : Int) (w : World) (hl : l.length = m) (hls : Spa w la l) (hm : m ≤ 1048576) :
    Calls Try.prog 35 #[.slice la m lc, .int .i64 now] w fun e w' => e = .returned (.int .i64 (cntB (onT l now) m : Nat)) ∧ Below w.heap.size w w' := by
  have HS := spa_at hls
  have HLL := Lib.hid hl
  have hm1 : (m : Int) ≤ 1048576 := by omega
  clear hl hls
  go_enter Try.func35, Try.ntmps35
  go_wp2_with fail
  go_loopw [5, 10] (fun u t wr => ∃ (i d : Nat), u = .int .i64 (d : Int) ∧ t = .int .i64 (i : Int) ∧ i ≤ m ∧ d ≤ i ∧ Hid (cntB (onT l now) i = d) ∧ Hid (Below w.heap.size w wr)) (fun _ t _ => m - (RowKit.intOf t).toNat)
  case atStart => exact ⟨0, 0, rfl, rfl, by omega, by omega, Lib.hid rfl, Lib.hid (Below.refl _ _)⟩
  case round =>
    obtain ⟨i, d, rfl, rfl, hi, hdi, HI, HW⟩ := hrel
    have hi0 : (0 : Int) ≤ (i : Int) := by omega
    by_cases hlt : i < m
    case neg =>
      obtain rfl : i = m := by omega
      have hd1 : decide (i < i) = false := by simp
      go_wp2_with fail
      go_ret
      exact ⟨by rw [HI.out]; rfl, HW.out⟩
    have hlt2 : (i : Int) < (m : Int) := by omega
    have hd1 : decide (i < m) = true := decide_eq_true hlt
    have wi : IntKind.i64.wrap ((i : Int) + 1) = (i : Int) + 1 := IntWalk.i64_in _ (by omega)
    have wd : IntKind.i64.wrap ((d : Int) + 1) = (d : Int) + 1 := IntWalk.i64_in _ (by omega)
    obtain ⟨g2, off2, s, rfl, hsy, r0, r1⟩ := HS.out wr i HW.out (by rw [HLL.out]; exact hlt)
    obtain ⟨U, Y, hU, hY, HYB, HC⟩ := box_sp wr s.s s.e
    obtain ⟨k0, k1⟩ := HC.out Y (Below.refl _ _)
    have HWY : Hid (Below w.heap.size w Y) := Lib.hid (below_then HW.out HYB.out)
    have HON : Hid (onT l now i = (decide (s.s ≤ now) && decide (now < s.e))) := Lib.hid (by
      unfold onT
      rw [(at_is hsy.out).1, (at_is hsy.out).2])
    have HCN : Hid (∀ q, (decide (s.s ≤ now) && decide (now < s.e)) = q → cntB (onT l now) (i + 1) = d + if q then 1 else 0) := Lib.hid fun q hq => by rw [cntB, HI.out, HON.out, hq]
    by_cases c1 : s.s ≤ now
    case neg =>
      have d1 : decide (s.s ≤ now) = false := decide_eq_false c1
      have HI2 : Hid (cntB (onT l now) (i + 1) = d) := Lib.hid (HCN.out false (by rw [d1]; rfl))
      clear c1
      go_wp2_with fail
      clear hU hY
      go_roundw
      case rel => exact ⟨i + 1, d, rfl, by go_num, by omega, by omega, HI2, HWY⟩
      case measure => simp [RowKit.intOf]; omega
    have d1 : decide (s.s ≤ now) = true := decide_eq_true c1
    by_cases c2 : now < s.e
    · have d2 : decide (now < s.e) = true := decide_eq_true c2
      have HI2 : Hid (cntB (onT l now) (i + 1) = d + 1) := Lib.hid (HCN.out true (by rw [d1, d2]; rfl))
      clear c1 c2
      go_wp2_with fail
      clear hU hY
      go_roundw
      case rel => exact ⟨i + 1, d + 1, by go_num, by go_num, by omega, by omega, HI2, HWY⟩
      case measure => simp [RowKit.intOf]; omega
    · have d2 : decide (now < s.e) = false := decide_eq_false c2
      have HI2 : Hid (cntB (onT l now) (i + 1) = d) := Lib.hid (HCN.out false (by rw [d1, d2]; rfl))
      clear c1 c2
      go_wp2_with fail
      clear hU hY
      go_roundw
      case rel => exact ⟨i + 1, d, rfl, by go_num, by omega, by omega, HI2, HWY⟩
      case measure => simp [RowKit.intOf]; omega
/-! jobs in memory -/
def JobsAt (W : World) (a : Option Addr) (n : Nat) (t : Nat → Int) (ws : Nat → List Int) : Prop := ∀ k, k < n → ∃ g ak ck, a = some ⟨g, 0, none⟩ ∧ g < W.heap.size ∧ W.cell? ⟨g, k * 2, none⟩ = some (.int .i64 (t k)) ∧ W.cell? ⟨g, k * 2 + 1, none⟩ = some (.slice ak (ws k).length ck) ∧ IRow W ak (ws k)
theorem JobsAt.under {W W' : World} {a : Option Addr} {n : Nat} {t : Nat → Int} {ws : Nat → List Int} (h : JobsAt W a n t ws) (hb : Below W.heap.size W W') : JobsAt W' a n t ws := fun k hk => by
  obtain ⟨g, ak, ck, e, hg, c0, c1, hr⟩ := h k hk
  exact ⟨g, ak, ck, e, Nat.lt_of_lt_of_le hg hb.size, ((bcell hb).1 g _ hg).trans c0, ((bcell hb).1 g _ hg).trans c1, hr.under hb⟩
/-- A job, as walks want it: its cells in any world from here on. -/
theorem jobs_at {X : World} {a : Option Addr} {n : Nat} {t : Nat → Int} {ws : Nat → List Int} (h : JobsAt X a n t ws) : Hid (∀ k, k < n → ∃ g ak ck, Hid (a = some ⟨g, 0, none⟩) ∧ Hid (∀ W, Below X.heap.size X W → (W.cell? ⟨g, k * 2, none⟩ = some (.int .i64 (t k)) ∧ W.cell? ⟨g, k * 2 + 1, none⟩ = some (.slice ak (ws k).length ck)) ∧ IRow W ak (ws k))) := Lib.hid fun k hk => by
  obtain ⟨g, ak, ck, e, hg, c0, c1, hr⟩ := h k hk
  exact ⟨g, ak, ck, Lib.hid e, Lib.hid fun W hW => ⟨⟨((bcell hW).1 g _ hg).trans c0, ((bcell hW).1 g _ hg).trans c1⟩, hr.under hW⟩⟩
/-- The first from a place on of which something holds. -/
def nx1 (f : Nat → Bool) : Nat → Nat → Int
  | 0, _ => -1
  | d + 1, k => if f k then (k : Int) else nx1 f d (k + 1)
/-- Whether a job may begin now. -/
def mayN (t : Nat → Int) (ws : Nat → List Int) (l : List Sp) (now : Int) (k : Nat) : Bool := decide (0 < t k) && !decide (0 < eAt l k) && (ws k).all (okW l now)
set_option maxRecDepth 100000 in
set_option maxHeartbeats 8000000 in
theorem next_im (a : Option Addr) (n c : Nat) (t : Nat → Int) (ws : Nat → List Int) (la : Option Addr) (lc : Nat) (l : List Sp) (now : Int) (w : World) (hj : JobsAt w a n t ws) (hn : n ≤ 1000) (hl : l.length = n) (hls : Spa w la l) (hx : ∀ k, k < n → (ws k).length ≤ 1048576 ∧ ∀ x ∈ ws k, 0 ≤ x ∧ x < (n : Int)) (z : Int) (hz : nx1 (mayN t ws l now) n 0 = z) :
    Calls Try.prog 47 #[.slice a n c, .slice la n lc, .int .i64 now] w fun e w' => e = .returned (.int .i64 z) ∧ Below w.heap.size w w' := by
  have HJ := jobs_at hj
  have HS := spa_at hls
  have HLL := Lib.hid hl
  have hn1 : (n : Int) ≤ 1000 := by omega
  have HZ := Lib.hid hz
  have HMB : Hid (∀ (W : World) (k : Nat) (ak : Option Addr) (ck : Nat) (q : Bool), Below w.heap.size w W → k < n → IRow W ak (ws k) → (ws k).all (okW l now) = q → Calls Try.prog 34 #[.agg #[.int .i64 (t k), .slice ak (ws k).length ck], .slice la n lc, .int .i64 now] W fun e w' => e = .returned (.bool q) ∧ Hid (Below w.heap.size w w')) := Lib.hid fun W k ak ck q hW hk hr hq =>
    (may_im (t k) ak (ws k).length ck (ws k) la n lc l now W rfl hr (hx k hk).1 hl (hls.under hW) (by omega) (hx k hk).2 q hq).mono fun _ _ ⟨e, h⟩ => ⟨e, Lib.hid (below_then hW h)⟩
  clear hj hl hls hx hz
  go_enter Try.func47, Try.ntmps47
  go_wp2_with fail
  go_loopw [11] (fun u wr => ∃ k : Nat, u = .int .i64 (k : Int) ∧ k ≤ n ∧ Hid (nx1 (mayN t ws l now) (n - k) k = z) ∧ Hid (Below w.heap.size w wr)) (fun u _ => n - (RowKit.intOf u).toNat)
  case atStart => exact ⟨0, rfl, by omega, HZ, Lib.hid (Below.refl _ _)⟩
  case round =>
    obtain ⟨k, rfl, hk, HI, HW⟩ := hrel
    have hk0 : (0 : Int) ≤ (k : Int) := by omega
    by_cases hlt : k < n
    case neg =>
      obtain rfl : k = n := by omega
      have hd1 : decide (k < k) = false := by simp
      have HF : Hid (-1 = z) := Lib.hid (by have h1 := HI.out; rw [Nat.sub_self] at h1; exact h1)
      go_wp2_with fail
      go_ret
      exact ⟨ret_i64 HF.out, HW.out⟩
    have hlt2 : (k : Int) < (n : Int) := by omega
    have hd1 : decide (k < n) = true := decide_eq_true hlt
    have wk : IntKind.i64.wrap ((k : Int) + 1) = (k : Int) + 1 := IntWalk.i64_in _ (by omega)
    obtain ⟨g, ak, ck, HA, HJC⟩ := HJ.out k hlt
    obtain rfl : a = some ⟨g, 0, none⟩ := HA.out
    obtain ⟨⟨c0, c1⟩, hr⟩ := HJC.out wr HW.out
    obtain ⟨tk, htk⟩ : ∃ tk, t k = tk := ⟨_, rfl⟩
    obtain ⟨nk, hnk⟩ : ∃ nk, (ws k).length = nk := ⟨_, rfl⟩
    have HMB2 := Lib.hid (fun (W : World) (q : Bool) hW hr hq => HMB.out W k ak ck q hW hlt hr hq)
    rw [htk, hnk] at HMB2
    rw [htk] at c0
    rw [hnk] at c1
    obtain ⟨U, Y, hU, hY, HYB, HC⟩ := box_job wr tk ak nk ck
    obtain ⟨k0, k1⟩ := HC.out Y (Below.refl _ _)
    have HWY : Hid (Below w.heap.size w Y) := Lib.hid (below_then HW.out HYB.out)
    have HN : Hid (∀ q, mayN t ws l now k = q → (if q then (k : Int) else nx1 (mayN t ws l now) (n - (k + 1)) (k + 1)) = z) := Lib.hid fun q hq => by
      have h1 := HI.out
      rw [show n - k = (n - (k + 1)) + 1 by omega, nx1, hq] at h1
      exact h1
    obtain ⟨g2, off2, s, rfl, hsk, r0, r1⟩ := HS.out Y k HWY.out (by rw [HLL.out]; exact hlt)
    have HEK : Hid (eAt l k = s.e) := Lib.hid (at_is hsk.out).2
    have HMN : Hid (∀ q1 q2 q3, decide (0 < tk) = q1 → decide (0 < s.e) = q2 → (ws k).all (okW l now) = q3 → mayN t ws l now k = (q1 && !q2 && q3)) := Lib.hid fun q1 q2 q3 h1 h2 h3 => by
      unfold mayN
      rw [htk, HEK.out, h1, h2, h3]
    have HSC : Hid (∀ W, Below w.heap.size w W → W.cell? ⟨g2, off2 + k * 2, none⟩ = some (.int .i64 s.s) ∧ W.cell? ⟨g2, off2 + k * 2 + 1, none⟩ = some (.int .i64 s.e)) := Lib.hid fun W hW => by
      obtain ⟨g', off', u, e', hu, c0, c1⟩ := HS.out W k hW (by rw [HLL.out]; exact hlt)
      cases e'
      have h1 := hu.out
      rw [hsk.out] at h1
      injection h1 with h1
      subst h1
      exact ⟨c0, c1⟩
    have HRR : Hid (∀ W, Below w.heap.size w W → IRow W ak (ws k)) := Lib.hid fun W hW => (HJC.out W hW).2
    obtain ⟨q1, hq1⟩ : ∃ q, decide (0 < tk) = q := ⟨_, rfl⟩
    obtain ⟨q2, hq2⟩ : ∃ q, decide (0 < s.e) = q := ⟨_, rfl⟩
    obtain ⟨q3, hq3⟩ : ∃ q, (ws k).all (okW l now) = q := ⟨_, rfl⟩
    have HQM := Lib.hid (HMN.out q1 q2 q3 hq1 hq2 hq3)
    have HIS : Hid (Calls Try.prog 22 #[.agg #[.int .i64 tk, .slice ak nk ck]] Y fun e w' => e = .returned (.bool q1) ∧ Hid (Below Y.heap.size Y w')) := Lib.hid ((is_im tk ak nk ck Y q1 hq1).mono fun _ _ ⟨e, h⟩ => ⟨e, Lib.hid h⟩)
    have HBG := Lib.hid (fun W => begun_im s.s s.e W q2 hq2)
    have HMQ := Lib.hid (fun W hW hr => HMB2.out W q3 hW hr hq3)
    clear hq1 hq2 hq3 HMN HMB2 htk hnk hr r0 r1
    have HNX : Hid ((q1 && !q2 && q3) = false → nx1 (mayN t ws l now) (n - (k + 1)) (k + 1) = z) := Lib.hid fun h => by
      have h1 := HN.out _ HQM.out
      rw [h] at h1
      exact h1
    have HRT : Hid ((q1 && !q2 && q3) = true → (k : Int) = z) := Lib.hid fun h => by
      have h1 := HN.out _ HQM.out
      rw [h] at h1
      exact h1
    rcases q1 with _ | _
    · have HI2 := Lib.hid (HNX.out rfl)
      go_wp2_with fail
      clear hU hY
      refine HIS.out.mono ?_
      rintro e w1 ⟨rfl, H1⟩
      clear k0 k1 c0 c1
      go_wp2_with fail
      go_roundw
      case rel => exact ⟨k + 1, by go_num, by omega, HI2, Lib.hid (below_then HWY.out H1.out)⟩
      case measure => simp [RowKit.intOf]; omega
    rcases q2 with _ | _
    case true =>
      have HI2 := Lib.hid (HNX.out rfl)
      go_wp2_with fail
      clear hU hY
      refine HIS.out.mono ?_
      rintro e w1 ⟨rfl, H1⟩
      have HW1 : Hid (Below w.heap.size w w1) := Lib.hid (below_then HWY.out H1.out)
      clear k0 k1 c0 c1
      obtain ⟨r0, r1⟩ := HSC.out w1 HW1.out
      go_wp2_with fail
      refine (HBG.out w1).mono ?_
      rintro e w2 ⟨rfl, H2⟩
      have HW2 : Hid (Below w.heap.size w w2) := Lib.hid (below_then HW1.out H2)
      clear r0 r1 H2
      go_wp2_with fail
      go_roundw
      case rel => exact ⟨k + 1, by go_num, by omega, HI2, HW2⟩
      case measure => simp [RowKit.intOf]; omega
    rcases q3 with _ | _
    · have HI2 := Lib.hid (HNX.out rfl)
      go_wp2_with fail
      clear hU hY
      refine HIS.out.mono ?_
      rintro e w1 ⟨rfl, H1⟩
      have HW1 : Hid (Below w.heap.size w w1) := Lib.hid (below_then HWY.out H1.out)
      clear k0 k1 c0 c1
      obtain ⟨r0, r1⟩ := HSC.out w1 HW1.out
      go_wp2_with fail
      refine (HBG.out w1).mono ?_
      rintro e w2 ⟨rfl, H2⟩
      have HW2 : Hid (Below w.heap.size w w2) := Lib.hid (below_then HW1.out H2)
      have HY2 : Hid (Below Y.heap.size Y w2) := Lib.hid (below_then H1.out H2)
      clear r0 r1 H2
      obtain ⟨k0, k1⟩ := HC.out w2 HY2.out
      go_wp2_with fail
      refine (HMQ.out w2 HW2.out (HRR.out w2 HW2.out)).mono ?_
      rintro e w3 ⟨rfl, H3⟩
      clear k0 k1
      go_wp2_with fail
      go_roundw
      case rel => exact ⟨k + 1, by go_num, by omega, HI2, H3⟩
      case measure => simp [RowKit.intOf]; omega
    · have HF := Lib.hid (HRT.out rfl)
      go_wp2_with fail
      clear hU hY
      refine HIS.out.mono ?_
      rintro e w1 ⟨rfl, H1⟩
      have HW1 : Hid (Below w.heap.size w w1) := Lib.hid (below_then HWY.out H1.out)
      clear k0 k1 c0 c1
      obtain ⟨r0, r1⟩ := HSC.out w1 HW1.out
      go_wp2_with fail
      refine (HBG.out w1).mono ?_
      rintro e w2 ⟨rfl, H2⟩
      have HW2 : Hid (Below w.heap.size w w2) := Lib.hid (below_then HW1.out H2)
      have HY2 : Hid (Below Y.heap.size Y w2) := Lib.hid (below_then H1.out H2)
      clear r0 r1 H2
      obtain ⟨k0, k1⟩ := HC.out w2 HY2.out
      go_wp2_with fail
      refine (HMQ.out w2 HW2.out (HRR.out w2 HW2.out)).mono ?_
      rintro e w3 ⟨rfl, H3⟩
      clear k0 k1
      go_wp2_with fail
      go_ret
      exact ⟨ret_i64 HF.out, H3.out⟩
end Go.Proofs.Ytdbhdlgoecpeaaa.Quo.Im
