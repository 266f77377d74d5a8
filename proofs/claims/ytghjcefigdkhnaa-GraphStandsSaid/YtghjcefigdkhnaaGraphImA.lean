/- The program's in, may, and slices.Index of a row of numbers. -/
import Derived.Test.YtghjcefigdkhnaaGraphA
namespace Go.Proofs.Ytghjcefigdkhnaa.Graph.Im
open Go.RowKit Go.Lib IRows

set_option maxRecDepth 100000 in
theorem in_im (x a b : Int) (w : World) : Calls Try.prog 22 #[.int .i64 x, .int .i64 a, .int .i64 b] w fun e w' => e = .returned (.bool (decide (a ≤ x ∧ x ≤ b))) ∧ w = w' := by
  by_cases h1 : a ≤ x
  · have e1 : decide (a ≤ x) = true := decide_eq_true h1
    by_cases h2 : x ≤ b
    · have e2 : decide (x ≤ b) = true := decide_eq_true h2
      rw [decide_eq_true (⟨h1, h2⟩ : a ≤ x ∧ x ≤ b)]
      clear h1 h2
      go_enter Try.func22, Try.ntmps22
      go_wp2_with fail
      go_ret
      exact ⟨rfl, rfl⟩
    · have e2 : decide (x ≤ b) = false := decide_eq_false h2
      rw [decide_eq_false (fun h : a ≤ x ∧ x ≤ b => h2 h.2)]
      clear h1 h2
      go_enter Try.func22, Try.ntmps22
      go_wp2_with fail
      go_ret
      exact ⟨rfl, rfl⟩
  · have e1 : decide (a ≤ x) = false := decide_eq_false h1
    rw [decide_eq_false (fun h : a ≤ x ∧ x ≤ b => h1 h.1)]
    clear h1
    go_enter Try.func22, Try.ntmps22
    go_wp2_with fail
    go_ret
    exact ⟨rfl, rfl⟩
/-- As walks want it. -/
theorem in_yes (x a b : Int) (w : World) (h : a ≤ x ∧ x ≤ b) : Calls Try.prog 22 #[.int .i64 x, .int .i64 a, .int .i64 b] w fun e w' => e = .returned (.bool true) ∧ w = w' := by
  have := in_im x a b w
  rw [decide_eq_true h] at this
  exact this
theorem in_no (x a b : Int) (w : World) (h : ¬ (a ≤ x ∧ x ≤ b)) : Calls Try.prog 22 #[.int .i64 x, .int .i64 a, .int .i64 b] w fun e w' => e = .returned (.bool false) ∧ w = w' := by
  have := in_im x a b w
  rw [decide_eq_false h] at this
  exact this
/-- A need in a frame's block. -/
theorem box_nd (w : World) (t : Nd) : ∃ U Y, w.heap.size = U ∧ w.alloc (.cells #[.int .i64 t.a, .int .i64 t.b] 31) = Y ∧ Y.cell? ⟨U, 0, none⟩ = some (.int .i64 t.a) ∧ Y.cell? ⟨U, 1, none⟩ = some (.int .i64 t.b) ∧ Hid (Below w.heap.size w Y ∧ Y.heap.size = U + 1) := by
  have hb := heap_alloc_new w (.cells #[.int .i64 t.a, .int .i64 t.b] 31)
  exact ⟨_, _, rfl, rfl, cell_block hb rfl, cell_block hb rfl, Lib.hid ⟨(Below.refl _ _).alloc (Nat.le_refl _) _, by simp⟩⟩
open Classical in
set_option maxRecDepth 100000 in
set_option maxHeartbeats 4000000 in
theorem may_im (n : Int) (a : Option Addr) (m c : Nat) (l : List Nd) (w : World) (hl : l.length = m) (hs : Nds w a l) (hm : m ≤ 1048576) :
    Calls Try.prog 17 #[.int .i64 n, .slice a m c] w fun e w' => e = .returned (.bool (decide (May n l))) ∧ Below w.heap.size w w' := by
  by_cases h1 : 0 ≤ n ∧ n ≤ 64
  case neg =>
    rw [decide_eq_false (fun h : May n l => h1 h.1)]
    have H1 := Lib.hid (in_no n 0 64 w h1)
    clear hl hs hm h1
    go_enter Try.func17, Try.ntmps17
    go_wp2_with fail
    refine H1.out.mono ?_
    rintro e w' ⟨rfl, rfl⟩
    go_wp2_with fail
    go_ret
    exact ⟨rfl, Below.refl _ _⟩
  have H1 := Lib.hid (in_yes n 0 64 w h1)
  by_cases h3 : m ≤ 256
  case neg =>
    have d3 : decide (256 < (m : Int)) = true := decide_eq_true (by omega)
    rw [decide_eq_false (fun h : May n l => h3 (by rw [← hl]; exact h.2.1))]
    clear hl hs hm h1 h3
    go_enter Try.func17, Try.ntmps17
    go_wp2_with fail
    refine H1.out.mono ?_
    rintro e w' ⟨rfl, rfl⟩
    go_wp2_with fail
    go_ret
    exact ⟨rfl, Below.refl _ _⟩
  have d3 : decide (256 < (m : Int)) = false := decide_eq_false (by omega)
  have HL := Lib.hid hl
  have HT := nds_at hs
  have HM : Hid ((∀ t ∈ l, OkNd n t) → decide (May n l) = true) := Lib.hid (fun h => decide_eq_true ⟨h1, by rw [hl]; exact h3, h⟩)
  have HN : Hid (∀ t ∈ l, ¬ OkNd n t → decide (May n l) = false) := Lib.hid (fun t ht h => decide_eq_false (fun k => h (k.2.2 t ht)))
  have hn1 : (m : Int) ≤ 256 := by omega
  clear hl hs hm h1 h3
  go_enter Try.func17, Try.ntmps17
  go_wp2_with fail
  refine H1.out.mono ?_
  rintro e w' ⟨rfl, rfl⟩
  go_wp2_with fail
  go_loopw [17] (fun s wr => ∃ i : Nat, s = .int .i64 i ∧ i ≤ m ∧ Hid (Below w.heap.size w wr) ∧ Hid (∀ t ∈ l.take i, OkNd n t)) (fun s _ => m - (RowKit.intOf s).toNat)
  case atStart => exact ⟨0, rfl, by omega, Lib.hid (Below.refl _ _), Lib.hid (fun t h => by simp at h)⟩
  case round =>
    obtain ⟨i, rfl, hi, HB, HI⟩ := hrel
    have hi0 : (0 : Int) ≤ (i : Int) := by omega
    by_cases hlt : i < m
    · have hlt2 : (i : Int) < (m : Int) := by omega
      obtain ⟨g, off, t, rfl, ht, q0, q1⟩ := HT.out wr i HB.out (by rw [HL.out]; exact hlt)
      obtain ⟨U, Y, hU, hY, u0, u1, HU⟩ := box_nd wr t
      have HBY := Lib.hid (below_then HB.out HU.out.1)
      by_cases c1 : 1 ≤ t.a ∧ t.a ≤ n
      case neg =>
        have HF := Lib.hid (HN.out t (List.mem_of_getElem? ht.out) (fun h => c1 h.1))
        have HA := Lib.hid (in_no t.a 1 n Y c1)
        clear c1
        go_wp2_with fail
        clear hY hU q0 q1
        refine HA.out.mono ?_
        rintro e w' ⟨rfl, rfl⟩
        go_wp2_with fail
        go_ret
        exact ⟨by rw [HF.out]; rfl, HBY.out⟩
      have HA := Lib.hid (in_yes t.a 1 n Y c1)
      by_cases c2 : 1 ≤ t.b ∧ t.b ≤ n
      case neg =>
        have HF := Lib.hid (HN.out t (List.mem_of_getElem? ht.out) (fun h => c2 h.2))
        have HA2 := Lib.hid (in_no t.b 1 n Y c2)
        clear c1 c2
        go_wp2_with fail
        clear hY hU q0 q1
        refine HA.out.mono ?_
        rintro e w' ⟨rfl, rfl⟩
        go_wp2_with fail
        refine HA2.out.mono ?_
        rintro e w' ⟨rfl, rfl⟩
        go_wp2_with fail
        go_ret
        exact ⟨by rw [HF.out]; rfl, HBY.out⟩
      have HA2 := Lib.hid (in_yes t.b 1 n Y c2)
      have HF : Hid (∀ x ∈ l.take (i + 1), OkNd n x) := Lib.hid (fun x hx => by
        rcases (mem_take_succ ht.out).1 hx with hx | rfl
        · exact HI.out x hx
        · exact ⟨c1, c2⟩)
      clear c1 c2
      go_wp2_with fail
      clear hY hU q0 q1
      refine HA.out.mono ?_
      rintro e w' ⟨rfl, rfl⟩
      go_wp2_with fail
      refine HA2.out.mono ?_
      rintro e w' ⟨rfl, rfl⟩
      go_wp2_with fail
      go_roundw
      case rel => exact ⟨i + 1, by go_num, by omega, HBY, HF⟩
      case measure => simp [RowKit.intOf]; omega
    · obtain rfl : i = m := by omega
      have HF := Lib.hid (HM.out (by
        have := HI.out
        rw [List.take_of_length_le (by rw [HL.out]; exact Nat.le_refl _)] at this
        exact this))
      go_wp2_with fail
      go_ret
      exact ⟨by rw [HF.out]; rfl, HB.out⟩
/-- The first place where a number stands, of so many; -1, where there is none. -/
structure First (f : Nat → Int) (m : Nat) (x r : Int) : Prop where
  is : (r = -1 ∧ ∀ i, i < m → f i ≠ x) ∨ ∃ p : Nat, r = (p : Int) ∧ p < m ∧ f p = x ∧ ∀ i, i < p → f i ≠ x
set_option maxRecDepth 100000 in
set_option maxHeartbeats 4000000 in
theorem index_im (g m c : Nat) (f : Nat → Int) (x : Int) (w : World) (hc : ∀ i, i < m → w.cell? ⟨g, i, none⟩ = some (.int .i64 (f i))) (hm : m ≤ 1048576) :
    Calls Try.prog 18 #[.slice (some ⟨g, 0, none⟩) m c, .int .i64 x] w fun e w' => ∃ r, e = .returned (.int .i64 r) ∧ Hid (First f m x r) ∧ w = w' := by
  have HC := Lib.hid hc
  have hn1 : (m : Int) ≤ 1048576 := by omega
  clear hc hm
  go_enter Try.func18, Try.ntmps18
  go_wp2_with fail
  go_loopw [8] (fun s wr => ∃ i : Nat, s = .int .i64 i ∧ i ≤ m ∧ w = wr ∧ Hid (∀ j, j < i → f j ≠ x)) (fun s _ => m - (RowKit.intOf s).toNat)
  case atStart => exact ⟨0, rfl, by omega, rfl, Lib.hid (fun j h => by omega)⟩
  case round =>
    obtain ⟨i, rfl, hi, rfl, HI⟩ := hrel
    have hi0 : (0 : Int) ≤ (i : Int) := by omega
    by_cases hlt : i < m
    · have hlt2 : (i : Int) < (m : Int) := by omega
      have q0 := HC.out i hlt
      obtain ⟨v, hv⟩ : ∃ v, f i = v := ⟨_, rfl⟩
      have HV := Lib.hid hv
      rw [hv] at q0
      clear hv
      by_cases c1 : x = v
      · have HF : Hid (First f m x i) := Lib.hid ⟨.inr ⟨i, rfl, hlt, by rw [HV.out, c1], HI.out⟩⟩
        have c1b : (x == v) = true := by simpa using c1
        clear c1
        go_wp2_with fail
        go_ret
        exact ⟨i, rfl, HF, rfl⟩
      · have HF : Hid (∀ j, j < i + 1 → f j ≠ x) := Lib.hid (fun j hj => by
          by_cases e : j = i
          · rw [e, HV.out]; exact fun h => c1 h.symm
          · exact HI.out j (by omega))
        have c1b : (x == v) = false := by simpa using c1
        clear c1
        go_wp2_with fail
        go_roundw
        case rel => exact ⟨i + 1, by go_num, by omega, by first | rfl | trivial, HF⟩
        case measure => simp [RowKit.intOf]; omega
    · obtain rfl : i = m := by omega
      have HF : Hid (First f i x (-1)) := Lib.hid ⟨.inl ⟨rfl, HI.out⟩⟩
      go_wp2_with fail
      go_ret
      exact ⟨-1, rfl, HF, rfl⟩
end Go.Proofs.Ytghjcefigdkhnaa.Graph.Im
