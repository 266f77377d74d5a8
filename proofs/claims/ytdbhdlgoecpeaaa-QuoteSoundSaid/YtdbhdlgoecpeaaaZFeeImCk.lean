/- The program's upTo and Check of fees. The program's in, may, and slices.Index of a row of numbers. What is below a node, reckoned; said without a program. What is below a node is what needs lead to; said without a program. There is an order, just if needs lead from no node to itself; said without a program. -/
import Derived.Test.YtdbhdlgoecpeaaaZRecMath
import Derived.Test.YtdbhdlgoecpeaaaZGraphA
import Derived.ChangeBookTie2
import Derived.Test.YtdbhdlgoecpeaaaZGraphD
namespace Go.Proofs.Ytdbhdlgoecpeaaa.Fee
open Go.RowKit Go.Lib

/-! upTo -/
theorem upto_yes (n m : Int) (w : World) (h0 : 0 ≤ n) (h1 : n ≤ m) : Calls Try.prog 73 #[.int .i64 n, .int .i64 m] w fun e w' => e = .returned (.bool true) ∧ w = w' := by
  go_enter Try.func73, Try.ntmps73
  go_wp2_with fail
  go_ret
  exact ⟨rfl, rfl⟩
theorem upto_no (n m : Int) (w : World) (h : n < 0 ∨ m < n) : Calls Try.prog 73 #[.int .i64 n, .int .i64 m] w fun e w' => e = .returned (.bool false) ∧ w = w' := by
  have h2 : n < 0 ∨ (¬ n < 0 ∧ m < n) := by omega
  clear h
  rcases h2 with h | ⟨h, k⟩
  · have d1 : decide (0 ≤ n) = false := decide_eq_false (by omega)
    go_enter Try.func73, Try.ntmps73
    go_wp2_with fail
    go_ret
    exact ⟨rfl, rfl⟩
  · have d1 : decide (0 ≤ n) = true := decide_eq_true (by omega)
    have d2 : decide (n ≤ m) = false := decide_eq_false (by omega)
    go_enter Try.func73, Try.ntmps73
    go_wp2_with fail
    go_ret
    exact ⟨rfl, rfl⟩
/-- As walks want it: what it tells is named ahead. -/
theorem upto_at (n m : Int) : ∃ b : Bool, Hid (∀ w, Calls Try.prog 73 #[.int .i64 n, .int .i64 m] w fun e w' => e = .returned (.bool b) ∧ w = w') ∧ ((b = true ∧ 0 ≤ n ∧ n ≤ m) ∨ (b = false ∧ (n < 0 ∨ m < n))) := by
  by_cases h : 0 ≤ n ∧ n ≤ m
  · exact ⟨true, Lib.hid fun w => upto_yes n m w h.1 h.2, .inl ⟨rfl, h⟩⟩
  · exact ⟨false, Lib.hid fun w => upto_no n m w (by omega), .inr ⟨rfl, by omega⟩⟩
set_option maxRecDepth 100000 in
set_option maxHeartbeats 1000000 in
theorem check_im (f : FS) (w : World) :
    Calls Try.prog 55 #[f.v] w fun e w' => e = .returned (.int .i64 (chkF f)) ∧ Below w.heap.size w w' := by
  obtain ⟨b, l, s⟩ := f
  obtain ⟨x, HX, hx⟩ := upto_at b 10000
  obtain ⟨y, HY, hy⟩ := upto_at s 10000
  obtain ⟨z, HZ, hz⟩ := upto_at l 1152921504606846976
  obtain ⟨t, ht⟩ : ∃ t, chkF ⟨b, l, s⟩ = t := ⟨_, rfl⟩
  have hxyz : (x = true ∧ y = true ∧ z = true ∧ t = 0) ∨ ((x = false ∨ (x = true ∧ (y = false ∨ (y = true ∧ z = false)))) ∧ t = 1) := by
    by_cases h : FeeOk ⟨b, l, s⟩
    · left
      rw [chkF_yes h] at ht
      unfold FeeOk at h
      dsimp only at h
      refine ⟨?_, ?_, ?_, ht.symm⟩
      · rcases hx with h1 | h1
        · exact h1.1
        · omega
      · rcases hy with h1 | h1
        · exact h1.1
        · omega
      · rcases hz with h1 | h1
        · exact h1.1
        · omega
    · right
      rw [chkF_no h] at ht
      unfold FeeOk at h
      dsimp only at h
      refine ⟨?_, ht.symm⟩
      rcases hx with h1 | h1
      · refine .inr ⟨h1.1, ?_⟩
        rcases hy with h2 | h2
        · refine .inr ⟨h2.1, ?_⟩
          rcases hz with h3 | h3
          · omega
          · exact h3.1
        · exact .inl h2.1
      · exact .inl h1.1
  rw [ht]
  clear ht hx hy hz
  rcases hxyz with ⟨rfl, rfl, rfl, rfl⟩ | ⟨rfl | ⟨rfl, rfl | ⟨rfl, rfl⟩⟩, rfl⟩
  · go_enter Try.func55, Try.ntmps55
    go_wp2_with fail
    refine (HX.out _).mono ?_
    rintro e w' ⟨rfl, rfl⟩
    go_wp2_with fail
    refine (HY.out _).mono ?_
    rintro e w' ⟨rfl, rfl⟩
    go_wp2_with fail
    refine (HZ.out _).mono ?_
    rintro e w' ⟨rfl, rfl⟩
    go_wp2_with fail
    go_ret
    exact ⟨rfl, (Below.refl _ w).alloc (Nat.le_refl _) _⟩
  · go_enter Try.func55, Try.ntmps55
    go_wp2_with fail
    refine (HX.out _).mono ?_
    rintro e w' ⟨rfl, rfl⟩
    go_wp2_with fail
    go_ret
    exact ⟨rfl, (Below.refl _ w).alloc (Nat.le_refl _) _⟩
  · go_enter Try.func55, Try.ntmps55
    go_wp2_with fail
    refine (HX.out _).mono ?_
    rintro e w' ⟨rfl, rfl⟩
    go_wp2_with fail
    refine (HY.out _).mono ?_
    rintro e w' ⟨rfl, rfl⟩
    go_wp2_with fail
    go_ret
    exact ⟨rfl, (Below.refl _ w).alloc (Nat.le_refl _) _⟩
  · go_enter Try.func55, Try.ntmps55
    go_wp2_with fail
    refine (HX.out _).mono ?_
    rintro e w' ⟨rfl, rfl⟩
    go_wp2_with fail
    refine (HY.out _).mono ?_
    rintro e w' ⟨rfl, rfl⟩
    go_wp2_with fail
    refine (HZ.out _).mono ?_
    rintro e w' ⟨rfl, rfl⟩
    go_wp2_with fail
    go_ret
    exact ⟨rfl, (Below.refl _ w).alloc (Nat.le_refl _) _⟩
end Go.Proofs.Ytdbhdlgoecpeaaa.Fee
namespace Go.Proofs.Ytdbhdlgoecpeaaa.Graph.Im
open Go.RowKit Go.Lib IRows

set_option maxRecDepth 100000 in
theorem in_im (x a b : Int) (w : World) : Calls Try.prog 100 #[.int .i64 x, .int .i64 a, .int .i64 b] w fun e w' => e = .returned (.bool (decide (a ≤ x ∧ x ≤ b))) ∧ w = w' := by
  by_cases h1 : a ≤ x
  · have e1 : decide (a ≤ x) = true := decide_eq_true h1
    by_cases h2 : x ≤ b
    · have e2 : decide (x ≤ b) = true := decide_eq_true h2
      rw [decide_eq_true (⟨h1, h2⟩ : a ≤ x ∧ x ≤ b)]
      clear h1 h2
      go_enter Try.func100, Try.ntmps100
      go_wp2_with fail
      go_ret
      exact ⟨rfl, rfl⟩
    · have e2 : decide (x ≤ b) = false := decide_eq_false h2
      rw [decide_eq_false (fun h : a ≤ x ∧ x ≤ b => h2 h.2)]
      clear h1 h2
      go_enter Try.func100, Try.ntmps100
      go_wp2_with fail
      go_ret
      exact ⟨rfl, rfl⟩
  · have e1 : decide (a ≤ x) = false := decide_eq_false h1
    rw [decide_eq_false (fun h : a ≤ x ∧ x ≤ b => h1 h.1)]
    clear h1
    go_enter Try.func100, Try.ntmps100
    go_wp2_with fail
    go_ret
    exact ⟨rfl, rfl⟩
/-- As walks want it. -/
theorem in_yes (x a b : Int) (w : World) (h : a ≤ x ∧ x ≤ b) : Calls Try.prog 100 #[.int .i64 x, .int .i64 a, .int .i64 b] w fun e w' => e = .returned (.bool true) ∧ w = w' := by
  have := in_im x a b w
  rw [decide_eq_true h] at this
  exact this
theorem in_no (x a b : Int) (w : World) (h : ¬ (a ≤ x ∧ x ≤ b)) : Calls Try.prog 100 #[.int .i64 x, .int .i64 a, .int .i64 b] w fun e w' => e = .returned (.bool false) ∧ w = w' := by
  have := in_im x a b w
  rw [decide_eq_false h] at this
  exact this
/-- A need in a frame's block. -/
theorem box_nd (w : World) (t : Nd) : ∃ U Y, w.heap.size = U ∧ w.alloc (.cells #[.int .i64 t.a, .int .i64 t.b] 28) = Y ∧ Y.cell? ⟨U, 0, none⟩ = some (.int .i64 t.a) ∧ Y.cell? ⟨U, 1, none⟩ = some (.int .i64 t.b) ∧ Hid (Below w.heap.size w Y ∧ Y.heap.size = U + 1) := by
  have hb := heap_alloc_new w (.cells #[.int .i64 t.a, .int .i64 t.b] 28)
  exact ⟨_, _, rfl, rfl, cell_block hb rfl, cell_block hb rfl, Lib.hid ⟨(Below.refl _ _).alloc (Nat.le_refl _) _, by simp⟩⟩
open Classical in
set_option maxRecDepth 100000 in
set_option maxHeartbeats 4000000 in
theorem may_im (n : Int) (a : Option Addr) (m c : Nat) (l : List Nd) (w : World) (hl : l.length = m) (hs : Nds w a l) (hm : m ≤ 1048576) :
    Calls Try.prog 92 #[.int .i64 n, .slice a m c] w fun e w' => e = .returned (.bool (decide (May n l))) ∧ Below w.heap.size w w' := by
  by_cases h1 : 0 ≤ n ∧ n ≤ 64
  case neg =>
    rw [decide_eq_false (fun h : May n l => h1 h.1)]
    have H1 := Lib.hid (in_no n 0 64 w h1)
    clear hl hs hm h1
    go_enter Try.func92, Try.ntmps92
    go_wp2_with fail
    refine H1.out.mono ?_
    rintro e w' ⟨rfl, rfl⟩
    go_wp2_with fail
    go_ret
    exact ⟨rfl, Below.refl _ _⟩
  have H1 := Lib.hid (in_yes n 0 64 w h1)
  by_cases h3 : m ≤ 256
  case neg =>
    have d3 : decide (256 < (m : Int)) = true := decide_eq_true (by omega)
    rw [decide_eq_false (fun h : May n l => h3 (by rw [← hl]; exact h.2.1))]
    clear hl hs hm h1 h3
    go_enter Try.func92, Try.ntmps92
    go_wp2_with fail
    refine H1.out.mono ?_
    rintro e w' ⟨rfl, rfl⟩
    go_wp2_with fail
    go_ret
    exact ⟨rfl, Below.refl _ _⟩
  have d3 : decide (256 < (m : Int)) = false := decide_eq_false (by omega)
  have HL := Lib.hid hl
  have HT := nds_at hs
  have HM : Hid ((∀ t ∈ l, OkNd n t) → decide (May n l) = true) := Lib.hid (fun h => decide_eq_true ⟨h1, by rw [hl]; exact h3, h⟩)
  have HN : Hid (∀ t ∈ l, ¬ OkNd n t → decide (May n l) = false) := Lib.hid (fun t ht h => decide_eq_false (fun k => h (k.2.2 t ht)))
  have hn1 : (m : Int) ≤ 256 := by omega
  clear hl hs hm h1 h3
  go_enter Try.func92, Try.ntmps92
  go_wp2_with fail
  refine H1.out.mono ?_
  rintro e w' ⟨rfl, rfl⟩
  go_wp2_with fail
  go_loopw [17] (fun s wr => ∃ i : Nat, s = .int .i64 i ∧ i ≤ m ∧ Hid (Below w.heap.size w wr) ∧ Hid (∀ t ∈ l.take i, OkNd n t)) (fun s _ => m - (RowKit.intOf s).toNat)
  case atStart => exact ⟨0, rfl, by omega, Lib.hid (Below.refl _ _), Lib.hid (fun t h => by simp at h)⟩
  case round =>
    obtain ⟨i, rfl, hi, HB, HI⟩ := hrel
    have hi0 : (0 : Int) ≤ (i : Int) := by omega
    by_cases hlt : i < m
    · have hlt2 : (i : Int) < (m : Int) := by omega
      obtain ⟨g, off, t, rfl, ht, q0, q1⟩ := HT.out wr i HB.out (by rw [HL.out]; exact hlt)
      obtain ⟨U, Y, hU, hY, u0, u1, HU⟩ := box_nd wr t
      have HBY := Lib.hid (below_then HB.out HU.out.1)
      by_cases c1 : 1 ≤ t.a ∧ t.a ≤ n
      case neg =>
        have HF := Lib.hid (HN.out t (List.mem_of_getElem? ht.out) (fun h => c1 h.1))
        have HA := Lib.hid (in_no t.a 1 n Y c1)
        clear c1
        go_wp2_with fail
        clear hY hU q0 q1
        refine HA.out.mono ?_
        rintro e w' ⟨rfl, rfl⟩
        go_wp2_with fail
        go_ret
        exact ⟨by rw [HF.out]; rfl, HBY.out⟩
      have HA := Lib.hid (in_yes t.a 1 n Y c1)
      by_cases c2 : 1 ≤ t.b ∧ t.b ≤ n
      case neg =>
        have HF := Lib.hid (HN.out t (List.mem_of_getElem? ht.out) (fun h => c2 h.2))
        have HA2 := Lib.hid (in_no t.b 1 n Y c2)
        clear c1 c2
        go_wp2_with fail
        clear hY hU q0 q1
        refine HA.out.mono ?_
        rintro e w' ⟨rfl, rfl⟩
        go_wp2_with fail
        refine HA2.out.mono ?_
        rintro e w' ⟨rfl, rfl⟩
        go_wp2_with fail
        go_ret
        exact ⟨by rw [HF.out]; rfl, HBY.out⟩
      have HA2 := Lib.hid (in_yes t.b 1 n Y c2)
      have HF : Hid (∀ x ∈ l.take (i + 1), OkNd n x) := Lib.hid (fun x hx => by
        rcases (mem_take_succ ht.out).1 hx with hx | rfl
        · exact HI.out x hx
        · exact ⟨c1, c2⟩)
      clear c1 c2
      go_wp2_with fail
      clear hY hU q0 q1
      refine HA.out.mono ?_
      rintro e w' ⟨rfl, rfl⟩
      go_wp2_with fail
      refine HA2.out.mono ?_
      rintro e w' ⟨rfl, rfl⟩
      go_wp2_with fail
      go_roundw
      case rel => exact ⟨i + 1, by go_num, by omega, HBY, HF⟩
      case measure => simp [RowKit.intOf]; omega
    · obtain rfl : i = m := by omega
      have HF := Lib.hid (HM.out (by
        have := HI.out
        rw [List.take_of_length_le (by rw [HL.out]; exact Nat.le_refl _)] at this
        exact this))
      go_wp2_with fail
      go_ret
      exact ⟨by rw [HF.out]; rfl, HB.out⟩
/-- The first place where a number stands, of so many; -1, where there is none. -/
structure First (f : Nat → Int) (m : Nat) (x r : Int) : Prop where
  is : (r = -1 ∧ ∀ i, i < m → f i ≠ x) ∨ ∃ p : Nat, r = (p : Int) ∧ p < m ∧ f p = x ∧ ∀ i, i < p → f i ≠ x
set_option maxRecDepth 100000 in
set_option maxHeartbeats 4000000 in
theorem index_im (g m c : Nat) (f : Nat → Int) (x : Int) (w : World) (hc : ∀ i, i < m → w.cell? ⟨g, i, none⟩ = some (.int .i64 (f i))) (hm : m ≤ 1048576) :
    Calls Try.prog 93 #[.slice (some ⟨g, 0, none⟩) m c, .int .i64 x] w fun e w' => ∃ r, e = .returned (.int .i64 r) ∧ Hid (First f m x r) ∧ w = w' := by
  have HC := Lib.hid hc
  have hn1 : (m : Int) ≤ 1048576 := by omega
  clear hc hm
  go_enter Try.func93, Try.ntmps93
  go_wp2_with fail
  go_loopw [8] (fun s wr => ∃ i : Nat, s = .int .i64 i ∧ i ≤ m ∧ w = wr ∧ Hid (∀ j, j < i → f j ≠ x)) (fun s _ => m - (RowKit.intOf s).toNat)
  case atStart => exact ⟨0, rfl, by omega, rfl, Lib.hid (fun j h => by omega)⟩
  case round =>
    obtain ⟨i, rfl, hi, rfl, HI⟩ := hrel
    have hi0 : (0 : Int) ≤ (i : Int) := by omega
    by_cases hlt : i < m
    · have hlt2 : (i : Int) < (m : Int) := by omega
      have q0 := HC.out i hlt
      obtain ⟨v, hv⟩ : ∃ v, f i = v := ⟨_, rfl⟩
      have HV := Lib.hid hv
      rw [hv] at q0
      clear hv
      by_cases c1 : x = v
      · have HF : Hid (First f m x i) := Lib.hid ⟨.inr ⟨i, rfl, hlt, by rw [HV.out, c1], HI.out⟩⟩
        have c1b : (x == v) = true := by simpa using c1
        clear c1
        go_wp2_with fail
        go_ret
        exact ⟨i, rfl, HF, rfl⟩
      · have HF : Hid (∀ j, j < i + 1 → f j ≠ x) := Lib.hid (fun j hj => by
          by_cases e : j = i
          · rw [e, HV.out]; exact fun h => c1 h.symm
          · exact HI.out j (by omega))
        have c1b : (x == v) = false := by simpa using c1
        clear c1
        go_wp2_with fail
        go_roundw
        case rel => exact ⟨i + 1, by go_num, by omega, by first | rfl | trivial, HF⟩
        case measure => simp [RowKit.intOf]; omega
    · obtain rfl : i = m := by omega
      have HF : Hid (First f i x (-1)) := Lib.hid ⟨.inl ⟨rfl, HI.out⟩⟩
      go_wp2_with fail
      go_ret
      exact ⟨-1, rfl, HF, rfl⟩
end Go.Proofs.Ytdbhdlgoecpeaaa.Graph.Im
namespace Go.Proofs.Ytdbhdlgoecpeaaa.Graph
open Go.RowKit Go.Lib

/-- One need that is looked at: what is found grows by it, or not. -/
def Leads (node : Int) (f : List Int) (t : Nd) : Prop := (t.a = node ∨ t.a ∈ f) ∧ t.b ∉ f
open Classical in
noncomputable def grow (node : Int) : List Nd → List Int → List Int
  | [], f => f
  | t :: l, f => grow node l (if Leads node f t then f ++ [t.b] else f)
noncomputable def rounds (node : Int) (l : List Nd) : Nat → List Int → List Int
  | 0, f => f
  | k + 1, f => grow node l (rounds node l k f)
open Classical in
/-- Those of the first nodes that are found, rising. -/
noncomputable def sel (f : List Int) : Nat → List Int
  | 0 => []
  | k + 1 => sel f k ++ (if ((k + 1 : Nat) : Int) ∈ f then [((k + 1 : Nat) : Int)] else [])
def BelOk (n : Int) (l : List Nd) (node : Int) : Prop := May n l ∧ 1 ≤ node ∧ node ≤ n
open Classical in
noncomputable def belE (n : Int) (l : List Nd) (node : Int) : Int := if BelOk n l node then 0 else 1
open Classical in
noncomputable def belV (n : Int) (l : List Nd) (node : Int) : List Int := if BelOk n l node then sel (rounds node l (n.toNat + 1) []) n.toNat else []
theorem bel_arg {n : Int} {l : List Nd} {node : Int} (h : ¬ BelOk n l node) : belE n l node = 1 ∧ belV n l node = [] := by
  unfold belE belV
  rw [if_neg h, if_neg h]
  exact ⟨rfl, rfl⟩
theorem bel_ok {n : Int} {l : List Nd} {node : Int} (h : BelOk n l node) : belE n l node = 0 ∧ belV n l node = sel (rounds node l (n.toNat + 1) []) n.toNat := by
  unfold belE belV
  rw [if_pos h, if_pos h]
  exact ⟨rfl, rfl⟩
theorem grow_drop {node : Int} {l : List Nd} {i : Nat} {t : Nd} {f : List Int} (h : l[i]? = some t) (hl : Leads node f t) : grow node (l.drop i) f = grow node (l.drop (i + 1)) (f ++ [t.b]) := by
  obtain ⟨hi, e⟩ := List.getElem?_eq_some_iff.1 h
  rw [List.drop_eq_getElem_cons hi, e]
  conv => lhs; unfold grow
  rw [if_pos hl]
theorem grow_skip {node : Int} {l : List Nd} {i : Nat} {t : Nd} {f : List Int} (h : l[i]? = some t) (hl : ¬ Leads node f t) : grow node (l.drop i) f = grow node (l.drop (i + 1)) f := by
  obtain ⟨hi, e⟩ := List.getElem?_eq_some_iff.1 h
  rw [List.drop_eq_getElem_cons hi, e]
  conv => lhs; unfold grow
  rw [if_neg hl]
theorem sel_length (f : List Int) : ∀ k, (sel f k).length ≤ k
  | 0 => Nat.le_refl _
  | k + 1 => by
    have := sel_length f k
    unfold sel
    rw [List.length_append]
    split <;> simp <;> omega
end Go.Proofs.Ytdbhdlgoecpeaaa.Graph
namespace Go.Proofs.Ytdbhdlgoecpeaaa.Graph

/-- Needs lead from the one to the other, one or more. -/
inductive Lead (l : List Nd) (x : Int) : Int → Prop
  | one {t : Nd} : t ∈ l → t.a = x → Lead l x t.b
  | more {t : Nd} {y : Int} : Lead l x y → t ∈ l → t.a = y → Lead l x t.b
theorem Lead.trans {l : List Nd} {x y z : Int} (h : Lead l x y) (k : Lead l y z) : Lead l x z := by
  induction k with
  | one ht e => exact .more h ht e
  | more _ ht e ih => exact .more ih ht e
theorem grow_cons (node : Int) (t : Nd) (l : List Nd) (f : List Int) : (Leads node f t ∧ grow node (t :: l) f = grow node l (f ++ [t.b])) ∨ (¬ Leads node f t ∧ grow node (t :: l) f = grow node l f) := by
  by_cases h : Leads node f t
  · refine .inl ⟨h, ?_⟩
    conv => lhs; unfold grow
    rw [if_pos h]
  · refine .inr ⟨h, ?_⟩
    conv => lhs; unfold grow
    rw [if_neg h]
theorem grow_len (node : Int) : ∀ (l : List Nd) (f : List Int), f.length ≤ (grow node l f).length ∧ ∀ x ∈ f, x ∈ grow node l f
  | [], _ => ⟨Nat.le_refl _, fun _ h => h⟩
  | t :: l, f => by
    rcases grow_cons node t l f with ⟨_, e⟩ | ⟨_, e⟩
    · have h := grow_len node l (f ++ [t.b])
      rw [e]
      refine ⟨by have := h.1; simp at this; omega, fun x hx => h.2 x (by simp [hx])⟩
    · rw [e]
      exact grow_len node l f
/-- Where one leads on, it grows. -/
theorem grow_lt (node : Int) : ∀ (l : List Nd) (f : List Int), (∃ t ∈ l, Leads node f t) → f.length < (grow node l f).length
  | [], _, ⟨_, h, _⟩ => by simp at h
  | t :: l, f, ⟨u, hu, hl⟩ => by
    rcases grow_cons node t l f with ⟨_, e⟩ | ⟨h, e⟩
    · have h := grow_len node l (f ++ [t.b])
      rw [e]
      have := h.1
      simp at this
      omega
    · rw [e]
      refine grow_lt node l f ⟨u, ?_, hl⟩
      rcases List.mem_cons.1 hu with rfl | hu
      · exact absurd hl h
      · exact hu
theorem grow_same (node : Int) : ∀ (l : List Nd) (f : List Int), (∀ t ∈ l, ¬ Leads node f t) → grow node l f = f
  | [], _, _ => rfl
  | t :: l, f, h => by
    rcases grow_cons node t l f with ⟨h1, _⟩ | ⟨_, e⟩
    · exact absurd h1 (h t (by simp))
    · rw [e]
      exact grow_same node l f fun u hu => h u (List.mem_cons_of_mem _ hu)
/-- What is found is found once, and led to. -/
theorem grow_keeps {node : Int} {L : List Nd} : ∀ (l : List Nd) (f : List Int), (∀ t ∈ l, t ∈ L) → f.Nodup → (∀ x ∈ f, Lead L node x) → (grow node l f).Nodup ∧ ∀ x ∈ grow node l f, Lead L node x
  | [], _, _, h1, h2 => ⟨h1, h2⟩
  | t :: l, f, hs, h1, h2 => by
    rcases grow_cons node t l f with ⟨⟨hl, hn⟩, e⟩ | ⟨_, e⟩
    · rw [e]
      refine grow_keeps l _ (fun u hu => hs u (List.mem_cons_of_mem _ hu)) ?_ fun x hx => ?_
      · rw [List.nodup_append]
        refine ⟨h1, by simp, fun x hx y hy e => ?_⟩
        simp at hy
        subst hy e
        exact hn hx
      · rcases List.mem_append.1 hx with hx | hx
        · exact h2 x hx
        · simp at hx
          subst hx
          rcases hl with hl | hl
          · exact .one (hs t (by simp)) hl
          · exact .more (h2 _ hl) (hs t (by simp)) rfl
    · rw [e]
      exact grow_keeps l f (fun u hu => hs u (List.mem_cons_of_mem _ hu)) h1 h2
theorem rounds_keeps (node : Int) (l : List Nd) : ∀ k, (rounds node l k []).Nodup ∧ ∀ x ∈ rounds node l k [], Lead l node x
  | 0 => ⟨.nil, fun x h => by simp [rounds] at h⟩
  | k + 1 => by
    have ih := rounds_keeps node l k
    exact grow_keeps l _ (fun _ h => h) ih.1 ih.2
theorem nodup_len {n : Nat} {f : List Int} (h : f.Nodup) (hb : ∀ x ∈ f, 1 ≤ x ∧ x ≤ n) : f.length ≤ n := by
  have h1 : (f.map fun x => (x - 1).toNat).Nodup := by
    refine List.pairwise_map.2 (List.Pairwise.imp_of_mem (fun ha hc hne e => hne ?_) h)
    have := hb _ ha
    have := hb _ hc
    omega
  have h2 := nodup_lt_length n _ h1 (fun x hx => by
    obtain ⟨y, hy, rfl⟩ := List.mem_map.1 hx
    have := hb y hy
    omega)
  simpa using h2
/-- After so many rounds it has so many, or none leads on. -/
theorem rounds_grow (node : Int) (l : List Nd) : ∀ k, k ≤ (rounds node l k []).length ∨ ∀ t ∈ l, ¬ Leads node (rounds node l k []) t
  | 0 => .inl (Nat.zero_le _)
  | k + 1 => by
    have e : rounds node l (k + 1) [] = grow node l (rounds node l k []) := rfl
    by_cases h : ∃ t ∈ l, Leads node (rounds node l k []) t
    · have h1 := grow_lt node l _ h
      rcases rounds_grow node l k with h2 | h2
      · exact .inl (by rw [e]; omega)
      · obtain ⟨t, ht, hl⟩ := h
        exact absurd hl (h2 t ht)
    · have h3 : ∀ t ∈ l, ¬ Leads node (rounds node l k []) t := fun t ht hl => h ⟨t, ht, hl⟩
      refine .inr ?_
      rw [e, grow_same node l _ h3]
      exact h3
theorem lead_in {n : Int} {l : List Nd} {x y : Int} (hm : May n l) (h : Lead l x y) : 1 ≤ y ∧ y ≤ n := by
  cases h with
  | one ht _ => exact (hm.2.2 _ ht).2
  | more _ ht _ => exact (hm.2.2 _ ht).2
/-- What is found at the end is all that needs lead to. -/
theorem found_iff {n : Int} {l : List Nd} (hm : May n l) (node x : Int) : x ∈ rounds node l (n.toNat + 1) [] ↔ Lead l node x := by
  have hk := rounds_keeps node l (n.toNat + 1)
  refine ⟨hk.2 x, fun h => ?_⟩
  have hlen := nodup_len (n := n.toNat) hk.1 (fun y hy => by have := lead_in hm (hk.2 y hy); omega)
  have hno : ∀ t ∈ l, ¬ Leads node (rounds node l (n.toNat + 1) []) t := by
    rcases rounds_grow node l (n.toNat + 1) with h | h
    · omega
    · exact h
  induction h with
  | one ht e => exact Classical.byContradiction fun hn => hno _ ht ⟨.inl e, hn⟩
  | more _ ht e ih => exact Classical.byContradiction fun hn => hno _ ht ⟨.inr (by rw [e]; exact ih), hn⟩
theorem mem_sel {f : List Int} {x : Int} : ∀ k : Nat, x ∈ sel f k ↔ x ∈ f ∧ 1 ≤ x ∧ x ≤ k
  | 0 => by simp [sel]; omega
  | k + 1 => by
    have ih := mem_sel (f := f) (x := x) k
    unfold sel
    rw [List.mem_append, ih]
    constructor
    · rintro (⟨h1, h2, h3⟩ | h)
      · exact ⟨h1, h2, by omega⟩
      · split at h
        · simp at h
          subst h
          rename_i hf
          exact ⟨by simpa using hf, by omega, by omega⟩
        · simp at h
    · rintro ⟨h1, h2, h3⟩
      by_cases e : x = ((k + 1 : Nat) : Int)
      · right
        rw [if_pos (by rw [← e]; exact h1), e]
        simp
      · exact .inl ⟨h1, h2, by omega⟩
/-- What Below tells: the nodes that needs lead to. -/
theorem mem_bel {n : Int} {l : List Nd} {node x : Int} (h : BelOk n l node) : x ∈ belV n l node ↔ Lead l node x := by
  rw [(bel_ok h).2, mem_sel, found_iff h.1]
  have hn := h.1.1.1
  exact ⟨fun ⟨h1, _⟩ => h1, fun h1 => ⟨h1, by have := lead_in h.1 h1; omega⟩⟩
end Go.Proofs.Ytdbhdlgoecpeaaa.Graph
namespace Go.Proofs.Ytdbhdlgoecpeaaa.Graph

/-- All nodes stand there. -/
theorem stands_all {n : Int} {l : List Nd} {o : List Int} (h : Stands n l o) (hl : o.length = n.toNat) {x : Int} (h1 : 1 ≤ x) (h2 : x ≤ n) : x ∈ o := by
  refine Classical.byContradiction fun hx => ?_
  have := nodup_len (n := n.toNat) (f := x :: o) (List.nodup_cons.2 ⟨hx, h.nodup⟩) (fun y hy => by
    rcases List.mem_cons.1 hy with rfl | hy
    · omega
    · have := h.node y hy
      omega)
  simp at this
  omega
/-- What needs lead to stands ahead. -/
theorem lead_ahead {n : Int} {l : List Nd} {o : List Int} (h : Stands n l o) {x y : Int} (hl : Lead l x y) : ∀ i, o[i]? = some x → y ∈ o.take i := by
  induction hl with
  | one ht e => exact fun i hi => h.behind i _ hi _ ht e
  | more _ ht e ih =>
    intro i hi
    have h1 := ih i hi
    obtain ⟨j, hj, e2⟩ := List.mem_take_iff_getElem.1 h1
    have h3 := h.behind j _ (by rw [List.getElem?_eq_getElem (by omega), e2]) _ ht e
    rw [List.mem_take_iff_getElem] at h3 ⊢
    obtain ⟨k, hk, e3⟩ := h3
    exact ⟨k, by omega, e3⟩
theorem order_no_round {n : Int} {l : List Nd} {o : List Int} (hm : May n l) (h : Stands n l o) (hl : o.length = n.toNat) (x : Int) : ¬ Lead l x x := fun hx => by
  have hb := lead_in hm hx
  obtain ⟨i, hi, e⟩ := List.mem_iff_getElem.1 (stands_all h hl hb.1 hb.2)
  have h1 := lead_ahead h hx i (by rw [List.getElem?_eq_getElem hi, e])
  obtain ⟨j, hj, e2⟩ := List.mem_take_iff_getElem.1 h1
  have := List.pairwise_iff_getElem.1 h.nodup j i (by omega) hi (by omega)
  exact this (by rw [e2, e])
/-- A row that is too short leaves a node out. -/
theorem left_out {N : Nat} {o : List Int} (h : o.length < N) : ∃ x : Int, 1 ≤ x ∧ x ≤ N ∧ x ∉ o := by
  refine Classical.byContradiction fun hno => ?_
  have hall : ∀ k : Nat, k < N → ((k : Int) + 1) ∈ o := fun k hk => Classical.byContradiction fun hx => hno ⟨(k : Int) + 1, by omega, by omega, hx⟩
  have h1 : ((List.range N).map fun k : Nat => o.idxOf ((k : Int) + 1)).Nodup := by
    refine List.pairwise_map.2 (List.Pairwise.imp_of_mem (fun {a b} ha hb hne e => hne ?_) List.nodup_range)
    have ha' := hall a (List.mem_range.1 ha)
    have hb' := hall b (List.mem_range.1 hb)
    have e1 := List.getElem_idxOf (List.idxOf_lt_length_iff.2 ha')
    have e2 := List.getElem_idxOf (List.idxOf_lt_length_iff.2 hb')
    have : ((a : Int) + 1) = (b : Int) + 1 := by
      rw [← e1, ← e2]
      congr 1
    omega
  have h2 := nodup_lt_length o.length _ h1 (fun x hx => by
    obtain ⟨k, hk, rfl⟩ := List.mem_map.1 hx
    exact List.idxOf_lt_length_iff.2 (hall k (List.mem_range.1 hk)))
  simp at h2
  omega
/-- Where each leads on for ever, one leads to itself. -/
theorem chain_round {N : Nat} {l : List Nd} (f : Nat → Int) (hf : ∀ k, 1 ≤ f k ∧ f k ≤ N) (hs : ∀ k, ∃ t ∈ l, t.a = f k ∧ t.b = f (k + 1)) : ∃ x, Lead l x x := by
  have hlead : ∀ d i, Lead l (f i) (f (i + d + 1)) := by
    intro d
    induction d with
    | zero =>
      intro i
      obtain ⟨t, ht, e1, e2⟩ := hs i
      rw [show i + 0 + 1 = i + 1 by omega, ← e2]
      exact .one ht e1
    | succ d ih =>
      intro i
      obtain ⟨t, ht, e1, e2⟩ := hs (i + d + 1)
      rw [show i + (d + 1) + 1 = i + d + 1 + 1 by omega, ← e2]
      exact .more (ih i) ht e1
  refine Classical.byContradiction fun hno => ?_
  have hnd : ((List.range (N + 1)).map f).Nodup := by
    refine List.pairwise_iff_getElem.2 fun i j hi hj hij e => hno ?_
    simp at hi hj e
    have := hlead (j - i - 1) i
    rw [show i + (j - i - 1) + 1 = j by omega, ← e] at this
    exact ⟨_, this⟩
  have := nodup_len (n := N) hnd (fun x hx => by
    obtain ⟨k, _, rfl⟩ := List.mem_map.1 hx
    exact hf k)
  simp at this
  omega
theorem stuck_round {n : Int} {l : List Nd} {o : List Int} (hm : May n l) (hl : o.length < n.toNat) (hno : ∀ k, 1 ≤ k → k ≤ n → ¬ Ready l o k) : ∃ x, Lead l x x := by
  have hstep : ∀ x : {x : Int // (1 ≤ x ∧ x ≤ n) ∧ x ∉ o}, ∃ y : {x : Int // (1 ≤ x ∧ x ≤ n) ∧ x ∉ o}, ∃ t ∈ l, t.a = x.1 ∧ t.b = y.1 := fun ⟨x, hx, hxo⟩ => by
    refine Classical.byContradiction fun h => hno x hx.1 hx.2 ⟨hxo, fun t ht e => Classical.byContradiction fun hb => h ⟨⟨t.b, (hm.2.2 t ht).2, hb⟩, t, ht, e, rfl⟩⟩
  obtain ⟨x0, h1, h2, h3⟩ := left_out hl
  have hn := hm.1.1
  let step : {x : Int // (1 ≤ x ∧ x ≤ n) ∧ x ∉ o} → {x : Int // (1 ≤ x ∧ x ≤ n) ∧ x ∉ o} := fun x => Classical.choose (hstep x)
  let f : Nat → {x : Int // (1 ≤ x ∧ x ≤ n) ∧ x ∉ o} := fun k => Nat.rec ⟨x0, ⟨h1, by omega⟩, h3⟩ (fun _ y => step y) k
  refine chain_round (N := n.toNat) (fun k => (f k).1) (fun k => ⟨(f k).2.1.1, by have := (f k).2.1.2; omega⟩) (fun k => ?_)
  exact Classical.choose_spec (hstep (f k))
/-- There is an order, just if needs lead from no node to itself. -/
theorem order_iff {n : Int} {l : List Nd} (hm : May n l) : ordE n l = 0 ↔ ∀ x, ¬ Lead l x x := by
  constructor
  · intro h
    obtain ⟨_, hs, hl⟩ := ord_zero h
    exact order_no_round hm hs hl
  · intro h
    cases ho : ordF n l n.toNat [] with
    | some o => exact (ord_some hm ho).1
    | none =>
      obtain ⟨o, _, hl, hno⟩ := ordF_stuck hm.1.1 n.toNat [] (stands_nil n l) (by simp) ho
      obtain ⟨x, hx⟩ := stuck_round hm hl hno
      exact absurd hx (h x)
theorem order_round {n : Int} {l : List Nd} (hm : May n l) {x : Int} (h : Lead l x x) : ordE n l = 9 ∧ ordV n l = [] := by
  cases ho : ordF n l n.toNat [] with
  | none => exact ord_none hm ho
  | some o => exact absurd h ((order_iff hm).1 (ord_some hm ho).1 x)
end Go.Proofs.Ytdbhdlgoecpeaaa.Graph
