/- The document's Below. -/
import Derived.Test.YtghjcefigdkhnaaGraphCa
namespace Go.Proofs.Ytghjcefigdkhnaa.Graph
open Go.RowKit Go.Lib IRows

/-- One need that is looked at: what is found grows by it, or not. -/
def Leads (node : Int) (f : List Int) (t : Nd) : Prop := (t.a = node ∨ t.a ∈ f) ∧ t.b ∉ f
open Classical in
noncomputable def grow (node : Int) : List Nd → List Int → List Int
  | [], f => f
  | t :: l, f => grow node l (if Leads node f t then f ++ [t.b] else f)
noncomputable def rounds (node : Int) (l : List Nd) : Nat → List Int → List Int
  | 0, f => f
  | k + 1, f => grow node l (rounds node l k f)
open Classical in
/-- Those of the first nodes that are found, rising. -/
noncomputable def sel (f : List Int) : Nat → List Int
  | 0 => []
  | k + 1 => sel f k ++ (if ((k + 1 : Nat) : Int) ∈ f then [((k + 1 : Nat) : Int)] else [])
def BelOk (n : Int) (l : List Nd) (node : Int) : Prop := May n l ∧ 1 ≤ node ∧ node ≤ n
open Classical in
noncomputable def belE (n : Int) (l : List Nd) (node : Int) : Int := if BelOk n l node then 0 else 1
open Classical in
noncomputable def belV (n : Int) (l : List Nd) (node : Int) : List Int := if BelOk n l node then sel (rounds node l (n.toNat + 1) []) n.toNat else []
theorem bel_arg {n : Int} {l : List Nd} {node : Int} (h : ¬ BelOk n l node) : belE n l node = 1 ∧ belV n l node = [] := by
  unfold belE belV
  rw [if_neg h, if_neg h]
  exact ⟨rfl, rfl⟩
theorem bel_ok {n : Int} {l : List Nd} {node : Int} (h : BelOk n l node) : belE n l node = 0 ∧ belV n l node = sel (rounds node l (n.toNat + 1) []) n.toNat := by
  unfold belE belV
  rw [if_pos h, if_pos h]
  exact ⟨rfl, rfl⟩
theorem grow_drop {node : Int} {l : List Nd} {i : Nat} {t : Nd} {f : List Int} (h : l[i]? = some t) (hl : Leads node f t) : grow node (l.drop i) f = grow node (l.drop (i + 1)) (f ++ [t.b]) := by
  obtain ⟨hi, e⟩ := List.getElem?_eq_some_iff.1 h
  rw [List.drop_eq_getElem_cons hi, e]
  conv => lhs; unfold grow
  rw [if_pos hl]
theorem grow_skip {node : Int} {l : List Nd} {i : Nat} {t : Nd} {f : List Int} (h : l[i]? = some t) (hl : ¬ Leads node f t) : grow node (l.drop i) f = grow node (l.drop (i + 1)) f := by
  obtain ⟨hi, e⟩ := List.getElem?_eq_some_iff.1 h
  rw [List.drop_eq_getElem_cons hi, e]
  conv => lhs; unfold grow
  rw [if_neg hl]
theorem sel_length (f : List Int) : ∀ k, (sel f k).length ≤ k
  | 0 => Nat.le_refl _
  | k + 1 => by
    have := sel_length f k
    unfold sel
    rw [List.length_append]
    split <;> simp <;> omega
open Classical in
set_option maxRecDepth 100000 in
set_option maxHeartbeats 8000000 in
theorem dbelow (n : Int) (a : Option Addr) (m c : Nat) (l : List Nd) (node : Int) (w : World) (hl : l.length = m) (hs : Nds w a l) (hm : m ≤ 1048576) :
    Calls Try.prog 13 #[.int .i64 n, .slice a m c, .int .i64 node] w fun e w' => ∃ a' m' c', e = .returned (.tuple #[.slice a' m' c', .int .i64 (belE n l node)]) ∧ Hid ((belV n l node).length = m' ∧ KS w' w.heap.size (.slice a' m' c') (belV n l node) ∧ Below w.heap.size w w') := by
  have HY := dmay n a m c l w hl hs hm
  have HBAD : Hid (belV n l node = [] → (belV n l node).length = 0 ∧ KS w w.heap.size (.slice none 0 0) (belV n l node) ∧ Below w.heap.size w w) := Lib.hid (fun e => by rw [e]; exact ⟨rfl, ks_nil _ _, Below.refl _ _⟩)
  by_cases hok : May n l
  case neg =>
    obtain ⟨e1, e2⟩ := bel_arg (n := n) (l := l) (node := node) (fun h => hok h.1)
    rw [decide_eq_false hok] at HY
    have HM := Lib.hid HY
    have HE := Lib.hid (HBAD.out e2)
    rw [e1]
    clear hl hs hm HY hok e1 e2
    go_enter Try.func13, Try.ntmps13
    go_wp2_with fail
    refine HM.out.mono ?_
    rintro e w' ⟨rfl, rfl⟩
    go_wp2_with fail
    go_ret2
    exact ⟨none, 0, 0, rfl, HE⟩
  rw [decide_eq_true hok] at HY
  have HM := Lib.hid HY
  by_cases q0 : 1 ≤ node
  case neg =>
    obtain ⟨e1, e2⟩ := bel_arg (n := n) (l := l) (node := node) (fun h => q0 h.2.1)
    have HE := Lib.hid (HBAD.out e2)
    have d1 : decide (node < 1) = true := decide_eq_true (by omega)
    rw [e1]
    clear hl hs hm HY hok e1 e2 q0
    go_enter Try.func13, Try.ntmps13
    go_wp2_with fail
    refine HM.out.mono ?_
    rintro e w' ⟨rfl, rfl⟩
    go_wp2_with fail
    go_ret2
    exact ⟨none, 0, 0, rfl, HE⟩
  have d1 : decide (node < 1) = false := decide_eq_false (by omega)
  by_cases q1 : node ≤ n
  case neg =>
    obtain ⟨e1, e2⟩ := bel_arg (n := n) (l := l) (node := node) (fun h => q1 h.2.2)
    have HE := Lib.hid (HBAD.out e2)
    have d2 : decide (n < node) = true := decide_eq_true (by omega)
    rw [e1]
    clear hl hs hm HY hok e1 e2 q0 q1
    go_enter Try.func13, Try.ntmps13
    go_wp2_with fail
    refine HM.out.mono ?_
    rintro e w' ⟨rfl, rfl⟩
    go_wp2_with fail
    go_ret2
    exact ⟨none, 0, 0, rfl, HE⟩
  have d2 : decide (n < node) = false := decide_eq_false (by omega)
  obtain ⟨e1, e2⟩ := bel_ok (n := n) (l := l) (node := node) ⟨hok, q0, q1⟩
  obtain ⟨N, rfl⟩ := Int.eq_ofNat_of_zero_le hok.1.1
  have hN : N ≤ 64 := by have := hok.1.2; omega
  have hN2 : (N : Int) ≤ 64 := by omega
  have hNT : ((N : Int)).toNat = N := by omega
  rw [hNT] at e2
  have HV := Lib.hid e2
  have HL := Lib.hid hl
  have HT := nds_at hs
  have hm1 : (m : Int) ≤ 256 := by have := hok.2.1; omega
  have HM2 : Hid (m ≤ 256) := Lib.hid (by omega)
  have H0 : Hid (KS w w.heap.size (.slice none 0 0) []) := Lib.hid (ks_nil _ _)
  rw [e1]
  clear hl hs hm HY hok e1 e2 hNT q0 q1 HBAD
  go_enter Try.func13, Try.ntmps13
  go_wp2_with fail
  refine HM.out.mono ?_
  rintro e w' ⟨rfl, rfl⟩
  go_wp2_with fail
  go_loopw [8, 9] (fun v t wr => ∃ (a1 : Option Addr) (j c1 k : Nat) (f : List Int), v = .slice a1 j c1 ∧ t = .int .i64 (k : Int) ∧ k ≤ N + 1 ∧ Hid (f.length = j ∧ KS wr w.heap.size (.slice a1 j c1) f) ∧ Hid (Below w.heap.size w wr) ∧ Hid (f = rounds node l k [] ∧ j ≤ k * 256)) (fun _ t _ => N + 1 - (RowKit.intOf t).toNat)
  case atStart => exact ⟨none, 0, 0, 0, [], rfl, rfl, by omega, Lib.hid ⟨rfl, H0.out⟩, Lib.hid (Below.refl _ _), Lib.hid ⟨rfl, by omega⟩⟩
  case round =>
    obtain ⟨a1, j, c1, k, f0, rfl, rfl, hk, HO, HB, HF⟩ := hrel
    have hk0 : (0 : Int) ≤ (k : Int) := by omega
    have hk64 : (k : Int) ≤ 65 := by omega
    by_cases hlt : k ≤ N
    · have d3 : decide ((k : Int) ≤ (N : Int)) = true := decide_eq_true (by omega)
      have wk : IntKind.i64.wrap ((k : Int) + 1) = (k : Int) + 1 := IntWalk.i64_in _ (by omega)
      go_wp2_with fail
      go_loopw [8, 10] (fun v t wr' => ∃ (a2 : Option Addr) (j2 c2 i : Nat) (f : List Int), v = .slice a2 j2 c2 ∧ t = .int .i64 (i : Int) ∧ i ≤ m ∧ Hid (f.length = j2 ∧ KS wr' w.heap.size (.slice a2 j2 c2) f) ∧ Hid (Below w.heap.size w wr') ∧ Hid (grow node (l.drop i) f = grow node l f0 ∧ j2 ≤ k * 256 + i)) (fun _ t _ => m - (RowKit.intOf t).toNat)
      case atStart => exact ⟨a1, j, c1, 0, f0, rfl, rfl, by omega, HO, HB, Lib.hid ⟨rfl, by have := HF.out.2; omega⟩⟩
      case round =>
        obtain ⟨a2, j2, c2, i, f, rfl, rfl, hi, HO2, HB2, HG⟩ := hrel
        have hi0 : (0 : Int) ≤ (i : Int) := by omega
        by_cases hil : i < m
        · have hil2 : (i : Int) < (m : Int) := by omega
          obtain ⟨g, off, t, rfl, ht, z0, z1⟩ := HT.out _ i HB2.out (by rw [HL.out]; exact hil)
          have wi : IntKind.i64.wrap ((i : Int) + 1) = (i : Int) + 1 := IntWalk.i64_in _ (by omega)
          have hj2 : j2 ≤ 1048576 := by have := HG.out.2; have := HM2.out; have : k * 256 ≤ 65 * 256 := Nat.mul_le_mul_right _ (by omega); omega
          obtain ⟨tb, HIB, EB⟩ := in_own HO2.out.1 HO2.out.2 hj2 t.b
          have HAPP : Hid (∃ a3 c3 W3, Hid ((Builtin.append_ #[24, 24] 24 #[.slice a2 j2 c2, .slice (some ⟨wr.heap.size, 0, none⟩) 1 1]).run Try.prog (wr.alloc (.cells #[.int .i64 t.b] 3)) = .ok (.slice a3 (j2 + 1) c3) W3) ∧ Hid ((f ++ [t.b]).length = j2 + 1 ∧ KS W3 w.heap.size (.slice a3 (j2 + 1) c3) (f ++ [t.b])) ∧ Hid (Below w.heap.size w W3)) := Lib.hid (by
            obtain ⟨a3, c3, W3, h1, h2, h3, h4⟩ := app1 t.b HO2.out.1 HO2.out.2 (by omega) HB2.out.size
            exact ⟨a3, c3, W3, h1, Lib.hid ⟨h2, h3⟩, Lib.hid (HB2.out.trans h4)⟩)
          have HYES : Hid (Leads node f t → grow node (l.drop (i + 1)) (f ++ [t.b]) = grow node l f0 ∧ j2 + 1 ≤ k * 256 + (i + 1)) := Lib.hid (fun h => ⟨by rw [← grow_drop ht.out h]; exact HG.out.1, by have := HG.out.2; omega⟩)
          have HNOT : Hid (¬ Leads node f t → grow node (l.drop (i + 1)) f = grow node l f0 ∧ j2 ≤ k * 256 + (i + 1)) := Lib.hid (fun h => ⟨by rw [← grow_skip ht.out h]; exact HG.out.1, by have := HG.out.2; omega⟩)
          clear hj2
          by_cases ca : t.a = node
          · have ca2 : (t.a == node) = true := by simpa using ca
            have CA := Lib.hid ca
            clear ca
            cases tb
            · have HG2 := Lib.hid (HYES.out ⟨.inl CA.out, fun h => by have := EB.out.2 h; cases this⟩)
              obtain ⟨a3, c3, W3, HRUN, HO3, HB3⟩ := HAPP.out
              go_wp2_with fail
              refine HIB.out.mono ?_
              rintro e w' ⟨rfl, rfl⟩
              go_wp2_with (at_builtin; refine walk_run (v' := .slice a3 (j2 + 1) c3) (w' := W3) rfl _ _ _ _ rfl _ _ rfl rfl HRUN.out ?_)
              go_roundw
              case rel => exact ⟨a3, j2 + 1, c3, i + 1, f ++ [t.b], rfl, by go_num, by omega, HO3, HB3, HG2⟩
              case measure => simp [RowKit.intOf]; omega
            · have HG2 := Lib.hid (HNOT.out (fun h => h.2 (EB.out.1 rfl)))
              go_wp2_with fail
              refine HIB.out.mono ?_
              rintro e w' ⟨rfl, rfl⟩
              go_wp2_with fail
              go_roundw
              case rel => exact ⟨a2, j2, c2, i + 1, f, rfl, by go_num, by omega, HO2, HB2, HG2⟩
              case measure => simp [RowKit.intOf]; omega
          · have ca2 : (t.a == node) = false := by simpa using ca
            have CA := Lib.hid ca
            clear ca
            obtain ⟨ta, HIA, EA⟩ := in_own HO2.out.1 HO2.out.2 (by have := HG.out.2; have := HM2.out; have : k * 256 ≤ 65 * 256 := Nat.mul_le_mul_right _ (by omega); omega) t.a
            cases ta
            · have HG2 := Lib.hid (HNOT.out (fun h => h.1.elim CA.out (fun h => by have := EA.out.2 h; cases this)))
              go_wp2_with fail
              refine HIA.out.mono ?_
              rintro e w' ⟨rfl, rfl⟩
              go_wp2_with fail
              go_roundw
              case rel => exact ⟨a2, j2, c2, i + 1, f, rfl, by go_num, by omega, HO2, HB2, HG2⟩
              case measure => simp [RowKit.intOf]; omega
            · cases tb
              · have HG2 := Lib.hid (HYES.out ⟨.inr (EA.out.1 rfl), fun h => by have := EB.out.2 h; cases this⟩)
                obtain ⟨a3, c3, W3, HRUN, HO3, HB3⟩ := HAPP.out
                go_wp2_with fail
                refine HIA.out.mono ?_
                rintro e w' ⟨rfl, rfl⟩
                go_wp2_with fail
                refine HIB.out.mono ?_
                rintro e w' ⟨rfl, rfl⟩
                go_wp2_with (at_builtin; refine walk_run (v' := .slice a3 (j2 + 1) c3) (w' := W3) rfl _ _ _ _ rfl _ _ rfl rfl HRUN.out ?_)
                go_roundw
                case rel => exact ⟨a3, j2 + 1, c3, i + 1, f ++ [t.b], rfl, by go_num, by omega, HO3, HB3, HG2⟩
                case measure => simp [RowKit.intOf]; omega
              · have HG2 := Lib.hid (HNOT.out (fun h => h.2 (EB.out.1 rfl)))
                go_wp2_with fail
                refine HIA.out.mono ?_
                rintro e w' ⟨rfl, rfl⟩
                go_wp2_with fail
                refine HIB.out.mono ?_
                rintro e w' ⟨rfl, rfl⟩
                go_wp2_with fail
                go_roundw
                case rel => exact ⟨a2, j2, c2, i + 1, f, rfl, by go_num, by omega, HO2, HB2, HG2⟩
                case measure => simp [RowKit.intOf]; omega
        · obtain rfl : i = m := by omega
          have HF2 : Hid (f = rounds node l (k + 1) [] ∧ j2 ≤ (k + 1) * 256) := Lib.hid (by
            have h := HG.out.1
            rw [List.drop_of_length_le (by rw [HL.out]; exact Nat.le_refl _)] at h
            refine ⟨?_, by have := HG.out.2; have := HM2.out; omega⟩
            have e : rounds node l (k + 1) [] = grow node l f0 := by rw [HF.out.1]; rfl
            rw [e, ← h]
            rfl)
          go_wp2_with fail
          go_roundw
          case rel => exact ⟨a2, j2, c2, k + 1, f, rfl, by go_num, by omega, HO2, HB2, HF2⟩
          case measure => simp [RowKit.intOf]; omega
    · have HKN : Hid (k = N + 1) := Lib.hid (by omega)
      have d3 : decide ((k : Int) ≤ (N : Int)) = false := decide_eq_false (by omega)
      have hj : j ≤ 1048576 := by have := HF.out.2; have : k * 256 ≤ 65 * 256 := Nat.mul_le_mul_right _ (by omega); omega
      have HJ := Lib.hid hj
      have HFV : Hid (belV N l node = sel f0 N) := Lib.hid (by rw [HV.out, HF.out.1, HKN.out])
      clear hj hk hk0 hk64
      go_wp2_with fail
      go_loopw [11, 12] (fun v t wr' => ∃ (a2 : Option Addr) (j2 c2 i : Nat) (o : List Int), v = .slice a2 j2 c2 ∧ t = .int .i64 ((i : Int) + 1) ∧ i ≤ N ∧ Hid (o.length = j2 ∧ KS wr' wr.heap.size (.slice a2 j2 c2) o) ∧ Hid (Below wr.heap.size wr wr') ∧ Hid (o = sel f0 i)) (fun _ t _ => N + 1 - (RowKit.intOf t).toNat)
      case atStart => exact ⟨none, 0, 0, 0, [], rfl, rfl, by omega, Lib.hid ⟨rfl, ks_nil _ _⟩, Lib.hid (Below.refl _ _), Lib.hid rfl⟩
      case round =>
        obtain ⟨a2, j2, c2, i, o, rfl, rfl, hi, HO2, HB2, HS⟩ := hrel
        have hi0 : (0 : Int) ≤ (i : Int) := by omega
        by_cases hil : i < N
        · have d4 : decide ((i : Int) + 1 ≤ (N : Int)) = true := decide_eq_true (by omega)
          have wi : IntKind.i64.wrap ((i : Int) + 1 + 1) = (i : Int) + 1 + 1 := IntWalk.i64_in _ (by omega)
          obtain ⟨tk, HIK, EK⟩ := in_own HO.out.1 (HO.out.2.under HB2.out) HJ.out ((i : Int) + 1)
          have hcast : ((i + 1 : Nat) : Int) = (i : Int) + 1 := by omega
          cases tk
          · have HS2 : Hid (o = sel f0 (i + 1)) := Lib.hid (by
              conv => rhs; unfold sel
              rw [if_neg (fun h => by rw [hcast] at h; have := EK.out.2 h; cases this), List.append_nil]
              exact HS.out)
            clear hcast
            go_wp2_with fail
            refine HIK.out.mono ?_
            rintro e w' ⟨rfl, rfl⟩
            go_wp2_with fail
            go_roundw
            case rel => exact ⟨a2, j2, c2, i + 1, o, rfl, by go_num, by omega, HO2, HB2, HS2⟩
            case measure => simp [RowKit.intOf]; omega
          · have HS2 : Hid (o ++ [(i : Int) + 1] = sel f0 (i + 1)) := Lib.hid (by
              conv => rhs; unfold sel
              rw [if_pos (by rw [hcast]; exact EK.out.1 rfl), hcast, HS.out])
            obtain ⟨a3, c3, W3, HRUN, h2, h3, h4⟩ := app1 ((i : Int) + 1) HO2.out.1 HO2.out.2 (by have := sel_length f0 i; rw [← HS.out, HO2.out.1] at this; omega) HB2.out.size
            have HO3 := Lib.hid (And.intro h2 h3)
            have HB3 := Lib.hid (HB2.out.trans h4)
            clear hcast h2 h3 h4
            go_wp2_with fail
            refine HIK.out.mono ?_
            rintro e w' ⟨rfl, rfl⟩
            go_wp2_with (at_builtin; refine walk_run (v' := .slice a3 (j2 + 1) c3) (w' := W3) rfl _ _ _ _ rfl _ _ rfl rfl HRUN.out ?_)
            go_roundw
            case rel => exact ⟨a3, j2 + 1, c3, i + 1, o ++ [(i : Int) + 1], rfl, by go_num, by omega, HO3, HB3, HS2⟩
            case measure => simp [RowKit.intOf]; omega
        · obtain rfl : i = N := by omega
          have d4 : decide ((i : Int) + 1 ≤ (i : Int)) = false := decide_eq_false (by omega)
          have HE : Hid ((belV i l node).length = j2 ∧ KS _ w.heap.size (.slice a2 j2 c2) (belV i l node) ∧ Below w.heap.size w _) := Lib.hid (by
            rw [HFV.out, ← HS.out]
            exact ⟨HO2.out.1, World.ownsRow.mono HO2.out.2 HB.out.size, below_then HB.out HB2.out⟩)
          go_wp2_with fail
          go_ret2
          exact ⟨a2, j2, c2, rfl, HE⟩
end Go.Proofs.Ytghjcefigdkhnaa.Graph
