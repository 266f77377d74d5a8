/- The program's Below: the whole. -/
import Derived.Test.YtghjcefigdkhnaaGraphImE
import Derived.Deep.MidRow
namespace Go.Proofs.Ytghjcefigdkhnaa.Graph.Im
open Go.RowKit Go.Lib IRows

theorem info_seen : (Try.prog.info? 45).map (fun i => (i.zero, i.size)) = some (some (.agg (Array.replicate 65 (.bool false))), 65) := by kernel_rfl
/-- The numbers of those that are seen, rising. -/
def selB (b : Nat → Bool) : Nat → List Int
  | 0 => []
  | k + 1 => selB b k ++ (if b k = true then [(k : Int)] else [])
theorem selB_yes {b : Nat → Bool} {k : Nat} (h : b k = true) : selB b (k + 1) = selB b k ++ [(k : Int)] := by
  conv => lhs; unfold selB
  rw [if_pos h]
theorem selB_no {b : Nat → Bool} {k : Nat} (h : b k = false) : selB b (k + 1) = selB b k := by
  conv => lhs; unfold selB
  rw [if_neg (by rw [h]; exact Bool.false_ne_true), List.append_nil]
theorem selB_len (b : Nat → Bool) : ∀ k, (selB b k).length ≤ k
  | 0 => Nat.le_refl _
  | k + 1 => by
    have := selB_len b k
    unfold selB
    rw [List.length_append]
    split <;> simp <;> omega
theorem sel_selB {n : Int} {l : List Nd} {x : Int} {b : Nat → Bool} (h : BelOk n l x) (hb : ∀ k : Nat, b k = true ↔ Lead l x (k : Int)) : selB b 65 = belV n l x := by
  rw [(bel_ok h).2]
  have hin : ∀ k : Nat, b k = true → 1 ≤ (k : Int) ∧ (k : Int) ≤ n := fun k hk => lead_in h.1 ((hb k).1 hk)
  have hn := h.1.1
  have hf : ∀ k : Nat, b k = true ↔ (k : Int) ∈ rounds x l (n.toNat + 1) [] := fun k => (hb k).trans (found_iff h.1 x k).symm
  have h1 : ∀ k, selB b (k + 1) = sel (rounds x l (n.toNat + 1) []) k := by
    intro k
    induction k with
    | zero =>
      rw [selB_no (by
        cases e : b 0 with
        | false => rfl
        | true => have := (hin 0 e).1; omega)]
      rfl
    | succ k ih =>
      conv => rhs; unfold sel
      rw [← ih]
      cases e : b (k + 1) with
      | true => rw [selB_yes e, if_pos ((hf _).1 e)]
      | false => rw [selB_no e, if_neg (fun hh => by rw [(hf _).2 hh] at e; cases e), List.append_nil]
  have h2 : ∀ j, n.toNat ≤ j → selB b (j + 1) = selB b (n.toNat + 1) := by
    intro j hj
    induction j with
    | zero => have : n.toNat = 0 := by omega
              rw [this]
    | succ j ih =>
      by_cases e : n.toNat = j + 1
      · rw [e]
      · rw [selB_no (by
          cases e2 : b (j + 1) with
          | false => rfl
          | true => have := (hin (j + 1) e2).2; omega), ih (by omega)]
  rw [← h1, ← h2 64 (by omega)]
/-- The whole row, as it is read. -/
theorem load_row (W : World) (B : Nat) (b : Nat → Bool) (h : RB W B b) : ∃ cs : List Value, W.rangeAt B 0 cs ∧ (Try.prog.info? 45).map (·.size) = some cs.length ∧ cs.length = 65 ∧ Hid (∀ i, i < 65 → cs[i]? = some (.bool (b i))) := by
  refine ⟨(List.range 65).map fun i => Value.bool (b i), fun j v hj => ?_, by rw [(zero_of_info info_seen).2]; simp, by simp, Lib.hid fun i hi => by simp [hi]⟩
  have hlt := (List.getElem?_eq_some_iff.1 hj).1
  simp at hlt
  rw [Nat.zero_add, (h j hlt).1]
  rw [List.getElem?_map, List.getElem?_range hlt] at hj
  exact hj
theorem run_at (W : World) (cs : List Value) (i : Nat) (v : Bool) (hi : i < 65) (h : cs[i]? = some (.bool v)) : (Instr.index 45 (.agg cs.toArray) (.int .i64 (i : Int))).run Try.prog W = .ok (.bool v) W := by
  have hu : Try.prog.underlying 45 = some (.array 65 4) := Try.underlying45
  have hb : Try.prog.underlying 4 = some .bool := Try.underlying4
  obtain ⟨i0, hi0, hz0, hz1, hz2⟩ := info_parts info_yes
  have e : (0 : Int) ≤ (i : Int) ∧ (i : Int) < 65 := by omega
  simp [Instr.index, asIntOf, run_underlying hu, e, hi, part, sizeOf, typeInfo, hi0, hz1, isAgg, run_underlying hb, h]
open Classical in
set_option maxRecDepth 100000 in
set_option maxHeartbeats 4000000 in
theorem below_im (n : Int) (a : Option Addr) (m c : Nat) (l : List Nd) (x : Int) (w : World) (hl : l.length = m) (hs : Nds w a l) (hm : m ≤ 1000) :
    Calls Try.prog 12 #[.int .i64 n, .slice a m c, .int .i64 x] w fun e w' => ∃ a' m' c', e = .returned (.tuple #[.slice a' m' c', .int .i64 (belE n l x)]) ∧ Hid ((belV n l x).length = m' ∧ KS w' w.heap.size (.slice a' m' c') (belV n l x) ∧ Below w.heap.size w w') := by
  obtain ⟨C, hC⟩ : ∃ C, w.heap.size = C := ⟨_, rfl⟩
  obtain ⟨W1, hW1⟩ : ∃ W1, w.alloc (.cells #[.slice a m c] 22) = W1 := ⟨_, rfl⟩
  have hb1 : Below w.heap.size w W1 := by rw [← hW1]; exact (Below.refl _ w).alloc (Nat.le_refl _) _
  have c0 : W1.cell? ⟨C, 0, none⟩ = some (.slice a m c) := by rw [← hW1, ← hC]; exact cell_block (heap_alloc_new w _) rfl
  have HS1 : Hid (C < W1.heap.size ∧ w.heap.size = C) := Lib.hid ⟨by rw [← hW1, ← hC]; simp, hC⟩
  have HB1 := Lib.hid hb1
  have HY := may_im n a m c l W1 hl (hs.under hb1) (by omega)
  have HBAD : Hid (∀ W, belV n l x = [] → Below w.heap.size w W → (belV n l x).length = 0 ∧ KS W w.heap.size (.slice none 0 0) (belV n l x) ∧ Below w.heap.size w W) := Lib.hid (fun W e h => by rw [e]; exact ⟨rfl, ks_nil _ _, h⟩)
  by_cases hok : May n l
  case neg =>
    obtain ⟨e1, e2⟩ := bel_arg (n := n) (l := l) (node := x) (fun h => hok h.1)
    rw [decide_eq_false hok] at HY
    have HM := Lib.hid HY
    have HE := Lib.hid e2
    rw [e1]
    clear hl hs hm HY hok e1 e2 hb1
    go_enter Try.func12, Try.ntmps12
    go_wp2_with fail
    clear hW1 hC
    refine HM.out.mono ?_
    rintro e w' ⟨rfl, hb⟩
    have HB := Lib.hid (below_then HB1.out hb)
    clear hb
    go_wp2_with fail
    go_ret2
    exact ⟨none, 0, 0, rfl, Lib.hid (HBAD.out _ HE.out HB.out)⟩
  rw [decide_eq_true hok] at HY
  have HM := Lib.hid HY
  by_cases q0 : 1 ≤ x ∧ x ≤ n
  case neg =>
    obtain ⟨e1, e2⟩ := bel_arg (n := n) (l := l) (node := x) (fun h => q0 h.2)
    have HE := Lib.hid e2
    have HI := Lib.hid (fun W => in_no x 1 n W q0)
    rw [e1]
    clear hl hs hm HY hok e1 e2 hb1 q0
    go_enter Try.func12, Try.ntmps12
    go_wp2_with fail
    clear hW1 hC
    refine HM.out.mono ?_
    rintro e w' ⟨rfl, hb⟩
    have HB := Lib.hid (below_then HB1.out hb)
    clear hb
    go_wp2_with fail
    refine (HI.out _).mono ?_
    rintro e w' ⟨rfl, rfl⟩
    go_wp2_with fail
    go_ret2
    exact ⟨none, 0, 0, rfl, Lib.hid (HBAD.out _ HE.out HB.out)⟩
  have hbok : BelOk n l x := ⟨hok, q0⟩
  have HBOK := Lib.hid hbok
  have HI := Lib.hid (fun W => in_yes x 1 n W q0)
  rw [(bel_ok hbok).1]
  have hz := (zero_of_info info_seen).1
  obtain ⟨Z, hZ⟩ : ∃ Z, (Array.replicate 65 (.bool false) : Array Value) = Z := ⟨_, rfl⟩
  rw [hZ] at hz
  have HZ := Lib.hid hZ
  have hZs : Z.size = 65 := by rw [← hZ]; exact Array.size_replicate
  have HL := Lib.hid hl
  have HNS := Lib.hid hs
  have HMM := Lib.hid hm
  clear hl hs hm HY hok hb1 q0 hbok hZ
  go_enter Try.func12, Try.ntmps12
  go_wp2_with fail
  clear hW1 hC
  refine HM.out.mono ?_
  rintro e w2 ⟨rfl, hb⟩
  have HB2 := Lib.hid hb
  clear hb
  go_wp2_with fail
  refine (HI.out _).mono ?_
  rintro e w' ⟨rfl, rfl⟩
  obtain ⟨B, W3, hB, hW3, H3⟩ := box_row w2 Z 45
  obtain ⟨D, W4, hD, hW4, n0, n1, H4⟩ := box_fn W3 48
  have HSZ : Hid (w.heap.size = C ∧ C < W1.heap.size ∧ W1.heap.size ≤ w2.heap.size ∧ w2.heap.size = B ∧ W3.heap.size = B + 1 ∧ D = B + 1 ∧ W4.heap.size = D + 1) := Lib.hid ⟨HS1.out.2, HS1.out.1, HB2.out.size, hB, H3.out.2.1, by have := H3.out.2.1; omega, H4.out.2⟩
  have HW4 : Hid (Below w2.heap.size w2 W4) := Lib.hid (below_then H3.out.1 H4.out.1)
  have HW5 : Hid (Ev w (W4.setCell ⟨D, 0, none⟩ (lookV C B D)) C D B B (.slice a m c) (lookV C B D) ∧ RB (W4.setCell ⟨D, 0, none⟩ (lookV C B D)) B (fun _ => false)) := Lib.hid (by
    have hz := HSZ.out
    have hs5 : (W4.setCell ⟨D, 0, none⟩ (lookV C B D)).heap.size = W4.heap.size := by simp [World.setCell]
    have hb5 : Below w2.heap.size W4 (W4.setCell ⟨D, 0, none⟩ (lookV C B D)) := (set_below W4 D 0 (lookV C B D)).mono (by omega)
    have hb25 : Below w2.heap.size w2 (W4.setCell ⟨D, 0, none⟩ (lookV C B D)) := HW4.out.trans hb5
    refine ⟨⟨below_then (below_then HB1.out HB2.out) hb25, by omega, by omega, by omega, by omega, by omega, by omega, ⟨by omega, by omega⟩, ⟨by omega, by omega⟩, ?_, ?_⟩, fun i hi => ?_⟩
    · exact ((bcell (below_then HB2.out hb25)).1 C 0 HS1.out.1).trans c0
    · exact World.cell?_setCell_same (h := n0) ..
    · obtain ⟨k0, k1⟩ := H3.out.2.2 i (.bool false) (by rw [← HZ.out, Array.getElem?_replicate, if_pos hi])
      rw [World.frozen?_setCell, World.cell?_setCell_other (h := addr_ne (.inl (by omega)))]
      exact ⟨((bcell H4.out.1).1 B i (by omega)).trans k0, ((bcell H4.out.1).2 B i (by omega)).trans k1⟩)
  have d0 := HW5.out.1.atD
  have HC := Lib.hid (look_im w n.toNat a m c l HL.out HNS.out (by have := HMM.out; omega) (by
    have h := HBOK.out.1
    rw [Int.toNat_of_nonneg h.1.1]
    exact h.2.2) (by have := HBOK.out.1.1; omega) C B D _ x (fun _ => false) _ rfl HW5.out.1 HW5.out.2)
  have hsf := run_fn Try.prog W4 D (lookV C B D) rfl n0 n1
  go_wp2_with fail
  clear hW3 hW4 hB hD n0 n1 hz hsf
  refine HC.out.mono ?_
  rintro e w6 ⟨rfl, H⟩
  obtain ⟨b6, H6⟩ : ∃ b6, Hid (RB w6 B b6 ∧ Below w.heap.size w w6 ∧ selB b6 65 = belV n l x) := by
    obtain ⟨b', h1, h2, h3, h4⟩ := H.out
    refine ⟨b', Lib.hid ⟨h1, (HW5.out.1.gr h2).below, sel_selB HBOK.out (saw_all h3 h4 fun t ht => ?_)⟩⟩
    have := (HBOK.out.1.2.2 t ht).2.1
    omega
  clear H d0
  obtain ⟨cs, hv1, hv2, hv3, HV⟩ := load_row w6 B b6 H6.out.1
  go_wp2_with (refine wpList_load_mid rfl 45 _ rfl B 0 rfl cs _ hv1 Try.underlying45 rfl hv2 ?_)
  clear hv1 hv2
  go_loopw [10, 28] (fun v t wr => ∃ (a2 : Option Addr) (j2 c2 i : Nat) (o : List Int), v = .slice a2 j2 c2 ∧ t = .int .i64 (i : Int) ∧ i ≤ 65 ∧ Hid (o.length = j2 ∧ KS wr w.heap.size (.slice a2 j2 c2) o) ∧ Hid (Below w.heap.size w wr) ∧ Hid (o = selB b6 i)) (fun _ t _ => 65 - (RowKit.intOf t).toNat)
  case atStart => exact ⟨none, 0, 0, 0, [], rfl, rfl, by omega, Lib.hid ⟨rfl, ks_nil _ _⟩, Lib.hid H6.out.2.1, Lib.hid rfl⟩
  case round =>
    obtain ⟨a2, j2, c2, i, o, rfl, rfl, hi, HO2, HB6, HS⟩ := hrel
    have hi0 : (0 : Int) ≤ (i : Int) := by omega
    by_cases hil : i < 65
    · have hil2 : (i : Int) < 65 := by omega
      have hci := HV.out i hil
      cases hb : b6 i with
      | true =>
        rw [hb] at hci
        have hix := fun W => run_at W cs i true hil hci
        have HS2 : Hid (o ++ [(i : Int)] = selB b6 (i + 1)) := Lib.hid (by rw [selB_yes hb, HS.out])
        obtain ⟨a3, c3, W3, HRUN, h2, h3, h4⟩ := app1 (i : Int) HO2.out.1 HO2.out.2 (by have := selB_len b6 i; rw [← HS.out, HO2.out.1] at this; omega) HB6.out.size
        have HO3 := Lib.hid (And.intro h2 h3)
        have HB7 := Lib.hid (HB6.out.trans h4)
        clear h2 h3 h4 hb
        go_wp2_with (at_builtin; refine walk_run (v' := .slice a3 (j2 + 1) c3) (w' := W3) rfl _ _ _ _ rfl _ _ rfl rfl HRUN.out ?_)
        go_roundw
        case rel => exact ⟨a3, j2 + 1, c3, i + 1, o ++ [(i : Int)], rfl, by go_num, by omega, HO3, HB7, HS2⟩
        case measure => simp [RowKit.intOf]; omega
      | false =>
        rw [hb] at hci
        have hix := fun W => run_at W cs i false hil hci
        have HS2 : Hid (o = selB b6 (i + 1)) := Lib.hid (by rw [selB_no hb]; exact HS.out)
        clear hb
        go_wp2_with fail
        go_roundw
        case rel => exact ⟨a2, j2, c2, i + 1, o, rfl, by go_num, by omega, HO2, HB6, HS2⟩
        case measure => simp [RowKit.intOf]; omega
    · obtain rfl : i = 65 := by omega
      have HE : Hid ((belV n l x).length = j2 ∧ KS wr w.heap.size (.slice a2 j2 c2) (belV n l x) ∧ Below w.heap.size w wr) := Lib.hid (by
        rw [← H6.out.2.2, ← HS.out]
        exact ⟨HO2.out.1, HO2.out.2, HB6.out⟩)
      go_wp2_with fail
      go_ret2
      exact ⟨a2, j2, c2, rfl, HE⟩
end Go.Proofs.Ytghjcefigdkhnaa.Graph.Im
