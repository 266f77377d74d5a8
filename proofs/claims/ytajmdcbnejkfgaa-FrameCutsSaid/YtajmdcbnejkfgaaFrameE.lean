/- The walk over the record that a text begins with. -/
import Derived.Test.YtajmdcbnejkfgaaFrameD
namespace Go.Proofs.Ytajmdcbnejkfgaa.Frame
open Go.RowKit Go.Lib

def recS (o : Option ByteArray) : ByteArray := o.getD ⟨#[]⟩
abbrev firstV (s : ByteArray) : Value := .tuple #[.string (recS (first s)), .bool (first s).isSome]
theorem firstV_none {s : ByteArray} (h : first s = none) : firstV s = .tuple #[.string ⟨#[]⟩, .bool false] := by unfold firstV; rw [h]; rfl
theorem firstV_some {s r : ByteArray} (h : first s = some r) : firstV s = .tuple #[.string r, .bool true] := by unfold firstV; rw [h]; rfl
theorem ret_val {a b : Value} (h : a = b) : Ending.returned a = .returned b := by rw [h]
theorem copy_first (s : ByteArray) (w : World) (n : Nat) (hn : min s.size 8 = n) :
    ∃ W1, (Builtin.copy_ #[37, 9] 3 #[.slice (some ⟨w.heap.size, 0, none⟩) 8 8, .string s]).run Try.prog (w.alloc (.cells #[.int .u8 0, .int .u8 0, .int .u8 0, .int .u8 0, .int .u8 0, .int .u8 0, .int .u8 0, .int .u8 0] 40)) = .ok (.int .i64 (n : Int)) W1
      ∧ W1.heap[w.heap.size]? = some (.cells (cellsOf (s.data.toList.take 8 ++ [0, 0, 0, 0, 0, 0, 0, 0].drop n)) 40 (0, 0)) ∧ Below w.heap.size w W1 := by
  subst hn
  have hb0 : (w.alloc (.cells (cellsOf [0, 0, 0, 0, 0, 0, 0, 0]) 40)).heap[w.heap.size]? = some (.cells (cellsOf [0, 0, 0, 0, 0, 0, 0, 0]) 40 (0, 0)) := heap_alloc_last w _
  refine ⟨_, copy_head _ _ _ s _ rfl hb0, setRow_heap _ _ _ _ _ _ hb0, ?_⟩
  have hbel := (Below.refl w.heap.size w).alloc (Nat.le_refl _) (.cells (cellsOf [0, 0, 0, 0, 0, 0, 0, 0]) 40)
  exact ⟨hbel.os, hbel.tape, hbel.output, by rw [setRow_size]; exact hbel.size, fun k hk => (setRow_other _ _ _ _ (by omega)).trans (hbel.block k hk)⟩
set_option maxRecDepth 100000 in
set_option maxHeartbeats 1000000 in
theorem first_any (s : ByteArray) (w : World) (hs : s.size ≤ maxLen) :
    Calls Try.prog 23 #[.string s] w fun e w' => e = .returned (firstV s) ∧ Below w.heap.size w w' := by
  unfold maxLen at hs
  by_cases h8 : s.size < 8
  · obtain ⟨W1, hcp, _, hbel⟩ := copy_first s w s.size (by omega)
    have HN := Lib.hid (firstV_none (first_small s h8))
    have HBel := Lib.hid hbel
    clear hbel
    go_enter Try.func23, Try.ntmps23
    go_wp2_with fail
    go_ret2
    exact ⟨ret_val HN.out.symm, HBel.out⟩
  · obtain ⟨W1, hcp, hb1, hbel⟩ := copy_first s w 8 (by omega)
    obtain ⟨x0, x1, x2, x3, x4, x5, x6, x7, hx⟩ := eight (s.data.toList.take 8) (by rw [List.length_take, size_list]; omega)
    have hb2 : W1.heap[w.heap.size]? = some (.cells (cellsOf [x0, x1, x2, x3, x4, x5, x6, x7]) 40 (0, 0)) := by
      rw [hx] at hb1
      exact hb1
    obtain ⟨n, hn⟩ : ∃ n, num (s.data.toList.take 4) = n := ⟨_, rfl⟩
    have hn4 : num ([x0, x1, x2, x3, x4, x5, x6, x7].take 4) = n := by rw [← hn, ← hx, List.take_take]; rfl
    have hnlt : n < 4294967296 := by rw [← hn]; exact num_lt 4 _ (by rw [List.length_take, size_list]; omega)
    obtain ⟨c0, c1, c2, c3, c4, c5, c6, c7⟩ := cells8 hb2
    have HL : Hid (∀ W, Calls Try.prog 29 #[.agg (cellsOf [x0, x1, x2, x3, x4, x5, x6, x7])] W fun e w' => e = .returned (.int .i64 (n : Int)) ∧ Below W.heap.size W w') :=
      Lib.hid (fun W => by have h := length_any [x0, x1, x2, x3, x4, x5, x6, x7] W rfl; rw [hn4] at h; exact h)
    have HBel := Lib.hid hbel; have HX := Lib.hid hx; have HB := Lib.hid hb2; have HN := Lib.hid hn
    clear hb1 hb2 hbel hx hn hn4
    have hlt : w.heap.size < W1.heap.size := by
      have := (Array.getElem?_eq_some_iff.1 HB.out).1
      exact this
    go_enter Try.func23, Try.ntmps23
    go_wp2_with fail
    refine (HL.out _).mono ?_
    rintro e W2 ⟨rfl, hb2⟩
    have hbk2 : W2.heap[w.heap.size]? = some (.cells (cellsOf [x0, x1, x2, x3, x4, x5, x6, x7]) 40 (0, 0)) := (hb2.block _ hlt).trans HB.out
    have hbel2 := below_then HBel.out hb2
    have hlt2 : w.heap.size < W2.heap.size := by have := hb2.size; omega
    have HB2 := Lib.hid hbk2; have HBel2 := Lib.hid hbel2
    clear c0 c1 c2 c3 c4 c5 c6 c7 hb2 hbk2 hbel2 HB HBel hlt
    go_wp2_with fail
    refine (size_any (n : Int) _ (by omega)).mono ?_
    rintro e w' ⟨rfl, rfl⟩
    by_cases hf : fits n
    · obtain ⟨hf1, hf2⟩ := hf
      rw [sz_in (by omega) (by omega)]
      by_cases hlong : s.size < 8 + n
      · have HR := Lib.hid (firstV_none (first_long s n HN.out hlong))
        have hz : (8 + (n : Int) == 0) = false := by simp; omega
        go_wp2_with fail
        go_ret2
        exact ⟨ret_val HR.out.symm, HBel2.out⟩
      · have hz : (8 + (n : Int) == 0) = false := by simp; omega
        obtain ⟨q, hq⟩ : ∃ q, 8 + n = q := ⟨_, rfl⟩
        have hq2 : 8 + (n : Int) = (q : Int) := by omega
        rw [hq2] at hz ⊢
        have hqs : q ≤ s.size := by omega
        have hq8 : 8 ≤ q := by omega
        obtain ⟨c0, c1, c2, c3, c4, c5, c6, c7⟩ := cells8 HB2.out
        obtain ⟨r, hr⟩ : ∃ r, s.extract 8 q = r := ⟨_, rfl⟩
        have hrn : r.size = n := by rw [← hr, ByteArray.size_extract]; omega
        obtain ⟨y0, y1, y2, y3, y4, y5, y6, y7, hy⟩ := eight (headL r) rfl
        have HO : Hid (∀ W, Calls Try.prog 18 #[.string r] W fun e w' => e = .returned (.agg #[.int .u8 (y0.toNat : Int), .int .u8 (y1.toNat : Int), .int .u8 (y2.toNat : Int), .int .u8 (y3.toNat : Int), .int .u8 (y4.toNat : Int), .int .u8 (y5.toNat : Int), .int .u8 (y6.toNat : Int), .int .u8 (y7.toNat : Int)]) ∧ Below W.heap.size W w') :=
          Lib.hid (fun W => by have h := headOf_any r W (by omega); rw [hy] at h; exact h)
        have hgd : Try.prog.eqGuardType Try.prog.depth 40 = false := by kernel_rfl
        by_cases he : [x0, x1, x2, x3, x4, x5, x6, x7] = [y0, y1, y2, y3, y4, y5, y6, y7]
        · have heq : ∀ W, (Op.equalIn 10000 40 (.agg #[.int .u8 (x0.toNat : Int), .int .u8 (x1.toNat : Int), .int .u8 (x2.toNat : Int), .int .u8 (x3.toNat : Int), .int .u8 (x4.toNat : Int), .int .u8 (x5.toNat : Int), .int .u8 (x6.toNat : Int), .int .u8 (x7.toNat : Int)]) (.agg #[.int .u8 (y0.toNat : Int), .int .u8 (y1.toNat : Int), .int .u8 (y2.toNat : Int), .int .u8 (y3.toNat : Int), .int .u8 (y4.toNat : Int), .int .u8 (y5.toNat : Int), .int .u8 (y6.toNat : Int), .int .u8 (y7.toNat : Int)])).run Try.prog W = .ok true W := fun W => by
            have h := run_heads [x0, x1, x2, x3, x4, x5, x6, x7] [y0, y1, y2, y3, y4, y5, y6, y7] rfl rfl W
            rw [decide_eq_true he] at h
            exact h
          have hfs : first s = some r := by
            have h := first_mk s n (by omega) HN.out ⟨hf1, hf2⟩ (by omega) (by rw [hq, hr, hy, HX.out, he])
            rw [hq, hr] at h
            exact h
          have HR := Lib.hid (firstV_some hfs)
          have HQ := Lib.hid hq; have HY := Lib.hid hy; have HE := Lib.hid he
          clear hq hy he hfs hrn
          go_wp2_with fail
          go_region_with (first | (go_at_call 18; refine (HO.out _).mono ?_; rintro e W3 ⟨rfl, hb3⟩; have hbk3 : W3.heap[w.heap.size]? = some (.cells (cellsOf [x0, x1, x2, x3, x4, x5, x6, x7]) 40 (0, 0)) := (hb3.block _ hlt2).trans HB2.out; obtain ⟨e0, e1, e2, e3, e4, e5, e6, e7⟩ := cells8 hbk3; have HBel3 := Lib.hid (below_then HBel2.out.drew hb3); clear hb3 hbk3))
          all_goals (go_wp2_with fail; go_ret2; exact ⟨ret_val HR.out.symm, HBel3.out⟩)
        · have heq : ∀ W, (Op.equalIn 10000 40 (.agg #[.int .u8 (x0.toNat : Int), .int .u8 (x1.toNat : Int), .int .u8 (x2.toNat : Int), .int .u8 (x3.toNat : Int), .int .u8 (x4.toNat : Int), .int .u8 (x5.toNat : Int), .int .u8 (x6.toNat : Int), .int .u8 (x7.toNat : Int)]) (.agg #[.int .u8 (y0.toNat : Int), .int .u8 (y1.toNat : Int), .int .u8 (y2.toNat : Int), .int .u8 (y3.toNat : Int), .int .u8 (y4.toNat : Int), .int .u8 (y5.toNat : Int), .int .u8 (y6.toNat : Int), .int .u8 (y7.toNat : Int)])).run Try.prog W = .ok false W := fun W => by
            have h := run_heads [x0, x1, x2, x3, x4, x5, x6, x7] [y0, y1, y2, y3, y4, y5, y6, y7] rfl rfl W
            rw [decide_eq_false he] at h
            exact h
          have HR := Lib.hid (firstV_none (first_other s n HN.out (by rw [hq, hr, hy, HX.out]; exact fun e => he e.symm)))
          have HQ := Lib.hid hq; have HY := Lib.hid hy; have HE := Lib.hid he
          clear hq hy he hrn
          go_wp2_with fail
          go_region_with (first | (go_at_call 18; refine (HO.out _).mono ?_; rintro e W3 ⟨rfl, hb3⟩; have hbk3 : W3.heap[w.heap.size]? = some (.cells (cellsOf [x0, x1, x2, x3, x4, x5, x6, x7]) 40 (0, 0)) := (hb3.block _ hlt2).trans HB2.out; obtain ⟨e0, e1, e2, e3, e4, e5, e6, e7⟩ := cells8 hbk3; have HBel3 := Lib.hid (below_then HBel2.out.drew hb3); clear hb3 hbk3))
          all_goals (go_wp2_with fail; go_ret2; exact ⟨ret_val HR.out.symm, HBel3.out⟩)
    · have hn0 : ((n : Int) < 1 ∨ 4096 < (n : Int)) := by unfold fits at hf; omega
      rw [sz_out hn0]
      have HR := Lib.hid (firstV_none (first_unfit s n HN.out hf))
      go_wp2_with fail
      go_ret2
      exact ⟨ret_val HR.out.symm, HBel2.out⟩
end Go.Proofs.Ytajmdcbnejkfgaa.Frame
