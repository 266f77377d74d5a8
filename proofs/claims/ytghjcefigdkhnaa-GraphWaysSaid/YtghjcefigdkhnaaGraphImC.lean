/- The program's Order. -/
import Derived.Test.YtghjcefigdkhnaaGraphImB
import Derived.Deep.WholeRow
namespace Go.Proofs.Ytghjcefigdkhnaa.Graph.Im
open Go.RowKit Go.Lib IRows

theorem info_arr : (Try.prog.info? 41).map (fun i => (i.zero, i.size)) = some (some (.agg (Array.replicate 65 (.int .i64 0))), 65) := by kernel_rfl
def lacks0 : Array Value := (Array.replicate 65 (.int .i64 0)).setIfInBounds 0 (.int .i64 (-1))
theorem lacks_at (i : Nat) (h : i < 65) : lacks0[i]? = some (.int .i64 (if i = 0 then -1 else 0)) := by
  unfold lacks0
  rw [Array.getElem?_setIfInBounds]
  by_cases e : 0 = i
  · subst e
    rfl
  · rw [if_neg e, if_neg (by omega), Array.getElem?_replicate, if_pos h]
theorem od_new {w w1 : World} (l : List Nd) (T : TypeId) (hb : Below w.heap.size w w1) : Od w (w1.alloc (.cells lacks0 T)) w1.heap.size (fst l 0) := by
  have h := heap_alloc_new w1 (.cells lacks0 T)
  refine ⟨below_then hb ((Below.refl _ w1).alloc (Nat.le_refl _) _), hb.size, by simp, fun i hi => ⟨?_, free_block i h⟩⟩
  rw [fst_zero]
  exact cell_block h (lacks_at i hi)
/-- A part of the row, from its beginning on. -/
theorem run_part (W : World) (A M : Nat) (h : M ≤ 65) : (Instr.sliceAt 41 (.pointer (some ⟨A, 0, none⟩)) none (some (.int .i64 (M : Int))) none).run Try.prog W = .ok (.slice (some ⟨A, 0, none⟩) M 65) W := by
  have e1 : Program.elem Try.prog 41 = 3 := by kernel_rfl
  have e2 : Program.arrayLen Try.prog 41 = 65 := by kernel_rfl
  have hu : Try.prog.underlying 41 = some (.array (Program.arrayLen Try.prog 41) (Program.elem Try.prog 41)) := by
    rw [e1, e2]
    exact Try.underlying41
  obtain ⟨i0, hi, hz0, hz1, hz2⟩ := info_parts info_int
  rw [run_sliceAt_array_h W 41 ⟨A, 0, none⟩ hu .i64 (M : Int) (by omega) (by rw [e2]; omega), e1, e2]
  simp [sizeOf, typeInfo, hi, hz1, slicedAt, Result.andThen, Addr.add]
open Classical in
set_option maxRecDepth 100000 in
set_option maxHeartbeats 8000000 in
theorem order_im (n : Int) (a : Option Addr) (m c : Nat) (l : List Nd) (w : World) (hl : l.length = m) (hs : Nds w a l) (hm : m ≤ 1048576) :
    Calls Try.prog 8 #[.int .i64 n, .slice a m c] w fun e w' => ∃ a' m' c', e = .returned (.tuple #[.slice a' m' c', .int .i64 (ordE n l)]) ∧ Hid ((ordV n l).length = m' ∧ KS w' w.heap.size (.slice a' m' c') (ordV n l) ∧ Below w.heap.size w w') := by
  have HY := may_im n a m c l w hl hs hm
  by_cases hok : May n l
  case neg =>
    obtain ⟨e1, e2⟩ := ord_arg hok
    rw [decide_eq_false hok] at HY
    have HM := Lib.hid HY
    have HE : Hid (∀ W, Below w.heap.size w W → (ordV n l).length = 0 ∧ KS W w.heap.size (.slice none 0 0) (ordV n l) ∧ Below w.heap.size w W) := Lib.hid (fun W hW => by rw [e2]; exact ⟨rfl, ks_nil _ _, hW⟩)
    rw [e1]
    clear hl hs hm HY hok e1 e2
    go_enter Try.func8, Try.ntmps8
    go_wp2_with fail
    refine HM.out.mono ?_
    rintro e w' ⟨rfl, hb⟩
    have HB := Lib.hid hb
    clear hb
    go_wp2_with fail
    go_ret2
    exact ⟨none, 0, 0, rfl, Lib.hid (HE.out _ HB.out)⟩
  rw [decide_eq_true hok] at HY
  have HM := Lib.hid HY
  have HOK := Lib.hid hok
  obtain ⟨N, rfl⟩ := Int.eq_ofNat_of_zero_le hok.1.1
  have hN : N ≤ 64 := by have := hok.1.2; omega
  have hN2 : (N : Int) ≤ 64 := by omega
  have HL := Lib.hid hl
  have HT := nds_at hs
  have hm1 : (m : Int) ≤ 256 := by have := hok.2.1; omega
  have HNT : Hid (((N : Int)).toNat = N) := Lib.hid (by omega)
  have hz := (zero_of_info info_arr).1
  obtain ⟨Z, hZ⟩ : ∃ Z, (Array.replicate 65 (.int .i64 0) : Array Value) = Z := ⟨_, rfl⟩
  rw [hZ] at hz
  have HZ := Lib.hid hZ
  have hZs : Z.size = 65 := by rw [← hZ]; exact Array.size_replicate
  have hZn : ¬ Z = #[] := fun e => by rw [e] at hZs; cases hZs
  obtain ⟨V, hV⟩ : ∃ V, Z.setIfInBounds 0 (.int .i64 (-1)) = V := ⟨_, rfl⟩
  have hVs : V.size = 65 := by rw [← hV]; simpa using hZs
  have HV : Hid (V = lacks0) := Lib.hid (by rw [← hV, ← hZ]; rfl)
  have hst : ∀ W : World, (storeCells ⟨W.heap.size, 0, none⟩ V.toList).run Try.prog (W.alloc (.cells Z 41)) = .ok () (W.alloc (.cells V 41)) := fun W => by
    have := run_storeCells_new (P := Try.prog) W 41 Z V (by rw [(zero_of_info info_arr).2, ← hV]; simp [hZs]) (by rw [← hV]; simp) (by rw [HV.out]; kernel_rfl)
    exact this
  clear hZ
  clear hl hs hm HY hok
  go_enter Try.func8, Try.ntmps8
  go_wp2_with fail
  refine HM.out.mono ?_
  rintro e w1 ⟨rfl, hb⟩
  have HB := Lib.hid hb
  clear hb
  go_wp2_with fail
  generalize hW : World.alloc w1 _ = W0
  have HO0 : Hid (Od w W0 w1.heap.size (fst l 0)) := Lib.hid (by
    rw [← hW, HV.out]
    exact od_new l _ HB.out)
  obtain ⟨A, hA⟩ : ∃ A, w1.heap.size = A := ⟨_, rfl⟩
  rw [hA] at HO0 ⊢
  clear hW hA hz hst hZs hZn HV hV hVs
  go_loopw [20] (fun s wr => ∃ i : Nat, s = .int .i64 i ∧ i ≤ m ∧ Hid (Od w wr A (fst l i))) (fun s _ => m - (RowKit.intOf s).toNat)
  case atStart => exact ⟨0, rfl, by omega, HO0⟩
  case round =>
    clear HO0
    obtain ⟨i, rfl, hi, HD⟩ := hrel
    have hi0 : (0 : Int) ≤ (i : Int) := by omega
    by_cases hlt : i < m
    · have hlt2 : (i : Int) < (m : Int) := by omega
      obtain ⟨g, off, t, rfl, ht, q0, q1⟩ := HT.out wr i HD.out.below (by rw [HL.out]; exact hlt)
      obtain ⟨U, Y, hU, hY, u0, u1, HU⟩ := box_nd wr t
      have HDY := Lib.hid (HD.out.under HU.out.1)
      have hok := HOK.out.2.2 t (List.mem_of_getElem? ht.out)
      obtain ⟨p, hp⟩ := Int.eq_ofNat_of_zero_le (show 0 ≤ t.a by have := hok.1.1; omega)
      have HP : Hid (t.a = (p : Int)) := Lib.hid hp
      have HP1 : Hid (1 ≤ p) := Lib.hid (by have := hok.1.1; omega)
      have hp0 : (0 : Int) ≤ (p : Int) := by omega
      have hp65 : (p : Int) < 65 := by have := hok.1.2; omega
      obtain ⟨x0, x1⟩ := HDY.out.row p (by omega)
      obtain ⟨b0, b1⟩ := fst_b l i p
      rw [HL.out] at b1
      rw [hp] at q0 u0 hY
      obtain ⟨v, hv⟩ : ∃ v, fst l i p = v := ⟨_, rfl⟩
      rw [hv] at x0 b0 b1
      have wv : IntKind.i64.wrap (v + 1) = v + 1 := IntWalk.i64_in _ (by omega)
      have HST : Hid (Od w (Y.setCell ⟨A, p, none⟩ (.int .i64 (v + 1))) A (fst l (i + 1))) := Lib.hid (by
        have := (HDY.out.set p (v + 1)).congr (g := fst l (i + 1)) (fun k _ => by rw [← hv]; exact fst_step ht.out HP.out HP1.out k)
        exact this)
      clear hok hp hv b0 b1
      go_wp2_with fail
      clear hY hU
      go_roundw
      case rel => exact ⟨i + 1, by go_num, by omega, HST⟩
      case measure => simp [RowKit.intOf]; omega
    · obtain rfl : i = m := by omega
      have HDL : Hid (Od w wr A (lk l [])) := Lib.hid (HD.out.congr fun k _ => by rw [← HL.out, fst_end])
      clear HD
      go_wp2_with fail
      go_loopw [9, 32] (fun s t wr' => ∃ (a1 : Option Addr) (j c1 : Nat) (out : List Int), s = .slice a1 j c1 ∧ t = .int .i64 (j : Int) ∧ j ≤ N ∧ Hid (out.length = j ∧ KS wr' (A + 1) (.slice a1 j c1) out) ∧ Hid (Od w wr' A (lk l out) ∧ Stands N l out) ∧ Hid (ordF N l (N - j) out = ordF N l N [])) (fun _ t _ => N - (RowKit.intOf t).toNat)
      case atStart => exact ⟨none, 0, 0, [], rfl, rfl, by omega, Lib.hid ⟨rfl, ks_nil _ _⟩, Lib.hid ⟨HDL.out, stands_nil _ _⟩, Lib.hid rfl⟩
      case round =>
        clear HDL
        obtain ⟨a1, j, c1, out, rfl, rfl, hj, HO, HS, HF⟩ := hrel
        have hj0 : (0 : Int) ≤ (j : Int) := by omega
        by_cases hjl : j < N
        · have hjl2 : (j : Int) < (N : Int) := by omega
          obtain ⟨M, hM⟩ : ∃ M, N + 1 = M := ⟨_, rfl⟩
          have hM2 : (N : Int) + 1 = (M : Int) := by omega
          have hM65 : M ≤ 65 := by omega
          have wM : IntKind.i64.wrap (M : Int) = (M : Int) := IntWalk.i64_in _ (by omega)
          have HIX := Lib.hid (index_im A M 65 (lk l out) 0 wr (fun k hk => (HS.out.1.row k (by omega)).1) (by omega))
          have HMN := Lib.hid hM
          have hsl := fun W => run_part W A M hM65
          clear hM
          go_wp2_with fail
          refine HIX.out.mono ?_
          rintro e w' ⟨r, rfl, HFI, rfl⟩
          have HNX := Lib.hid (first_nx (l := l) (out := out) (N := N) (r := r) (by have := HFI.out; rw [← HMN.out] at this; exact this))
          obtain ⟨r', hr'⟩ : ∃ r', N - j = r' + 1 := ⟨N - j - 1, by omega⟩
          rcases HNX.out with ⟨hr, hnx⟩ | ⟨p, hr, hp1, hpN, hnx, hrd⟩
          · subst hr
            have HE := Lib.hid (ord_none HOK.out (by rw [HNT.out, ← HF.out, hr']; exact ordF_none (by rw [HNT.out]; exact hnx)))
            have HE2 : Hid ((ordV N l).length = 0 ∧ KS wr w.heap.size (.slice none 0 0) (ordV N l) ∧ Below w.heap.size w wr) := Lib.hid (by rw [HE.out.2]; exact ⟨rfl, ks_nil _ _, HS.out.1.below⟩)
            clear hnx hr' hsl
            go_wp2_with fail
            go_ret2
            exact ⟨none, 0, 0, by rw [HE.out.1]; rfl, HE2⟩
          · subst hr
            have HX0 : Hid (((p : Nat) : Int) ∉ out) := Lib.hid hrd.1
            have HST := Lib.hid (HS.out.2.more hrd (by omega) (by omega))
            have HF2 : Hid (ordF N l (N - (j + 1)) (out ++ [(p : Int)]) = ordF N l N []) := Lib.hid (by
              have h := HF.out
              rw [hr', ordF_more (by rw [HNT.out, hnx]; omega), HNT.out, hnx] at h
              rw [show N - (j + 1) = r' by omega]
              exact h)
            obtain ⟨a3, c3, W3, HRUN, h2, h3, h4⟩ := app1 (p : Int) HO.out.1 HO.out.2 (by omega) (by have := HS.out.1.old; omega)
            have HO3 := Lib.hid (And.intro h2 h3)
            have HS3 := Lib.hid (HS.out.1.app h4)
            obtain ⟨x0, x1⟩ := HS3.out.row p (by omega)
            have hp0 : (0 : Int) ≤ (p : Int) := by omega
            have hp65 : (p : Int) < 65 := by omega
            have dp : decide ((p : Int) < 0) = false := decide_eq_false (by omega)
            have HM0 : Hid (Od w (W3.setCell ⟨A, p, none⟩ (.int .i64 (-1))) A (mid l out (out ++ [(p : Int)]) 0) ∧ KS (W3.setCell ⟨A, p, none⟩ (.int .i64 (-1))) (A + 1) (.slice a3 (j + 1) c3) (out ++ [(p : Int)])) := Lib.hid ⟨(HS3.out.set p (-1)).congr (fun k _ => mid_start k), ks_set HO3.out.2⟩
            clear hnx hr' hsl h2 h3 h4 hrd hp1
            go_wp2_with (at_builtin; refine walk_run (v' := .slice a3 (j + 1) c3) (w' := W3) rfl _ _ _ _ rfl _ _ rfl rfl HRUN.out ?_)
            clear x0 x1
            go_loopw [48] (fun s wr'' => ∃ k : Nat, s = .int .i64 k ∧ k ≤ i ∧ Hid (Od w wr'' A (mid l out (out ++ [(p : Int)]) k) ∧ KS wr'' (A + 1) (.slice a3 (j + 1) c3) (out ++ [(p : Int)]))) (fun s _ => i - (RowKit.intOf s).toNat)
            case atStart => exact ⟨0, rfl, by omega, HM0⟩
            case round =>
              clear HM0
              obtain ⟨k, rfl, hk, HK⟩ := hrel
              have hk0 : (0 : Int) ≤ (k : Int) := by omega
              by_cases hkl : k < i
              · have hkl2 : (k : Int) < (i : Int) := by omega
                obtain ⟨g, off, t, rfl, ht, q0, q1⟩ := HT.out _ k HK.out.1.below (by rw [HL.out]; exact hkl)
                obtain ⟨U, Y, hU, hY, u0, u1, HU⟩ := box_nd _ t
                have HKY := Lib.hid (And.intro (HK.out.1.under HU.out.1) (HK.out.2.under HU.out.1))
                have hok := HOK.out.2.2 t (List.mem_of_getElem? ht.out)
                obtain ⟨q, hq⟩ := Int.eq_ofNat_of_zero_le (show 0 ≤ t.a by have := hok.1.1; omega)
                have HQ : Hid (t.a = (q : Int) ∧ 1 ≤ q) := Lib.hid ⟨hq, by have := hok.1.1; omega⟩
                have hq0 : (0 : Int) ≤ (q : Int) := by omega
                have hq65 : (q : Int) < 65 := by have := hok.1.2; omega
                obtain ⟨x0, x1⟩ := HKY.out.1.row q (by omega)
                rw [hq] at q0 u0 hY
                by_cases cb : t.b = (p : Int)
                · have cb2 : (t.b == (p : Int)) = true := by simpa using cb
                  obtain ⟨b0, b1⟩ := mid_b l out (out ++ [(p : Int)]) k q
                  rw [HL.out] at b1
                  have HSTEP : Hid (∀ z, up (mid l out (out ++ [(p : Int)]) k) q (mid l out (out ++ [(p : Int)]) k q - 1) z = mid l out (out ++ [(p : Int)]) (k + 1) z) := Lib.hid (fun z => mid_yes ht.out HQ.out.1 HQ.out.2 cb HX0.out (fun h => HX0.out (by
                    have := stands_shut HST.out (List.mem_of_getElem? ht.out) (by rw [HQ.out.1]; exact h)
                    rw [cb] at this
                    exact this)) z)
                  obtain ⟨v, hv⟩ : ∃ v, mid l out (out ++ [(p : Int)]) k q = v := ⟨_, rfl⟩
                  rw [hv] at x0 b0 b1
                  have wv : IntKind.i64.wrap (v - 1) = v - 1 := IntWalk.i64_in _ (by omega)
                  have HK2 : Hid (Od w (Y.setCell ⟨A, q, none⟩ (.int .i64 (v - 1))) A (mid l out (out ++ [(p : Int)]) (k + 1)) ∧ KS (Y.setCell ⟨A, q, none⟩ (.int .i64 (v - 1))) (A + 1) (.slice a3 (j + 1) c3) (out ++ [(p : Int)])) := Lib.hid ⟨(HKY.out.1.set q (v - 1)).congr (fun z _ => by rw [← hv]; exact HSTEP.out z), ks_set HKY.out.2⟩
                  clear hok hq hv b0 b1 cb
                  go_wp2_with fail
                  clear hY hU
                  go_roundw
                  case rel => exact ⟨k + 1, by go_num, by omega, HK2⟩
                  case measure => simp [RowKit.intOf]; omega
                · have cb2 : (t.b == (p : Int)) = false := by simpa using cb
                  have HK2 : Hid (Od w Y A (mid l out (out ++ [(p : Int)]) (k + 1)) ∧ KS Y (A + 1) (.slice a3 (j + 1) c3) (out ++ [(p : Int)])) := Lib.hid ⟨HKY.out.1.congr (fun z _ => mid_no ht.out cb z), HKY.out.2⟩
                  clear hok hq cb x0 x1
                  go_wp2_with fail
                  clear hY hU
                  go_roundw
                  case rel => exact ⟨k + 1, by go_num, by omega, HK2⟩
                  case measure => simp [RowKit.intOf]; omega
              · obtain rfl : k = i := by omega
                have HK3 : Hid (∀ W, Od w W A (mid l out (out ++ [(p : Int)]) k) → Od w W A (lk l (out ++ [(p : Int)]))) := Lib.hid (fun W h => h.congr fun z _ => by rw [← HL.out, mid_end])
                have HS4 := Lib.hid (And.intro (HK3.out _ HK.out.1) HST.out)
                have HO4 := Lib.hid (And.intro HO3.out.1 HK.out.2)
                go_wp2_with fail
                go_roundw
                case rel => exact ⟨a3, j + 1, c3, out ++ [(p : Int)], rfl, by go_num, by omega, HO4, HS4, HF2⟩
                case measure => simp [RowKit.intOf]; omega
        · obtain rfl : j = N := by omega
          have HE := Lib.hid (ord_some HOK.out (k := out) (by
            rw [HNT.out, ← HF.out, Nat.sub_self]
            rfl))
          have HE2 : Hid ((ordV j l).length = j ∧ KS wr w.heap.size (.slice a1 j c1) (ordV j l) ∧ Below w.heap.size w wr) := Lib.hid (by rw [HE.out.2]; exact ⟨HO.out.1, ks_low HO.out.2 (by have := HS.out.1.new; omega), HS.out.1.below⟩)
          go_wp2_with fail
          go_ret2
          exact ⟨a1, j, c1, by rw [HE.out.1]; rfl, HE2⟩
end Go.Proofs.Ytghjcefigdkhnaa.Graph.Im
