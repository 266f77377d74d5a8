/- The program's Order. What lies in memory while a closure that calls itself goes through the nodes; what Below's closure finds. -/
import Derived.Test.YtohlkaoophbinaaZGraphE
import Derived.Deep.WholeRow
import Derived.Test.YtohlkaoophbinaaZGraphReach
namespace Go.Proofs.Ytohlkaoophbinaa.Graph.Im
open Go.RowKit Go.Lib IRows

theorem info_arr : (Try.prog.info? 110).map (fun i => (i.zero, i.size)) = some (some (.agg (Array.replicate 65 (.int .i64 0))), 65) := by kernel_rfl
def lacks0 : Array Value := (Array.replicate 65 (.int .i64 0)).setIfInBounds 0 (.int .i64 (-1))
theorem lacks_at (i : Nat) (h : i < 65) : lacks0[i]? = some (.int .i64 (if i = 0 then -1 else 0)) := by
  unfold lacks0
  rw [Array.getElem?_setIfInBounds]
  by_cases e : 0 = i
  · subst e
    rfl
  · rw [if_neg e, if_neg (by omega), Array.getElem?_replicate, if_pos h]
theorem od_new {w w1 : World} (l : List Nd) (T : TypeId) (hb : Below w.heap.size w w1) : Od w (w1.alloc (.cells lacks0 T)) w1.heap.size (fst l 0) := by
  have h := heap_alloc_new w1 (.cells lacks0 T)
  refine ⟨below_then hb ((Below.refl _ w1).alloc (Nat.le_refl _) _), hb.size, by simp, fun i hi => ⟨?_, free_block i h⟩⟩
  rw [fst_zero]
  exact cell_block h (lacks_at i hi)
/-- A part of the row, from its beginning on. -/
theorem run_part (W : World) (A M : Nat) (h : M ≤ 65) : (Instr.sliceAt 110 (.pointer (some ⟨A, 0, none⟩)) none (some (.int .i64 (M : Int))) none).run Try.prog W = .ok (.slice (some ⟨A, 0, none⟩) M 65) W := by
  have e1 : Program.elem Try.prog 110 = 3 := by kernel_rfl
  have e2 : Program.arrayLen Try.prog 110 = 65 := by kernel_rfl
  have hu : Try.prog.underlying 110 = some (.array (Program.arrayLen Try.prog 110) (Program.elem Try.prog 110)) := by
    rw [e1, e2]
    exact Try.underlying110
  obtain ⟨i0, hi, hz0, hz1, hz2⟩ := info_parts info_int
  rw [run_sliceAt_array_h W 110 ⟨A, 0, none⟩ hu .i64 (M : Int) (by omega) (by rw [e2]; omega), e1, e2]
  simp [sizeOf, typeInfo, hi, hz1, slicedAt, Result.andThen, Addr.add]
open Classical in
set_option maxRecDepth 100000 in
set_option maxHeartbeats 8000000 in
theorem order_im (n : Int) (a : Option Addr) (m c : Nat) (l : List Nd) (w : World) (hl : l.length = m) (hs : Nds w a l) (hm : m ≤ 1048576) :
    Calls Try.prog 50 #[.int .i64 n, .slice a m c] w fun e w' => ∃ a' m' c', e = .returned (.tuple #[.slice a' m' c', .int .i64 (ordE n l)]) ∧ Hid ((ordV n l).length = m' ∧ KS w' w.heap.size (.slice a' m' c') (ordV n l) ∧ Below w.heap.size w w') := by
  have HY := may_im n a m c l w hl hs hm
  by_cases hok : May n l
  case neg =>
    obtain ⟨e1, e2⟩ := ord_arg hok
    rw [decide_eq_false hok] at HY
    have HM := Lib.hid HY
    have HE : Hid (∀ W, Below w.heap.size w W → (ordV n l).length = 0 ∧ KS W w.heap.size (.slice none 0 0) (ordV n l) ∧ Below w.heap.size w W) := Lib.hid (fun W hW => by rw [e2]; exact ⟨rfl, ks_nil _ _, hW⟩)
    rw [e1]
    clear hl hs hm HY hok e1 e2
    go_enter Try.func50, Try.ntmps50
    go_wp2_with fail
    refine HM.out.mono ?_
    rintro e w' ⟨rfl, hb⟩
    have HB := Lib.hid hb
    clear hb
    go_wp2_with fail
    go_ret2
    exact ⟨none, 0, 0, rfl, Lib.hid (HE.out _ HB.out)⟩
  rw [decide_eq_true hok] at HY
  have HM := Lib.hid HY
  have HOK := Lib.hid hok
  obtain ⟨N, rfl⟩ := Int.eq_ofNat_of_zero_le hok.1.1
  have hN : N ≤ 64 := by have := hok.1.2; omega
  have hN2 : (N : Int) ≤ 64 := by omega
  have HL := Lib.hid hl
  have HT := nds_at hs
  have hm1 : (m : Int) ≤ 256 := by have := hok.2.1; omega
  have HNT : Hid (((N : Int)).toNat = N) := Lib.hid (by omega)
  have hz := (zero_of_info info_arr).1
  obtain ⟨Z, hZ⟩ : ∃ Z, (Array.replicate 65 (.int .i64 0) : Array Value) = Z := ⟨_, rfl⟩
  rw [hZ] at hz
  have HZ := Lib.hid hZ
  have hZs : Z.size = 65 := by rw [← hZ]; exact Array.size_replicate
  have hZn : ¬ Z = #[] := fun e => by rw [e] at hZs; cases hZs
  obtain ⟨V, hV⟩ : ∃ V, Z.setIfInBounds 0 (.int .i64 (-1)) = V := ⟨_, rfl⟩
  have hVs : V.size = 65 := by rw [← hV]; simpa using hZs
  have HV : Hid (V = lacks0) := Lib.hid (by rw [← hV, ← hZ]; rfl)
  have hst : ∀ W : World, (storeCells ⟨W.heap.size, 0, none⟩ V.toList).run Try.prog (W.alloc (.cells Z 110)) = .ok () (W.alloc (.cells V 110)) := fun W => by
    have := run_storeCells_new (P := Try.prog) W 110 Z V (by rw [(zero_of_info info_arr).2, ← hV]; simp [hZs]) (by rw [← hV]; simp) (by rw [HV.out]; kernel_rfl)
    exact this
  clear hZ
  clear hl hs hm HY hok
  go_enter Try.func50, Try.ntmps50
  go_wp2_with fail
  refine HM.out.mono ?_
  rintro e w1 ⟨rfl, hb⟩
  have HB := Lib.hid hb
  clear hb
  go_wp2_with fail
  generalize hW : World.alloc w1 _ = W0
  have HO0 : Hid (Od w W0 w1.heap.size (fst l 0)) := Lib.hid (by
    rw [← hW, HV.out]
    exact od_new l _ HB.out)
  obtain ⟨A, hA⟩ : ∃ A, w1.heap.size = A := ⟨_, rfl⟩
  rw [hA] at HO0 ⊢
  clear hW hA hz hst hZs hZn HV hV hVs
  go_loopw [20] (fun s wr => ∃ i : Nat, s = .int .i64 i ∧ i ≤ m ∧ Hid (Od w wr A (fst l i))) (fun s _ => m - (RowKit.intOf s).toNat)
  case atStart => exact ⟨0, rfl, by omega, HO0⟩
  case round =>
    clear HO0
    obtain ⟨i, rfl, hi, HD⟩ := hrel
    have hi0 : (0 : Int) ≤ (i : Int) := by omega
    by_cases hlt : i < m
    · have hlt2 : (i : Int) < (m : Int) := by omega
      obtain ⟨g, off, t, rfl, ht, q0, q1⟩ := HT.out wr i HD.out.below (by rw [HL.out]; exact hlt)
      obtain ⟨U, Y, hU, hY, u0, u1, HU⟩ := box_nd wr t
      have HDY := Lib.hid (HD.out.under HU.out.1)
      have hok := HOK.out.2.2 t (List.mem_of_getElem? ht.out)
      obtain ⟨p, hp⟩ := Int.eq_ofNat_of_zero_le (show 0 ≤ t.a by have := hok.1.1; omega)
      have HP : Hid (t.a = (p : Int)) := Lib.hid hp
      have HP1 : Hid (1 ≤ p) := Lib.hid (by have := hok.1.1; omega)
      have hp0 : (0 : Int) ≤ (p : Int) := by omega
      have hp65 : (p : Int) < 65 := by have := hok.1.2; omega
      obtain ⟨x0, x1⟩ := HDY.out.row p (by omega)
      obtain ⟨b0, b1⟩ := fst_b l i p
      rw [HL.out] at b1
      rw [hp] at q0 u0 hY
      obtain ⟨v, hv⟩ : ∃ v, fst l i p = v := ⟨_, rfl⟩
      rw [hv] at x0 b0 b1
      have wv : IntKind.i64.wrap (v + 1) = v + 1 := IntWalk.i64_in _ (by omega)
      have HST : Hid (Od w (Y.setCell ⟨A, p, none⟩ (.int .i64 (v + 1))) A (fst l (i + 1))) := Lib.hid (by
        have := (HDY.out.set p (v + 1)).congr (g := fst l (i + 1)) (fun k _ => by rw [← hv]; exact fst_step ht.out HP.out HP1.out k)
        exact this)
      clear hok hp hv b0 b1
      go_wp2_with fail
      clear hY hU
      go_roundw
      case rel => exact ⟨i + 1, by go_num, by omega, HST⟩
      case measure => simp [RowKit.intOf]; omega
    · obtain rfl : i = m := by omega
      have HDL : Hid (Od w wr A (lk l [])) := Lib.hid (HD.out.congr fun k _ => by rw [← HL.out, fst_end])
      clear HD
      go_wp2_with fail
      go_loopw [9, 32] (fun s t wr' => ∃ (a1 : Option Addr) (j c1 : Nat) (out : List Int), s = .slice a1 j c1 ∧ t = .int .i64 (j : Int) ∧ j ≤ N ∧ Hid (out.length = j ∧ KS wr' (A + 1) (.slice a1 j c1) out) ∧ Hid (Od w wr' A (lk l out) ∧ Stands N l out) ∧ Hid (ordF N l (N - j) out = ordF N l N [])) (fun _ t _ => N - (RowKit.intOf t).toNat)
      case atStart => exact ⟨none, 0, 0, [], rfl, rfl, by omega, Lib.hid ⟨rfl, ks_nil _ _⟩, Lib.hid ⟨HDL.out, stands_nil _ _⟩, Lib.hid rfl⟩
      case round =>
        clear HDL
        obtain ⟨a1, j, c1, out, rfl, rfl, hj, HO, HS, HF⟩ := hrel
        have hj0 : (0 : Int) ≤ (j : Int) := by omega
        by_cases hjl : j < N
        · have hjl2 : (j : Int) < (N : Int) := by omega
          obtain ⟨M, hM⟩ : ∃ M, N + 1 = M := ⟨_, rfl⟩
          have hM2 : (N : Int) + 1 = (M : Int) := by omega
          have hM65 : M ≤ 65 := by omega
          have wM : IntKind.i64.wrap (M : Int) = (M : Int) := IntWalk.i64_in _ (by omega)
          have HIX := Lib.hid (index_im A M 65 (lk l out) 0 wr (fun k hk => (HS.out.1.row k (by omega)).1) (by omega))
          have HMN := Lib.hid hM
          have hsl := fun W => run_part W A M hM65
          clear hM
          go_wp2_with fail
          refine HIX.out.mono ?_
          rintro e w' ⟨r, rfl, HFI, rfl⟩
          have HNX := Lib.hid (first_nx (l := l) (out := out) (N := N) (r := r) (by have := HFI.out; rw [← HMN.out] at this; exact this))
          obtain ⟨r', hr'⟩ : ∃ r', N - j = r' + 1 := ⟨N - j - 1, by omega⟩
          rcases HNX.out with ⟨hr, hnx⟩ | ⟨p, hr, hp1, hpN, hnx, hrd⟩
          · subst hr
            have HE := Lib.hid (ord_none HOK.out (by rw [HNT.out, ← HF.out, hr']; exact ordF_none (by rw [HNT.out]; exact hnx)))
            have HE2 : Hid ((ordV N l).length = 0 ∧ KS wr w.heap.size (.slice none 0 0) (ordV N l) ∧ Below w.heap.size w wr) := Lib.hid (by rw [HE.out.2]; exact ⟨rfl, ks_nil _ _, HS.out.1.below⟩)
            clear hnx hr' hsl
            go_wp2_with fail
            go_ret2
            exact ⟨none, 0, 0, by rw [HE.out.1]; rfl, HE2⟩
          · subst hr
            have HX0 : Hid (((p : Nat) : Int) ∉ out) := Lib.hid hrd.1
            have HST := Lib.hid (HS.out.2.more hrd (by omega) (by omega))
            have HF2 : Hid (ordF N l (N - (j + 1)) (out ++ [(p : Int)]) = ordF N l N []) := Lib.hid (by
              have h := HF.out
              rw [hr', ordF_more (by rw [HNT.out, hnx]; omega), HNT.out, hnx] at h
              rw [show N - (j + 1) = r' by omega]
              exact h)
            obtain ⟨a3, c3, W3, HRUN, h2, h3, h4⟩ := app1 (p : Int) HO.out.1 HO.out.2 (by omega) (by have := HS.out.1.old; omega)
            have HO3 := Lib.hid (And.intro h2 h3)
            have HS3 := Lib.hid (HS.out.1.app h4)
            obtain ⟨x0, x1⟩ := HS3.out.row p (by omega)
            have hp0 : (0 : Int) ≤ (p : Int) := by omega
            have hp65 : (p : Int) < 65 := by omega
            have dp : decide ((p : Int) < 0) = false := decide_eq_false (by omega)
            have HM0 : Hid (Od w (W3.setCell ⟨A, p, none⟩ (.int .i64 (-1))) A (mid l out (out ++ [(p : Int)]) 0) ∧ KS (W3.setCell ⟨A, p, none⟩ (.int .i64 (-1))) (A + 1) (.slice a3 (j + 1) c3) (out ++ [(p : Int)])) := Lib.hid ⟨(HS3.out.set p (-1)).congr (fun k _ => mid_start k), ks_set HO3.out.2⟩
            clear hnx hr' hsl h2 h3 h4 hrd hp1
            go_wp2_with (at_builtin; refine walk_run (v' := .slice a3 (j + 1) c3) (w' := W3) rfl _ _ _ _ rfl _ _ rfl rfl HRUN.out ?_)
            clear x0 x1
            go_loopw [48] (fun s wr'' => ∃ k : Nat, s = .int .i64 k ∧ k ≤ i ∧ Hid (Od w wr'' A (mid l out (out ++ [(p : Int)]) k) ∧ KS wr'' (A + 1) (.slice a3 (j + 1) c3) (out ++ [(p : Int)]))) (fun s _ => i - (RowKit.intOf s).toNat)
            case atStart => exact ⟨0, rfl, by omega, HM0⟩
            case round =>
              clear HM0
              obtain ⟨k, rfl, hk, HK⟩ := hrel
              have hk0 : (0 : Int) ≤ (k : Int) := by omega
              by_cases hkl : k < i
              · have hkl2 : (k : Int) < (i : Int) := by omega
                obtain ⟨g, off, t, rfl, ht, q0, q1⟩ := HT.out _ k HK.out.1.below (by rw [HL.out]; exact hkl)
                obtain ⟨U, Y, hU, hY, u0, u1, HU⟩ := box_nd _ t
                have HKY := Lib.hid (And.intro (HK.out.1.under HU.out.1) (HK.out.2.under HU.out.1))
                have hok := HOK.out.2.2 t (List.mem_of_getElem? ht.out)
                obtain ⟨q, hq⟩ := Int.eq_ofNat_of_zero_le (show 0 ≤ t.a by have := hok.1.1; omega)
                have HQ : Hid (t.a = (q : Int) ∧ 1 ≤ q) := Lib.hid ⟨hq, by have := hok.1.1; omega⟩
                have hq0 : (0 : Int) ≤ (q : Int) := by omega
                have hq65 : (q : Int) < 65 := by have := hok.1.2; omega
                obtain ⟨x0, x1⟩ := HKY.out.1.row q (by omega)
                rw [hq] at q0 u0 hY
                by_cases cb : t.b = (p : Int)
                · have cb2 : (t.b == (p : Int)) = true := by simpa using cb
                  obtain ⟨b0, b1⟩ := mid_b l out (out ++ [(p : Int)]) k q
                  rw [HL.out] at b1
                  have HSTEP : Hid (∀ z, up (mid l out (out ++ [(p : Int)]) k) q (mid l out (out ++ [(p : Int)]) k q - 1) z = mid l out (out ++ [(p : Int)]) (k + 1) z) := Lib.hid (fun z => mid_yes ht.out HQ.out.1 HQ.out.2 cb HX0.out (fun h => HX0.out (by
                    have := stands_shut HST.out (List.mem_of_getElem? ht.out) (by rw [HQ.out.1]; exact h)
                    rw [cb] at this
                    exact this)) z)
                  obtain ⟨v, hv⟩ : ∃ v, mid l out (out ++ [(p : Int)]) k q = v := ⟨_, rfl⟩
                  rw [hv] at x0 b0 b1
                  have wv : IntKind.i64.wrap (v - 1) = v - 1 := IntWalk.i64_in _ (by omega)
                  have HK2 : Hid (Od w (Y.setCell ⟨A, q, none⟩ (.int .i64 (v - 1))) A (mid l out (out ++ [(p : Int)]) (k + 1)) ∧ KS (Y.setCell ⟨A, q, none⟩ (.int .i64 (v - 1))) (A + 1) (.slice a3 (j + 1) c3) (out ++ [(p : Int)])) := Lib.hid ⟨(HKY.out.1.set q (v - 1)).congr (fun z _ => by rw [← hv]; exact HSTEP.out z), ks_set HKY.out.2⟩
                  clear hok hq hv b0 b1 cb
                  go_wp2_with fail
                  clear hY hU
                  go_roundw
                  case rel => exact ⟨k + 1, by go_num, by omega, HK2⟩
                  case measure => simp [RowKit.intOf]; omega
                · have cb2 : (t.b == (p : Int)) = false := by simpa using cb
                  have HK2 : Hid (Od w Y A (mid l out (out ++ [(p : Int)]) (k + 1)) ∧ KS Y (A + 1) (.slice a3 (j + 1) c3) (out ++ [(p : Int)])) := Lib.hid ⟨HKY.out.1.congr (fun z _ => mid_no ht.out cb z), HKY.out.2⟩
                  clear hok hq cb x0 x1
                  go_wp2_with fail
                  clear hY hU
                  go_roundw
                  case rel => exact ⟨k + 1, by go_num, by omega, HK2⟩
                  case measure => simp [RowKit.intOf]; omega
              · obtain rfl : k = i := by omega
                have HK3 : Hid (∀ W, Od w W A (mid l out (out ++ [(p : Int)]) k) → Od w W A (lk l (out ++ [(p : Int)]))) := Lib.hid (fun W h => h.congr fun z _ => by rw [← HL.out, mid_end])
                have HS4 := Lib.hid (And.intro (HK3.out _ HK.out.1) HST.out)
                have HO4 := Lib.hid (And.intro HO3.out.1 HK.out.2)
                go_wp2_with fail
                go_roundw
                case rel => exact ⟨a3, j + 1, c3, out ++ [(p : Int)], rfl, by go_num, by omega, HO4, HS4, HF2⟩
                case measure => simp [RowKit.intOf]; omega
        · obtain rfl : j = N := by omega
          have HE := Lib.hid (ord_some HOK.out (k := out) (by
            rw [HNT.out, ← HF.out, Nat.sub_self]
            rfl))
          have HE2 : Hid ((ordV j l).length = j ∧ KS wr w.heap.size (.slice a1 j c1) (ordV j l) ∧ Below w.heap.size w wr) := Lib.hid (by rw [HE.out.2]; exact ⟨HO.out.1, ks_low HO.out.2 (by have := HS.out.1.new; omega), HS.out.1.below⟩)
          go_wp2_with fail
          go_ret2
          exact ⟨a1, j, c1, by rw [HE.out.1]; rfl, HE2⟩
end Go.Proofs.Ytohlkaoophbinaa.Graph.Im
namespace Go.Proofs.Ytohlkaoophbinaa.Graph.Im
open Go.RowKit Go.Lib IRows

/-- All but two blocks that were there are as they were. -/
structure Gr (W W' : World) (P Q : Nat) : Prop where
  os : W'.os = W.os
  tape : W'.tape = W.tape
  output : W'.output = W.output
  size : W.heap.size ≤ W'.heap.size
  block : ∀ k, k < W.heap.size → k ≠ P → k ≠ Q → W'.heap[k]? = W.heap[k]?
theorem Gr.refl (W : World) (P Q : Nat) : Gr W W P Q := ⟨rfl, rfl, rfl, Nat.le_refl _, fun _ _ _ _ => rfl⟩
theorem Gr.trans {a b c : World} {P Q : Nat} (h : Gr a b P Q) (k : Gr b c P Q) : Gr a c P Q :=
  ⟨k.os.trans h.os, k.tape.trans h.tape, k.output.trans h.output, Nat.le_trans h.size k.size, fun i hi h1 h2 => (k.block i (Nat.lt_of_lt_of_le hi h.size) h1 h2).trans (h.block i hi h1 h2)⟩
theorem gr_below {W W' : World} {P Q : Nat} (h : Below W.heap.size W W') : Gr W W' P Q := ⟨h.os, h.tape, h.output, h.size, fun k hk _ _ => h.block k hk⟩
theorem gr_setP (W : World) (P Q k : Nat) (v : Value) : Gr W (W.setCell ⟨P, k, none⟩ v) P Q := ⟨rfl, rfl, rfl, by simp [World.setCell], fun i _ h1 _ => Below.heap_setCell W ⟨P, k, none⟩ v i h1⟩
theorem gr_setQ (W : World) (P Q k : Nat) (v : Value) : Gr W (W.setCell ⟨Q, k, none⟩ v) P Q := ⟨rfl, rfl, rfl, by simp [World.setCell], fun i _ _ h2 => Below.heap_setCell W ⟨Q, k, none⟩ v i h2⟩
theorem gr_drew (W : World) (P Q : Nat) : Gr W W.drew P Q := gr_below (Below.refl _ W).drew
theorem Gr.cell {W W' : World} {P Q : Nat} (h : Gr W W' P Q) {b : Nat} (o : Nat) (hb : b < W.heap.size) (h1 : b ≠ P) (h2 : b ≠ Q) : W'.cell? ⟨b, o, none⟩ = W.cell? ⟨b, o, none⟩ := by
  have e := h.block b hb h1 h2
  unfold World.cell?
  simp only [e]
/-- A row of 65 bools of the call's own. -/
def RB (W : World) (A : Nat) (b : Nat → Bool) : Prop := ∀ i, i < 65 → W.cell? ⟨A, i, none⟩ = some (.bool (b i)) ∧ W.frozen? ⟨A, i, none⟩ = false
theorem RB.under {W W' : World} {A : Nat} {f : Nat → Bool} (h : RB W A f) (hA : A < W.heap.size) (hb : Below W.heap.size W W') : RB W' A f := fun i hi => ⟨((bcell hb).1 A i hA).trans (h i hi).1, ((bcell hb).2 A i hA).trans (h i hi).2⟩
theorem RB.set {W : World} {A : Nat} {f : Nat → Bool} (h : RB W A f) (k : Nat) (v : Bool) : RB (W.setCell ⟨A, k, none⟩ (.bool v)) A (up f k v) := fun i hi => by
  rw [World.frozen?_setCell]
  refine ⟨?_, (h i hi).2⟩
  unfold up
  by_cases e : i = k
  · subst e
    rw [if_pos rfl, World.cell?_setCell_same (h := (h i hi).1)]
  · rw [if_neg e, World.cell?_setCell_other (h := addr_ne (.inr fun x => e x.symm))]
    exact (h i hi).1
theorem RB.other {W : World} {A B : Nat} {f : Nat → Bool} (h : RB W A f) (hn : A ≠ B) (k : Nat) (v : Value) : RB (W.setCell ⟨B, k, none⟩ v) A f := fun i hi => by
  rw [World.frozen?_setCell, World.cell?_setCell_other (h := addr_ne (.inl hn.symm))]
  exact h i hi
theorem RI.other {W : World} {A B : Nat} {f : Nat → Int} (h : RI W A f) (hn : A ≠ B) (k : Nat) (v : Value) : RI (W.setCell ⟨B, k, none⟩ v) A f := fun i hi => by
  rw [World.frozen?_setCell, World.cell?_setCell_other (h := addr_ne (.inl hn.symm))]
  exact h i hi
/-- The captured boxes: the needs' at C, the closure's own at D; what it turns lies at P and Q. -/
structure Ev (w0 W : World) (C D P Q : Nat) (s f : Value) : Prop where
  below : Below w0.heap.size w0 W
  loP : w0.heap.size ≤ P
  loQ : w0.heap.size ≤ Q
  hiP : P < W.heap.size
  hiQ : Q < W.heap.size
  hiC : C < W.heap.size
  hiD : D < W.heap.size
  neC : C ≠ P ∧ C ≠ Q
  neD : D ≠ P ∧ D ≠ Q
  atC : W.cell? ⟨C, 0, none⟩ = some s
  atD : W.cell? ⟨D, 0, none⟩ = some f
theorem Ev.gr {w0 W W' : World} {C D P Q : Nat} {s f : Value} (h : Ev w0 W C D P Q s f) (g : Gr W W' P Q) : Ev w0 W' C D P Q s f := by
  have hz := g.size
  have hw := h.below.size
  refine ⟨⟨g.os.trans h.below.os, g.tape.trans h.below.tape, g.output.trans h.below.output, Nat.le_trans hw hz, fun k hk => (g.block k (by omega) (by have := h.loP; omega) (by have := h.loQ; omega)).trans (h.below.block k hk)⟩, h.loP, h.loQ, by have := h.hiP; omega, by have := h.hiQ; omega, by have := h.hiC; omega, by have := h.hiD; omega, h.neC, h.neD, (g.cell 0 h.hiC h.neC.1 h.neC.2).trans h.atC, (g.cell 0 h.hiD h.neD.1 h.neD.2).trans h.atD⟩
theorem Ev.under {w0 W W' : World} {C D P Q : Nat} {s f : Value} (h : Ev w0 W C D P Q s f) (hb : Below W.heap.size W W') : Ev w0 W' C D P Q s f := h.gr (gr_below hb)
/-- A closure's own box, as it is laid: nothing first, then what is stored. -/
theorem box_fn (W : World) (T : TypeId) : ∃ D Y, W.heap.size = D ∧ W.alloc (.cells #[.nilFunc] T) = Y ∧ Y.cell? ⟨D, 0, none⟩ = some .nilFunc ∧ Y.frozen? ⟨D, 0, none⟩ = false ∧ Hid (Below W.heap.size W Y ∧ Y.heap.size = D + 1) := by
  have hb := heap_alloc_new W (.cells #[.nilFunc] T)
  exact ⟨_, _, rfl, rfl, cell_block hb rfl, free_block 0 hb, Lib.hid ⟨(Below.refl _ _).alloc (Nat.le_refl _) _, by simp⟩⟩
theorem box_row (W : World) (Z : Array Value) (T : TypeId) : ∃ B Y, W.heap.size = B ∧ W.alloc (.cells Z T) = Y ∧ Hid (Below W.heap.size W Y ∧ Y.heap.size = B + 1 ∧ (∀ i v, Z[i]? = some v → Y.cell? ⟨B, i, none⟩ = some v ∧ Y.frozen? ⟨B, i, none⟩ = false)) := by
  have hb := heap_alloc_new W (.cells Z T)
  exact ⟨_, _, rfl, rfl, Lib.hid ⟨(Below.refl _ _).alloc (Nat.le_refl _) _, by simp, fun i v h => ⟨cell_block hb h, free_block i hb⟩⟩⟩
theorem run_fn (P : Program) (W : World) (D : Nat) (v : Value) (hv : v.oneCell' = true) (n0 : W.cell? ⟨D, 0, none⟩ = some .nilFunc) (n1 : W.frozen? ⟨D, 0, none⟩ = false) : (store ⟨D, 0, none⟩ v).run P W = .ok () (W.setCell ⟨D, 0, none⟩ v) := by
  rw [run_store _ _ _ _ _ hv, n0, n1]
  rfl
theorem set_below (W : World) (D k : Nat) (v : Value) : Below D W (W.setCell ⟨D, k, none⟩ v) := (Below.refl _ W).setCell (p := ⟨D, k, none⟩) (Nat.le_refl _) v
/-! what Below's closure finds -/
/-- How many were not seen. -/
def cnt (b : Nat → Bool) : Nat := (List.range 65).countP fun k => !b k
theorem cnt_up {b : Nat → Bool} {k : Nat} (hk : k < 65) (h : b k = false) : cnt (up b k true) < cnt b := by
  have key : ∀ n, k < n → (List.range n).countP (fun i => !up b k true i) < (List.range n).countP fun i => !b i := by
    have le : ∀ n, (List.range n).countP (fun i => !up b k true i) ≤ (List.range n).countP fun i => !b i := fun n => List.countP_mono_left fun i _ hi => by
      unfold up at hi
      by_cases e : i = k
      · simp [e] at hi
      · simpa [e] using hi
    intro n
    induction n with
    | zero => intro h; omega
    | succ n ih =>
      intro hn
      rw [List.range_succ, List.countP_append, List.countP_append]
      by_cases e : n = k
      · have h1 : (List.countP (fun i => !up b k true i) [n]) = 0 := by simp [up, e]
        have h2 : (List.countP (fun i => !b i) [n]) = 1 := by simp [e, h]
        have := le n
        omega
      · have h1 : (List.countP (fun i => !up b k true i) [n]) = List.countP (fun i => !b i) [n] := by simp [up, e]
        have := ih (by omega)
        omega
  exact key 65 hk
theorem cnt_mono {b b' : Nat → Bool} (h : ∀ k, b k = true → b' k = true) : cnt b' ≤ cnt b := List.countP_mono_left fun i _ hi => by
  cases e : b i with
  | false => rfl
  | true =>
    rw [h i e] at hi
    cases hi
/-- All that one needs is seen. -/
def Shut (l : List Nd) (x : Int) (b : Nat → Bool) : Prop := ∀ t ∈ l, t.a = x → b t.b.toNat = true
theorem Shut.more {l : List Nd} {x : Int} {b b' : Nat → Bool} (h : Shut l x b) (k : ∀ k, b k = true → b' k = true) : Shut l x b' := fun t ht e => k _ (h t ht e)
/-- What was seen more from a node on. -/
structure Saw (l : List Nd) (x : Int) (b b' : Nat → Bool) : Prop where
  more : ∀ k, b k = true → b' k = true
  led : ∀ k, b' k = true → b k = true ∨ Lead l x (k : Int)
  shut : ∀ k : Nat, b' k = true → b k = true ∨ Shut l (k : Int) b'
theorem saw_refl (l : List Nd) (x : Int) (b : Nat → Bool) : Saw l x b b := ⟨fun _ h => h, fun _ h => .inl h, fun _ h => .inl h⟩
/-- One that was not seen is seen, and all from there. -/
theorem Saw.step {l : List Nd} {x : Int} {b b1 b2 : Nat → Bool} {t : Nd} {y : Nat} (h : Saw l x b b1) (ht : t ∈ l) (ha : t.a = x) (hb : t.b = (y : Int)) (k : Saw l (y : Int) (up b1 y true) b2) (ks : Shut l (y : Int) b2) : Saw l x b b2 ∧ b2 y = true := by
  have up1 : ∀ k, b1 k = true → up b1 y true k = true := fun k hk => by
    unfold up
    split
    · rfl
    · exact hk
  have hy : b2 y = true := k.more y (by unfold up; rw [if_pos rfl])
  have hxy : Lead l x (y : Int) := by rw [← hb]; exact .one ht ha
  refine ⟨⟨fun i hi => k.more i (up1 i (h.more i hi)), fun i hi => ?_, fun i hi => ?_⟩, hy⟩
  · rcases k.led i hi with h1 | h1
    · unfold up at h1
      by_cases e : i = y
      · right
        rw [e]
        exact hxy
      · rw [if_neg e] at h1
        exact h.led i h1
    · exact .inr (hxy.trans h1)
  · rcases k.shut i hi with h1 | h1
    · unfold up at h1
      by_cases e : i = y
      · right
        rw [e]
        exact ks
      · rw [if_neg e] at h1
        rcases h.shut i h1 with h2 | h2
        · exact .inl h2
        · exact .inr (h2.more fun j hj => k.more j (up1 j hj))
    · exact .inr h1
/-- What is seen from nothing on is what needs lead to. -/
theorem saw_all {l : List Nd} {x : Int} {b : Nat → Bool} (h : Saw l x (fun _ => false) b) (hs : Shut l x b) (hp : ∀ t ∈ l, 0 ≤ t.b) (k : Nat) : b k = true ↔ Lead l x (k : Int) := by
  constructor
  · intro hk
    rcases h.led k hk with h1 | h1
    · cases h1
    · exact h1
  · intro hk
    have key : ∀ z, Lead l x z → b z.toNat = true := by
      intro z hz
      induction hz with
      | one ht e => exact hs _ ht e
      | more hl ht e ih =>
        rename_i t y
        have hy0 : 0 ≤ y := by
          cases hl with
          | one h1 _ => exact hp _ h1
          | more _ h1 _ => exact hp _ h1
        rcases h.shut y.toNat ih with h1 | h1
        · cases h1
        · exact h1 t ht (by rw [e]; omega)
    have := key _ hk
    simpa using this
end Go.Proofs.Ytohlkaoophbinaa.Graph.Im
