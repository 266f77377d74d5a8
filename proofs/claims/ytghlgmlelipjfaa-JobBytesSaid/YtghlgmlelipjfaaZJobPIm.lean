/- The program's Put of a job; a builder that is written to beside rows of another type. -/
import Derived.Test.YtghlgmlelipjfaaZJobNm
import Derived.Test.YtghlgmlelipjfaaZGoodsImCk
import Derived.Test.YtghlgmlelipjfaaZShelf
import Derived.Test.YtghlgmlelipjfaaZPqWritten
namespace Go.Proofs.Ytghlgmlelipjfaa.Job.Im
open Go.RowKit Go.Lib IRows
open Goods (St Sts OwnS)
open Pen (uintB)

theorem mem_intsS {x : Int} : ∀ {l : List St}, x ∈ intsS l → ∃ t ∈ l, x = t.kind ∨ x = t.qty
  | [], h => by cases h
  | t :: l, h => by
    rcases List.mem_cons.1 h with h | h
    · exact ⟨t, List.mem_cons_self .., .inl h⟩
    rcases List.mem_cons.1 h with h | h
    · exact ⟨t, List.mem_cons_self .., .inr h⟩
    obtain ⟨u, hu, k⟩ := mem_intsS (l := l) h
    exact ⟨u, List.mem_cons_of_mem _ hu, k⟩
/-- All that is put is a number from 0 on. -/
theorem ints_pos {j : JS} (h : Ok j) : ∀ x ∈ ints j, Pos x := by
  obtain ⟨h1, h2, h3, h4⟩ := ok_pos h
  intro x hx
  unfold ints at hx
  rcases List.mem_append.1 hx with hx | hx
  · exact h1 x hx
  rcases List.mem_append.1 hx with hx | hx
  · have e : x = (j.s.length : Int) := by simpa using hx
    unfold Pos
    omega
  rcases List.mem_append.1 hx with hx | hx
  · obtain ⟨t, ht, rfl | rfl⟩ := mem_intsS hx
    · exact (h4 t ht).1
    · exact (h4 t ht).2
  · exact h2 x hx
/-! a builder beside rows of another type -/
theorem check_apart (B b : Nat) (bs : List Value) (w : World) (h : Lib.IsBuilder 51 5 B b bs w) :
    Calls Try.prog 57 #[.pointer (some ⟨b, 0, none⟩)] w fun e w' => e = .returned (.tuple #[]) ∧ Lib.BuilderAt 51 5 B b (.pointer (some ⟨b, 0, none⟩)) bs w' ∧ Below B w w' ∧ Hid (∀ U o, U ≠ b → w.heap[U]? = some o → w'.heap[U]? = some o) := by
  rcases h with h | h
  · refine (check_fresh b w h.cell0 h.shape h.frozen0).mono ?_
    rintro e w' ⟨rfl, rfl⟩
    exact ⟨rfl, h.used _, (Below.refl B w).setCell (p := ⟨b, 0, none⟩) h.1 _, Lib.hid fun U o hU hb => (Below.heap_setCell w ⟨b, 0, none⟩ _ U hU).trans hb⟩
  · refine (check_used b w h.cell0).mono ?_
    rintro e w' ⟨rfl, rfl⟩
    exact ⟨rfl, h, Below.refl B _, Lib.hid fun _ _ _ h => h⟩
set_option maxRecDepth 100000 in
set_option maxHeartbeats 2000000 in
theorem write_apart (B b : Nat) (l : List UInt8) (s : ByteArray) (w : World) (h : IsB B b l w) (hlen : l.length + s.size ≤ 140737488355328) (hB : B ≤ w.heap.size) :
    Calls Try.prog 35 #[.pointer (some ⟨b, 0, none⟩), .string s] w fun e w' => e = .returned (.tuple #[.int .i64 s.size, .nilIface]) ∧ IsB B b (l ++ s.data.toList) w' ∧ Below B w w' ∧ Hid (∀ (U : Nat) (ds : Array Value) (T : TypeId), U ≠ b → T ≠ 5 → w.heap[U]? = some (.cells ds T (0, 0)) → w'.heap[U]? = some (.cells ds T (0, 0))) := by
  obtain ⟨i0, hi, hz0, hz1, hz2⟩ := info_parts info_u8
  have hll : (Lib.byteCells l).length = l.length := Lib.byteCells_length l
  go_enter Try.func35, Try.ntmps35
  go_wp2_with fail
  refine (check_apart B b _ _ h).mono ?_
  rintro e w1 ⟨rfl, ⟨hBb, v, hbk, hown, hne⟩, hb1, HK1⟩
  have c0 : w1.cell? ⟨b, 0, none⟩ = some (.pointer (some ⟨b, 0, none⟩)) := by rw [Lib.cell_of_heap hbk]; rfl
  have c1 : w1.cell? ⟨b, 1, none⟩ = some v := by rw [Lib.cell_of_heap hbk]; rfl
  go_wp2_with (at_builtin; refine Lib.wpList_append_own_string _ rfl _ _ 49 9 rfl B 5 i0 Try.underlying49 Try.underlying9 hi hz0 hz1 hz2 _ _ _ rfl hown s rfl ?c3 ?c4 ?c5 ?_)
  case c3 => unfold maxLen; omega
  case c4 => omega
  case c5 => have := hb1.size; omega
  intro v' w2 hown' hgrow _
  have hlt : b < w1.heap.size := (Array.getElem?_eq_some_iff.1 hbk).1
  have hb2 : w2.heap[b]? = some (.cells #[.pointer (some ⟨b, 0, none⟩), v] 51 (0, 0)) := (hgrow.block b hlt (fun e => hne e.symm)).trans hbk
  have d0 : w2.cell? ⟨b, 0, none⟩ = some (.pointer (some ⟨b, 0, none⟩)) := by rw [Lib.cell_of_heap hb2]; rfl
  have d1 : w2.cell? ⟨b, 1, none⟩ = some v := by rw [Lib.cell_of_heap hb2]; rfl
  have f1 : w2.frozen? ⟨b, 1, none⟩ = false := Lib.frozen_of_heap hb2 1
  have HKP : Hid (∀ (U : Nat) (ds : Array Value) (T : TypeId), U ≠ b → T ≠ 5 → w.heap[U]? = some (.cells ds T (0, 0)) → w2.heap[U]? = some (.cells ds T (0, 0))) := Lib.hid fun U ds T hU hT hw => own_kept hown hgrow (HK1.out U _ hU hw) hT
  obtain ⟨ao, n', cap, rfl⟩ : ∃ ao n' cap, v' = .slice ao n' cap := by
    rcases hown'.2 with ⟨hv, _⟩ | ⟨g, cap, cur, hv, _⟩
    · exact ⟨_, _, _, hv⟩
    · exact ⟨_, _, _, hv⟩
  go_wp2
  go_ret2
  have hcells : Lib.byteCells l ++ Lib.strCells s = Lib.byteCells (l ++ s.data.toList) := by simp [Lib.strCells, Lib.byteCells]
  refine ⟨rfl, Or.inr ?_, ?_, Lib.hid fun U ds T hU hT hw => (Below.heap_setCell w2 ⟨b, 1, none⟩ _ U hU).trans (HKP.out U ds T hU hT hw)⟩
  · refine Lib.BuilderAt.put (T := 51) (e := 5) hBb hb2 ?_ (by decide)
    rw [← hcells, List.length_append, Lib.strCells_length, hll]
    exact hown'
  · exact (hb1.grown hgrow (by have := hb1.size; omega) (fun k hk => (hown.lt k hk).1)).setCell (p := ⟨b, 1, none⟩) hBb _
set_option maxRecDepth 100000 in
set_option maxHeartbeats 4000000 in
theorem put_im (j : JS) (a0 : Option Addr) (n0 c0 : Nat) (w : World) (h : JIn w a0 n0 j.s) (hl : n0 ≤ 12) :
    Calls Try.prog 16 #[jV j (.slice a0 n0 c0)] w fun e w' => e = .returned (.tuple #[.string (putV j), .int .i64 (putE j)]) ∧ Hid (Below w.heap.size w w') := by
  obtain ⟨V, X, hV, hX, HXB, HH⟩ := box_jo w j (.slice a0 n0 c0)
  have HP : Hid (∀ W, Below X.heap.size X W → Has W V j (.slice a0 n0 c0)) := Lib.hid fun W hW => has_under HH.out hW
  have HNO : Hid (∀ W, Below X.heap.size X W → Below w.heap.size w W) := Lib.hid (fun W hW => below_then HXB.out.1 hW)
  have HCK := Lib.hid (check_im j a0 n0 c0 X (h.under HXB.out.1) (by omega))
  by_cases hc : chk j = 0
  case neg =>
    obtain ⟨e1, e2⟩ := put_no hc
    rw [e1, e2]
    obtain ⟨er, her⟩ : ∃ er, chk j = er := ⟨_, rfl⟩
    rw [her] at HCK hc ⊢
    have n1 : (er == 0) = false := by simpa using hc
    have n2 : (er != 0) = true := by simpa using hc
    clear h hl her e1 e2
    go_enter Try.func16, Try.ntmps16
    go_wp2_with (refine load_jo rfl _ rfl V rfl j (.slice a0 n0 c0) HH.out ?_)
    clear hX hV
    refine HCK.out.mono ?_
    rintro e w1 ⟨rfl, h1⟩
    have H1 := Lib.hid h1
    clear h1
    go_wp2_with fail
    go_ret2
    exact ⟨rfl, Lib.hid (HNO.out _ H1.out)⟩
  obtain ⟨e1, e2⟩ := put_yes hc
  have HPOS := Lib.hid (ints_pos (chk_zero hc))
  have hn8 : n0 ≤ 8 := by rw [← h.1]; exact (ok_pos (chk_zero hc)).2.2.1
  rw [e1, e2]
  rw [hc] at HCK
  obtain ⟨L, hL⟩ : ∃ L, ints j = L := ⟨_, rfl⟩
  rw [hL] at HPOS ⊢
  have HLE := Lib.hid hL
  clear hL
  have HAT : Hid (∀ W, Below X.heap.size X W → JIn W a0 n0 j.s) := Lib.hid fun W hW => (h.under HXB.out.1).under hW
  have HLM := Lib.hid hl
  clear h hl e1 e2 hc hn8
  go_enter Try.func16, Try.ntmps16
  go_wp2_with (refine load_jo rfl _ rfl V rfl j (.slice a0 n0 c0) HH.out ?_)
  clear hX hV
  refine HCK.out.mono ?_
  rintro e w1 ⟨rfl, h1⟩
  obtain ⟨K, hK⟩ : ∃ K, w1.heap.size = K := ⟨_, rfl⟩
  obtain ⟨Y, hY⟩ : ∃ Y, w1.alloc (.cells #[.pointer none, .slice none 0 0] 51) = Y := ⟨_, rfl⟩
  have HIB : Hid (IsB K K [] Y) := Lib.hid (by rw [← hK, ← hY]; exact made_builder w1)
  have HBY : Hid (Below w1.heap.size w1 Y ∧ Y.heap.size = K + 1 ∧ w1.heap.size = K) := Lib.hid ⟨by rw [← hY]; exact (Below.refl _ w1).alloc (Nat.le_refl _) _, by rw [← hY, ← hK]; simp, hK⟩
  have HXY : Hid (Below X.heap.size X Y ∧ X.heap.size ≤ K) := Lib.hid ⟨below_then h1 HBY.out.1, by rw [← hK]; exact h1.size⟩
  have HHY := HP.out Y HXY.out.1
  have HNU := numbers_im j a0 n0 c0 Y (HAT.out Y HXY.out.1) HLM.out
  rw [HLE.out] at HNU
  have HNU := Lib.hid HNU
  clear h1
  go_wp2_with ((with_reducible show wpList _ _ _ _ _ Y); refine load_jo rfl _ rfl V rfl j (.slice a0 n0 c0) HHY ?_)
  clear hY hK HHY
  refine HNU.out.mono ?_
  rintro e w2 ⟨a, n, c, rfl, H2⟩
  have hn1 : n ≤ 1000 := H2.out.2.1
  have hn2 : (n : Int) ≤ 1000 := by omega
  have HIB2 : Hid (IsB K K (numsB (L.take 0)).data.toList w2) := Lib.hid (builder_kept HIB.out H2.out.2.2.2)
  have HB2 : Hid (Below K Y w2) := Lib.hid (H2.out.2.2.2.mono (by have := HBY.out.2.1; omega))
  have HK2 : Hid (KS w2 (K + 1) (.slice a n c) L) := Lib.hid (by rw [← HBY.out.2.1]; exact H2.out.2.2.1)
  have HLN : Hid (L.length = n) := Lib.hid H2.out.1
  clear H2 HNU HIB
  go_wp2_with fail
  go_loopw [16] (fun s wr => ∃ i : Nat, s = .int .i64 (i : Int) ∧ i ≤ n ∧ Hid (IsB K K (numsB (L.take i)).data.toList wr) ∧ Hid (Below K Y wr) ∧ Hid (KS wr (K + 1) (.slice a n c) L)) (fun s _ => n - (RowKit.intOf s).toNat)
  case atStart => exact ⟨0, rfl, by omega, HIB2, HB2, HK2⟩
  case round =>
    clear HIB2 HB2 HK2
    obtain ⟨i, rfl, hi, HIB, HB, HK⟩ := hrel
    obtain ⟨W0, rfl⟩ : ∃ W0, W0 = wr := ⟨_, rfl⟩
    have hi0 : (0 : Int) ≤ (i : Int) := by omega
    by_cases hlt : i < n
    · have hlt2 : (i : Int) < (n : Int) := by omega
      have wi : IntKind.i64.wrap ((i : Int) + 1) = (i : Int) + 1 := IntWalk.i64_in _ (by omega)
      obtain ⟨g, off, x, ha, hx, q0⟩ : ∃ g off x, a = some ⟨g, off, none⟩ ∧ Hid (L[i]? = some x) ∧ W0.cell? ⟨g, off + i, none⟩ = some (.int .i64 x) := by
        obtain ⟨a2, c2, e, hr⟩ := irow_own HK.out
        injection e with e3 _ _
        subst e3
        exact (irow_at hr).out W0 i (Below.refl _ _) (by rw [HLN.out]; exact hlt)
      have HX := Lib.hid (HPOS.out x (List.mem_of_getElem? hx.out))
      have HPU := Lib.hid (Pen.puint_any x W0 HX.out.2)
      have HTK := Lib.hid (numsB_take hx.out)
      have HSZ : Hid ((numsB (L.take i)).size ≤ 10000 ∧ (uintB x).size ≤ 10) := Lib.hid ⟨by
        have h1 := numsB_size (L.take i)
        have h2 : (L.take i).length ≤ i := List.length_take_le ..
        omega, Pen.uintB_size x⟩
      have HA := Lib.hid ha
      rw [ha]
      clear ha
      go_wp2_with fail
      clear q0
      refine HPU.out.mono ?_
      rintro e w3 ⟨rfl, h3⟩
      have HIB3 : Hid (IsB K K (numsB (L.take i)).data.toList w3) := Lib.hid (builder_kept HIB.out h3)
      have HB3 : Hid (Below K Y w3 ∧ K ≤ w3.heap.size) := Lib.hid ⟨HB.out.trans (h3.mono (by have := HB.out.size; have := HBY.out.2.1; omega)), by have := h3.size; have := HB.out.size; have := HBY.out.2.1; omega⟩
      have HK3 : Hid (KS w3 (K + 1) (.slice a n c) L) := Lib.hid (HK.out.under h3)
      have HW := Lib.hid (write_apart K K _ (uintB x) w3 HIB3.out (by rw [size_list]; have := HSZ.out; omega) HB3.out.2)
      clear h3
      go_wp2_with fail
      refine HW.out.mono ?_
      rintro e w4 ⟨rfl, hi4, hb4, H4⟩
      have HIB4 : Hid (IsB K K (numsB (L.take (i + 1))).data.toList w4) := Lib.hid (by
        rw [HTK.out, ByteArray.data_append, Array.toList_append]
        exact hi4)
      have HB4 : Hid (Below K Y w4) := Lib.hid (HB3.out.1.trans hb4)
      have HK4 : Hid (KS w4 (K + 1) (.slice a n c) L) := Lib.hid (HK3.out.moved fun q hq => by
        obtain ⟨t1, t2, cur, t3⟩ := own_type HK3.out hq
        rw [t3]
        exact H4.out q cur _ (by omega) (by decide) t3)
      clear hi4 hb4 H4
      go_wp2_with fail
      go_roundw
      case rel => exact ⟨i + 1, by go_num, by omega, HIB4, HB4, by rw [HA.out] at HK4; exact HK4⟩
      case measure => simp [RowKit.intOf]; omega
    · obtain rfl : i = n := by omega
      have HS := Lib.hid (said_any K K _ W0 HIB.out (by have := HB.out.size; have := HBY.out.2.1; omega))
      have HF : Hid ((⟨(numsB (L.take i)).data.toList.toArray⟩ : ByteArray) = numsB L) := Lib.hid (by
        rw [List.take_of_length_le (by rw [HLN.out]; exact Nat.le_refl _)])
      have HEND : Hid (∀ W, Below K W0 W → Below w.heap.size w W) := Lib.hid fun W hW => by
        have h1 := (HB.out.trans hW).mono HXY.out.2
        exact HNO.out W (HXY.out.1.trans h1)
      go_wp2_with fail
      refine HS.out.mono ?_
      rintro e w3 ⟨rfl, h3⟩
      have H3 := Lib.hid h3
      clear h3
      go_wp2_with fail
      go_ret2
      exact ⟨by rw [HF.out]; rfl, Lib.hid (HEND.out _ H3.out)⟩
end Go.Proofs.Ytghlgmlelipjfaa.Job.Im
