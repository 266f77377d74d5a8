/- The walk over the law FrameCuts. -/
import Derived.Test.YtajmdcbnejkfgaaFrameN
namespace Go.Proofs.Ytajmdcbnejkfgaa.Frame
open Go.RowKit Go.Lib

theorem lawCuts_no (a : Option Addr) (len cap : Nat) (T : Nat → ByteArray) (c : Nat) (w : World) (hc : Strs w a len T) (hl : len ≤ maxLen) (hm : ∀ j, j < len → (T j).size ≤ maxLen) (hfew : ¬ (len ≤ 10 ∧ ∀ j, j < len → (T j).size ≤ 256)) :
    Calls Try.prog 5 #[.slice a len cap, .int .u16 c] w fun e w' => e = .returned (.bool true) ∧ Below w.heap.size w w' := by
  have HF : Hid (∀ W, Below w.heap.size w W → Calls Try.prog 7 #[.slice a len cap, .int .i64 10, .int .i64 256] W fun e w' => e = .returned (.bool false) ∧ W = w') :=
    Lib.hid (fun W hW => few_no 10 256 a len cap T W (by omega) (strs_below hc hW) hm hl hfew)
  clear hc hm hfew
  go_enter Try.func5, Try.ntmps5
  go_wp2_with fail
  refine (HF.out _ (Below.refl _ _)).mono ?_
  rintro e w' ⟨rfl, rfl⟩
  go_wp2_with fail
  refine (awake_any _).mono ?_
  rintro e w' ⟨rfl, hb⟩
  go_wp2_with fail
  go_ret
  exact ⟨rfl, hb⟩
theorem fit_all {T : Nat → ByteArray} {n : Nat} (h : Fit T n) : ∀ r ∈ texts T n, fits r.size := fun r hr => by
  obtain ⟨j, hj, rfl⟩ := texts_mem hr
  exact h j hj
/-- What the law asks of the bytes that are cut. -/
theorem cuts (T : Nat → ByteArray) (len W n : Nat) (hF : Fit T len) (hW : W ≤ len) (h1 : (allB (texts T W)).size ≤ n) (h2 : W < len → n < (allB (texts T W)).size + 8 + (T W).size) :
    ScanIs ((allB (texts T len)).extract 0 n) (texts T W) (allB (texts T W)).size := by
  obtain ⟨m, hm, hmem, hnext⟩ := texts_take T W len hW
  have hf := fit_all hF
  rw [hm]
  refine reads_cut (texts T W) m n (fun r hr => hf r (by rw [hm]; simp [hr])) (fun r hr => hf r (hmem r hr)) h1 (fun r m' e => ?_)
  obtain ⟨hlt, rfl⟩ := hnext r m' e
  exact h2 hlt
theorem whole (T : Nat → ByteArray) (len : Nat) (hF : Fit T len) : ScanIs (allB (texts T len)) (texts T len) (allB (texts T len)).size := by
  have h := cuts T len len (allB (texts T len)).size hF (Nat.le_refl _) (Nat.le_refl _) (fun h => by omega)
  have e : (allB (texts T len)).extract 0 (allB (texts T len)).size = allB (texts T len) := by
    apply ext_list
    rw [mid_list, List.drop_zero]
    exact List.take_of_length_le (by rw [size_list]; omega)
  rw [e] at h
  exact h
theorem nth_texts (T : Nat → ByteArray) (n j : Nat) (h : j < n) : nth (texts T n) j = T j := by
  unfold nth
  rw [List.getD_eq_getElem?_getD, texts_get T n j h]
  rfl
set_option maxRecDepth 100000 in
set_option maxHeartbeats 4000000 in
theorem lawCuts_yes (a : Option Addr) (len cap : Nat) (T : Nat → ByteArray) (c : Nat) (w : World) (hc : Strs w a len T) (hcap : len ≤ cap) (hnil : a = none → cap = 0) (hlen : len ≤ 10) (hT : ∀ j, j < len → (T j).size ≤ 256) (hc16 : c < 65536) :
    Calls Try.prog 5 #[.slice a len cap, .int .u16 c] w fun e w' => e = .returned (.bool true) ∧ Below w.heap.size w w' := by
  have HF : Hid (∀ W, Below w.heap.size w W → Calls Try.prog 7 #[.slice a len cap, .int .i64 10, .int .i64 256] W fun e w' => e = .returned (.bool true) ∧ W = w') :=
    Lib.hid (fun W hW => few_yes 10 256 a len cap T W (by omega) (strs_below hc hW) hlen hT)
  have HC := Lib.hid hc; have HT := Lib.hid hT
  obtain ⟨X, hX⟩ : ∃ X, allS T len = X := ⟨_, rfl⟩
  obtain ⟨Y, hY⟩ : ∃ Y, allE T len = Y := ⟨_, rfl⟩
  have HA : Hid (allV T len = .tuple #[.string X, .int .i64 Y]) := Lib.hid (by rw [← hX, ← hY])
  have HX := Lib.hid hX; have HY := Lib.hid hY
  clear hc hT hX hY
  go_enter Try.func5, Try.ntmps5
  go_wp2_with fail
  refine (HF.out _ (Below.refl _ _)).mono ?_
  rintro e w' ⟨rfl, rfl⟩
  clear HF
  go_wp2_with fail
  refine (all_any a len cap T _ HC.out (fun j hj => by have := HT.out j hj; unfold maxLen; omega) (by omega)).mono ?_
  rintro e w1 ⟨rfl, hb1⟩
  rw [HA.out]
  have hst1 := strs_below HC.out hb1
  have HST := Lib.hid hst1; have HB := Lib.hid hb1
  clear hst1 hb1 HA HC
  go_wp2_with fail
  go_loopw [7] (fun i wr => ∃ k : Nat, k ≤ len ∧ i = .int .i64 k ∧ Hid (∀ j, j < k → 1 ≤ (T j).size) ∧ wr = w1) (fun i _ => len - (RowKit.intOf i).toNat)
  case atStart => exact ⟨0, by omega, rfl, Lib.hid (fun j hj => by omega), rfl⟩
  case round =>
    obtain ⟨k, hk, rfl, HK, rfl⟩ := hrel
    by_cases hlt : k < len
    · obtain ⟨b, off, rfl, _, hcl⟩ := HST.out k hlt
      by_cases hz : (T k).size = 0
      · have hno : ¬ Fit T len := fun h => by have := (h k hlt).1; omega
        have hXe : X = ⟨#[]⟩ := by rw [← HX.out]; exact allS_no hno
        have hYe : Y = 1 := by rw [← HY.out]; exact allE_no hno
        subst hXe hYe
        clear hno
        go_wp2_with fail
        refine (awake_any _).mono ?_
        rintro e w2 ⟨rfl, hb2⟩
        have hb3 := below_then HB.out hb2
        go_wp2_with fail
        go_ret
        exact ⟨rfl, hb3⟩
      · have hK2 : ∀ j, j < k + 1 → 1 ≤ (T j).size := fun j hj => by
          rcases Nat.lt_or_ge j k with h | h
          · exact HK.out j h
          · obtain rfl : j = k := by omega
            omega
        have HK2 := Lib.hid hK2
        have hz2 : ((T k).size : Int) ≠ 0 := by omega
        clear hK2
        go_wp2_with fail
        go_roundw
        case rel => exact ⟨k + 1, by omega, by go_num, HK2, trivial⟩
        case measure => simp [RowKit.intOf]; omega
    · obtain rfl : k = len := by omega
      have hF : Fit T k := fun j hj => ⟨HK.out j hj, by have := HT.out j hj; omega⟩
      have hXe : allB (texts T k) = X := by rw [← HX.out]; exact (allS_yes hF).symm
      have hYe : Y = 0 := by rw [← HY.out]; exact allE_yes hF
      subst hYe
      have hroom := all_room hF
      have hW := whole T k hF
      rw [hXe] at hroom hW
      obtain ⟨n, hn⟩ : ∃ n, c % (X.size + 1) = n := ⟨_, rfl⟩
      have hnX : n ≤ X.size := by have := Nat.mod_lt c (show 0 < X.size + 1 by omega); omega
      have hmod : ((c : Int)).tmod ((X.size : Int) + 1) = (n : Int) := by rw [← hn]; rfl
      have HFit := Lib.hid hF; have HXE := Lib.hid hXe; have HW := Lib.hid hW
      clear hF hXe hW hn
      go_wp2_with fail
      go_loopw [9, 10] (fun wh t w2 => ∃ W : Nat, W ≤ k ∧ wh = .int .i64 W ∧ t = .int .i64 (allB (texts T W)).size ∧ (allB (texts T W)).size ≤ n ∧ w2 = wr) (fun wh _ _ => k - (RowKit.intOf wh).toNat)
      case atStart => exact ⟨0, by omega, rfl, rfl, by show 0 ≤ n; omega, rfl⟩
      case round =>
        obtain ⟨W, hWk, rfl, rfl, hat, rfl⟩ := hrel
        obtain ⟨t, ht⟩ : ∃ t, (allB (texts T W)).size = t := ⟨_, rfl⟩
        rw [ht] at hat ⊢
        by_cases hlt2 : W < k
        · obtain ⟨b, off, rfl, _, hcl⟩ := HST.out W hlt2
          have hnext : (allB (texts T (W + 1))).size = t + 8 + (T W).size := by rw [texts_succ, all_size_snoc, ht]
          have hTW := HT.out W hlt2
          by_cases hgo : t + 8 + (T W).size ≤ n
          · have HN := Lib.hid hnext; have HTT := Lib.hid ht
            clear hnext ht
            have hdl : decide ((t : Int) + 8 + ((T W).size : Int) ≤ (n : Int)) = true := by simp; omega
            go_wp2_with fail
            go_roundw
            case rel => exact ⟨W + 1, by omega, by go_num, by rw [HN.out]; go_num, by rw [HN.out]; exact hgo, trivial⟩
            case measure => simp [RowKit.intOf]; omega
          · have hdl : decide ((t : Int) + 8 + ((T W).size : Int) ≤ (n : Int)) = false := by simp; omega
            have hcut := cuts T k W n HFit.out hWk (by omega) (fun _ => by omega)
            rw [HXE.out, ht] at hcut
            have HCut := Lib.hid hcut
            clear hnext ht hcut
            go_wp2_with fail
            refine (scan_any (X.extract 0 n) _ (by rw [ByteArray.size_extract]; omega)).mono ?_
            rintro e w2 ⟨v1, l1, a1, rfl, hsc1, _, hown1, hb2⟩
            obtain ⟨rfl, rfl⟩ := scan_one hsc1 HCut.out
            obtain ⟨o1, cap1, rfl, hs1⟩ := own_strs hown1
            rw [texts_length] at hs1 ⊢
            clear hown1 hsc1
            go_wp2_with fail
            refine (scan_any X _ (by omega)).mono ?_
            rintro e w3 ⟨v2, l2, a2, rfl, hsc2, _, hown2, hb3⟩
            obtain ⟨rfl, rfl⟩ := scan_one hsc2 HW.out
            obtain ⟨o2, cap2, rfl, hs2⟩ := own_strs hown2
            rw [texts_length] at hs2 ⊢
            clear hown2 hsc2
            have hs3 := strs_below hs1 hb3
            have hb4 := below_then hb2 hb3
            have hst3 := strs_below HST.out hb4
            have hb5 := below_then HB.out hb4
            have HS1 := Lib.hid (same_yes o1 W cap1 (nth (texts T W)) (some ⟨b, off, none⟩) cap T w3 hs3 (fun j hj => hst3 j (by omega)) (by omega) (fun j hj => nth_texts T W j hj))
            have HS2 := Lib.hid (fun (V : World) (hV : Below w3.heap.size w3 V) => same_yes o2 k cap2 (nth (texts T k)) (some ⟨b, off, none⟩) cap T V (strs_below hs2 hV) (strs_below hst3 hV) (by omega) (fun j hj => nth_texts T k j hj))
            have HB5 := Lib.hid hb5
            clear hs1 hs2 hs3 hst3 hb2 hb3 hb4 hb5
            go_wp2_with fail
            refine HS1.out.mono ?_
            rintro e w4 ⟨rfl, hb6⟩
            have HB6 := Lib.hid (below_then HB5.out hb6)
            have H2 := Lib.hid (HS2.out w4 hb6)
            clear hb6 HB5
            go_wp2_with fail
            refine H2.out.mono ?_
            rintro e w5 ⟨rfl, hb7⟩
            have HB7 := Lib.hid (below_then HB6.out hb7)
            clear hb7 HB6
            go_wp2_with fail
            refine (awake_any _).mono ?_
            rintro e w6 ⟨rfl, hb8⟩
            have hb9 := below_then HB7.out hb8
            go_wp2_with fail
            go_ret
            exact ⟨rfl, hb9⟩
        · obtain rfl : W = k := by omega
          have hcut := cuts T W W n HFit.out hWk (by omega) (fun h => by omega)
          have htX : t = X.size := by rw [← ht, HXE.out]
          rw [HXE.out, ← htX] at hcut
          have HCut := Lib.hid hcut
          clear ht hcut htX
          by_cases hW0 : 0 < W
          · obtain ⟨b, off, rfl, _, _⟩ := HST.out 0 hW0
            go_wp2_with fail
            refine (scan_any (X.extract 0 n) _ (by rw [ByteArray.size_extract]; omega)).mono ?_
            rintro e w2 ⟨v1, l1, a1, rfl, hsc1, _, hown1, hb2⟩
            obtain ⟨rfl, rfl⟩ := scan_one hsc1 HCut.out
            obtain ⟨o1, cap1, rfl, hs1⟩ := own_strs hown1
            rw [texts_length] at hs1 ⊢
            clear hown1 hsc1
            go_wp2_with fail
            refine (scan_any X _ (by omega)).mono ?_
            rintro e w3 ⟨v2, l2, a2, rfl, hsc2, _, hown2, hb3⟩
            obtain ⟨rfl, rfl⟩ := scan_one hsc2 HW.out
            obtain ⟨o2, cap2, rfl, hs2⟩ := own_strs hown2
            rw [texts_length] at hs2 ⊢
            clear hown2 hsc2
            have hs3 := strs_below hs1 hb3
            have hb4 := below_then hb2 hb3
            have hst3 := strs_below HST.out hb4
            have hb5 := below_then HB.out hb4
            have HS1 := Lib.hid (same_yes o1 W cap1 (nth (texts T W)) (some ⟨b, off, none⟩) cap T w3 hs3 (fun j hj => hst3 j (by omega)) (by omega) (fun j hj => nth_texts T W j hj))
            have HS2 := Lib.hid (fun (V : World) (hV : Below w3.heap.size w3 V) => same_yes o2 W cap2 (nth (texts T W)) (some ⟨b, off, none⟩) cap T V (strs_below hs2 hV) (strs_below hst3 hV) (by omega) (fun j hj => nth_texts T W j hj))
            have HB5 := Lib.hid hb5
            clear hs1 hs2 hs3 hst3 hb2 hb3 hb4 hb5
            go_wp2_with fail
            refine HS1.out.mono ?_
            rintro e w4 ⟨rfl, hb6⟩
            have HB6 := Lib.hid (below_then HB5.out hb6)
            have H2 := Lib.hid (HS2.out w4 hb6)
            clear hb6 HB5
            go_wp2_with fail
            refine H2.out.mono ?_
            rintro e w5 ⟨rfl, hb7⟩
            have HB7 := Lib.hid (below_then HB6.out hb7)
            clear hb7 HB6
            go_wp2_with fail
            refine (awake_any _).mono ?_
            rintro e w6 ⟨rfl, hb8⟩
            have hb9 := below_then HB7.out hb8
            go_wp2_with fail
            go_ret
            exact ⟨rfl, hb9⟩
          · obtain rfl : W = 0 := by omega
            cases a with
            | none =>
              obtain rfl : cap = 0 := hnil rfl
              clear hnil
              go_wp2_with fail
              refine (scan_any (X.extract 0 n) _ (by rw [ByteArray.size_extract]; omega)).mono ?_
              rintro e w2 ⟨v1, l1, a1, rfl, hsc1, _, hown1, hb2⟩
              obtain ⟨rfl, rfl⟩ := scan_one hsc1 HCut.out
              obtain ⟨o1, cap1, rfl, hs1⟩ := own_strs hown1
              rw [texts_length] at hs1 ⊢
              clear hown1 hsc1
              go_wp2_with fail
              refine (scan_any X _ (by omega)).mono ?_
              rintro e w3 ⟨v2, l2, a2, rfl, hsc2, _, hown2, hb3⟩
              obtain ⟨rfl, rfl⟩ := scan_one hsc2 HW.out
              obtain ⟨o2, cap2, rfl, hs2⟩ := own_strs hown2
              rw [texts_length] at hs2 ⊢
              clear hown2 hsc2
              have hs3 := strs_below hs1 hb3
              have hb4 := below_then hb2 hb3
              have hst3 := strs_below HST.out hb4
              have hb5 := below_then HB.out hb4
              have HS1 := Lib.hid (same_yes o1 0 cap1 (nth (texts T 0)) none 0 T w3 hs3 (fun j hj => hst3 j (by omega)) (by omega) (fun j hj => nth_texts T 0 j hj))
              have HS2 := Lib.hid (fun (V : World) (hV : Below w3.heap.size w3 V) => same_yes o2 0 cap2 (nth (texts T 0)) none 0 T V (strs_below hs2 hV) (strs_below hst3 hV) (by omega) (fun j hj => nth_texts T 0 j hj))
              have HB5 := Lib.hid hb5
              clear hs1 hs2 hs3 hst3 hb2 hb3 hb4 hb5
              go_wp2_with fail
              refine HS1.out.mono ?_
              rintro e w4 ⟨rfl, hb6⟩
              have HB6 := Lib.hid (below_then HB5.out hb6)
              have H2 := Lib.hid (HS2.out w4 hb6)
              clear hb6 HB5
              go_wp2_with fail
              refine H2.out.mono ?_
              rintro e w5 ⟨rfl, hb7⟩
              have HB7 := Lib.hid (below_then HB6.out hb7)
              clear hb7 HB6
              go_wp2_with fail
              refine (awake_any _).mono ?_
              rintro e w6 ⟨rfl, hb8⟩
              have hb9 := below_then HB7.out hb8
              go_wp2_with fail
              go_ret
              exact ⟨rfl, hb9⟩
            | some p =>
              go_wp2_with fail
              refine (scan_any (X.extract 0 n) _ (by rw [ByteArray.size_extract]; omega)).mono ?_
              rintro e w2 ⟨v1, l1, a1, rfl, hsc1, _, hown1, hb2⟩
              obtain ⟨rfl, rfl⟩ := scan_one hsc1 HCut.out
              obtain ⟨o1, cap1, rfl, hs1⟩ := own_strs hown1
              rw [texts_length] at hs1 ⊢
              clear hown1 hsc1
              go_wp2_with fail
              refine (scan_any X _ (by omega)).mono ?_
              rintro e w3 ⟨v2, l2, a2, rfl, hsc2, _, hown2, hb3⟩
              obtain ⟨rfl, rfl⟩ := scan_one hsc2 HW.out
              obtain ⟨o2, cap2, rfl, hs2⟩ := own_strs hown2
              rw [texts_length] at hs2 ⊢
              clear hown2 hsc2
              have hs3 := strs_below hs1 hb3
              have hb4 := below_then hb2 hb3
              have hst3 := strs_below HST.out hb4
              have hb5 := below_then HB.out hb4
              have HS1 := Lib.hid (same_yes o1 0 cap1 (nth (texts T 0)) (some p) cap T w3 hs3 (fun j hj => hst3 j (by omega)) (by omega) (fun j hj => nth_texts T 0 j hj))
              have HS2 := Lib.hid (fun (V : World) (hV : Below w3.heap.size w3 V) => same_yes o2 0 cap2 (nth (texts T 0)) (some p) cap T V (strs_below hs2 hV) (strs_below hst3 hV) (by omega) (fun j hj => nth_texts T 0 j hj))
              have HB5 := Lib.hid hb5
              clear hs1 hs2 hs3 hst3 hb2 hb3 hb4 hb5
              go_wp2_with fail
              refine HS1.out.mono ?_
              rintro e w4 ⟨rfl, hb6⟩
              have HB6 := Lib.hid (below_then HB5.out hb6)
              have H2 := Lib.hid (HS2.out w4 hb6)
              clear hb6 HB5
              go_wp2_with fail
              refine H2.out.mono ?_
              rintro e w5 ⟨rfl, hb7⟩
              have HB7 := Lib.hid (below_then HB6.out hb7)
              clear hb7 HB6
              go_wp2_with fail
              refine (awake_any _).mono ?_
              rintro e w6 ⟨rfl, hb8⟩
              have hb9 := below_then HB7.out hb8
              go_wp2_with fail
              go_ret
              exact ⟨rfl, hb9⟩
theorem lawCuts (a : Option Addr) (len cap : Nat) (T : Nat → ByteArray) (c : Nat) (w : World) (hc : Strs w a len T) (hl : len ≤ maxLen) (hm : ∀ j, j < len → (T j).size ≤ maxLen) (hk : len ≤ cap ∧ (a = none → cap = 0)) (hc16 : c < 65536) :
    Calls Try.prog 5 #[.slice a len cap, .int .u16 c] w fun e w' => e = .returned (.bool true) ∧ Below w.heap.size w w' := by
  by_cases hfew : len ≤ 10 ∧ ∀ j, j < len → (T j).size ≤ 256
  · exact lawCuts_yes a len cap T c w hc hk.1 hk.2 hfew.1 hfew.2 hc16
  · exact lawCuts_no a len cap T c w hc hl hm hfew
end Go.Proofs.Ytajmdcbnejkfgaa.Frame
