/- The walks over the laws FramePuts and FrameScans. -/
import Derived.Test.YtajmdcbnejkfgaaFrameL
namespace Go.Proofs.Ytajmdcbnejkfgaa.Frame
open Go.RowKit Go.Lib

set_option maxRecDepth 100000 in
set_option maxHeartbeats 1000000 in
theorem lawScans (s : ByteArray) (w : World) (hs : s.size ≤ maxLen) :
    Calls Try.prog 4 #[.string s] w fun e w' => e = .returned (.bool true) ∧ Below w.heap.size w w' := by
  unfold maxLen at hs
  by_cases hbig : 2048 < s.size
  · go_enter Try.func4, Try.ntmps4
    go_wp2_with fail
    refine (awake_any _).mono ?_
    rintro e w' ⟨rfl, hb⟩
    go_wp2_with fail
    go_ret
    exact ⟨rfl, hb⟩
  · have h1 : s.size ≤ 1048576 := by omega
    have H1 := Lib.hid h1
    go_enter Try.func4, Try.ntmps4
    go_wp2_with fail
    refine (scan_any s _ H1.out).mono ?_
    rintro e w1 ⟨v, l, a, rfl, hsc, hal, hown, hb1⟩
    obtain ⟨ao, cap, rfl, hst⟩ := own_strs hown
    have hlen := reads_len s l 0 a hsc.1
    have HSC := Lib.hid hsc
    clear hown hsc
    go_wp2_with fail
    refine (rscan_any s _ H1.out).mono ?_
    rintro e w2 ⟨v2, l2, a2, rfl, hsc2, _, hown2, hb2⟩
    obtain ⟨rfl, rfl⟩ := scan_one HSC.out hsc2
    obtain ⟨ao2, cap2, rfl, hst2⟩ := own_strs hown2
    have HSame := Lib.hid (same_yes ao l.length cap (nth l) ao2 cap2 (nth l) _ (strs_below hst hb2) hst2 (by omega) (fun _ _ => rfl))
    have HB := Lib.hid (below_then hb1 hb2)
    clear hst hst2 hown2 hsc2 hb1 hb2
    go_wp2_with fail
    refine HSame.out.mono ?_
    rintro e w3 ⟨rfl, hb3⟩
    have hb4 := below_then HB.out hb3
    clear hb3
    go_wp2_with fail
    refine (awake_any _).mono ?_
    rintro e w4 ⟨rfl, hb5⟩
    have hb6 := below_then hb4 hb5
    go_wp2_with fail
    go_ret
    exact ⟨rfl, hb6⟩
set_option maxRecDepth 100000 in
set_option maxHeartbeats 2000000 in
theorem lawPuts (s : ByteArray) (a : Option Addr) (len cap : Nat) (T : Nat → ByteArray) (n : Int) (w : World) (hs : s.size ≤ maxLen) (hl : len ≤ maxLen) (hc : Strs w a len T) (hm : ∀ j, j < len → (T j).size ≤ maxLen)
    (hn : -9223372036854775808 ≤ n ∧ n ≤ 9223372036854775807) :
    Calls Try.prog 3 #[.string s, .slice a len cap, .int .i64 n] w fun e w' => e = .returned (.bool true) ∧ Below w.heap.size w w' := by
  have hs' := hs
  unfold maxLen at hs hl
  by_cases hbig : 8192 < s.size
  · go_enter Try.func3, Try.ntmps3
    go_wp2_with fail
    refine (awake_any _).mono ?_
    rintro e w' ⟨rfl, hb⟩
    go_wp2_with fail
    go_ret
    exact ⟨rfl, hb⟩
  · by_cases hfew : len ≤ 12 ∧ ∀ j, j < len → (T j).size ≤ 512
    · have HF : Hid (∀ W, Below w.heap.size w W → Calls Try.prog 7 #[.slice a len cap, .int .i64 12, .int .i64 512] W fun e w' => e = .returned (.bool true) ∧ W = w') :=
        Lib.hid (fun W hW => few_yes 12 512 a len cap T W (by omega) (strs_below hc hW) hfew.1 hfew.2)
      have HC := Lib.hid hc; have HM := Lib.hid hm; have HS := Lib.hid hs'
      obtain ⟨hl12, _⟩ := hfew
      obtain ⟨P, hPP⟩ : ∃ P, putB s = P := ⟨_, rfl⟩
      obtain ⟨Q, hQQ⟩ : ∃ Q, putE s = Q := ⟨_, rfl⟩
      obtain ⟨X, hX⟩ : ∃ X, allS T len = X := ⟨_, rfl⟩
      obtain ⟨Y, hY⟩ : ∃ Y, allE T len = Y := ⟨_, rfl⟩
      obtain ⟨Z, hZ⟩ : ∃ Z, sz n = Z := ⟨_, rfl⟩
      have HV : Hid (putV s = .tuple #[.string P, .int .i64 Q]) := Lib.hid (by rw [← hPP, ← hQQ])
      have HA : Hid (allV T len = .tuple #[.string X, .int .i64 Y]) := Lib.hid (by rw [← hX, ← hY])
      have HZ := Lib.hid hZ; have HN := Lib.hid hn
      clear hPP hQQ hX hY hZ hc hm hs' hn
      go_enter Try.func3, Try.ntmps3
      go_wp2_with fail
      refine (HF.out _ (Below.refl _ _)).mono ?_
      rintro e w' ⟨rfl, rfl⟩
      clear HF
      go_wp2_with fail
      refine (put_any s _ HS.out).mono ?_
      rintro e w1 ⟨rfl, hb1⟩
      rw [HV.out]
      go_wp2_with fail
      refine (rput_any s _ HS.out).mono ?_
      rintro e w2 ⟨rfl, hb2⟩
      rw [HV.out]
      have hb3 := below_then hb1 hb2
      clear hb1 hb2
      go_wp2_with fail
      refine (all_any a len cap T _ (strs_below HC.out hb3) HM.out (by omega)).mono ?_
      rintro e w3 ⟨rfl, hb4⟩
      rw [HA.out]
      have hb5 := below_then hb3 hb4
      clear hb3 hb4
      go_wp2_with fail
      refine (rall_any a len cap T _ (strs_below HC.out hb5) HM.out (by omega)).mono ?_
      rintro e w4 ⟨rfl, hb6⟩
      rw [HA.out]
      have hb7 := below_then hb5 hb6
      clear hb5 hb6
      go_wp2_with fail
      refine (size_any n _ HN.out).mono ?_
      rintro e w' ⟨rfl, rfl⟩
      rw [HZ.out]
      go_wp2_with fail
      refine (rsize_any n _ HN.out).mono ?_
      rintro e w' ⟨rfl, rfl⟩
      rw [HZ.out]
      go_wp2_with fail
      refine (awake_any _).mono ?_
      rintro e w5 ⟨rfl, hb8⟩
      have hb9 := below_then hb7 hb8
      go_wp2_with fail
      go_ret
      exact ⟨rfl, hb9⟩
    · have HF : Hid (∀ W, Below w.heap.size w W → Calls Try.prog 7 #[.slice a len cap, .int .i64 12, .int .i64 512] W fun e w' => e = .returned (.bool false) ∧ W = w') :=
        Lib.hid (fun W hW => few_no 12 512 a len cap T W (by omega) (strs_below hc hW) hm hl hfew)
      clear hc hm hfew
      go_enter Try.func3, Try.ntmps3
      go_wp2_with fail
      refine (HF.out _ (Below.refl _ _)).mono ?_
      rintro e w' ⟨rfl, rfl⟩
      go_wp2_with fail
      refine (awake_any _).mono ?_
      rintro e w' ⟨rfl, hb⟩
      go_wp2_with fail
      go_ret
      exact ⟨rfl, hb⟩
end Go.Proofs.Ytajmdcbnejkfgaa.Frame
