/- FeeWhole, for any fees that keep their contracts. -/
import Derived.Test.YtaffdddleegfcaaFeeI
namespace Go.Proofs.Ytaffdddleegfcaa.Fee
open Go.RowKit Go.Lib IRows

/-- A number's last 40 bits. -/
def mk (x : Int) : Int := x % 1099511627776
theorem mk_in (x : Int) : 0 ≤ mk x ∧ mk x < 1099511627776 := by unfold mk; omega
theorem and_mask (x : Int) : bits .and .i64 x 1099511627775 = mk x := by
  have h127 : (BitVec.ofInt 64 1099511627775).toNat = 2 ^ 40 - 1 := by decide
  have key : (BitVec.ofInt 64 x &&& BitVec.ofInt 64 1099511627775).toNat = (x % ((2 ^ 64 : Nat) : Int)).toNat % 2 ^ 40 := by
    rw [BitVec.toNat_and, BitVec.toNat_ofInt, h127, Nat.and_two_pow_sub_one_eq_mod]
  show IntKind.i64.wrap ((BitVec.ofInt 64 x &&& BitVec.ofInt 64 1099511627775).toNat : Nat) = mk x
  rw [key, IntKind.wrap_i64]
  unfold mk
  omega
theorem sum_mk {l : List Int} (h : l.length ≤ 16) : 0 ≤ sumL (l.map mk) ∧ sumL (l.map mk) ≤ 17592186044416 := by
  have h0 : ∀ x ∈ l.map mk, 0 ≤ x ∧ x ≤ 1099511627776 := fun x hx => by
    obtain ⟨y, _, rfl⟩ := List.mem_map.1 hx
    have := mk_in y
    omega
  have h1 := sumL_nonneg fun x hx => (h0 x hx).1
  have h2 := sumL_le (l := l.map mk) (M := 1099511627776) fun x hx => (h0 x hx).2
  rw [List.length_map] at h2
  omega
theorem mask_ok {n : Int} {ws : List Int} (h1 : 1 ≤ ws.length) (h2 : ws.length ≤ 16) : SplitOk (mk n) (ws.map mk) := by
  refine ⟨by have := mk_in n; omega, by rw [List.length_map]; exact h1, by rw [List.length_map]; exact h2, fun v hv => ?_⟩
  obtain ⟨y, _, rfl⟩ := List.mem_map.1 hv
  have := mk_in y
  omega
theorem take_map_succ {ws : List Int} {i : Nat} {x : Int} (h : ws[i]? = some x) : (ws.take (i + 1)).map mk = (ws.take i).map mk ++ [mk x] := by
  rw [List.take_add_one, h, List.map_append]
  rfl
set_option maxRecDepth 100000 in
set_option maxHeartbeats 16000000 in
theorem feeWhole_in (I : Impl) (n : Int) (a : Option Addr) (m c : Nat) (ws : List Int) (w : World) (hl : ws.length = m) (hs : IRow w a ws) :
    Calls Try.prog 5 #[.int .i64 n, .slice a m c] w fun e w' => e = .returned (.bool true) ∧ Below w.heap.size w w' := by
  have HAW := awake_at I w
  by_cases hno : (m : Int) < 1
  · have H0 := Lib.hid (HAW.out w (Below.refl _ _))
    have d1 : decide ((m : Int) < 1) = true := decide_eq_true hno
    clear hl hs HAW I
    go_enter Try.func5, Try.ntmps5
    go_wp2_with fail
    refine H0.out.mono ?_
    rintro e w1 ⟨rfl, B1⟩
    go_wp2_with fail
    go_ret
    exact ⟨rfl, B1.out⟩
  have d1 : decide ((m : Int) < 1) = false := decide_eq_false hno
  by_cases hno2 : 16 < (m : Int)
  · have H0 := Lib.hid (HAW.out w (Below.refl _ _))
    have d2 : decide (16 < (m : Int)) = true := decide_eq_true hno2
    clear hl hs HAW I
    go_enter Try.func5, Try.ntmps5
    go_wp2_with fail
    refine H0.out.mono ?_
    rintro e w1 ⟨rfl, B1⟩
    go_wp2_with fail
    go_ret
    exact ⟨rfl, B1.out⟩
  have d2 : decide (16 < (m : Int)) = false := decide_eq_false hno2
  have HM : Hid (1 ≤ m ∧ m ≤ 16) := Lib.hid ⟨by omega, by omega⟩
  have hm1 : (m : Int) ≤ 1048576 := by omega
  have HT := irow_all hs
  have HL := Lib.hid hl
  have hand := and_mask n
  have HSI : Hid (∀ j, 0 ≤ sumL ((ws.take j).map mk) ∧ sumL ((ws.take j).map mk) ≤ 17592186044416) := Lib.hid (fun j => sum_mk (by rw [List.length_take]; omega))
  obtain ⟨N, hN⟩ : ∃ N, mk n = N := ⟨_, rfl⟩
  have hNb := mk_in n
  rw [hN] at hand hNb
  obtain ⟨N0, N1⟩ := hNb
  -- what Split tells of them
  have HOK : Hid (SplitOk N (ws.map mk)) := Lib.hid (by rw [← hN]; exact mask_ok (by omega) (by omega))
  have HSP : Hid (∀ W a' c', Below w.heap.size w W → IRow W a' (ws.map mk) → Calls Try.prog 15 #[.int .i64 N, .slice a' m c'] W fun e w' => ∃ v, e = .returned (.tuple #[v, .int .i64 (errSp N (ws.map mk))]) ∧ Hid (KS w' W.heap.size v (valSp N (ws.map mk)) ∧ Below W.heap.size W w')) := Lib.hid (fun W a' c' hW hr => by
    refine (I.split N a' m c' (ws.map mk) W (by rw [List.length_map, hl]) hr (by omega) (by unfold I64; omega) (fun v hv => ?_)).mono fun _ _ ⟨v, e, h1, h2⟩ => ⟨v, e, Lib.hid ⟨h1, h2⟩⟩
    obtain ⟨y, _, rfl⟩ := List.mem_map.1 hv
    have := mk_in y
    unfold I64
    omega)
  clear hl hs I hN hno hno2
  go_enter Try.func5, Try.ntmps5
  go_wp2_with fail
  go_loopw [5, 6, 7] (fun s t u wr => ∃ (z : Int) (i : Nat), t = .int .i64 z ∧ u = .int .i64 i ∧ i ≤ m ∧ 0 ≤ z ∧ z ≤ 17592186044416 ∧ Hid (sumL ((ws.take i).map mk) = z) ∧ Hid (KS wr w.heap.size s ((ws.take i).map mk)) ∧ Hid (Below w.heap.size w wr)) (fun _ _ u _ => m - (RowKit.intOf u).toNat)
  case atStart => exact ⟨0, 0, rfl, rfl, by omega, by omega, by omega, Lib.hid rfl, Lib.hid (ks_nil _ _), Lib.hid (Below.refl _ _)⟩
  case round =>
    obtain ⟨z, i, rfl, rfl, hi, z0, z1, HZ, HK, HB⟩ := hrel
    have hi0 : (0 : Int) ≤ (i : Int) := by omega
    by_cases hlt : i < m
    · have hlt2 : (i : Int) < (m : Int) := by omega
      obtain ⟨g, off, x, rfl, hx, HC⟩ := HT.out i (by rw [HL.out]; exact hlt)
      have k0 := HC.out wr HB.out
      have hax := and_mask x
      have hyb := mk_in x
      have hZ2 : sumL ((ws.take (i + 1)).map mk) = z + mk x := by rw [take_map_succ hx.out, sumL_append, HZ.out]; simp [sumL]
      have hzb := HSI.out (i + 1)
      have htk := take_map_succ hx.out
      obtain ⟨y, hy⟩ : ∃ y, mk x = y := ⟨_, rfl⟩
      rw [hy] at hax hyb hZ2 htk
      rw [hZ2] at hzb
      obtain ⟨z2, z3⟩ := hzb
      have hlen : ((ws.take i).map mk).length = i := by rw [List.length_map, List.length_take, HL.out]; omega
      obtain ⟨g1, c1, w2, hr1, h1, h2, _, _, _⟩ := app_int wr w.heap.size _ _ y HK.out (by rw [hlen]; have := HM.out; omega) HB.out.size
      rw [hlen] at hr1 h1
      rw [← htk] at h1
      have HR := Lib.hid hr1; have HK2 := Lib.hid h1
      have HB2 := Lib.hid (HB.out.trans h2)
      have k1 := HC.out w2 HB2.out
      have HZ2 := Lib.hid hZ2
      obtain ⟨y0, y1⟩ := hyb
      clear hy hZ2 htk hlen hr1 h1 h2
      go_wp2_with (at_builtin; refine walk_run (v' := .slice (some ⟨g1, 0, none⟩) (i + 1) c1) (w' := w2) rfl _ _ _ _ rfl _ _ rfl rfl HR.out ?_)
      go_roundw
      case rel => exact ⟨z + y, i + 1, by go_num, by go_num, by omega, z2, z3, HZ2, HK2, HB2⟩
      case measure => simp [RowKit.intOf]; omega
    · obtain rfl : i = m := by omega
      have htk : ws.take i = ws := List.take_of_length_le (by rw [HL.out]; exact Nat.le_refl _)
      rw [htk] at HK HZ
      obtain ⟨aw, cw, hv, hsh, _⟩ := HK.out.at
      have hmlen : (ws.map mk).length = i := by rw [List.length_map, HL.out]
      rw [hmlen] at hv hsh
      obtain ⟨gw, rfl, _, _⟩ := hsh (by have := HM.out; omega)
      subst hv
      have HKI : Hid (IRow wr (some ⟨gw, 0, none⟩) (ws.map mk)) := Lib.hid (by
        obtain ⟨a', c', e, h⟩ := irow_own HK.out
        injection e with e _ _
        subst e
        exact h)
      have HC := Lib.hid (HSP.out wr (some ⟨gw, 0, none⟩) cw HB.out HKI.out)
      have HML := Lib.hid hmlen
      clear htk hsh hmlen HSP HT
      by_cases c0 : z = 0
      · have he := sp_none HOK.out (by rw [HZ.out]; exact c0)
        rw [he.1, he.2] at HC
        subst c0
        go_wp2_with fail
        refine HC.out.mono ?_
        rintro e w1 ⟨v, rfl, HV⟩
        obtain ⟨a1, d, hv1, _, _⟩ := HV.out.1.at
        subst hv1
        have HA2 := Lib.hid (HAW.out w1 (below_then HB.out HV.out.2))
        go_wp2_with fail
        refine HA2.out.mono ?_
        rintro e w2 ⟨rfl, B2⟩
        go_wp2_with fail
        go_ret
        exact ⟨rfl, B2.out⟩
      · have hz : (z == 0) = false := by simpa using c0
        have he := sp_ok HOK.out (by rw [HZ.out]; omega) (by rw [HZ.out]; exact c0)
        rw [he.1, he.2, HZ.out] at HC
        have HZP : Hid (1 ≤ z) := Lib.hid (by omega)
        have hzp : 0 < z := by omega
        have hms : ∀ v ∈ ws.map mk, 0 ≤ v := fun v hv => (HOK.out.2.2.2 v hv).1
        have hmz : ∀ b, b < i → 0 ≤ nth (ws.map mk) b ∧ nth (ws.map mk) b ≤ z := fun b hb => by
          have h1 := List.mem_of_getElem? (nth_some (l := ws.map mk) (i := b) (by rw [HML.out]; exact hb))
          exact ⟨hms _ h1, by have := mem_le_sum hms h1; rw [HZ.out] at this; exact this⟩
        have HPT : Hid (∀ b, b < i → (∀ W, Calls Try.prog 18 #[.int .i64 N, .int .i64 (nth (ws.map mk) b), .int .i64 z, .bool false] W fun e w' => e = .returned (.tuple #[.int .i64 (N * nth (ws.map mk) b / z), .int .i64 0]) ∧ W = w') ∧ 0 ≤ N * nth (ws.map mk) b / z ∧ N * nth (ws.map mk) b / z ≤ N) := Lib.hid (fun b hb => by
          obtain ⟨h1, _, h2, h3⟩ := part_at (S := z) N0 (by omega) (hmz b hb).1 (hmz b hb).2 (by omega) (by omega)
          exact ⟨h1, h2, h3⟩)
        have HLL : Hid ((shares N z (ws.map mk)).length = i) := Lib.hid (by rw [shares_length, HML.out])
        have HNR : Hid (∀ b, b < i → N * nth (ws.map mk) b / z ≤ nth (shares N z (ws.map mk)) b ∧ nth (shares N z (ws.map mk)) b ≤ N * nth (ws.map mk) b / z + 1) := Lib.hid (fun b hb => shares_near (by rw [HML.out]; exact hb))
        have HMR : Hid (∀ b k, b < i → k < i → nth (ws.map mk) b < nth (ws.map mk) k → nth (shares N z (ws.map mk)) b ≤ nth (shares N z (ws.map mk)) k) := Lib.hid (fun b k hb hk h => shares_more N0 hzp HZ.out hms (by rw [HML.out]; exact hb) (by rw [HML.out]; exact hk) h)
        have HSUM : Hid (sumL (shares N z (ws.map mk)) = N) := Lib.hid (shares_sum hzp HZ.out)
        obtain ⟨L, hLL⟩ : ∃ L, shares N z (ws.map mk) = L := ⟨_, rfl⟩
        rw [hLL] at HC HLL HNR HMR HSUM
        have HTK : Hid (∀ b, 0 ≤ sumL (L.take b) ∧ sumL (L.take b) ≤ N) := Lib.hid (fun b => by
          have h0 : ∀ x ∈ L, 0 ≤ x := fun x hx => by
            obtain ⟨d, hd, e⟩ := List.mem_iff_getElem.1 hx
            have hd2 : d < i := by have := HLL.out; omega
            have h1 := (HNR.out d hd2).1
            have h2 := (HPT.out d hd2).2.1
            have h3 : nth L d = x := nth_of (by rw [List.getElem?_eq_getElem hd, e])
            omega
          have h1 := sumL_take_le h0 b
          rw [HSUM.out] at h1
          exact ⟨sumL_nonneg fun x hx => h0 x (List.mem_of_mem_take hx), h1⟩)
        clear c0 hzp hms hmz hLL
        go_wp2_with fail
        refine HC.out.mono ?_
        rintro e w1 ⟨v, rfl, HV⟩
        obtain ⟨al, cl, hv1, hsl, _⟩ := HV.out.1.at
        rw [HLL.out] at hv1 hsl
        obtain ⟨gl, rfl, _, _⟩ := hsl (by have := HM.out; omega)
        subst hv1
        have HCW : Hid (∀ W, Below w1.heap.size w1 W → ∀ b, b < i → W.cell? ⟨gw, b, none⟩ = some (.int .i64 (nth (ws.map mk) b)) ∧ W.cell? ⟨gl, b, none⟩ = some (.int .i64 (nth L b))) := Lib.hid (fun W hW b hb => by
          have h1 := HKI.out.under (below_then HV.out.2 hW)
          obtain ⟨g, off, e, _, h2⟩ := h1 b _ (nth_some (by rw [HML.out]; exact hb))
          cases e
          obtain ⟨a3, c3, e3, _, h3⟩ := (HV.out.1.under hW).at
          injection e3 with e3 _ _
          subst e3
          obtain ⟨g, e, _, h4, _⟩ := h3 b _ (nth_some (by rw [HLL.out]; exact hb))
          cases e
          rw [Nat.zero_add] at h2
          exact ⟨h2, h4⟩)
        have HB1 := Lib.hid (below_then HB.out HV.out.2)
        have d3 : ((i : Int) == (i : Int)) = true := by simp
        clear hsl HC HV HKI
        go_wp2_with fail
        go_loopw [11, 12] (fun s t wx => ∃ (y : Int) (b : Nat), s = .int .i64 y ∧ t = .int .i64 b ∧ b ≤ i ∧ 0 ≤ y ∧ y ≤ 1099511627776 ∧ Hid (sumL (L.take b) = y) ∧ Hid (Below w1.heap.size w1 wx)) (fun _ t _ => i - (RowKit.intOf t).toNat)
        case atStart => exact ⟨0, 0, rfl, rfl, by omega, by omega, by omega, Lib.hid rfl, Lib.hid (Below.refl _ _)⟩
        case round =>
          obtain ⟨y, b, rfl, rfl, hb, y0, y1, HY, HBX⟩ := hrel
          have hb0 : (0 : Int) ≤ (b : Int) := by omega
          by_cases hlt : b < i
          · have hlt2 : (b : Int) < (i : Int) := by omega
            obtain ⟨kw, kl⟩ := HCW.out wr HBX.out b hlt
            obtain ⟨hsc, p0, p1⟩ := HPT.out b hlt
            obtain ⟨r0, r1⟩ := HNR.out b hlt
            have hmr := HMR.out b
            have hY2 := sumL_take_succ (nth_some (l := L) (i := b) (by rw [HLL.out]; exact hlt))
            have hyb := HTK.out (b + 1)
            rw [hY2, HY.out] at hyb
            rw [HY.out] at hY2
            have HCQ : Hid (∀ W, Below w1.heap.size w1 W → W.cell? ⟨gw, b, none⟩ = some (.int .i64 (nth (ws.map mk) b)) ∧ W.cell? ⟨gl, b, none⟩ = some (.int .i64 (nth L b))) := Lib.hid (fun W hW => HCW.out W hW b hlt)
            obtain ⟨p, hp⟩ : ∃ p, nth L b = p := ⟨_, rfl⟩
            obtain ⟨q, hq⟩ : ∃ q, nth (ws.map mk) b = q := ⟨_, rfl⟩
            rw [hp] at kl r0 r1 hmr hY2 hyb HCQ
            rw [hq] at kw hsc p0 p1 r0 r1 hmr HCQ
            obtain ⟨d, hd⟩ : ∃ d, N * q / z = d := ⟨_, rfl⟩
            rw [hd] at hsc p0 p1 r0 r1
            obtain ⟨y2, y3⟩ := hyb
            have HMQ := Lib.hid hmr
            have HSC := Lib.hid hsc
            have HY2 := Lib.hid hY2
            have f1 : decide (p < d) = false := decide_eq_false (by omega)
            have f2 : decide (d + 1 < p) = false := decide_eq_false (by omega)
            have w1' : IntKind.i64.wrap (d + 1) = d + 1 := IntWalk.i64_in _ (by omega)
            have w2' : IntKind.i64.wrap (y + p) = y + p := IntWalk.i64_in _ (by omega)
            clear hp hq hd hsc hmr hY2
            go_wp2_with fail
            refine (HSC.out wr).mono ?_
            rintro e w3 ⟨rfl, rfl⟩
            go_wp2_with fail
            go_loopw [15] (fun u wx => ∃ k : Nat, u = .int .i64 k ∧ k ≤ i ∧ Hid (Below w1.heap.size w1 wx)) (fun u _ => i - (RowKit.intOf u).toNat)
            case atStart => exact ⟨0, rfl, by omega, HBX⟩
            case round =>
              clear kw kl HBX
              obtain ⟨k, rfl, hk, HBX⟩ := hrel
              have hk0 : (0 : Int) ≤ (k : Int) := by omega
              by_cases hltk : k < i
              · have hltk2 : (k : Int) < (i : Int) := by omega
                obtain ⟨kw, kl⟩ := HCQ.out wr HBX.out
                obtain ⟨kw2, kl2⟩ := HCW.out wr HBX.out k hltk
                have hmq := HMQ.out k hlt hltk
                obtain ⟨pk, hpk⟩ : ∃ p, nth L k = p := ⟨_, rfl⟩
                obtain ⟨qk, hqk⟩ : ∃ q, nth (ws.map mk) k = q := ⟨_, rfl⟩
                rw [hpk] at kl2 hmq
                rw [hqk] at kw2 hmq
                clear hpk hqk
                by_cases c1 : q < qk
                · have g1 : decide (q < qk) = true := decide_eq_true c1
                  have g2 : decide (pk < p) = false := decide_eq_false (by have := hmq c1; omega)
                  clear c1 hmq
                  go_wp2_with fail
                  go_quiet (fail)
                  go_wp2_with fail
                  go_roundw
                  case rel => exact ⟨k + 1, by go_num, by omega, Lib.hid (below_drewN HBX.out _)⟩
                  case measure => simp [RowKit.intOf]; omega
                · have g1 : decide (q < qk) = false := decide_eq_false c1
                  clear c1 hmq
                  go_wp2_with fail
                  go_quiet (fail)
                  go_wp2_with fail
                  go_roundw
                  case rel => exact ⟨k + 1, by go_num, by omega, Lib.hid (below_drewN HBX.out _)⟩
                  case measure => simp [RowKit.intOf]; omega
              · obtain rfl : k = i := by omega
                go_wp2_with fail
                go_roundw
                case rel => exact ⟨y + p, b + 1, by go_num, by go_num, by omega, y2, by omega, HY2, HBX⟩
                case measure => simp [RowKit.intOf]; omega
          · obtain rfl : b = i := by omega
            obtain rfl : y = N := by
              rw [← HY.out, ← HSUM.out, List.take_of_length_le (by rw [HLL.out]; exact Nat.le_refl _)]
            have f1 : (y == y) = true := by simp
            have HA2 := Lib.hid (HAW.out wr (below_then HB1.out HBX.out))
            go_wp2_with fail
            refine HA2.out.mono ?_
            rintro e w2 ⟨rfl, B2⟩
            go_wp2_with fail
            go_ret
            exact ⟨rfl, B2.out⟩
end Go.Proofs.Ytaffdddleegfcaa.Fee
