/- The program's Split. -/
import Derived.Test.YtaffdddleegfcaaFeeImC
import Derived.Test.YtaffdddleegfcaaFeeImD
import Derived.Deep.Cut
import Derived.Deep.CutRange
import Derived.Deep.DeepCutAuto
namespace Go.Proofs.Ytaffdddleegfcaa.Fee
open Go.RowKit Go.Lib IRows

/-- Two rows that make has made. -/
theorem two_made (w : World) (n : Nat) {B : Nat} (hB : B ≤ w.heap.size) (hn : n ≤ 1048576) : Two ((w.alloc (.cells (madeCells #[(Value.int .i64 0)] n) 3)).alloc (.cells (madeCells #[(Value.int .i64 0)] n) 3)).drew B (.slice (some ⟨w.heap.size, 0, none⟩) n n) (List.replicate n 0) (.slice (some ⟨w.heap.size + 1, 0, none⟩) n n) (List.replicate n 0) := by
  have h1 := ks_made w n hB hn
  have h2 := ks_made (w.alloc (.cells (madeCells #[(Value.int .i64 0)] n) 3)) n (B := B) (by simp; omega) hn
  rw [World.size_alloc] at h2
  refine ⟨(h1.under ((Below.refl _ _).alloc (Nat.le_refl _) _)).under ((Below.refl _ _).drew), h2.under ((Below.refl _ _).drew), fun g hg hg2 => ?_⟩
  simp [Value.ownBlock] at hg hg2
  omega
/-- So much of a row is there, zeros behind. -/
def fp (F : List Int) (m i : Nat) : List Int := F.take i ++ List.replicate (m - i) 0
theorem fp_zero (F : List Int) (m : Nat) : fp F m 0 = List.replicate m 0 := by simp [fp]
theorem fp_all {F : List Int} {m : Nat} (h : F.length = m) : fp F m m = F := by simp [fp, ← h]
theorem fp_length {F : List Int} {m i : Nat} (h : F.length = m) (hi : i ≤ m) : (fp F m i).length = m := by simp [fp]; omega
theorem fp_set {F : List Int} {m i : Nat} (h : F.length = m) (hi : i < m) : (fp F m i).set i (nth F i) = fp F m (i + 1) := by
  obtain ⟨k, hk⟩ : ∃ k, m - i = k + 1 := ⟨m - i - 1, by omega⟩
  have e1 : F.take (i + 1) = F.take i ++ [nth F i] := by rw [List.take_add_one, nth_some (by omega)]; rfl
  have e2 : (F.take i).length = i := by rw [List.length_take]; omega
  unfold fp
  rw [hk, show m - (i + 1) = k by omega, List.replicate_succ, e1, List.set_append_right _ _ (by omega), e2, Nat.sub_self]
  simp
/-- What a share comes to, in the program. -/
theorem ppart {n S x : Int} (n0 : 0 ≤ n) (n1 : n ≤ 1152921504606846976) (x0 : 0 ≤ x) (x1 : x ≤ S) (S0 : 1 ≤ S) (S1 : S ≤ 1152921504606846976) :
    (∀ W, Calls Try.prog 20 #[.int .i64 n, .int .i64 x, .int .i64 S, .bool false] W fun e w' => e = .returned (.tuple #[.int .i64 (n * x / S), .int .i64 0]) ∧ Below W.heap.size W w') ∧
    (∀ W, Calls Try.prog 22 #[.int .i64 n, .int .i64 x, .int .i64 S] W fun e w' => e = .returned (.int .i64 (n * x % S)) ∧ Below W.heap.size W w') ∧ 0 ≤ n * x / S ∧ n * x / S ≤ n := by
  have h0 : 0 ≤ n * x := Int.mul_nonneg n0 x0
  have h1 : n * x ≤ n * S := Int.mul_le_mul_of_nonneg_left x1 n0
  have h2 : n * S ≤ 1152921504606846976 * S := Int.mul_le_mul_of_nonneg_right n1 (by omega)
  refine ⟨fun W => ?_, fun W => rest_im n x S W n0 (by omega) x0 (by omega) S0 (by omega), Int.ediv_nonneg h0 (by omega), Int.ediv_le_of_le_mul (by omega) h1⟩
  have := pscale n x S false W n0 (by omega) x0 (by omega) S0 (by omega) (by omega)
  unfold sc at this
  rw [if_neg (by simp)] at this
  exact this
/-- Two rows' cells at a place. -/
theorem Two.cells {w : World} {B g1 g2 n1 c1 n2 c2 : Nat} {l1 l2 : List Int} (h : Two w B (.slice (some ⟨g1, 0, none⟩) n1 c1) l1 (.slice (some ⟨g2, 0, none⟩) n2 c2) l2) :
    (∀ d x, l1[d]? = some x → w.cell? ⟨g1, d, none⟩ = some (.int .i64 x) ∧ w.frozen? ⟨g1, d, none⟩ = false) ∧ ∀ d x, l2[d]? = some x → w.cell? ⟨g2, d, none⟩ = some (.int .i64 x) ∧ w.frozen? ⟨g2, d, none⟩ = false := by
  obtain ⟨a3, c4, e3, _, h3⟩ := h.one.at
  obtain ⟨a4, c5, e4, _, h4⟩ := h.two.at
  injection e3 with e3 _ _
  injection e4 with e4 _ _
  subst e3
  subst e4
  refine ⟨fun d x hd => ?_, fun d x hd => ?_⟩
  · obtain ⟨g, e, _, h5, h6⟩ := h3 d x hd
    cases e
    exact ⟨h5, h6⟩
  · obtain ⟨g, e, _, h5, h6⟩ := h4 d x hd
    cases e
    exact ⟨h5, h6⟩
set_option maxRecDepth 100000 in
set_option maxHeartbeats 16000000 in
theorem split_im (n : Int) (a : Option Addr) (m c : Nat) (ws : List Int) (w : World) (hl : ws.length = m) (hs : IRow w a ws) (hm : m ≤ 1024) :
    Calls Try.prog 15 #[.int .i64 n, .slice a m c] w fun e w' => ∃ v, e = .returned (.tuple #[v, .int .i64 (errSp n ws)]) ∧ KS w' w.heap.size v (valSp n ws) ∧ Below w.heap.size w w' := by
  have HWE := Lib.hid (weigh_im n a m c ws w hl hs (by omega))
  by_cases he : errSp n ws = 0
  case neg =>
    have HV : Hid (valSp n ws = []) := Lib.hid (by unfold valSp; rw [if_neg he])
    obtain ⟨x, hx⟩ : ∃ x, errSp n ws = x := ⟨_, rfl⟩
    rw [allW_no he, hx] at HWE
    rw [hx] at he ⊢
    have h1 : (x == 0) = false := by simpa using he
    have h2 : (x != 0) = true := by simpa using he
    clear hx hs hl hm
    go_enter Try.func15, Try.ntmps15
    go_wp2_with fail
    refine HWE.out.mono ?_
    rintro e w' ⟨rfl, rfl⟩
    go_wp2_with fail
    go_ret2
    exact ⟨_, rfl, by rw [HV.out]; exact ks_nil _ _, Below.refl _ _⟩
  have hok : SplitOk n ws ∧ ¬ 1152921504606846976 < sumL ws ∧ sumL ws ≠ 0 := by
    unfold errSp at he
    split at he
    · split at he
      · omega
      · split at he
        · omega
        · exact ⟨by assumption, by assumption, by assumption⟩
    · omega
  obtain ⟨⟨⟨n0, n1⟩, m0, m1, hw⟩, hle, hne⟩ := hok
  have HV : Hid (valSp n ws = shares n (sumL ws) ws) := Lib.hid (by unfold valSp; rw [if_pos he])
  have hnn := sumL_nonneg fun v hv => (hw v hv).1
  rw [allW_yes he, he] at HWE
  rw [he]
  have HF0 : Hid (∀ j, 0 ≤ n - sumL ((flo n (sumL ws) ws).take j) ∧ n - sumL ((flo n (sumL ws) ws).take j) ≤ n) := Lib.hid (fun j => by
    have hp := flo_in (n := n) (S := sumL ws) (ws := ws) (by omega) n0 (fun v hv => (hw v hv).1)
    have h1 := sumL_take_le hp j
    have h2 := (more_in (n := n) (S := sumL ws) (ws := ws) (by omega) rfl).1
    have h3 := sumL_nonneg (l := (flo n (sumL ws) ws).take j) (fun v hv => hp v (List.mem_of_mem_take hv))
    unfold moreN at h2
    omega)
  have HX : Hid (∀ x ∈ ws, 0 ≤ x ∧ x ≤ sumL ws) := Lib.hid (fun x hx => ⟨(hw x hx).1, mem_le_sum (fun v hv => (hw v hv).1) hx⟩)
  have HMO : Hid (moreN n (sumL ws) ws < m) := Lib.hid (by
    have h2 := (more_in (n := n) (S := sumL ws) (ws := ws) (by omega) rfl).2
    rw [hl] at h2
    exact h2)
  obtain ⟨z, hz⟩ : ∃ z, sumL ws = z := ⟨_, rfl⟩
  rw [hz] at HWE HV HF0 HX HMO
  have HZ : Hid (1 ≤ z ∧ z ≤ 1152921504606846976) := Lib.hid (by omega)
  have HT := irow_all hs
  have HL := Lib.hid hl
  have HM : Hid (1 ≤ m ∧ m ≤ 16) := Lib.hid (by omega)
  have hm1 : (m : Int) ≤ 1048576 := by omega
  have hmk := run_make_row' (P := Try.prog) 31 3 (.int .i64 0) 8 Try.underlying31 info_one rfl .i64 .i64 m (by omega) (by omega)
  have HF : Hid ((flo n z ws).length = m ∧ (rst n z ws).length = m ∧ ∀ i x, ws[i]? = some x → nth (flo n z ws) i = n * x / z ∧ nth (rst n z ws) i = n * x % z) := Lib.hid ⟨by rw [flo_length, hl], by rw [rst_length, hl], fun i x hx => by
    have hi := (List.getElem?_eq_some_iff.1 hx).1
    rw [flo_nth hi, rst_nth hi, nth_of hx]
    exact ⟨rfl, rfl⟩⟩
  clear hz hs hl hm hw hle hne hnn he m0 m1
  go_enter Try.func15, Try.ntmps15
  go_wp2_with fail
  refine HWE.out.mono ?_
  rintro e w' ⟨rfl, rfl⟩
  clear HWE
  go_wp2_with fail
  go_cut [8, 9] from 24 to 29 (fun s t wx => ∃ g1 g2, s = .slice (some ⟨g1, 0, none⟩) m m ∧ t = .slice (some ⟨g2, 0, none⟩) m m ∧ Hid (Two wx w.heap.size s (List.replicate m 0) t (List.replicate m 0) ∧ Below w.heap.size w wx))
  case first =>
    go_region
    all_goals
      go_wp2_with fail
      go_meet
      exact ⟨_, _, rfl, rfl, Lib.hid ⟨by first | exact two_made w m (Nat.le_refl _) (by have := HM.out; omega) | exact (two_made w m (Nat.le_refl _) (by have := HM.out; omega)).swap, (((Below.refl _ w).alloc (Nat.le_refl _) _).alloc (by simp) _).drew⟩⟩
  case rest =>
    obtain ⟨g1, g2, rfl, rfl, H0⟩ := hcut
    clear hmk
    go_wp2_with fail
    go_loopw [10, 33] (fun s t wr => ∃ (y : Int) (i : Nat), s = .int .i64 y ∧ t = .int .i64 i ∧ i ≤ m ∧ 0 ≤ y ∧ y ≤ 1152921504606846976 ∧ Hid (n - sumL ((flo n z ws).take i) = y) ∧ Hid (Two wr w.heap.size (.slice (some ⟨g1, 0, none⟩) m m) (fp (flo n z ws) m i) (.slice (some ⟨g2, 0, none⟩) m m) (fp (rst n z ws) m i)) ∧ Hid (Below w.heap.size w wr)) (fun _ t _ => m - (RowKit.intOf t).toNat)
    case atStart => exact ⟨n, 0, rfl, rfl, by omega, n0, n1, Lib.hid (by rw [List.take_zero]; simp [sumL]), Lib.hid (by rw [fp_zero, fp_zero]; exact H0.out.1), Lib.hid H0.out.2⟩
    case round =>
      clear H0
      obtain ⟨y, i, rfl, rfl, hi, y0, y1, HY, HTW, HB⟩ := hrel
      have hi0 : (0 : Int) ≤ (i : Int) := by omega
      by_cases hlt : i < m
      · have hlt2 : (i : Int) < (m : Int) := by omega
        obtain ⟨g, off, x, rfl, hx, HC⟩ := HT.out i (by rw [HL.out]; exact hlt)
        have k0 := HC.out wr HB.out
        obtain ⟨x0, x1⟩ := HX.out x (List.mem_of_getElem? hx.out)
        obtain ⟨hsc, hlf, p0, p1⟩ := ppart n0 n1 x0 x1 HZ.out.1 HZ.out.2
        have hfx := HF.out.2.2 i x hx.out
        have hy2 := HF0.out (i + 1)
        have hys : n - sumL ((flo n z ws).take (i + 1)) = y - n * x / z := by rw [take_flo hx.out, sumL_append, ← HY.out]; simp [sumL]; omega
        obtain ⟨p, hp⟩ : ∃ p, n * x / z = p := ⟨_, rfl⟩
        obtain ⟨r, hrr⟩ : ∃ r, n * x % z = r := ⟨_, rfl⟩
        rw [hp] at hsc p0 p1 hys hfx
        rw [hrr] at hlf hfx
        rw [hys] at hy2
        obtain ⟨y2, y3⟩ := hy2
        have HSC := Lib.hid (hsc wr); have HLF := Lib.hid hlf; have HYS := Lib.hid hys
        have hs1 := fp_set (F := flo n z ws) HF.out.1 hlt
        have hs2 := fp_set (F := rst n z ws) HF.out.2.1 hlt
        rw [hfx.1] at hs1
        rw [hfx.2] at hs2
        have HST : Hid (∀ W, Below wr.heap.size wr W → ∃ Z, W.setCell ⟨g1, i, none⟩ (.int .i64 p) = Z ∧ (∃ u, W.cell? ⟨g1, i, none⟩ = some (.int .i64 u) ∧ W.frozen? ⟨g1, i, none⟩ = false) ∧ Hid (∀ W', Below Z.heap.size Z W' → ∃ Y, W'.setCell ⟨g2, i, none⟩ (.int .i64 r) = Y ∧ (∃ u, W'.cell? ⟨g2, i, none⟩ = some (.int .i64 u) ∧ W'.frozen? ⟨g2, i, none⟩ = false) ∧ Y.cell? ⟨g1, i, none⟩ = some (.int .i64 p) ∧ Hid (Two Y w.heap.size (.slice (some ⟨g1, 0, none⟩) m m) (fp (flo n z ws) m (i + 1)) (.slice (some ⟨g2, 0, none⟩) m m) (fp (rst n z ws) m (i + 1)) ∧ Below w.heap.size w Y))) := Lib.hid (fun W hW => by
          have hT := HTW.out.under hW
          refine ⟨_, rfl, ⟨_, (Two.cells hT).1 i _ (nth_some (by rw [fp_length HF.out.1 hi]; exact hlt))⟩, Lib.hid (fun W' hW' => ?_)⟩
          obtain ⟨t1, t2⟩ := hT.set i p
          rw [hs1] at t1
          have hT2 := t1.under hW'
          refine ⟨_, rfl, ⟨_, (Two.cells hT2).2 i _ (nth_some (by rw [fp_length HF.out.2.1 hi]; exact hlt))⟩, ?_⟩
          obtain ⟨t3, t4⟩ := hT2.swap.set i r
          rw [hs2] at t3
          refine ⟨((Two.cells t3.swap).1 i p ?_).1, Lib.hid ⟨t3.swap, (below_then ((below_then HB.out hW).trans t2) hW').trans t4⟩⟩
          rw [← hs1, List.getElem?_set, if_pos rfl, if_pos (by rw [fp_length HF.out.1 hi]; exact hlt)])
        have wy : IntKind.i64.wrap (y - p) = y - p := IntWalk.i64_in _ (by omega)
        clear hp hrr hsc hlf hys hs1 hs2 hfx HY HTW
        go_wp2_with fail
        refine HSC.out.mono ?_
        rintro e w1 ⟨rfl, hb1⟩
        obtain ⟨Z, hZ, ⟨u1, a0, f0⟩, HN⟩ := HST.out w1 hb1
        clear k0 hb1
        go_wp2_with fail
        refine (HLF.out Z).mono ?_
        rintro e w2 ⟨rfl, hb2⟩
        obtain ⟨Y, hY, ⟨u2, a1, f1⟩, b0, HN2⟩ := HN.out w2 hb2
        clear hZ a0 f0 hb2
        go_wp2_with fail
        go_roundw
        case rel => exact ⟨y - p, i + 1, by go_num, by go_num, by omega, y2, by omega, HYS, Lib.hid HN2.out.1, Lib.hid HN2.out.2⟩
        case measure => simp [RowKit.intOf]; omega
      · obtain rfl : i = m := by omega
        rw [fp_all HF.out.1, fp_all HF.out.2.1] at HTW
        have hym : moreN n z ws = y := by
          have h1 := HY.out
          rw [List.take_of_length_le (by rw [HF.out.1]; exact Nat.le_refl _)] at h1
          unfold moreN
          exact h1
        have HYM := Lib.hid hym
        have hyi : y < i := by have := HMO.out; omega
        obtain ⟨q, hq⟩ : ∃ q : Nat, y = (q : Int) := Int.eq_ofNat_of_zero_le y0
        subst hq
        have HMF := Lib.hid (most_im (rst n z ws) (some ⟨g2, 0, none⟩) i i wr HF.out.2.1 (by
          obtain ⟨a', c', hv, h3⟩ := irow_own HTW.out.two
          injection hv with e1 _ _
          subst e1
          exact h3) HM.out.1 HM.out.2)
        have HSH : Hid (valSp n ws = bump (flo n z ws) ((ordF (rst n z ws)).take q)) := Lib.hid (by
          rw [HV.out]
          unfold shares
          rw [HYM.out]
          rfl)
        have HFP : Hid (∀ b, b < i → 0 ≤ nth (flo n z ws) b ∧ nth (flo n z ws) b ≤ n) := Lib.hid (fun b hb => by
          have hx := nth_some (l := ws) (i := b) (by rw [HL.out]; exact hb)
          obtain ⟨x0, x1⟩ := HX.out _ (List.mem_of_getElem? hx)
          obtain ⟨_, _, p0, p1⟩ := ppart n0 n1 x0 x1 HZ.out.1 HZ.out.2
          rw [(HF.out.2.2 b _ hx).1]
          exact ⟨p0, p1⟩)
        have HO := Lib.hid (ordF_is (rst n z ws))
        have HLF : Hid ((flo n z ws).length = i ∧ (rst n z ws).length = i) := Lib.hid ⟨HF.out.1, HF.out.2.1⟩
        obtain ⟨F, hFF⟩ : ∃ F, flo n z ws = F := ⟨_, rfl⟩
        obtain ⟨R, hRR⟩ : ∃ R, rst n z ws = R := ⟨_, rfl⟩
        obtain ⟨K, hKK⟩ : ∃ K, ordF (rst n z ws) = K := ⟨_, rfl⟩
        rw [hKK, hFF] at HSH
        rw [hKK] at HMF HO
        rw [hRR] at HO HTW HLF
        rw [hFF] at HFP HTW HLF
        have HKL : Hid (K.length = i) := Lib.hid (by rw [HO.out.length, HLF.out.2])
        have hqi : (q : Int) ≤ (i : Int) := by omega
        have hq0 : (0 : Int) ≤ (q : Int) := by omega
        have hqn : q < i := by omega
        have hqn2 : q ≤ i := by omega
        clear hFF hRR hKK hym HY HYM HF HF0 HX HMO HV hi y1 hyi hlt hi0
        go_wp2_with fail
        refine HMF.out.mono ?_
        rintro e w1 ⟨g, rfl, h1, h2⟩
        have HT0 : Hid (Two w1 w.heap.size (.slice (some ⟨g1, 0, none⟩) i i) F (.slice (some ⟨g, 0, none⟩) i i) (ints K) ∧ Below w.heap.size w w1) := Lib.hid ⟨⟨HTW.out.one.under h2, ks_base h1 (by have := (h1.lt g rfl).1; have := HB.out.size; omega), fun k hk hk2 => by
          have e1 : g1 = k := by simpa [Value.ownBlock] using hk
          have e2 : g = k := by simpa [Value.ownBlock] using hk2
          have h3 := (HTW.out.one.lt g1 rfl).2
          have h4 := (h1.lt g rfl).1
          omega⟩, below_then HB.out h2⟩
        clear h1 h2 HTW HMF HB
        go_wp2_with fail
        go_loopw [67] (fun t wr => ∃ b : Nat, t = .int .i64 b ∧ b ≤ q ∧ Hid (Two wr w.heap.size (.slice (some ⟨g1, 0, none⟩) i i) (bump F (K.take b)) (.slice (some ⟨g, 0, none⟩) i i) (ints K) ∧ Below w.heap.size w wr)) (fun t _ => q - (RowKit.intOf t).toNat)
        case atStart => exact ⟨0, rfl, by omega, by rw [List.take_zero, bump_nil]; exact HT0⟩
        case round =>
          clear HT0
          obtain ⟨b, rfl, hb, HTB⟩ := hrel
          have hb0 : (0 : Int) ≤ (b : Int) := by omega
          by_cases hlt : b < q
          · have hlt2 : (b : Int) < (q : Int) := by omega
            have hbK : b < K.length := by have := HKL.out; omega
            have HKB : Hid (K[b] < i ∧ K[b] ∉ K.take b ∧ K.take (b + 1) = K.take b ++ [K[b]]) := Lib.hid ⟨by have := HO.out.lt (List.getElem_mem hbK); rw [HLF.out.2] at this; exact this, fun e => by have := (mem_take_idx HO.out.nodup hbK).1 e; omega, take_succ_get hbK⟩
            have c0 := ((Two.cells HTB.out.1).2 b _ (ints_at (List.getElem?_eq_getElem hbK))).1
            obtain ⟨k, hk⟩ : ∃ k, K[b] = k := ⟨_, rfl⟩
            rw [hk] at HKB c0
            have hki := HKB.out.1
            have hk0 : (0 : Int) ≤ (k : Int) := by omega
            have hk1 : (k : Int) < (i : Int) := by omega
            obtain ⟨a0, f0⟩ := (Two.cells HTB.out.1).1 k _ (nth_some (by rw [bump_length, HLF.out.1]; exact hki))
            have hpb : 0 ≤ nth (bump F (K.take b)) k ∧ nth (bump F (K.take b)) k ≤ 1152921504606846977 := by
              rw [bump_nth (by rw [HLF.out.1]; exact hki)]
              have := HFP.out k hki
              split <;> omega
            obtain ⟨s1, s2⟩ := HTB.out.1.set k (nth (bump F (K.take b)) k + 1)
            rw [← bump_more (by rw [HLF.out.1]; exact hki) HKB.out.2.1, ← HKB.out.2.2] at s1
            have HT2 := Lib.hid (And.intro s1 (HTB.out.2.trans s2))
            obtain ⟨p, hp⟩ : ∃ p, nth (bump F (K.take b)) k = p := ⟨_, rfl⟩
            rw [hp] at a0 hpb HT2
            obtain ⟨p0, p1⟩ := hpb
            have wp1 : IntKind.i64.wrap (p + 1) = p + 1 := IntWalk.i64_in _ (by omega)
            clear hk hp s1 s2 hbK HTB
            go_wp2_with fail
            go_roundw
            case rel => exact ⟨b + 1, by go_num, by omega, HT2⟩
            case measure => simp [RowKit.intOf]; omega
          · obtain rfl : b = q := by omega
            have HFIN : Hid (KS wr w.heap.size (.slice (some ⟨g1, 0, none⟩) i i) (valSp n ws) ∧ Below w.heap.size w wr) := Lib.hid ⟨by rw [HSH.out]; exact HTB.out.1.one, HTB.out.2⟩
            clear HTB
            go_wp2_with fail
            go_ret2
            exact ⟨_, rfl, HFIN.out.1, HFIN.out.2⟩
end Go.Proofs.Ytaffdddleegfcaa.Fee
