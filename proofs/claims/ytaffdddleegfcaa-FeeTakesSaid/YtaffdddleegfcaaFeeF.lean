/- The document's Split. -/
import Derived.Test.YtaffdddleegfcaaFeeE
namespace Go.Proofs.Ytaffdddleegfcaa.Fee
open Go.RowKit Go.Lib IRows

theorem take_flo {n S : Int} {ws : List Int} {i : Nat} {x : Int} (h : ws[i]? = some x) : (flo n S ws).take (i + 1) = (flo n S ws).take i ++ [n * x / S] := by
  unfold flo
  rw [List.take_add_one, List.getElem?_map, h]
  rfl
theorem take_rst {n S : Int} {ws : List Int} {i : Nat} {x : Int} (h : ws[i]? = some x) : (rst n S ws).take (i + 1) = (rst n S ws).take i ++ [n * x % S] := by
  unfold rst
  rw [List.take_add_one, List.getElem?_map, h]
  rfl
theorem mem_le_sum {l : List Int} (h : ∀ x ∈ l, 0 ≤ x) {x : Int} (hx : x ∈ l) : x ≤ sumL l := by
  induction l with
  | nil => cases hx
  | cons y l ih =>
    have h1 := h y (by simp)
    have h2 := sumL_nonneg (l := l) fun z hz => h z (by simp [hz])
    rw [sumL]
    rcases List.mem_cons.1 hx with rfl | hx
    · omega
    · have := ih (fun z hz => h z (by simp [hz])) hx
      omega
/-- What a share comes to. -/
theorem part_at {n S x : Int} (n0 : 0 ≤ n) (n1 : n ≤ 1152921504606846976) (x0 : 0 ≤ x) (x1 : x ≤ S) (S0 : 1 ≤ S) (S1 : S ≤ 1152921504606846976) :
    (∀ W, Calls Try.prog 18 #[.int .i64 n, .int .i64 x, .int .i64 S, .bool false] W fun e w' => e = .returned (.tuple #[.int .i64 (n * x / S), .int .i64 0]) ∧ W = w') ∧
    (∀ W, Calls Try.prog 24 #[.int .i64 n, .int .i64 x, .int .i64 S] W fun e w' => e = .returned (.int .i64 (n * x % S)) ∧ W = w') ∧ 0 ≤ n * x / S ∧ n * x / S ≤ n := by
  have h0 : 0 ≤ n * x := Int.mul_nonneg n0 x0
  have h1 : n * x ≤ n * S := Int.mul_le_mul_of_nonneg_left x1 n0
  have h2 : n * S ≤ 1152921504606846976 * S := Int.mul_le_mul_of_nonneg_right n1 (by omega)
  refine ⟨fun W => ?_, fun W => dleft n x S W n0 n1 x0 (by omega) S0 S1, Int.ediv_nonneg h0 (by omega), Int.ediv_le_of_le_mul (by omega) h1⟩
  have := rscale n x S false W n0 (by omega) x0 (by omega) S0 (by omega) (by omega)
  unfold sc at this
  rw [if_neg (by simp)] at this
  exact this
set_option maxRecDepth 100000 in
set_option maxHeartbeats 16000000 in
theorem dsplit (n : Int) (a : Option Addr) (m c : Nat) (ws : List Int) (w : World) (hl : ws.length = m) (hs : IRow w a ws) (hm : m ≤ 1099511627776) :
    Calls Try.prog 16 #[.int .i64 n, .slice a m c] w fun e w' => ∃ v, e = .returned (.tuple #[v, .int .i64 (errSp n ws)]) ∧ KS w' w.heap.size v (valSp n ws) ∧ Below w.heap.size w w' := by
  by_cases h : (0 ≤ n ∧ n ≤ 1152921504606846976) ∧ 1 ≤ m ∧ m ≤ 16
  case neg => exact dsplit_bad n a m c ws w hl hm h
  obtain ⟨⟨n0, n1⟩, m0, m1⟩ := h
  have HT := irow_all hs
  have HL := Lib.hid hl
  have d1 : decide (n < 0) = false := decide_eq_false (by omega)
  have d2 : decide (1152921504606846976 < n) = false := decide_eq_false (by omega)
  have d3 : decide ((m : Int) < 1) = false := decide_eq_false (by omega)
  have d4 : decide (16 < (m : Int)) = false := decide_eq_false (by omega)
  have HM : Hid (1 ≤ m ∧ m ≤ 16) := Lib.hid ⟨m0, m1⟩
  have hm1 : (m : Int) ≤ 1048576 := by omega
  have HOK : Hid ((∀ v ∈ ws, 0 ≤ v ∧ v ≤ 1152921504606846976) → SplitOk n ws) := Lib.hid (fun h => ⟨⟨n0, n1⟩, by omega, by omega, h⟩)
  have HBAD : Hid (∀ v ∈ ws, ¬ (0 ≤ v ∧ v ≤ 1152921504606846976) → errSp n ws = 1 ∧ valSp n ws = []) := Lib.hid (fun v hv h => sp_bad fun hk => h (hk.2.2.2 v hv))
  clear hs hl hm m0 m1
  go_enter Try.func16, Try.ntmps16
  go_wp2_with fail
  go_loopw [7] (fun t wr => ∃ i : Nat, t = .int .i64 i ∧ i ≤ m ∧ w = wr ∧ Hid (∀ v ∈ ws.take i, 0 ≤ v ∧ v ≤ 1152921504606846976)) (fun t _ => m - (RowKit.intOf t).toNat)
  case atStart => exact ⟨0, rfl, by omega, rfl, Lib.hid (fun v hv => by simp at hv)⟩
  case round =>
    obtain ⟨i, rfl, hi, rfl, HI⟩ := hrel
    have hi0 : (0 : Int) ≤ (i : Int) := by omega
    by_cases hlt : i < m
    · have hlt2 : (i : Int) < (m : Int) := by omega
      obtain ⟨g, off, x, rfl, hx, HC⟩ := HT.out i (by rw [HL.out]; exact hlt)
      have k0 := HC.out w (Below.refl _ _)
      by_cases c1 : x < 0
      · have e1 : decide (x < 0) = true := decide_eq_true c1
        have HE := Lib.hid (HBAD.out x (List.mem_of_getElem? hx.out) (by omega))
        clear c1
        go_wp2_with fail
        go_ret2
        exact ⟨_, by rw [HE.out.1]; rfl, by rw [HE.out.2]; exact ks_nil _ _, Below.refl _ _⟩
      have e1 : decide (x < 0) = false := decide_eq_false c1
      by_cases c2 : 1152921504606846976 < x
      · have e2 : decide (1152921504606846976 < x) = true := decide_eq_true c2
        have HE := Lib.hid (HBAD.out x (List.mem_of_getElem? hx.out) (by omega))
        clear c1 c2
        go_wp2_with fail
        go_ret2
        exact ⟨_, by rw [HE.out.1]; rfl, by rw [HE.out.2]; exact ks_nil _ _, Below.refl _ _⟩
      have e2 : decide (1152921504606846976 < x) = false := decide_eq_false c2
      have HI2 : Hid (∀ v ∈ ws.take (i + 1), 0 ≤ v ∧ v ≤ 1152921504606846976) := Lib.hid (fun v hv => by
        rcases (mem_take_succ hx.out).1 hv with hv | rfl
        · exact HI.out v hv
        · omega)
      clear c1 c2
      go_wp2_with fail
      go_roundw
      case rel => exact ⟨i + 1, by go_num, by omega, by first | rfl | trivial, HI2⟩
      case measure => simp [RowKit.intOf]; omega
    · obtain rfl : i = m := by omega
      have HW : Hid (∀ v ∈ ws, 0 ≤ v ∧ v ≤ 1152921504606846976) := Lib.hid (fun v hv => HI.out v (by rw [List.take_of_length_le (by rw [HL.out]; exact Nat.le_refl _)]; exact hv))
      have HS := Lib.hid (HOK.out HW.out)
      clear HI HOK HBAD hi0
      go_wp2_with fail
      go_loopw [6, 8] (fun s t wr => ∃ (z : Int) (j : Nat), s = .int .i64 z ∧ t = .int .i64 j ∧ j ≤ i ∧ w = wr ∧ 0 ≤ z ∧ z ≤ 1152921504606846976 ∧ Hid (sumL (ws.take j) = z)) (fun _ t _ => i - (RowKit.intOf t).toNat)
      case atStart => exact ⟨0, 0, rfl, rfl, by omega, rfl, by omega, by omega, Lib.hid rfl⟩
      case round =>
        obtain ⟨z, j, rfl, rfl, hj, rfl, z0, z1, HZ⟩ := hrel
        have hj0 : (0 : Int) ≤ (j : Int) := by omega
        by_cases hlt : j < i
        · have hlt2 : (j : Int) < (i : Int) := by omega
          obtain ⟨g, off, x, rfl, hx, HC⟩ := HT.out j (by rw [HL.out]; exact hlt)
          have k0 := HC.out w (Below.refl _ _)
          obtain ⟨x0, x1⟩ := HW.out x (List.mem_of_getElem? hx.out)
          have HZ2 : Hid (sumL (ws.take (j + 1)) = z + x) := Lib.hid (by rw [sumL_take_succ hx.out, HZ.out])
          by_cases c1 : 1152921504606846976 - z < x
          · have e1 : decide (1152921504606846976 - z < x) = true := decide_eq_true c1
            have HE := Lib.hid (sp_over HS.out (by
              have h1 := sumL_take_le (fun v hv => (HW.out v hv).1) (j + 1)
              rw [HZ2.out] at h1
              omega))
            clear c1
            go_wp2_with fail
            go_ret2
            exact ⟨_, by rw [HE.out.1]; rfl, by rw [HE.out.2]; exact ks_nil _ _, Below.refl _ _⟩
          · have e1 : decide (1152921504606846976 - z < x) = false := decide_eq_false c1
            have z2 : 0 ≤ z + x := by omega
            have z3 : z + x ≤ 1152921504606846976 := by omega
            clear c1
            go_wp2_with fail
            go_roundw
            case rel => exact ⟨z + x, j + 1, by go_num, by go_num, by omega, by first | rfl | trivial, z2, z3, HZ2⟩
            case measure => simp [RowKit.intOf]; omega
        · obtain rfl : j = i := by omega
          have HSU : Hid (sumL ws = z) := Lib.hid (by
            have := HZ.out
            rw [List.take_of_length_le (by rw [HL.out]; exact Nat.le_refl _)] at this
            exact this)
          clear HZ hj0
          by_cases c0 : z = 0
          · have HE := Lib.hid (sp_none HS.out (by rw [HSU.out, c0]))
            subst c0
            go_wp2_with fail
            go_ret2
            exact ⟨_, by rw [HE.out.1]; rfl, by rw [HE.out.2]; exact ks_nil _ _, Below.refl _ _⟩
          have c1 : (z == 0) = false := by simpa using c0
          have HE := Lib.hid (sp_ok HS.out (by rw [HSU.out]; exact z1) (by rw [HSU.out]; exact c0))
          have HZP : Hid (1 ≤ z) := Lib.hid (by omega)
          have HX : Hid (∀ x ∈ ws, 0 ≤ x ∧ x ≤ z) := Lib.hid (fun x hx => ⟨(HW.out x hx).1, by rw [← HSU.out]; exact mem_le_sum (fun v hv => (HW.out v hv).1) hx⟩)
          have HF0 : Hid (∀ j, 0 ≤ n - sumL ((flo n z ws).take j) ∧ n - sumL ((flo n z ws).take j) ≤ n) := Lib.hid (fun j => by
            have hp := flo_in (n := n) (S := z) (ws := ws) (by omega) n0 (fun v hv => (HW.out v hv).1)
            have h1 := sumL_take_le hp j
            have h2 := (more_in (n := n) (S := z) (ws := ws) (by omega) HSU.out).1
            have h3 := sumL_nonneg (l := (flo n z ws).take j) (fun v hv => hp v (List.mem_of_mem_take hv))
            unfold moreN at h2
            omega)
          clear c0 HS
          go_wp2_with fail
          go_loopw [9, 10, 11, 12] (fun s t u v wr => ∃ (y : Int) (i : Nat), u = .int .i64 y ∧ v = .int .i64 i ∧ i ≤ j ∧ 0 ≤ y ∧ y ≤ 1152921504606846976 ∧ Hid (n - sumL ((flo n z ws).take i) = y) ∧ Hid (Two wr w.heap.size s ((flo n z ws).take i) t ((rst n z ws).take i)) ∧ Hid (Below w.heap.size w wr)) (fun _ _ _ v _ => j - (RowKit.intOf v).toNat)
          case atStart => exact ⟨n, 0, rfl, rfl, by omega, n0, n1, Lib.hid (by rw [List.take_zero]; simp [sumL]), Lib.hid ⟨ks_nil _ _, ks_nil _ _, fun g hg => by cases hg⟩, Lib.hid (Below.refl _ _)⟩
          case round =>
            obtain ⟨y, i, rfl, rfl, hi, y0, y1, HY, HTW, HB⟩ := hrel
            have hi0 : (0 : Int) ≤ (i : Int) := by omega
            by_cases hlt : i < j
            · have hlt2 : (i : Int) < (j : Int) := by omega
              obtain ⟨g, off, x, rfl, hx, HC⟩ := HT.out i (by rw [HL.out]; exact hlt)
              have k0 := HC.out wr HB.out
              obtain ⟨x0, x1⟩ := HX.out x (List.mem_of_getElem? hx.out)
              obtain ⟨hsc, hlf, p0, p1⟩ := part_at n0 n1 x0 x1 HZP.out z1
              have hf := take_flo (n := n) (S := z) hx.out
              have hr := take_rst (n := n) (S := z) hx.out
              have hy2 := HF0.out (i + 1)
              have hys : n - sumL ((flo n z ws).take (i + 1)) = y - n * x / z := by rw [hf, sumL_append, ← HY.out]; simp [sumL]; omega
              obtain ⟨p, hp⟩ : ∃ p, n * x / z = p := ⟨_, rfl⟩
              obtain ⟨r, hrr⟩ : ∃ r, n * x % z = r := ⟨_, rfl⟩
              rw [hp] at hsc p0 p1 hf hys
              rw [hrr] at hlf hr
              rw [hys] at hy2
              obtain ⟨y2, y3⟩ := hy2
              have HSC := Lib.hid hsc; have HLF := Lib.hid hlf; have HYS := Lib.hid hys
              have hlen1 : ((flo n z ws).take i).length = i := by rw [List.length_take, flo_length, HL.out]; omega
              have hlen2 : ((rst n z ws).take i).length = i := by rw [List.length_take, rst_length, HL.out]; omega
              obtain ⟨g1, c1, w2, hr1, htw1, hb1⟩ := HTW.out.app p (by rw [hlen1]; have := HM.out; omega) HB.out.size
              obtain ⟨g2, c2, w3, hr2, htw2, hb2⟩ := htw1.swap.app r (by rw [hlen2]; have := HM.out; omega) (Nat.le_trans HB.out.size hb1.size)
              have HB2 := Lib.hid (HB.out.trans hb1)
              have HB3 := Lib.hid (HB2.out.trans hb2)
              have k1 := HC.out w2 HB2.out
              rw [hlen1] at hr1 htw2
              rw [hlen2] at hr2 htw2
              rw [← hf, ← hr] at htw2
              have HTW3 := Lib.hid htw2.swap
              have HR1 := Lib.hid hr1; have HR2 := Lib.hid hr2
              have wy : IntKind.i64.wrap (y - p) = y - p := IntWalk.i64_in _ (by omega)
              clear hp hrr hsc hlf hf hr hys hlen1 hlen2 hr1 htw1 hb1 hr2 htw2 hb2
              go_wp2_with fail
              refine (HSC.out wr).mono ?_
              rintro e w1 ⟨rfl, rfl⟩
              go_wp2_with (at_builtin; refine walk_run (v' := .slice (some ⟨g1, 0, none⟩) (i + 1) c1) (w' := w2) rfl _ _ _ _ rfl _ _ rfl rfl HR1.out ?_)
              refine (HLF.out w2).mono ?_
              rintro e w4 ⟨rfl, rfl⟩
              go_wp2_with (at_builtin; refine walk_run (v' := .slice (some ⟨g2, 0, none⟩) (i + 1) c2) (w' := w3) rfl _ _ _ _ rfl _ _ rfl rfl HR2.out ?_)
              go_roundw
              case rel => exact ⟨y - p, i + 1, by go_num, by go_num, by omega, y2, by omega, HYS, HTW3, HB3⟩
              case measure => simp [RowKit.intOf]; omega
            · obtain rfl : i = j := by omega
              have hF : (flo n z ws).take i = flo n z ws := List.take_of_length_le (by rw [flo_length, HL.out]; exact Nat.le_refl _)
              have hR : (rst n z ws).take i = rst n z ws := List.take_of_length_le (by rw [rst_length, HL.out]; exact Nat.le_refl _)
              have HYM : Hid (moreN n z ws = y ∧ y < i) := Lib.hid (by
                have h1 := HY.out
                rw [hF] at h1
                have h2 := (more_in (n := n) (S := z) (ws := ws) (by have := HZP.out; omega) HSU.out).2
                rw [HL.out] at h2
                unfold moreN at h2 ⊢
                omega)
              rw [hF, hR] at HTW
              have HFP : Hid (∀ b, b < i → 0 ≤ nth (flo n z ws) b ∧ nth (flo n z ws) b ≤ n) := Lib.hid (fun b hb => by
                have hx := nth_some (l := ws) (i := b) (by rw [HL.out]; exact hb)
                obtain ⟨x0, x1⟩ := HX.out _ (List.mem_of_getElem? hx)
                obtain ⟨_, _, p0, p1⟩ := part_at n0 n1 x0 x1 HZP.out z1
                rw [flo_nth (by rw [HL.out]; exact hb)]
                exact ⟨p0, p1⟩)
              have HRP : Hid (∀ x ∈ rst n z ws, 0 ≤ x) := Lib.hid (fun x hx => (rst_in (by have := HZP.out; omega) x hx).1)
              have HLF : Hid ((flo n z ws).length = i ∧ (rst n z ws).length = i) := Lib.hid ⟨by rw [flo_length, HL.out], by rw [rst_length, HL.out]⟩
              have HO := Lib.hid (ordF_is (rst n z ws))
              have HSH : Hid (valSp n ws = bump (flo n z ws) ((ordF (rst n z ws)).take y.toNat)) := Lib.hid (by
                rw [HE.out.2, HSU.out]
                unfold shares
                rw [HYM.out.1])
              obtain ⟨F, hFF⟩ : ∃ F, flo n z ws = F := ⟨_, rfl⟩
              obtain ⟨R, hRR⟩ : ∃ R, rst n z ws = R := ⟨_, rfl⟩
              obtain ⟨K, hKK⟩ : ∃ K, ordF (rst n z ws) = K := ⟨_, rfl⟩
              rw [hKK, hFF] at HSH
              rw [hKK, hRR] at HO
              rw [hFF] at HFP
              rw [hRR] at HRP
              rw [hFF, hRR] at HLF HTW
              obtain ⟨a1, c2, hv1, hs1, _⟩ := HTW.out.one.at
              obtain ⟨a2, c3, hv2, hs2, _⟩ := HTW.out.two.at
              rw [HLF.out.1] at hv1 hs1
              rw [HLF.out.2] at hv2 hs2
              obtain ⟨g1, rfl, _, _⟩ := hs1 (by have := HM.out; omega)
              obtain ⟨g2, rfl, _, _⟩ := hs2 (by have := HM.out; omega)
              subst hv1
              subst hv2
              have HKL : Hid (K.length = i) := Lib.hid (by rw [HO.out.length, HLF.out.2])
              clear hF hR HF0 hFF hRR hKK hs1 hs2 HY HX HW HSU HZP hi0
              go_wp2_with fail
              go_loopw [11] (fun t wx => ∃ (q : Int) (b : Nat), t = .int .i64 q ∧ q + b = y ∧ 0 ≤ q ∧ Hid (Two wx w.heap.size (.slice (some ⟨g1, 0, none⟩) i c2) (bump F (K.take b)) (.slice (some ⟨g2, 0, none⟩) i c3) (mark R (K.take b))) ∧ Hid (Below w.heap.size w wx)) (fun t _ => (RowKit.intOf t).toNat)
              case atStart => exact ⟨y, 0, rfl, by omega, y0, Lib.hid (by rw [List.take_zero, bump_nil, mark_nil]; exact HTW.out), HB⟩
              case round =>
                clear HTW HB
                obtain ⟨q, b, rfl, hq, q0, HTW, HB⟩ := hrel
                by_cases hpos : 0 < q
                · have hbK : b < K.length := by have := HKL.out; have := HYM.out.2; omega
                  have HTOP := Lib.hid (top_mark HO.out HRP.out hbK)
                  have HKB : Hid (K[b] < i ∧ K[b] ∉ K.take b ∧ K.take (b + 1) = K.take b ++ [K[b]]) := Lib.hid ⟨by have := HO.out.lt (List.getElem_mem hbK); rw [HLF.out.2] at this; exact this, fun e => by have := (mem_take_idx HO.out.nodup hbK).1 e; omega, take_succ_get hbK⟩
                  obtain ⟨kb, hkb⟩ : ∃ kb, K[b] = kb := ⟨_, rfl⟩
                  rw [hkb] at HTOP HKB
                  have HB1 : Hid (bump F (K.take (b + 1)) = (bump F (K.take b)).set kb (nth (bump F (K.take b)) kb + 1)) := Lib.hid (by rw [HKB.out.2.2, bump_more (by rw [HLF.out.1]; exact HKB.out.1) HKB.out.2.1])
                  have HM1 : Hid (mark R (K.take (b + 1)) = (mark R (K.take b)).set kb (-1)) := Lib.hid (by rw [HKB.out.2.2, mark_more (by rw [HLF.out.2]; exact HKB.out.1)])
                  have HPB : Hid (0 ≤ nth (bump F (K.take b)) kb ∧ nth (bump F (K.take b)) kb ≤ 1152921504606846977) := Lib.hid (by
                    rw [bump_nth (by rw [HLF.out.1]; exact HKB.out.1)]
                    have := HFP.out kb HKB.out.1
                    split <;> omega)
                  have HLR : Hid ((mark R (K.take b)).length = i ∧ (bump F (K.take b)).length = i) := Lib.hid ⟨by rw [mark_length, HLF.out.2], by rw [bump_length, HLF.out.1]⟩
                  obtain ⟨Rb, hRb⟩ : ∃ Rb, mark R (K.take b) = Rb := ⟨_, rfl⟩
                  obtain ⟨Fb, hFb⟩ : ∃ Fb, bump F (K.take b) = Fb := ⟨_, rfl⟩
                  rw [hRb] at HTOP HM1 HLR HTW
                  rw [hFb] at HB1 HPB HLR HTW
                  have HCE : Hid (∀ W, Below wr.heap.size wr W → (∀ d, d < i → W.cell? ⟨g2, d, none⟩ = some (.int .i64 (nth Rb d)) ∧ W.frozen? ⟨g2, d, none⟩ = false) ∧ ∀ d, d < i → W.cell? ⟨g1, d, none⟩ = some (.int .i64 (nth Fb d)) ∧ W.frozen? ⟨g1, d, none⟩ = false) := Lib.hid (fun W hW => by
                    have hT := HTW.out.under hW
                    obtain ⟨a3, c4, e3, _, h3⟩ := hT.one.at
                    obtain ⟨a4, c5, e4, _, h4⟩ := hT.two.at
                    injection e3 with e3 _ _
                    injection e4 with e4 _ _
                    subst e3
                    subst e4
                    refine ⟨fun d hd => ?_, fun d hd => ?_⟩
                    · obtain ⟨g, e, _, h5, h6⟩ := h4 d _ (nth_some (by rw [HLR.out.1]; exact hd))
                      cases e
                      exact ⟨h5, h6⟩
                    · obtain ⟨g, e, _, h5, h6⟩ := h3 d _ (nth_some (by rw [HLR.out.2]; exact hd))
                      cases e
                      exact ⟨h5, h6⟩)
                  have HT4 : Hid (∀ W, Below wr.heap.size wr W → Two W w.heap.size (.slice (some ⟨g1, 0, none⟩) i c2) Fb (.slice (some ⟨g2, 0, none⟩) i c3) Rb ∧ Below w.heap.size w W) := Lib.hid (fun W hW => ⟨HTW.out.under hW, below_then HB.out hW⟩)
                  have hqd : decide (0 < q) = true := decide_eq_true hpos
                  clear hkb hRb hFb hbK HTW HB
                  go_wp2_with fail
                  go_loopw [15, 16] (fun s t wx => ∃ k d : Nat, s = .int .i64 k ∧ t = .int .i64 d ∧ d ≤ i ∧ Hid (TopTo Rb d k) ∧ Hid (Below wr.heap.size wr wx)) (fun _ t _ => i - (RowKit.intOf t).toNat)
                  case atStart => exact ⟨0, 0, rfl, rfl, by omega, Lib.hid (.inl ⟨rfl, rfl⟩), Lib.hid (Below.refl _ _)⟩
                  case round =>
                    obtain ⟨k, d, rfl, rfl, hd, HTT, HB⟩ := hrel
                    have hd0 : (0 : Int) ≤ (d : Int) := by omega
                    have hk0 : (0 : Int) ≤ (k : Int) := by omega
                    by_cases hlt : d < i
                    · have hlt2 : (d : Int) < (i : Int) := by omega
                      have hkd : k ≤ d := by
                        rcases HTT.out with ⟨h1, h2⟩ | ⟨h1, _⟩
                        · omega
                        · omega
                      have hk1 : k < i := by omega
                      have hk2 : (k : Int) < (i : Int) := by omega
                      obtain ⟨hcc, _⟩ := HCE.out wr HB.out
                      have ka := (hcc d hlt).1
                      have kb2 := (hcc k hk1).1
                      have HN : Hid (nth Rb k < nth Rb d → TopTo Rb (d + 1) d) := Lib.hid (fun h => top_new HTT.out h)
                      have HN2 : Hid (¬ nth Rb k < nth Rb d → TopTo Rb (d + 1) k) := Lib.hid (fun h => top_old HTT.out h)
                      obtain ⟨x, hx⟩ : ∃ x, nth Rb d = x := ⟨_, rfl⟩
                      obtain ⟨u, hu⟩ : ∃ u, nth Rb k = u := ⟨_, rfl⟩
                      rw [hx] at ka HN HN2
                      rw [hu] at kb2 HN HN2
                      clear hx hu hcc HTT
                      by_cases c1 : u < x
                      · have e1 : decide (u < x) = true := decide_eq_true c1
                        have HN3 := Lib.hid (HN.out c1)
                        clear c1
                        go_wp2_with fail
                        go_quiet (fail)
                        go_wp2_with fail
                        go_roundw
                        case rel => exact ⟨d, d + 1, rfl, by go_num, by omega, HN3, Lib.hid (below_drewN HB.out _)⟩
                        case measure => simp [RowKit.intOf]; omega
                      · have e1 : decide (u < x) = false := decide_eq_false c1
                        have HN3 := Lib.hid (HN2.out c1)
                        clear c1
                        go_wp2_with fail
                        go_quiet (fail)
                        go_wp2_with fail
                        go_roundw
                        case rel => exact ⟨k, d + 1, rfl, by go_num, by omega, HN3, Lib.hid (below_drewN HB.out _)⟩
                        case measure => simp [RowKit.intOf]; omega
                    · obtain rfl : d = i := by omega
                      have hk : k = kb := top_one (top_all (by rw [HLR.out.1]; exact HTT.out) (by rw [HLR.out.1]; have := HM.out; omega)) HTOP.out
                      subst hk
                      have hki := HKB.out.1
                      have hki2 : (k : Int) < (d : Int) := by omega
                      obtain ⟨hT, hBW⟩ := HT4.out wr HB.out
                      obtain ⟨_, hcc⟩ := HCE.out wr HB.out
                      obtain ⟨k0, f0⟩ := hcc k hki
                      obtain ⟨s1, s2⟩ := hT.set k (nth Fb k + 1)
                      rw [← HB1.out] at s1
                      obtain ⟨a4, c5, e4, _, h4⟩ := s1.two.at
                      injection e4 with e4 _ _
                      subst e4
                      obtain ⟨g, e, _, k1, f1⟩ := h4 k _ (nth_some (by rw [HLR.out.1]; exact hki))
                      cases e
                      obtain ⟨t1, t2⟩ := s1.swap.set k (-1)
                      rw [← HM1.out] at t1
                      have HT5 := Lib.hid t1.swap
                      have HB5 := Lib.hid ((hBW.trans s2).trans t2)
                      obtain ⟨p0, p1⟩ := HPB.out
                      obtain ⟨p, hp⟩ : ∃ p, nth Fb k = p := ⟨_, rfl⟩
                      rw [hp] at k0 k1 f1 p0 p1 HT5 HB5
                      obtain ⟨rk, hrk⟩ : ∃ rk, nth Rb k = rk := ⟨_, rfl⟩
                      rw [hrk] at k1
                      have wp1 : IntKind.i64.wrap (p + 1) = p + 1 := IntWalk.i64_in _ (by omega)
                      obtain ⟨Z, hZ⟩ : ∃ Z, wr.setCell ⟨g1, k, none⟩ (.int .i64 (p + 1)) = Z := ⟨_, rfl⟩
                      rw [hZ] at k1 f1 HT5 HB5
                      clear hp hrk hcc hT hBW s1 s2 t1 t2 h4 HTT
                      go_wp2_with fail
                      go_roundw
                      case rel => exact ⟨q - 1, b + 1, by go_num, by omega, by omega, HT5, HB5⟩
                      case measure => simp [RowKit.intOf]; omega
                · obtain rfl : q = 0 := by omega
                  have HFIN : Hid (KS wr w.heap.size (.slice (some ⟨g1, 0, none⟩) i c2) (valSp n ws)) := Lib.hid (by
                    rw [HSH.out, show y.toNat = b by omega]
                    exact HTW.out.one)
                  go_wp2_with fail
                  go_ret2
                  exact ⟨_, by rw [HE.out.1]; rfl, HFIN.out, HB.out⟩
end Go.Proofs.Ytaffdddleegfcaa.Fee
