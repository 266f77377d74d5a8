/- GraphStands, for any graph that keeps its contracts. -/
import Derived.Test.YtghjcefigdkhnaaGraphJ
import Derived.BigRegion
namespace Go.Proofs.Ytghjcefigdkhnaa.Graph
open Go.RowKit Go.Lib IRows

set_option maxRecDepth 100000 in
set_option maxHeartbeats 16000000 in
theorem graphStands_in (I : Impl) (s : Nat) (a : Option Addr) (m c : Nat) (us : List (Nat × Nat)) (w : World) (hs : s ≤ 255) (hl : us.length = m) (hu : Us w a us) (hub : ∀ u ∈ us, u.1 ≤ 255 ∧ u.2 ≤ 255) :
    Calls Try.prog 5 #[.int .u8 (s : Nat), .slice a m c] w fun e w' => e = .returned (.bool true) ∧ Below w.heap.size w w' := by
  have HW := awake_at I w
  by_cases h40 : (40 : Int) < (m : Int)
  · have H0 := Lib.hid (HW.out w (Below.refl _ _))
    clear hs hl hu hub HW I
    go_enter Try.func5, Try.ntmps5
    go_wp2_with fail
    refine H0.out.mono ?_
    rintro e w1 ⟨rfl, B1⟩
    go_wp2_with fail
    go_ret
    exact ⟨rfl, B1.out⟩
  have hm : m ≤ 40 := by omega
  obtain ⟨r, hr⟩ : ∃ r, s % 12 = r := ⟨_, rfl⟩
  obtain ⟨n, hn⟩ : ∃ n, 1 + r = n := ⟨_, rfl⟩
  have h1 : 1 ≤ n := by omega
  have h2 : n ≤ 12 := by omega
  have t1 : ((s : Nat) : Int).tmod 12 = (r : Int) := by rw [Int.tmod_eq_emod_of_nonneg (by omega)]; omega
  have w0 : IntKind.i64.wrap ((s : Nat) : Int) = ((s : Nat) : Int) := IntWalk.i64_in _ (by omega)
  have w1 : IntKind.i64.wrap ((1 : Int) + (r : Int)) = (n : Int) := by rw [show (1 : Int) + (r : Int) = (n : Int) by omega]; exact IntWalk.i64_in _ (by omega)
  have HU := us_at hu
  have HL := Lib.hid hl; have HUB := Lib.hid hub; have H12 := Lib.hid (show 1 ≤ n ∧ n ≤ 12 from ⟨h1, h2⟩); have HM := Lib.hid hm
  have H0 : Hid (OwnN w w.heap.size (.slice none 0 0) (LL n (us.take 0))) := Lib.hid (World.ownsRow_nil _ _ _ _)
  have hm3 : (m : Int) ≤ 40 := by omega
  have hn12 : (n : Int) ≤ 12 := by omega
  have hn1 : (1 : Int) ≤ (n : Int) := by omega
  have hn0 : ¬ n = 0 := by omega
  clear hr hn hs hl hu hub hm h1 h2
  go_enter Try.func5, Try.ntmps5
  go_wp2_with fail
  go_loopw [6, 7] (fun v t wr => ∃ (i : Nat) (a1 : Option Addr) (c1 : Nat), v = .slice a1 i c1 ∧ t = .int .i64 (i : Int) ∧ i ≤ m ∧ Hid (OwnN wr w.heap.size (.slice a1 i c1) (LL n (us.take i)) ∧ Below w.heap.size w wr)) (fun _ t _ => m - (RowKit.intOf t).toNat)
  case atStart => exact ⟨0, none, 0, rfl, rfl, by omega, Lib.hid ⟨H0.out, Below.refl _ _⟩⟩
  case round =>
    clear H0
    obtain ⟨i, a1, c1, rfl, rfl, hi, HO⟩ := hrel
    have hi0 : (0 : Int) ≤ (i : Int) := by omega
    by_cases hlt : i < m
    · have hlt2 : (i : Int) < (m : Int) := by omega
      have wi : IntKind.i64.wrap ((i : Int) + 1) = (i : Int) + 1 := IntWalk.i64_in _ (by omega)
      obtain ⟨g, off, x, y, rfl, hxy, z0, z1⟩ := HU.out wr i HO.out.2 (by rw [HL.out]; exact hlt)
      have hb := HUB.out (x, y) (List.mem_of_getElem? hxy.out)
      have hb1 : x ≤ 255 := hb.1
      have hb2 : y ≤ 255 := hb.2
      obtain ⟨r1, hr1⟩ : ∃ r1, x % n = r1 := ⟨_, rfl⟩
      obtain ⟨r2, hr2⟩ : ∃ r2, y % n = r2 := ⟨_, rfl⟩
      obtain ⟨p, hp⟩ : ∃ p, 1 + r1 = p := ⟨_, rfl⟩
      obtain ⟨q, hq⟩ : ∃ q, 1 + r2 = q := ⟨_, rfl⟩
      have g1 := Nat.mod_lt x (show 0 < n by omega)
      have g2 := Nat.mod_lt y (show 0 < n by omega)
      have s1 : ((x : Nat) : Int).tmod (n : Int) = (r1 : Int) := by rw [Int.tmod_eq_emod_of_nonneg (by omega), ← hr1]; omega
      have s2 : ((y : Nat) : Int).tmod (n : Int) = (r2 : Int) := by rw [Int.tmod_eq_emod_of_nonneg (by omega), ← hr2]; omega
      have v1 : IntKind.i64.wrap ((x : Nat) : Int) = ((x : Nat) : Int) := IntWalk.i64_in _ (by omega)
      have v2 : IntKind.i64.wrap ((y : Nat) : Int) = ((y : Nat) : Int) := IntWalk.i64_in _ (by omega)
      have v3 : IntKind.i64.wrap ((1 : Int) + (r1 : Int)) = (p : Int) := by rw [show (1 : Int) + (r1 : Int) = (p : Int) by omega]; exact IntWalk.i64_in _ (by omega)
      have v4 : IntKind.i64.wrap ((1 : Int) + (r2 : Int)) = (q : Int) := by rw [show (1 : Int) + (r2 : Int) = (q : Int) by omega]; exact IntWalk.i64_in _ (by omega)
      obtain ⟨a2, c2, W2, HR1, o2, b2⟩ := app1n wr.drew ⟨(p : Int), (q : Int)⟩ (own_under HO.out.1 (Below.refl _ wr).drew) (by omega) HO.out.2.size
      have HO2 : Hid (OwnN W2 w.heap.size (.slice a2 (i + 1) c2) (LL n (us.take (i + 1))) ∧ Below w.heap.size w W2) := Lib.hid ⟨by
        rw [LL_take hxy.out]
        have e : ndOf n (x, y) = ⟨(p : Int), (q : Int)⟩ := by unfold ndOf; simp only; rw [hr1, hr2, hp, hq]
        rw [e]
        exact o2, HO.out.2.drew.trans b2⟩
      clear o2 b2 hb hb1 hb2 hr1 hr2 hp hq g1 g2
      go_wp2_with fail
      go_region_law (first | (refine step_run (by rfl) _ _ _ _ (by rfl) _ _ (by rfl) (by rfl) HR1.out ?_))
      all_goals
        go_wp2_with fail
        go_roundw
        case rel => exact ⟨i + 1, a2, c2, rfl, by go_num, by omega, HO2⟩
        case measure => simp [RowKit.intOf]; omega
    · obtain rfl : i = m := by omega
      obtain ⟨W0, rfl⟩ : ∃ W0, W0 = wr := ⟨_, rfl⟩
      obtain ⟨l, hll⟩ : ∃ l, LL n us = l := ⟨_, rfl⟩
      have hLN : Hid (OwnN W0 w.heap.size (.slice a1 i c1) l ∧ Below w.heap.size w W0) := Lib.hid (by
        have := HO.out
        rw [List.take_of_length_le (by rw [HL.out]; exact Nat.le_refl _), hll] at this
        exact this)
      obtain ⟨hml, hnd⟩ := nds_own hLN.out.1
      have hmay : May (n : Int) l := by rw [← hll]; exact LL_may H12.out.1 H12.out.2 (by rw [HL.out]; exact HM.out)
      have HMAY := Lib.hid hmay
      have HLI : Hid (∀ t ∈ l, ∃ p q : Nat, t = ⟨(p : Int), (q : Int)⟩ ∧ (1 ≤ p ∧ p ≤ n) ∧ 1 ≤ q ∧ q ≤ n) := Lib.hid fun t ht => by rw [← hll] at ht; exact LL_in H12.out.1 ht
      have HLL : Hid (l.length = i ∧ l.length ≤ 40) := Lib.hid ⟨hml, by rw [hml]; exact HM.out⟩
      have HND := nds_at hnd
      obtain ⟨er, her⟩ : ∃ er, ordE (n : Int) l = er := ⟨_, rfl⟩
      obtain ⟨L1, hL1⟩ : ∃ L, ordV (n : Int) l = L := ⟨_, rfl⟩
      obtain ⟨L2, hL2⟩ : ∃ L, degV (n : Int) l = L := ⟨_, rfl⟩
      have HA1 : Hid (Calls Try.prog 8 #[.int .i64 (n : Int), .slice a1 i c1] W0 fun e w' => ∃ a' m' c', e = .returned (.tuple #[.slice a' m' c', .int .i64 er]) ∧ Hid (L1.length = m' ∧ IRow w' a' L1 ∧ Below W0.heap.size W0 w' ∧ Below W0.heap.size W0 w')) := Lib.hid (as_row (Below.refl _ W0) (by have := I.order (n : Int) a1 i c1 l W0 hml hnd (by have := HM.out; omega) (may_in hmay) (by unfold I64; omega); rw [her, hL1] at this; exact this))
      have HA2 := Lib.hid (fun W (hW : Below W0.heap.size W0 W) => as_row hW (by have := I.deep (n : Int) a1 i c1 l W hml (hnd.under hW) (by have := HM.out; omega) (may_in hmay) (by unfold I64; omega); rw [her, hL2] at this; exact this))
      have HBE := Lib.hid (fun W (k : Nat) (hW : Below W0.heap.size W0 W) (hk : 1 ≤ k ∧ k ≤ n) => as_row hW (by have := I.below (n : Int) a1 i c1 l (k : Int) W hml (hnd.under hW) (by have := HM.out; omega) (may_in hmay) (by unfold I64; omega) (by unfold I64; omega); rw [(bel_ok (n := (n : Int)) (l := l) (node := (k : Int)) ⟨hmay, by omega, by omega⟩).1] at this; exact this))
      have HWA := Lib.hid (fun W (x y : Int) (hW : Below W0.heap.size W0 W) (hx : I64 x) (hy : I64 y) => I.ways (n : Int) a1 i c1 l x y W hml (hnd.under hW) (by have := HM.out; omega) (may_in hmay) (by unfold I64; omega) hx hy)
      have HE := Lib.hid her; have HL1 := Lib.hid hL1; have HL2 := Lib.hid hL2
      clear HO hml hnd hmay her hL1 hL2 hll
      go_wp2_with fail
      refine HA1.out.mono ?_
      rintro e w1 ⟨o1, m1, k1, rfl, A1⟩
      go_wp2_with fail
      refine (HA2.out w1 A1.out.2.2.1).mono ?_
      rintro e w2 ⟨o2, m2, k2, rfl, A2⟩
      by_cases he : er = 0
      · subst he
        obtain ⟨-, hst, hlen⟩ := ord_zero HE.out
        have hdl := degV_len HE.out
        rw [HL1.out] at hst hlen
        rw [HL2.out] at hdl
        have hnn : ((n : Nat) : Int).toNat = n := by omega
        rw [hnn] at hdl
        have HST : Hid (Stands (n : Int) l L1 ∧ L1.length = n) := Lib.hid ⟨hst, by rw [hlen, hnn]⟩
        have HDL := Lib.hid hdl
        obtain rfl : n = m1 := by rw [← A1.out.1]; exact HST.out.2.symm
        obtain rfl : n = m2 := by rw [← A2.out.1]; exact HDL.out.symm
        have HBF : Hid (∀ (k : Nat) (y : Int), 1 ≤ k ∧ k ≤ n → y ∈ belV (n : Int) l (k : Int) → y ≠ (k : Int) ∧ (1 ≤ y ∧ y ≤ (n : Int)) ∧ wayE (n : Int) l (k : Int) y = 0 ∧ 1 ≤ wayV (n : Int) l (k : Int) y) := Lib.hid fun k y hk hy => below_fine HE.out HLL.out.2 ⟨by omega, by omega⟩ hy
        have HB2 : Hid (Below W0.heap.size W0 w2) := Lib.hid A2.out.2.2.1
        clear hst hlen hdl hnn
        go_wp2_with fail
        go_loopw [12, 13] (fun rd t wk => ∃ k : Nat, rd = .bool false ∧ t = .int .i64 (k : Int) ∧ (1 ≤ k ∧ k ≤ n + 1) ∧ Hid (Below w2.heap.size w2 wk)) (fun _ t _ => n + 2 - (RowKit.intOf t).toNat)
        case atStart => exact ⟨1, rfl, rfl, by omega, Lib.hid (Below.refl _ _)⟩
        case round =>
          obtain ⟨k, rfl, rfl, hk, HK⟩ := hrel
          by_cases hkn : k ≤ n
          · have d1 : decide (k ≤ n) = true := decide_eq_true hkn
            have wk : IntKind.i64.wrap ((k : Int) + 1) = (k : Int) + 1 := IntWalk.i64_in _ (by omega)
            have HB := Lib.hid (HBE.out wr k (below_then HB2.out HK.out) ⟨hk.1, hkn⟩)
            obtain ⟨L3, hL3⟩ : ∃ L, belV (n : Int) l (k : Int) = L := ⟨_, rfl⟩
            have HF : Hid (∀ y, y ∈ L3 → y ≠ (k : Int) ∧ (1 ≤ y ∧ y ≤ (n : Int)) ∧ wayE (n : Int) l (k : Int) y = 0 ∧ 1 ≤ wayV (n : Int) l (k : Int) y) := Lib.hid fun y hy => HBF.out k y ⟨hk.1, hkn⟩ (by rw [hL3]; exact hy)
            rw [hL3] at HB
            have H64 : Hid (L3.length ≤ 64) := Lib.hid (by rw [← hL3]; exact belV_small _ _ _)
            clear hL3
            go_wp2_with fail
            refine HB.out.mono ?_
            rintro e w3 ⟨o3, m3, k3, rfl, A3⟩
            have HI3 := irow_at A3.out.2.1
            have HB3 : Hid (Below w2.heap.size w2 w3) := Lib.hid (below_then HK.out A3.out.2.2.2)
            go_wp2_with fail
            go_loopw [12, 16] (fun rd t wk => ∃ j : Nat, rd = .bool false ∧ t = .int .i64 (j : Int) ∧ j ≤ m3 ∧ Hid (Below w3.heap.size w3 wk)) (fun _ t _ => m3 - (RowKit.intOf t).toNat)
            case atStart => exact ⟨0, rfl, rfl, by omega, Lib.hid (Below.refl _ _)⟩
            case round =>
              obtain ⟨j, rfl, rfl, hj, HJ⟩ := hrel
              have hj0 : (0 : Int) ≤ (j : Int) := by omega
              by_cases hjm : j < m3
              · have hjm2 : (j : Int) < (m3 : Int) := by omega
                have wj : IntKind.i64.wrap ((j : Int) + 1) = (j : Int) + 1 := IntWalk.i64_in _ (by have h9 := A3.out.1; have h8 := H64.out; omega)
                obtain ⟨g3, off3, x, rfl, hx, q0⟩ := HI3.out wr j HJ.out (by rw [A3.out.1]; exact hjm)
                obtain ⟨x1, x2, x3, x4⟩ := HF.out x (List.mem_of_getElem? hx.out)
                obtain ⟨v, hv⟩ : ∃ v, wayV (n : Int) l (k : Int) x = v := ⟨_, rfl⟩
                have xk : (x == (k : Int)) = false := by simpa using x1
                have HC := Lib.hid (HWA.out wr (k : Int) x (below_then HB2.out (below_then HB3.out HJ.out)) (by unfold I64; omega) (by unfold I64; omega))
                rw [x3, hv] at HC
                rw [hv] at x4
                have dv : decide (v < 1) = false := decide_eq_false (by omega)
                clear hv x2 x3 x1
                go_wp2_with fail
                refine HC.out.mono ?_
                rintro e w4 ⟨rfl, b4⟩
                have HJ4 := Lib.hid (below_then HJ.out b4)
                clear b4
                go_wp2_with fail
                go_roundw
                case rel => exact ⟨j + 1, rfl, by go_num, by omega, HJ4⟩
                case measure => simp [RowKit.intOf]; omega
              · obtain rfl : j = m3 := by omega
                have HK4 : Hid (Below w2.heap.size w2 wr) := Lib.hid (below_then HB3.out HJ.out)
                go_wp2_with fail
                go_roundw
                case rel => exact ⟨k + 1, rfl, by go_num, by omega, HK4⟩
                case measure => simp [RowKit.intOf]; omega
          · have d1 : decide (k ≤ n) = false := decide_eq_false hkn
            obtain ⟨W5, rfl⟩ : ∃ W5, W5 = wr := ⟨_, rfl⟩
            obtain ⟨M, hM⟩ : ∃ M, n + 1 = M := ⟨_, rfl⟩
            have hMi : (n : Int) + 1 = (M : Int) := by omega
            have wM : IntKind.i64.wrap ((n : Int) + 1) = (M : Int) := by rw [hMi]; exact IntWalk.i64_in _ (by omega)
            obtain ⟨A, hA⟩ : ∃ A, W5.heap.size = A := ⟨_, rfl⟩
            obtain ⟨Z, hZ⟩ : ∃ Z, W5.alloc (.cells (madeCells #[(Value.int .i64 0)] M) 3) = Z := ⟨_, rfl⟩
            have HZ : Hid (IO Z A n (fun _ => 0) ∧ Below A W5 Z) := Lib.hid (by
              have hb1 : Below W5.heap.size W5 Z := by rw [← hZ]; exact (Below.refl _ _).alloc (Nat.le_refl _) _
              have g1 : Z.heap[A]? = some (.cells (madeCells #[(Value.int .i64 0)] M) 3 (0, 0)) := by rw [← hZ, ← hA]; exact heap_alloc_new W5 _
              rw [← hA]
              rw [← hA] at g1
              exact ⟨⟨fun i hi => ⟨cell_block g1 (made_at _ _ _ (by omega)), free_block i g1⟩⟩, hb1⟩)
            have HA : Hid (W5.heap.size = A) := Lib.hid hA
            have HOR : Hid (∀ W i, Below A W5 W → i < n → ∃ (g off p : Nat), o1 = some ⟨g, off, none⟩ ∧ Hid (L1[i]? = some (p : Int) ∧ (p : Int) ∉ L1.take i) ∧ (1 ≤ p ∧ p ≤ n) ∧ W.cell? ⟨g, off + i, none⟩ = some (.int .i64 (p : Int))) := Lib.hid (fun W i hW hi => by
              obtain ⟨g, off, x, e, hx, hc⟩ := (irow_at A1.out.2.1).out W i (below_then (below_then A2.out.2.2.2 HK.out) (by rw [HA.out]; exact hW)) (by rw [A1.out.1]; exact hi)
              have hb := HST.out.1.node x (List.mem_of_getElem? hx.out)
              obtain ⟨p, rfl⟩ := Int.eq_ofNat_of_zero_le (show 0 ≤ x by omega)
              refine ⟨g, off, p, e, Lib.hid ⟨hx.out, fun h => ?_⟩, by omega, hc⟩
              obtain ⟨q, hq, hqx⟩ := List.getElem_of_mem h
              rw [List.length_take] at hq
              rw [List.getElem_take] at hqx
              obtain ⟨h1, h2⟩ := List.getElem?_eq_some_iff.1 hx.out
              exact List.pairwise_iff_getElem.1 HST.out.1.nodup q i (by omega) h1 (by omega) (by rw [hqx, h2]))
            have hmk := run_make_row' (P := Try.prog) 24 3 (.int .i64 0) 8 Try.underlying24 info_one rfl .i64 .i64 M (by omega) (by omega)
            go_wp2_with fail
            clear hmk hZ hMi wM hA
            go_loopw [20] (fun t wk => ∃ (j : Nat) (f : Nat → Int), t = .int .i64 (j : Int) ∧ j ≤ n ∧ Hid (IO wk A n f ∧ Below A W5 wk) ∧ Hid (Placed L1 j f)) (fun t _ => n - (RowKit.intOf t).toNat)
            case atStart => exact ⟨0, _, rfl, by omega, HZ, Lib.hid (placed_zero L1)⟩
            case round =>
              clear HZ
              obtain ⟨j, f, rfl, hj, HP, HF⟩ := hrel
              have hj0 : (0 : Int) ≤ (j : Int) := by omega
              by_cases hjn : j < n
              · have hjn2 : (j : Int) < (n : Int) := by omega
                have wj : IntKind.i64.wrap ((j : Int) + 1) = (j : Int) + 1 := IntWalk.i64_in _ (by omega)
                obtain ⟨g0, off0, p, rfl, HQ, hp, q0⟩ := HOR.out wr j HP.out.2 hjn
                obtain ⟨x0, x1⟩ := HP.out.1.ints p hp.2
                rw [HF.out.not p HQ.out.2] at x0
                have hp0 : (0 : Int) ≤ (p : Int) := by omega
                have hpM : (p : Int) < (M : Int) := by omega
                have hp1 : ¬ p < 1 := by omega
                have hp2 : ¬ p = 0 := by omega
                have hp3 : ¬ (p : Int) < 1 := by omega
                have hp4 : ¬ n < p := by omega
                have d2 : decide ((p : Int) < 1) = false := decide_eq_false (by omega)
                have d3 : decide (n < p) = false := decide_eq_false (by omega)
                have HP4 : Hid (IO (wr.setCell ⟨A, p, none⟩ (.int .i64 ((j : Int) + 1))) A n (up f p ((j : Int) + 1)) ∧ Below A W5 (wr.setCell ⟨A, p, none⟩ (.int .i64 ((j : Int) + 1)))) := Lib.hid ⟨HP.out.1.setI p _, HP.out.2.setCell (p := ⟨A, p, none⟩) (Nat.le_refl _) _⟩
                have HF4 := Lib.hid (HF.out.more HST.out.1.nodup HQ.out.1)
                go_wp2_with fail
                go_roundw
                case rel => exact ⟨j + 1, _, by go_num, by omega, HP4, HF4⟩
                case measure => simp [RowKit.intOf]; omega
              · obtain rfl : n = j := by omega
                have HPL : Hid (Placed L1 L1.length f) := Lib.hid (by rw [HST.out.2]; exact HF.out)
                have HFE : Hid (∀ p q : Nat, (⟨(p : Int), (q : Int)⟩ : Nd) ∈ l → (1 ≤ p ∧ p ≤ n) → f q < f p ∧ dp L2 (q : Int) < dp L2 (p : Int)) := Lib.hid fun p q ht hp => ⟨placed_behind HPL.out HST.out.1 (by rw [HST.out.2]; omega) ht ⟨by omega, by omega⟩, by
                  have := deeper HMAY.out HE.out ht
                  rw [HL2.out] at this
                  exact this⟩
                have HB0 : Hid (∀ W, Below A W5 W → Below W0.heap.size W0 W) := Lib.hid fun W hW => below_then (below_then HB2.out HK.out) (by rw [HA.out]; exact hW)
                have HD2 := irow_at A2.out.2.1
                have HBD : Hid (∀ W, Below A W5 W → Below w2.heap.size w2 W) := Lib.hid fun W hW => below_then HK.out (by rw [HA.out]; exact hW)
                go_wp2_with fail
                go_loopw [21] (fun t wk => ∃ j : Nat, t = .int .i64 (j : Int) ∧ j ≤ i ∧ Hid (IO wk A n f ∧ Below A W5 wk)) (fun t _ => i - (RowKit.intOf t).toNat)
                case atStart => exact ⟨0, rfl, by omega, HP⟩
                case round =>
                  clear HP
                  obtain ⟨j, rfl, hji, HI⟩ := hrel
                  have hj0 : (0 : Int) ≤ (j : Int) := by omega
                  by_cases hjl : j < i
                  · have hjl2 : (j : Int) < (i : Int) := by omega
                    have wj : IntKind.i64.wrap ((j : Int) + 1) = (j : Int) + 1 := IntWalk.i64_in _ (by omega)
                    obtain ⟨g, off, t, rfl, ht, z0, z1⟩ := HND.out wr j (HB0.out wr HI.out.2) (by rw [HLL.out.1]; exact hjl)
                    obtain ⟨p, q, htt, hp, hq⟩ := HLI.out t (List.mem_of_getElem? ht.out)
                    subst htt
                    have z0 : wr.cell? ⟨g, off + j * 2, none⟩ = some (.int .i64 (p : Int)) := z0
                    have z1 : wr.cell? ⟨g, off + j * 2 + 1, none⟩ = some (.int .i64 (q : Int)) := z1
                    obtain ⟨e1, e2⟩ := HFE.out p q (List.mem_of_getElem? ht.out) hp
                    obtain ⟨x0, _⟩ := HI.out.1.ints p hp.2
                    obtain ⟨y0, _⟩ := HI.out.1.ints q hq.2
                    obtain ⟨F1, hF1⟩ : ∃ F, f p = F := ⟨_, rfl⟩
                    obtain ⟨F2, hF2⟩ : ∃ F, f q = F := ⟨_, rfl⟩
                    rw [hF1] at x0 e1
                    rw [hF2] at y0 e1
                    obtain ⟨p0, hp0⟩ : ∃ p0, p = p0 + 1 := ⟨p - 1, by omega⟩
                    obtain ⟨q0, hq0⟩ : ∃ q0, q = q0 + 1 := ⟨q - 1, by omega⟩
                    obtain ⟨gd, offd, D1, rfl, hD1, c0⟩ := HD2.out wr p0 (HBD.out wr HI.out.2) (by rw [HDL.out]; omega)
                    obtain ⟨gd2, offd2, D2, eo, hD2, c1'⟩ := HD2.out wr q0 (HBD.out wr HI.out.2) (by rw [HDL.out]; omega)
                    cases eo
                    have eD1 : dp L2 (p : Int) = D1 := by
                      unfold dp
                      rw [show ((p : Int) - 1).toNat = p0 by omega, List.getD_eq_getElem?_getD, hD1.out]
                      rfl
                    have eD2 : dp L2 (q : Int) = D2 := by
                      unfold dp
                      rw [show ((q : Int) - 1).toNat = q0 by omega, List.getD_eq_getElem?_getD, hD2.out]
                      rfl
                    rw [eD1, eD2] at e2
                    have dl1 : decide (F1 ≤ F2) = false := decide_eq_false (by omega)
                    have dl2 : decide (D1 ≤ D2) = false := decide_eq_false (by omega)
                    have wp : IntKind.i64.wrap ((p : Int) - 1) = (p0 : Int) := by rw [show (p : Int) - 1 = (p0 : Int) by omega]; exact IntWalk.i64_in _ (by omega)
                    have wq : IntKind.i64.wrap ((q : Int) - 1) = (q0 : Int) := by rw [show (q : Int) - 1 = (q0 : Int) by omega]; exact IntWalk.i64_in _ (by omega)
                    have b1 : (0 : Int) ≤ (p : Int) := by omega
                    have b2 : (0 : Int) ≤ (q : Int) := by omega
                    have b3 : (p : Int) < (M : Int) := by omega
                    have b4 : (q : Int) < (M : Int) := by omega
                    have b5 : (0 : Int) ≤ (p0 : Int) := by omega
                    have b6 : (0 : Int) ≤ (q0 : Int) := by omega
                    have b7 : (p0 : Int) < (n : Int) := by omega
                    have b8 : (q0 : Int) < (n : Int) := by omega
                    have HI6 : Hid (∀ d, IO (wr.drewN d) A n f ∧ Below A W5 (wr.drewN d)) := Lib.hid fun d => ⟨⟨HI.out.1.ints⟩, below_drewN HI.out.2 d⟩
                    clear hp hq hp0 hq0 hF1 hF2 eD1 eD2 e1 e2 hD1 hD2
                    go_wp2_with fail
                    go_quiet (fail)
                    go_wp2_with fail
                    go_roundw
                    case rel => exact ⟨j + 1, by go_num, by omega, Lib.hid (HI6.out _)⟩
                    case measure => simp [RowKit.intOf]; omega
                  · obtain rfl : i = j := by omega
                    have H9 := Lib.hid (HW.out wr (below_then hLN.out.2 (HB0.out wr HI.out.2)))
                    go_wp2_with fail
                    refine H9.out.mono ?_
                    rintro e w9 ⟨rfl, B9⟩
                    go_wp2_with fail
                    go_ret
                    exact ⟨rfl, B9.out⟩
      · obtain ⟨h9, hv1, hv2⟩ := ord_nine HMAY.out (by rw [HE.out]; exact he)
        obtain rfl : 9 = er := by rw [← h9]; exact HE.out
        have hL1n : L1 = [] := by rw [← HL1.out]; exact hv1
        have hL2n : L2 = [] := by rw [← HL2.out]; exact hv2
        obtain rfl : 0 = m1 := by rw [← A1.out.1, hL1n]; rfl
        obtain rfl : 0 = m2 := by rw [← A2.out.1, hL2n]; rfl
        have HRD : Hid (∃ k : Nat, (1 ≤ k ∧ k ≤ n) ∧ (k : Int) ∈ belV (n : Int) l (k : Int)) := Lib.hid (by
          obtain ⟨x, hx, hxb⟩ := round_is HMAY.out (by rw [HE.out]; exact he)
          obtain ⟨k, rfl⟩ := Int.eq_ofNat_of_zero_le (show 0 ≤ x by omega)
          exact ⟨k, by omega, hxb⟩)
        have HB2 : Hid (Below W0.heap.size W0 w2) := Lib.hid A2.out.2.2.1
        clear h9 hv1 hv2 hL1n hL2n he
        go_wp2_with fail
        go_loopw [12, 13] (fun rd t wk => ∃ (k : Nat) (b : Bool), rd = .bool b ∧ t = .int .i64 (k : Int) ∧ (1 ≤ k ∧ k ≤ n + 1) ∧ Hid (Below w2.heap.size w2 wk) ∧ Hid (b = true ↔ ∃ k' : Nat, (1 ≤ k' ∧ k' < k) ∧ (k' : Int) ∈ belV (n : Int) l (k' : Int))) (fun _ t _ => n + 2 - (RowKit.intOf t).toNat)
        case atStart => exact ⟨1, false, rfl, rfl, by omega, Lib.hid (Below.refl _ _), Lib.hid ⟨fun h => (by cases h), fun ⟨k', hk', _⟩ => by omega⟩⟩
        case round =>
          obtain ⟨k, b, rfl, rfl, hk, HK, HBB⟩ := hrel
          by_cases hkn : k ≤ n
          · have d1 : decide (k ≤ n) = true := decide_eq_true hkn
            have wk : IntKind.i64.wrap ((k : Int) + 1) = (k : Int) + 1 := IntWalk.i64_in _ (by omega)
            have HB := Lib.hid (HBE.out wr k (below_then HB2.out HK.out) ⟨hk.1, hkn⟩)
            obtain ⟨L3, hL3⟩ : ∃ L, belV (n : Int) l (k : Int) = L := ⟨_, rfl⟩
            rw [hL3] at HB
            have H64 : Hid (L3.length ≤ 64) := Lib.hid (by rw [← hL3]; exact belV_small _ _ _)
            have HL3 := Lib.hid hL3
            have HK1 : Hid (1 ≤ k) := Lib.hid hk.1
            have HX3 : Hid (∀ x ∈ L3, I64 x) := Lib.hid fun x hx => by
              rw [← hL3] at hx
              have h1 := (mem_bel (n := (n : Int)) (l := l) (node := (k : Int)) ⟨HMAY.out, by omega, by omega⟩).1 hx
              have h2 := lead_in HMAY.out h1
              unfold I64
              omega
            clear hL3
            go_wp2_with fail
            refine HB.out.mono ?_
            rintro e w3 ⟨o3, m3, k3, rfl, A3⟩
            have HI3 := irow_at A3.out.2.1
            have HB3 : Hid (Below w2.heap.size w2 w3) := Lib.hid (below_then HK.out A3.out.2.2.2)
            go_wp2_with fail
            go_loopw [12, 16] (fun rd t wk => ∃ (j : Nat) (b' : Bool), rd = .bool b' ∧ t = .int .i64 (j : Int) ∧ j ≤ m3 ∧ Hid (Below w3.heap.size w3 wk) ∧ Hid (b' = true ↔ (b = true ∨ (k : Int) ∈ L3.take j))) (fun _ t _ => m3 - (RowKit.intOf t).toNat)
            case atStart => exact ⟨0, b, rfl, rfl, by omega, Lib.hid (Below.refl _ _), Lib.hid (by simp)⟩
            case round =>
              obtain ⟨j, b', rfl, rfl, hj, HJ, HJB⟩ := hrel
              have hj0 : (0 : Int) ≤ (j : Int) := by omega
              by_cases hjm : j < m3
              · have hjm2 : (j : Int) < (m3 : Int) := by omega
                have wj : IntKind.i64.wrap ((j : Int) + 1) = (j : Int) + 1 := IntWalk.i64_in _ (by have h9 := A3.out.1; have h8 := H64.out; omega)
                obtain ⟨g3, off3, x, rfl, hx, q0⟩ := HI3.out wr j HJ.out (by rw [A3.out.1]; exact hjm)
                obtain ⟨v, hv⟩ : ∃ v, wayV (n : Int) l (k : Int) x = v := ⟨_, rfl⟩
                obtain ⟨ee, hee⟩ : ∃ v, wayE (n : Int) l (k : Int) x = v := ⟨_, rfl⟩
                have HC := Lib.hid (HWA.out wr (k : Int) x (below_then HB2.out (below_then HB3.out HJ.out)) (by unfold I64; omega) (HX3.out x (List.mem_of_getElem? hx.out)))
                rw [hee, hv] at HC
                clear hv hee
                obtain ⟨c, hc⟩ : ∃ c : Bool, (x == (k : Int)) = c := ⟨_, rfl⟩
                have HCC : Hid (c = true ↔ x = (k : Int)) := Lib.hid (by rw [← hc]; simp)
                have HJ2 : Hid ((b' || c) = true ↔ (b = true ∨ (k : Int) ∈ L3.take (j + 1))) := Lib.hid (by
                  rw [Bool.or_eq_true, HJB.out, HCC.out, mem_take_succ hx.out]
                  constructor
                  · rintro ((h | h) | h)
                    · exact .inl h
                    · exact .inr (.inl h)
                    · exact .inr (.inr h.symm)
                  · rintro (h | h | h)
                    · exact .inl (.inl h)
                    · exact .inl (.inr h)
                    · exact .inr h.symm)
                have hxk : (x = (k : Int)) ↔ c = true := HCC.out.symm
                cases b' with
                | true =>
                  clear hxk hc
                  go_wp2_with fail
                  refine HC.out.mono ?_
                  rintro e w4 ⟨rfl, b4⟩
                  have HJ4 := Lib.hid (below_then HJ.out b4)
                  clear b4
                  go_wp2_with fail
                  go_roundw
                  case rel => exact ⟨j + 1, true, rfl, by go_num, by omega, HJ4, by simpa using HJ2⟩
                  case measure => simp [RowKit.intOf]; omega
                | false =>
                  clear hxk
                  go_wp2_with fail
                  refine HC.out.mono ?_
                  rintro e w4 ⟨rfl, b4⟩
                  have HJ4 := Lib.hid (below_then HJ.out b4)
                  clear b4
                  go_wp2_with fail
                  go_roundw
                  case rel => exact ⟨j + 1, c, by first | rfl | trivial, by go_num, by omega, HJ4, by simpa using HJ2⟩
                  case measure => simp [RowKit.intOf]; omega
              · obtain rfl : j = m3 := by omega
                have HK4 : Hid (Below w2.heap.size w2 wr) := Lib.hid (below_then HB3.out HJ.out)
                have HBB4 : Hid (b' = true ↔ ∃ k' : Nat, (1 ≤ k' ∧ k' < k + 1) ∧ (k' : Int) ∈ belV (n : Int) l (k' : Int)) := Lib.hid (by
                  have h := HJB.out
                  rw [List.take_of_length_le (by rw [A3.out.1]; exact Nat.le_refl _), HBB.out] at h
                  rw [h]
                  constructor
                  · rintro (⟨k', h1, h2⟩ | h1)
                    · exact ⟨k', by omega, h2⟩
                    · exact ⟨k, ⟨HK1.out, by omega⟩, by rw [HL3.out]; exact h1⟩
                  · rintro ⟨k', h1, h2⟩
                    by_cases hkk : k' = k
                    · subst hkk
                      rw [HL3.out] at h2
                      exact .inr h2
                    · exact .inl ⟨k', by omega, h2⟩)
                go_wp2_with fail
                go_roundw
                case rel => exact ⟨k + 1, b', rfl, by go_num, by omega, HK4, HBB4⟩
                case measure => simp [RowKit.intOf]; omega
          · have d1 : decide (k ≤ n) = false := decide_eq_false hkn
            obtain rfl : true = b := by
              obtain ⟨k', h1, h2⟩ := HRD.out
              exact (HBB.out.2 ⟨k', by omega, h2⟩).symm
            have H9 := Lib.hid (HW.out wr (below_then hLN.out.2 (below_then HB2.out HK.out)))
            go_wp2_with fail
            refine H9.out.mono ?_
            rintro e w9 ⟨rfl, B9⟩
            go_wp2_with fail
            go_ret
            exact ⟨rfl, B9.out⟩
end Go.Proofs.Ytghjcefigdkhnaa.Graph
