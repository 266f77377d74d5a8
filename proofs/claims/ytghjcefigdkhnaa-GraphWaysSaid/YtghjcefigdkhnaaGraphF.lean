/- The document's Ways, walked. -/
import Derived.Test.YtghjcefigdkhnaaGraphE
import Derived.BigRegion
namespace Go.Proofs.Ytghjcefigdkhnaa.Graph
open Go.RowKit Go.Lib IRows

open Classical in
set_option maxRecDepth 100000 in
set_option maxHeartbeats 2000000 in
theorem ways_not (n : Int) (a : Option Addr) (m c : Nat) (l : List Nd) (x y : Int) (w : World) (hl : l.length = m) (hs : Nds w a l) (hm : m ≤ 1048576) (h : ¬ WayOk n l x y) :
    Calls Try.prog 16 #[.int .i64 n, .slice a m c, .int .i64 x, .int .i64 y] w fun e w' => e = .returned (.tuple #[.int .i64 0, .int .i64 1]) ∧ w = w' := by
  have HY := dmay n a m c l w hl hs hm
  by_cases hok : May n l
  case neg =>
    rw [decide_eq_false hok] at HY
    have HM := Lib.hid HY
    clear hl hs hm HY hok h
    go_enter Try.func16, Try.ntmps16
    go_wp2_with fail
    refine HM.out.mono ?_
    rintro e w' ⟨rfl, rfl⟩
    go_wp2_with fail
    go_ret2
    exact ⟨rfl, rfl⟩
  rw [decide_eq_true hok] at HY
  have HM := Lib.hid HY
  have hx : x < 1 ∨ (¬ x < 1 ∧ (n < x ∨ (¬ n < x ∧ (y < 1 ∨ (¬ y < 1 ∧ n < y))))) := by
    have : ¬ ((1 ≤ x ∧ x ≤ n) ∧ 1 ≤ y ∧ y ≤ n) := fun e => h ⟨hok, e⟩
    omega
  clear hl hs hm HY hok h
  rcases hx with h1 | ⟨h1, h2 | ⟨h2, h3 | ⟨h3, h4⟩⟩⟩
  · have d1 : decide (x < 1) = true := decide_eq_true h1
    go_enter Try.func16, Try.ntmps16
    go_wp2_with fail
    refine HM.out.mono ?_
    rintro e w' ⟨rfl, rfl⟩
    go_wp2_with fail
    go_ret2
    exact ⟨rfl, rfl⟩
  · have d1 : decide (x < 1) = false := decide_eq_false h1
    have d2 : decide (n < x) = true := decide_eq_true h2
    go_enter Try.func16, Try.ntmps16
    go_wp2_with fail
    refine HM.out.mono ?_
    rintro e w' ⟨rfl, rfl⟩
    go_wp2_with fail
    go_ret2
    exact ⟨rfl, rfl⟩
  · have d1 : decide (x < 1) = false := decide_eq_false h1
    have d2 : decide (n < x) = false := decide_eq_false h2
    have d3 : decide (y < 1) = true := decide_eq_true h3
    go_enter Try.func16, Try.ntmps16
    go_wp2_with fail
    refine HM.out.mono ?_
    rintro e w' ⟨rfl, rfl⟩
    go_wp2_with fail
    go_ret2
    exact ⟨rfl, rfl⟩
  · have d1 : decide (x < 1) = false := decide_eq_false h1
    have d2 : decide (n < x) = false := decide_eq_false h2
    have d3 : decide (y < 1) = false := decide_eq_false h3
    have d4 : decide (n < y) = true := decide_eq_true h4
    go_enter Try.func16, Try.ntmps16
    go_wp2_with fail
    refine HM.out.mono ?_
    rintro e w' ⟨rfl, rfl⟩
    go_wp2_with fail
    go_ret2
    exact ⟨rfl, rfl⟩
theorem WO.at_b {W : World} {A B N : Nat} {f : Nat → Int} {b : Nat → Bool} {p : Nat} {v : Bool} (h : WO W A B N f (up b p v)) (hp : p ≤ N) : W.cell? ⟨B, p, none⟩ = some (.bool v) := by
  have h1 := (h.bools p hp).1
  unfold up at h1
  rw [if_pos rfl] at h1
  exact h1
theorem wo_drewN {W : World} {A B N : Nat} {f : Nat → Int} {b : Nat → Bool} (h : WO W A B N f b) (d : Nat) : WO (W.drewN d) A B N f b := ⟨h.ints, h.bools, h.ne⟩
open Classical in
set_option maxRecDepth 100000 in
set_option maxHeartbeats 8000000 in
theorem ways_go (n : Int) (a : Option Addr) (m c : Nat) (l : List Nd) (x y : Int) (w : World) (hl : l.length = m) (hs : Nds w a l) (hm : m ≤ 1048576) (h : WayOk n l x y) :
    Calls Try.prog 16 #[.int .i64 n, .slice a m c, .int .i64 x, .int .i64 y] w fun e w' => e = .returned (.tuple #[.int .i64 (wayV n l x y), .int .i64 (wayE n l x y)]) ∧ Below w.heap.size w w' := by
  have HM : Hid (Calls Try.prog 19 #[.int .i64 n, .slice a m c] w fun e w' => e = .returned (.bool true) ∧ w = w') := Lib.hid (by
    have := dmay n a m c l w hl hs hm
    rw [decide_eq_true h.1] at this
    exact this)
  have HO := Lib.hid (dorder n a m c l w hl hs hm)
  have d1 : decide (x < 1) = false := decide_eq_false (by have := h.2.1.1; omega)
  have d2 : decide (n < x) = false := decide_eq_false (by have := h.2.1.2; omega)
  have d3 : decide (y < 1) = false := decide_eq_false (by have := h.2.2.1; omega)
  have d4 : decide (n < y) = false := decide_eq_false (by have := h.2.2.2; omega)
  by_cases he : ordE n l = 0
  case neg =>
    obtain ⟨e1, e2⟩ := way_round h he
    obtain ⟨er, her⟩ : ∃ er, ordE n l = er := ⟨_, rfl⟩
    rw [her] at HO he e1
    rw [e1, e2]
    have hb1 : (er == 0) = false := by simpa using he
    have hb2 : (er != 0) = true := by simpa using he
    clear hl hs hm h e1 e2 her
    go_enter Try.func16, Try.ntmps16
    go_wp2_with fail
    refine HM.out.mono ?_
    rintro e w' ⟨rfl, rfl⟩
    go_wp2_with fail
    refine HO.out.mono ?_
    rintro e w1 ⟨a1, j, c1, rfl, H1⟩
    go_wp2_with fail
    go_ret2
    exact ⟨rfl, H1.out.2.2⟩
  have HOE := Lib.hid he
  rw [he] at HO
  obtain ⟨hmay, hst, hol⟩ := ord_zero he
  obtain ⟨N, rfl⟩ := Int.eq_ofNat_of_zero_le hmay.1.1
  have hNT : ((N : Int)).toNat = N := by omega
  rw [hNT] at hol
  obtain ⟨o, ho⟩ : ∃ o, ordV (N : Int) l = o := ⟨_, rfl⟩
  rw [ho] at hst hol HO
  have hN : N ≤ 64 := by have := hmay.1.2; omega
  have HX : Hid (1 ≤ x ∧ x ≤ (N : Int)) := Lib.hid h.2.1
  obtain ⟨M, hM⟩ : ∃ M, N + 1 = M := ⟨_, rfl⟩
  have hMi : (N : Int) + 1 = (M : Int) := by omega
  have wM : IntKind.i64.wrap ((N : Int) + 1) = (M : Int) := by rw [hMi]; exact IntWalk.i64_in _ (by omega)
  have hM2 : M ≤ 1048576 := by omega
  have HMM := Lib.hid hM
  have HST := Lib.hid hst; have HOL := Lib.hid hol; have HOO := Lib.hid ho
  have HL := Lib.hid hl; have HT := nds_at hs; have HWK := Lib.hid h
  have hm2 : (m : Int) ≤ 1048576 := by omega
  have HND : Hid (∀ t ∈ l, (1 ≤ t.a ∧ t.a ≤ (N : Int)) ∧ 1 ≤ t.b ∧ t.b ≤ (N : Int)) := Lib.hid fun t ht => hmay.2.2 t ht
  clear hl hs hm h he hst hol ho hNT hmay
  go_enter Try.func16, Try.ntmps16
  go_wp2_with fail
  refine HM.out.mono ?_
  rintro e w' ⟨rfl, rfl⟩
  go_wp2_with fail
  refine HO.out.mono ?_
  rintro e w1 ⟨a1, j, c1, rfl, H1⟩
  obtain rfl : j = N := by rw [← H1.out.1]; exact HOL.out
  obtain ⟨A, hA⟩ : ∃ A, w1.heap.size = A := ⟨_, rfl⟩
  obtain ⟨Z1, hZ1⟩ : ∃ Z, w1.alloc (.cells (madeCells #[(Value.int .i64 0)] M) 3) = Z := ⟨_, rfl⟩
  obtain ⟨B, hB⟩ : ∃ B, Z1.heap.size = B := ⟨_, rfl⟩
  obtain ⟨Z, hZ⟩ : ∃ Z, Z1.alloc (.cells (madeCells #[(Value.bool false)] M) 4) = Z := ⟨_, rfl⟩
  have hAB : B = A + 1 := by rw [← hB, ← hZ1, ← hA]; simp
  have HZ : Hid (WO Z A B j (fun _ => 0) (fun _ => false) ∧ Below A w1 Z) := Lib.hid (by
    have hb1 : Below w1.heap.size w1 Z1 := by rw [← hZ1]; exact (Below.refl _ _).alloc (Nat.le_refl _) _
    have hb2 : Below Z1.heap.size Z1 Z := by rw [← hZ]; exact (Below.refl _ _).alloc (Nat.le_refl _) _
    have g1 : Z1.heap[A]? = some (.cells (madeCells #[(Value.int .i64 0)] M) 3 (0, 0)) := by rw [← hZ1, ← hA]; exact heap_alloc_new w1 _
    have g2 : Z.heap[B]? = some (.cells (madeCells #[(Value.bool false)] M) 4 (0, 0)) := by rw [← hZ, ← hB]; exact heap_alloc_new Z1 _
    have g1' : Z.heap[A]? = some (.cells (madeCells #[(Value.int .i64 0)] M) 3 (0, 0)) := (hb2.block A (by omega)).trans g1
    have := HMM.out
    refine ⟨⟨fun i hi => ⟨cell_block g1' (made_at _ _ _ (by omega)), free_block i g1'⟩, fun i hi => ⟨cell_block g2 (made_at _ _ _ (by omega)), free_block i g2⟩, by omega⟩, ?_⟩
    rw [← hA]
    exact below_then hb1 hb2)
  subst hAB
  have HA : Hid (w1.heap.size = A) := Lib.hid hA
  have HOR : Hid (∀ W i, Below A w1 W → i < j → ∃ (g off p : Nat), a1 = some ⟨g, off, none⟩ ∧ Hid (o[i]? = some (p : Int) ∧ (p : Int) ∉ o.take i ∧ (p : Int) ∈ o) ∧ (1 ≤ p ∧ p ≤ j) ∧ W.cell? ⟨g, off + i, none⟩ = some (.int .i64 (p : Int))) := Lib.hid (fun W i hW hi => by
    obtain ⟨a2, c2, e, hr⟩ := irow_own H1.out.2.1
    injection e with e1 e2 e3
    subst e1
    obtain ⟨g, off, x, e, hx, hc⟩ := (irow_at hr).out W i (by rw [hA]; exact hW) (by rw [HOL.out]; exact hi)
    have hb := HST.out.node x (List.mem_of_getElem? hx.out)
    obtain ⟨p, rfl⟩ := Int.eq_ofNat_of_zero_le (show 0 ≤ x by omega)
    refine ⟨g, off, p, e, Lib.hid ⟨hx.out, fun h => ?_, List.mem_of_getElem? hx.out⟩, by omega, hc⟩
    obtain ⟨q, hq, hqx⟩ := List.getElem_of_mem h
    rw [List.length_take] at hq
    rw [List.getElem_take] at hqx
    obtain ⟨h1, h2⟩ := List.getElem?_eq_some_iff.1 hx.out
    exact List.pairwise_iff_getElem.1 HST.out.nodup q i (by omega) h1 (by omega) (by rw [hqx, h2]))
  have hmk := run_make_row' (P := Try.prog) 24 3 (.int .i64 0) 8 Try.underlying24 info_one rfl .i64 .i64 M (by omega) (by omega)
  have hmk2 := run_make_row' (P := Try.prog) 51 4 (.bool false) 1 Try.underlying51 info_yes rfl .i64 .i64 M (by omega) (by omega)
  go_wp2_with fail
  clear hmk hmk2 hZ1 hZ hA hB hMi wM
  go_loopw [14] (fun t wr => ∃ (k : Nat) (f : Nat → Int) (b : Nat → Bool), t = .int .i64 (k : Int) ∧ k ≤ j ∧ Hid (WO wr A (A + 1) j f b ∧ Below A w1 wr) ∧ Hid (Walked j l y o k f b)) (fun t _ => j - (RowKit.intOf t).toNat)
  case atStart => exact ⟨0, fun _ => 0, fun _ => false, rfl, by omega, HZ, Lib.hid ⟨fun q hq => by simp at hq, fun q _ _ => ⟨rfl, rfl⟩⟩⟩
  case round =>
    clear HZ
    obtain ⟨k, f0, b0, rfl, hk, HW, HD⟩ := hrel
    have hk0 : (0 : Int) ≤ (k : Int) := by omega
    by_cases hlt : k < j
    · have hlt2 : (k : Int) < (j : Int) := by omega
      have wk : IntKind.i64.wrap ((k : Int) + 1) = (k : Int) + 1 := IntWalk.i64_in _ (by omega)
      obtain ⟨g0, o0, p, rfl, HP, hp, q0⟩ := HOR.out _ k HW.out.2 hlt
      obtain ⟨x0, x1⟩ := HW.out.1.ints p (by omega)
      have hpM : (p : Int) < (M : Int) := by omega
      have hp0 : (0 : Int) ≤ (p : Int) := by omega
      by_cases cy : (p : Int) = y
      · have cy2 : ((p : Int) == y) = true := by simpa using cy
        have HB1 : Hid (Walking j l y o k p 0 (up f0 p 1) b0) := Lib.hid (by
          have := HD.out.begin HP.out.2.2 HP.out.2.1
          rw [if_pos cy] at this
          exact this)
        have HW1 : Hid (WO (wr.setCell ⟨A, p, none⟩ (.int .i64 1)) A (A + 1) j (up f0 p 1) b0 ∧ Below A w1 (wr.setCell ⟨A, p, none⟩ (.int .i64 1))) := Lib.hid ⟨HW.out.1.setI p 1, HW.out.2.setCell (p := ⟨A, p, none⟩) (Nat.le_refl _) _⟩
        clear cy
        go_wp2_with fail
        clear x0 x1 q0
        go_loopw [16] (fun t wr' => ∃ (i : Nat) (f : Nat → Int) (b : Nat → Bool), t = .int .i64 (i : Int) ∧ i ≤ m ∧ Hid (WO wr' A (A + 1) j f b ∧ Below A w1 wr') ∧ Hid (Walking j l y o k p i f b)) (fun t _ => m - (RowKit.intOf t).toNat)
        case atStart => exact ⟨0, _, _, rfl, by omega, HW1, HB1⟩
        case round =>
          clear HW1 HB1
          obtain ⟨i, f, b, rfl, hi, HW2, HK⟩ := hrel
          have hi0 : (0 : Int) ≤ (i : Int) := by omega
          by_cases hil : i < m
          · have hil2 : (i : Int) < (m : Int) := by omega
            have wi : IntKind.i64.wrap ((i : Int) + 1) = (i : Int) + 1 := IntWalk.i64_in _ (by omega)
            obtain ⟨g, off, t, rfl, ht, z0, z1⟩ := HT.out _ i (below_then H1.out.2.2 (by rw [HA.out]; exact HW2.out.2)) (by rw [HL.out]; exact hil)
            by_cases ca : t.a = (p : Int)
            case neg =>
              have ca2 : (t.a == (p : Int)) = false := by simpa using ca
              have ca3 : (t.a != (p : Int)) = true := by simpa using ca
              have HK2 := Lib.hid (HK.out.skip ht.out ca)
              clear ca
              go_wp2_with fail
              go_roundw
              case rel => exact ⟨i + 1, f, b, by go_num, by omega, HW2, HK2⟩
              case measure => simp [RowKit.intOf]; omega
            have ca2 : (t.a == (p : Int)) = true := by simpa using ca
            have ca3 : (t.a != (p : Int)) = false := by simpa using ca
            have hbt := (HND.out t (List.mem_of_getElem? ht.out)).2
            obtain ⟨q, hq⟩ := Int.eq_ofNat_of_zero_le (show 0 ≤ t.b by omega)
            have hqN : q ≤ j := by omega
            have hqk : (q : Int) ∈ o.take k := by rw [← hq]; exact HST.out.behind k (p : Int) HP.out.1 t (List.mem_of_getElem? ht.out) ca
            have HCQ := Lib.hid (HK.out.done q hqk)
            have HOV : Hid (mi < one y p + sumA p (nw j l y) (l.take i) + nw j l y q → Walking j l y o k p (i + 1) f (up b p true)) := Lib.hid fun h => HK.out.over HP.out.2.1 ht.out ca (by rw [hq]; exact h)
            have HFI : Hid (one y p + sumA p (nw j l y) (l.take i) + nw j l y q ≤ mi → Walking j l y o k p (i + 1) (up f p (f p + ((nw j l y q : Nat) : Int))) (up b p false)) := Lib.hid fun h => by
              have := HK.out.fine HP.out.2.1 ht.out ca (by rw [hq]; exact h)
              rw [hq] at this
              exact this
            rw [hq] at z1
            obtain ⟨x0, x1⟩ := HW2.out.1.ints p (by omega)
            obtain ⟨b0', b1⟩ := HW2.out.1.bools p (by omega)
            obtain ⟨y0, _⟩ := HW2.out.1.ints q hqN
            obtain ⟨c0, _⟩ := HW2.out.1.bools q hqN
            have hp0 : (0 : Int) ≤ (p : Int) := by omega
            have hq0 : (0 : Int) ≤ (q : Int) := by omega
            have hpM : (p : Int) < (M : Int) := by omega
            have hqM : (q : Int) < (M : Int) := by omega
            obtain ⟨u, hu⟩ : ∃ u, b p = u := ⟨_, rfl⟩
            obtain ⟨v, hv⟩ : ∃ v, b q = v := ⟨_, rfl⟩
            obtain ⟨X, hX⟩ : ∃ X, f p = X := ⟨_, rfl⟩
            obtain ⟨Y, hYf⟩ : ∃ Y, f q = Y := ⟨_, rfl⟩
            have HCP : Hid (Cell (one y p + sumA p (nw j l y) (l.take i)) X u) := Lib.hid (by rw [← hX, ← hu]; exact HK.out.now)
            have HCQ2 : Hid (Cell (nw j l y q) Y v) := Lib.hid (by rw [← hYf, ← hv]; exact HCQ.out)
            have hXX := HCP.out.high
            have hXL := HCP.out.low
            have HFX := Lib.hid hX
            rw [hu] at b0'
            rw [hv] at c0
            rw [hX] at x0
            rw [hYf] at y0
            clear hq hbt hqk hu hv hX ca
            cases u with
            | true =>
              have HK2 := Lib.hid (HOV.out (by have := HCP.out.over; have := of_decide_eq_true this.symm; omega))
              have HW3 : Hid (WO (wr.setCell ⟨A + 1, p, none⟩ (.bool true)).drew A (A + 1) j f (up b p true) ∧ Below A w1 (wr.setCell ⟨A + 1, p, none⟩ (.bool true)).drew) := Lib.hid ⟨(HW2.out.1.setB p true).drew, (HW2.out.2.setCell (p := ⟨A + 1, p, none⟩) (by show A ≤ A + 1; omega) _).drew⟩
              clear HOV HFI HCP HCQ2 HCQ hXX hXL HFX
              go_wp2_with fail
              go_region
              generalize hZ : (World.setCell wr ⟨A + 1, p, none⟩ (.bool true)).drew = Z
              rw [hZ] at HW3
              have zz : Z.cell? ⟨A + 1, p, none⟩ = some (.bool true) := HW3.out.1.at_b (by omega)
              clear hZ x0 x1 b0' b1 y0 c0 z0 z1
              go_wp2_with fail
              go_roundw
              case rel => exact ⟨i + 1, f, up b p true, by go_num, by omega, HW3, HK2⟩
              case measure => simp [RowKit.intOf]; omega
            | false =>
              cases v with
              | true =>
                have HK2 := Lib.hid (HOV.out (by have := HCQ2.out.over; have := of_decide_eq_true this.symm; omega))
                have HW3 : Hid (WO (wr.setCell ⟨A + 1, p, none⟩ (.bool true)).drew A (A + 1) j f (up b p true) ∧ Below A w1 (wr.setCell ⟨A + 1, p, none⟩ (.bool true)).drew) := Lib.hid ⟨(HW2.out.1.setB p true).drew, (HW2.out.2.setCell (p := ⟨A + 1, p, none⟩) (by show A ≤ A + 1; omega) _).drew⟩
                clear HOV HFI HCP HCQ2 HCQ hXX hXL HFX
                go_wp2_with fail
                go_region
                generalize hZ : (World.setCell wr ⟨A + 1, p, none⟩ (.bool true)).drew = Z
                rw [hZ] at HW3
                have zz : Z.cell? ⟨A + 1, p, none⟩ = some (.bool true) := HW3.out.1.at_b (by omega)
                clear hZ x0 x1 b0' b1 y0 c0 z0 z1
                go_wp2_with fail
                go_roundw
                case rel => exact ⟨i + 1, f, up b p true, by go_num, by omega, HW3, HK2⟩
                case measure => simp [RowKit.intOf]; omega
              | false =>
                have g1 : one y p + sumA p (nw j l y) (l.take i) ≤ mi := by have := of_decide_eq_false HCP.out.over.symm; omega
                have g2 : nw j l y q ≤ mi := by have := of_decide_eq_false HCQ2.out.over.symm; omega
                have g3 := HCP.out.is g1
                have g4 := HCQ2.out.is g2
                have hmi : ((mi : Nat) : Int) = 9223372036854775807 := rfl
                obtain ⟨r, hr⟩ : ∃ r, 9223372036854775807 - X = r := ⟨_, rfl⟩
                have wr1 : IntKind.i64.wrap (9223372036854775807 - X) = r := by rw [hr]; exact IntWalk.i64_in _ (by omega)
                have wr2 : wrap64 (9223372036854775807 - X) = r := by rw [hr]; exact IntWalk.wrap64_in _ (by omega)
                by_cases hov : r < Y
                · have dov : decide (r < Y) = true := decide_eq_true hov
                  have HK2 := Lib.hid (HOV.out (by omega))
                  have HW3 : Hid (WO (wr.setCell ⟨A + 1, p, none⟩ (.bool true)).drew A (A + 1) j f (up b p true) ∧ Below A w1 (wr.setCell ⟨A + 1, p, none⟩ (.bool true)).drew) := Lib.hid ⟨(HW2.out.1.setB p true).drew, (HW2.out.2.setCell (p := ⟨A + 1, p, none⟩) (by show A ≤ A + 1; omega) _).drew⟩
                  clear HOV HFI HCP HCQ2 HCQ hXX hXL HFX g1 g2 g3 g4 hmi hr
                  go_wp2_with fail
                  go_region
                  generalize hZ : (World.setCell wr ⟨A + 1, p, none⟩ (.bool true)).drew = Z
                  rw [hZ] at HW3
                  have zz : Z.cell? ⟨A + 1, p, none⟩ = some (.bool true) := HW3.out.1.at_b (by omega)
                  clear hZ x0 x1 b0' b1 y0 c0 z0 z1
                  go_wp2_with fail
                  go_roundw
                  case rel => exact ⟨i + 1, f, up b p true, by go_num, by omega, HW3, HK2⟩
                  case measure => simp [RowKit.intOf]; omega
                · have dov : decide (r < Y) = false := decide_eq_false hov
                  have g5 : one y p + sumA p (nw j l y) (l.take i) + nw j l y q ≤ mi := by omega
                  obtain ⟨s, hs⟩ : ∃ s, X + Y = s := ⟨_, rfl⟩
                  have HK2 : Hid (Walking j l y o k p (i + 1) (up f p s) (up b p false)) := Lib.hid (by
                    have h1 := HCP.out.is g1
                    have h2 := HCQ2.out.is g2
                    have h3 := HFI.out g5
                    rw [HFX.out, ← h2, hs] at h3
                    exact h3)
                  have hsr : 0 ≤ s ∧ s ≤ 9223372036854775807 := by
                    have h1 := HCQ2.out.low
                    have h2 : ¬ r < Y := hov
                    omega
                  have wS : IntKind.i64.wrap (X + Y) = s := by rw [hs]; exact IntWalk.i64_in _ (by omega)
                  have wS2 : wrap64 (X + Y) = s := by rw [hs]; exact IntWalk.wrap64_in _ (by omega)
                  have HW3 : Hid (WO (wr.setCell ⟨A + 1, p, none⟩ (.bool false)).drew A (A + 1) j f (up b p false) ∧ Below A w1 (wr.setCell ⟨A + 1, p, none⟩ (.bool false)).drew) := Lib.hid ⟨(HW2.out.1.setB p false).drew, (HW2.out.2.setCell (p := ⟨A + 1, p, none⟩) (by show A ≤ A + 1; omega) _).drew⟩
                  have HFY := Lib.hid hYf
                  clear HOV HFI HCP HCQ2 HCQ hXX hXL hsr hs hYf hr g1 g2 g3 g4 g5 hmi
                  go_wp2_with fail
                  go_region
                  generalize hZ : (World.setCell wr ⟨A + 1, p, none⟩ (.bool false)).drew = Z
                  rw [hZ] at HW3
                  have zz : Z.cell? ⟨A + 1, p, none⟩ = some (.bool false) := HW3.out.1.at_b (by omega)
                  obtain ⟨x0', x1'⟩ := HW3.out.1.ints p (by omega)
                  obtain ⟨y0', _⟩ := HW3.out.1.ints q hqN
                  rw [HFX.out] at x0'
                  rw [HFY.out] at y0'
                  clear hZ x0 x1 b0' b1 y0 c0 z0 z1
                  have HW4 : Hid (WO (Z.setCell ⟨A, p, none⟩ (.int .i64 s)).drew A (A + 1) j (up f p s) (up b p false) ∧ Below A w1 (Z.setCell ⟨A, p, none⟩ (.int .i64 s)).drew) := Lib.hid ⟨(HW3.out.1.setI p s).drew, (HW3.out.2.setCell (p := ⟨A, p, none⟩) (Nat.le_refl _) _).drew⟩
                  go_wp2_with fail
                  go_region
                  go_wp2_with fail
                  go_roundw
                  case rel => exact ⟨i + 1, up f p s, up b p false, by go_num, by omega, HW4, HK2⟩
                  case measure => simp [RowKit.intOf]; omega
          · obtain rfl : i = m := by omega
            have HD2 : Hid (Walked j l y o (k + 1) f b) := Lib.hid (by
              have h := HK.out
              rw [← HL.out] at h
              exact h.end HP.out.1 HOE.out (by omega) (by omega))
            go_wp2_with fail
            go_roundw
            case rel => exact ⟨k + 1, f, b, by go_num, by omega, HW2, HD2⟩
            case measure => simp [RowKit.intOf]; omega
      · have cy2 : ((p : Int) == y) = false := by simpa using cy
        have HB1 : Hid (Walking j l y o k p 0 f0 b0) := Lib.hid (by
          have := HD.out.begin HP.out.2.2 HP.out.2.1
          rw [if_neg cy] at this
          exact this)
        have HW1 := HW
        clear cy
        go_wp2_with fail
        clear x0 x1 q0
        go_loopw [16] (fun t wr' => ∃ (i : Nat) (f : Nat → Int) (b : Nat → Bool), t = .int .i64 (i : Int) ∧ i ≤ m ∧ Hid (WO wr' A (A + 1) j f b ∧ Below A w1 wr') ∧ Hid (Walking j l y o k p i f b)) (fun t _ => m - (RowKit.intOf t).toNat)
        case atStart => exact ⟨0, _, _, rfl, by omega, HW1, HB1⟩
        case round =>
          clear HW1 HB1
          obtain ⟨i, f, b, rfl, hi, HW2, HK⟩ := hrel
          have hi0 : (0 : Int) ≤ (i : Int) := by omega
          by_cases hil : i < m
          · have hil2 : (i : Int) < (m : Int) := by omega
            have wi : IntKind.i64.wrap ((i : Int) + 1) = (i : Int) + 1 := IntWalk.i64_in _ (by omega)
            obtain ⟨g, off, t, rfl, ht, z0, z1⟩ := HT.out _ i (below_then H1.out.2.2 (by rw [HA.out]; exact HW2.out.2)) (by rw [HL.out]; exact hil)
            by_cases ca : t.a = (p : Int)
            case neg =>
              have ca2 : (t.a == (p : Int)) = false := by simpa using ca
              have ca3 : (t.a != (p : Int)) = true := by simpa using ca
              have HK2 := Lib.hid (HK.out.skip ht.out ca)
              clear ca
              go_wp2_with fail
              go_roundw
              case rel => exact ⟨i + 1, f, b, by go_num, by omega, HW2, HK2⟩
              case measure => simp [RowKit.intOf]; omega
            have ca2 : (t.a == (p : Int)) = true := by simpa using ca
            have ca3 : (t.a != (p : Int)) = false := by simpa using ca
            have hbt := (HND.out t (List.mem_of_getElem? ht.out)).2
            obtain ⟨q, hq⟩ := Int.eq_ofNat_of_zero_le (show 0 ≤ t.b by omega)
            have hqN : q ≤ j := by omega
            have hqk : (q : Int) ∈ o.take k := by rw [← hq]; exact HST.out.behind k (p : Int) HP.out.1 t (List.mem_of_getElem? ht.out) ca
            have HCQ := Lib.hid (HK.out.done q hqk)
            have HOV : Hid (mi < one y p + sumA p (nw j l y) (l.take i) + nw j l y q → Walking j l y o k p (i + 1) f (up b p true)) := Lib.hid fun h => HK.out.over HP.out.2.1 ht.out ca (by rw [hq]; exact h)
            have HFI : Hid (one y p + sumA p (nw j l y) (l.take i) + nw j l y q ≤ mi → Walking j l y o k p (i + 1) (up f p (f p + ((nw j l y q : Nat) : Int))) (up b p false)) := Lib.hid fun h => by
              have := HK.out.fine HP.out.2.1 ht.out ca (by rw [hq]; exact h)
              rw [hq] at this
              exact this
            rw [hq] at z1
            obtain ⟨x0, x1⟩ := HW2.out.1.ints p (by omega)
            obtain ⟨b0', b1⟩ := HW2.out.1.bools p (by omega)
            obtain ⟨y0, _⟩ := HW2.out.1.ints q hqN
            obtain ⟨c0, _⟩ := HW2.out.1.bools q hqN
            have hp0 : (0 : Int) ≤ (p : Int) := by omega
            have hq0 : (0 : Int) ≤ (q : Int) := by omega
            have hpM : (p : Int) < (M : Int) := by omega
            have hqM : (q : Int) < (M : Int) := by omega
            obtain ⟨u, hu⟩ : ∃ u, b p = u := ⟨_, rfl⟩
            obtain ⟨v, hv⟩ : ∃ v, b q = v := ⟨_, rfl⟩
            obtain ⟨X, hX⟩ : ∃ X, f p = X := ⟨_, rfl⟩
            obtain ⟨Y, hYf⟩ : ∃ Y, f q = Y := ⟨_, rfl⟩
            have HCP : Hid (Cell (one y p + sumA p (nw j l y) (l.take i)) X u) := Lib.hid (by rw [← hX, ← hu]; exact HK.out.now)
            have HCQ2 : Hid (Cell (nw j l y q) Y v) := Lib.hid (by rw [← hYf, ← hv]; exact HCQ.out)
            have hXX := HCP.out.high
            have hXL := HCP.out.low
            have HFX := Lib.hid hX
            rw [hu] at b0'
            rw [hv] at c0
            rw [hX] at x0
            rw [hYf] at y0
            clear hq hbt hqk hu hv hX ca
            cases u with
            | true =>
              have HK2 := Lib.hid (HOV.out (by have := HCP.out.over; have := of_decide_eq_true this.symm; omega))
              have HW3 : Hid (WO (wr.setCell ⟨A + 1, p, none⟩ (.bool true)).drew A (A + 1) j f (up b p true) ∧ Below A w1 (wr.setCell ⟨A + 1, p, none⟩ (.bool true)).drew) := Lib.hid ⟨(HW2.out.1.setB p true).drew, (HW2.out.2.setCell (p := ⟨A + 1, p, none⟩) (by show A ≤ A + 1; omega) _).drew⟩
              clear HOV HFI HCP HCQ2 HCQ hXX hXL HFX
              go_wp2_with fail
              go_region
              generalize hZ : (World.setCell wr ⟨A + 1, p, none⟩ (.bool true)).drew = Z
              rw [hZ] at HW3
              have zz : Z.cell? ⟨A + 1, p, none⟩ = some (.bool true) := HW3.out.1.at_b (by omega)
              clear hZ x0 x1 b0' b1 y0 c0 z0 z1
              go_wp2_with fail
              go_roundw
              case rel => exact ⟨i + 1, f, up b p true, by go_num, by omega, HW3, HK2⟩
              case measure => simp [RowKit.intOf]; omega
            | false =>
              cases v with
              | true =>
                have HK2 := Lib.hid (HOV.out (by have := HCQ2.out.over; have := of_decide_eq_true this.symm; omega))
                have HW3 : Hid (WO (wr.setCell ⟨A + 1, p, none⟩ (.bool true)).drew A (A + 1) j f (up b p true) ∧ Below A w1 (wr.setCell ⟨A + 1, p, none⟩ (.bool true)).drew) := Lib.hid ⟨(HW2.out.1.setB p true).drew, (HW2.out.2.setCell (p := ⟨A + 1, p, none⟩) (by show A ≤ A + 1; omega) _).drew⟩
                clear HOV HFI HCP HCQ2 HCQ hXX hXL HFX
                go_wp2_with fail
                go_region
                generalize hZ : (World.setCell wr ⟨A + 1, p, none⟩ (.bool true)).drew = Z
                rw [hZ] at HW3
                have zz : Z.cell? ⟨A + 1, p, none⟩ = some (.bool true) := HW3.out.1.at_b (by omega)
                clear hZ x0 x1 b0' b1 y0 c0 z0 z1
                go_wp2_with fail
                go_roundw
                case rel => exact ⟨i + 1, f, up b p true, by go_num, by omega, HW3, HK2⟩
                case measure => simp [RowKit.intOf]; omega
              | false =>
                have g1 : one y p + sumA p (nw j l y) (l.take i) ≤ mi := by have := of_decide_eq_false HCP.out.over.symm; omega
                have g2 : nw j l y q ≤ mi := by have := of_decide_eq_false HCQ2.out.over.symm; omega
                have g3 := HCP.out.is g1
                have g4 := HCQ2.out.is g2
                have hmi : ((mi : Nat) : Int) = 9223372036854775807 := rfl
                obtain ⟨r, hr⟩ : ∃ r, 9223372036854775807 - X = r := ⟨_, rfl⟩
                have wr1 : IntKind.i64.wrap (9223372036854775807 - X) = r := by rw [hr]; exact IntWalk.i64_in _ (by omega)
                have wr2 : wrap64 (9223372036854775807 - X) = r := by rw [hr]; exact IntWalk.wrap64_in _ (by omega)
                by_cases hov : r < Y
                · have dov : decide (r < Y) = true := decide_eq_true hov
                  have HK2 := Lib.hid (HOV.out (by omega))
                  have HW3 : Hid (WO (wr.setCell ⟨A + 1, p, none⟩ (.bool true)).drew A (A + 1) j f (up b p true) ∧ Below A w1 (wr.setCell ⟨A + 1, p, none⟩ (.bool true)).drew) := Lib.hid ⟨(HW2.out.1.setB p true).drew, (HW2.out.2.setCell (p := ⟨A + 1, p, none⟩) (by show A ≤ A + 1; omega) _).drew⟩
                  clear HOV HFI HCP HCQ2 HCQ hXX hXL HFX g1 g2 g3 g4 hmi hr
                  go_wp2_with fail
                  go_region
                  generalize hZ : (World.setCell wr ⟨A + 1, p, none⟩ (.bool true)).drew = Z
                  rw [hZ] at HW3
                  have zz : Z.cell? ⟨A + 1, p, none⟩ = some (.bool true) := HW3.out.1.at_b (by omega)
                  clear hZ x0 x1 b0' b1 y0 c0 z0 z1
                  go_wp2_with fail
                  go_roundw
                  case rel => exact ⟨i + 1, f, up b p true, by go_num, by omega, HW3, HK2⟩
                  case measure => simp [RowKit.intOf]; omega
                · have dov : decide (r < Y) = false := decide_eq_false hov
                  have g5 : one y p + sumA p (nw j l y) (l.take i) + nw j l y q ≤ mi := by omega
                  obtain ⟨s, hs⟩ : ∃ s, X + Y = s := ⟨_, rfl⟩
                  have HK2 : Hid (Walking j l y o k p (i + 1) (up f p s) (up b p false)) := Lib.hid (by
                    have h1 := HCP.out.is g1
                    have h2 := HCQ2.out.is g2
                    have h3 := HFI.out g5
                    rw [HFX.out, ← h2, hs] at h3
                    exact h3)
                  have hsr : 0 ≤ s ∧ s ≤ 9223372036854775807 := by
                    have h1 := HCQ2.out.low
                    have h2 : ¬ r < Y := hov
                    omega
                  have wS : IntKind.i64.wrap (X + Y) = s := by rw [hs]; exact IntWalk.i64_in _ (by omega)
                  have wS2 : wrap64 (X + Y) = s := by rw [hs]; exact IntWalk.wrap64_in _ (by omega)
                  have HW3 : Hid (WO (wr.setCell ⟨A + 1, p, none⟩ (.bool false)).drew A (A + 1) j f (up b p false) ∧ Below A w1 (wr.setCell ⟨A + 1, p, none⟩ (.bool false)).drew) := Lib.hid ⟨(HW2.out.1.setB p false).drew, (HW2.out.2.setCell (p := ⟨A + 1, p, none⟩) (by show A ≤ A + 1; omega) _).drew⟩
                  have HFY := Lib.hid hYf
                  clear HOV HFI HCP HCQ2 HCQ hXX hXL hsr hs hYf hr g1 g2 g3 g4 g5 hmi
                  go_wp2_with fail
                  go_region
                  generalize hZ : (World.setCell wr ⟨A + 1, p, none⟩ (.bool false)).drew = Z
                  rw [hZ] at HW3
                  have zz : Z.cell? ⟨A + 1, p, none⟩ = some (.bool false) := HW3.out.1.at_b (by omega)
                  obtain ⟨x0', x1'⟩ := HW3.out.1.ints p (by omega)
                  obtain ⟨y0', _⟩ := HW3.out.1.ints q hqN
                  rw [HFX.out] at x0'
                  rw [HFY.out] at y0'
                  clear hZ x0 x1 b0' b1 y0 c0 z0 z1
                  have HW4 : Hid (WO (Z.setCell ⟨A, p, none⟩ (.int .i64 s)).drew A (A + 1) j (up f p s) (up b p false) ∧ Below A w1 (Z.setCell ⟨A, p, none⟩ (.int .i64 s)).drew) := Lib.hid ⟨(HW3.out.1.setI p s).drew, (HW3.out.2.setCell (p := ⟨A, p, none⟩) (Nat.le_refl _) _).drew⟩
                  go_wp2_with fail
                  go_region
                  go_wp2_with fail
                  go_roundw
                  case rel => exact ⟨i + 1, up f p s, up b p false, by go_num, by omega, HW4, HK2⟩
                  case measure => simp [RowKit.intOf]; omega
          · obtain rfl : i = m := by omega
            have HD2 : Hid (Walked j l y o (k + 1) f b) := Lib.hid (by
              have h := HK.out
              rw [← HL.out] at h
              exact h.end HP.out.1 HOE.out (by omega) (by omega))
            go_wp2_with fail
            go_roundw
            case rel => exact ⟨k + 1, f, b, by go_num, by omega, HW2, HD2⟩
            case measure => simp [RowKit.intOf]; omega
    · obtain rfl : k = j := by omega
      obtain ⟨X, rfl⟩ := Int.eq_ofNat_of_zero_le (show 0 ≤ x by have := HX.out.1; omega)
      have hXN : 1 ≤ X ∧ X ≤ k := ⟨by have := HX.out.1; omega, by have := HX.out.2; omega⟩
      have hXo : (X : Int) ∈ o.take k := by
        rw [List.take_of_length_le (by rw [HOL.out]; exact Nat.le_refl _)]
        exact stands_all HST.out (by rw [HOL.out]; omega) (by omega) (by omega)
      have HC := Lib.hid (HD.out.done X hXo)
      obtain ⟨x0, _⟩ := HW.out.1.ints X hXN.2
      obtain ⟨b0', _⟩ := HW.out.1.bools X hXN.2
      have hX0 : (0 : Int) ≤ (X : Int) := by omega
      have hXM : (X : Int) < (M : Int) := by omega
      have HBW : Hid (Below w.heap.size w wr) := Lib.hid (below_then H1.out.2.2 (by rw [HA.out]; exact HW.out.2))
      obtain ⟨u, hu⟩ : ∃ u, b0 X = u := ⟨_, rfl⟩
      obtain ⟨z, hz⟩ : ∃ z, f0 X = z := ⟨_, rfl⟩
      rw [hu] at b0'
      rw [hz] at x0
      cases u with
      | true =>
        have HE := Lib.hid (way_over HWK.out HOE.out (by have := HC.out.over; rw [hu] at this; have := of_decide_eq_true this.symm; omega))
        clear hXN hXo hu hz
        go_wp2_with fail
        go_ret2
        exact ⟨by rw [HE.out.1, HE.out.2]; rfl, HBW.out⟩
      | false =>
        have hle : nw k l y X ≤ mi := by have := HC.out.over; rw [hu] at this; have := of_decide_eq_false this.symm; omega
        have HE := Lib.hid (way_fine HWK.out HOE.out hle)
        have HZ2 : Hid (((nw k l y X : Nat) : Int) = z) := Lib.hid (by rw [← hz]; exact (HC.out.is hle).symm)
        clear hXN hXo hu hz hle
        go_wp2_with fail
        go_ret2
        exact ⟨by rw [HE.out.1, HE.out.2, HZ2.out]; rfl, HBW.out⟩
end Go.Proofs.Ytghjcefigdkhnaa.Graph
