/- The law PenBack walked. -/
import Derived.Test.YtidfoflbebampaaPenM
import Derived.Deep.RegionHeld3
import Derived.Deep.DrawnRows
namespace Go.Proofs.Ytidfoflbebampaa
open Go.RowKit Go.Lib
attribute [local go_sem ↓] Go.wp_at_zero Go.wp_at_succ

theorem new_as (s : ByteArray) (w : World) :
    Calls Try.prog 14 #[.string s] w fun e w' => e = .returned (.pointer (some ⟨w.heap.size, 0, none⟩)) ∧ Rd w' w.heap.size (some s) ∧ Below w.heap.size w w' ∧ w'.heap.size = w.heap.size + 1 :=
  (new_any s w).mono fun e w' ⟨he, hw⟩ => by
    subst hw
    exact ⟨he, rd_new w s, (Below.refl _ _).alloc (Nat.le_refl _) _, World.size_alloc _ _⟩
theorem done_end (T : Nat → ByteArray) (n k : Nat) (h : ¬ k < n) : doneOf (some (restT T n (n - k))) = true := by
  rw [show n - k = 0 by omega]
  show doneOf (some ⟨#[]⟩) = true
  decide +kernel
theorem left_in {S : ByteArray} {st : Option ByteArray} (h : ∀ t, st = some t → t.size ≤ S.size) : 0 ≤ leftOf st ∧ leftOf st ≤ S.size := by
  cases st with
  | none => simp [leftOf]
  | some t => have := h t rfl; simp [leftOf]; omega

theorem inN_fits (st : Option ByteArray) : -9223372036854775808 ≤ inN st ∧ inN st ≤ 9223372036854775807 := by
  have := (tkN_le st 18446744073709551615).2
  unfold inN placedOf
  split <;> omega

set_option maxRecDepth 100000 in
set_option maxHeartbeats 8000000 in
theorem lawBack (a1 : Option Addr) (n1 c1 : Nat) (Z : Nat → Int) (a2 : Option Addr) (n2 c2 : Nat) (T : Nat → ByteArray) (S : ByteArray) (W : World)
    (h1 : ∀ j, j < n1 → ∃ b off, a1 = some ⟨b, off, none⟩ ∧ b < W.heap.size ∧ W.cell? ⟨b, off + j, none⟩ = some (.int .i64 (Z j)))
    (h2 : ∀ j, j < n2 → ∃ b off, a2 = some ⟨b, off, none⟩ ∧ b < W.heap.size ∧ W.cell? ⟨b, off + j, none⟩ = some (.string (T j)))
    (hZ : ∀ j, j < n1 → -9223372036854775808 ≤ Z j ∧ Z j ≤ 9223372036854775807) (hT : ∀ j, j < n2 → (T j).size ≤ 9223372036854775807)
    (l1 : n1 ≤ 12) (l2 : n2 ≤ 12) (l3 : S.size ≤ 20) :
    Calls Try.prog 5 #[.slice a1 n1 c1, .slice a2 n2 c2, .string S] W fun e w' => e = .returned (.bool true) ∧ Below W.heap.size W w' := by
  have H1 := Lib.hid h1; have H2 := Lib.hid h2; have HZ := Lib.hid hZ; have HT := Lib.hid hT
  clear h1 h2 hZ hT
  go_enter Try.func5, Try.ntmps5
  go_wp2_with fail
  go_loopw [7, 8] (fun v i wr => ∃ k : Nat, k ≤ n1 ∧ i = .int .i64 k ∧ v = .string (encA Z k) ∧ Below W.heap.size W wr) (fun _ i _ => n1 - (intOf i).toNat)
  case atStart => exact ⟨0, by omega, rfl, rfl, Below.refl _ _⟩
  case round =>
    obtain ⟨k, hk, rfl, rfl, hbel⟩ := hrel
    by_cases hlt : k < n1
    · obtain ⟨b, off, rfl, hb, hc⟩ := H1.out k hlt
      have cZ := (hbel.cell (p := ⟨b, off + k, none⟩) hb).trans hc
      clear hc
      obtain ⟨z1, z2⟩ := HZ.out k hlt
      have hs1 := encA_size Z k
      have hs2 := intB_size (Z k)
      by_cases hneg : Z k < 0
      · have hs3 := uintB_size 0
        have hle : Z k ≤ 0 := by omega
        have hn1 : ¬ 9223372036854775807 < (encA Z k).size + (intB (Z k)).size := by omega
        have hn2 : ¬ 9223372036854775807 < (encA Z k).size + (intB (Z k)).size + (uintB 0).size := by omega
        have hE := Lib.hid (show encA Z k ++ intB (Z k) ++ uintB 0 = encA Z (k + 1) from by simp only [encA, up0]; rw [if_pos hneg])
        go_wp2_with fail
        go_region_held3 (fun w' => w'.cell? ⟨b, off + k, none⟩ = some (.int .i64 (Z k)))
          (first | exact cZ | exact (hb1.cell (p := ⟨b, off + k, none⟩) (Nat.lt_of_lt_of_le hb hbel.size)).trans cZ | exact (hb2.cell (p := ⟨b, off + k, none⟩) (Nat.lt_of_lt_of_le hb (Nat.le_trans hbel.size hb1.size))).trans ((hb1.cell (p := ⟨b, off + k, none⟩) (Nat.lt_of_lt_of_le hb hbel.size)).trans cZ))
          (first | (go_at_call 10; refine (pint_any (Z k) _ z1 z2).mono ?_; rintro e w1 ⟨rfl, hb1⟩) | (go_at_call 8; refine (puint_any _ _ ?_).mono ?_; omega; rintro e w2 ⟨rfl, hb2⟩))
        all_goals
          go_wp2_with fail
          go_roundw
          case rel => exact ⟨k + 1, by omega, by go_num, by rw [hE.out], below_then (below_then hbel.drew hb1) hb2⟩
          case measure => simp [intOf]; omega
      · have hs3 := uintB_size (Z k)
        have hn1 : ¬ 9223372036854775807 < (encA Z k).size + (intB (Z k)).size := by omega
        have hn2 : ¬ 9223372036854775807 < (encA Z k).size + (intB (Z k)).size + (uintB (Z k)).size := by omega
        have hE := Lib.hid (show encA Z k ++ intB (Z k) ++ uintB (Z k) = encA Z (k + 1) from by simp only [encA, up0]; rw [if_neg hneg])
        by_cases hz : Z k = 0
        · have hle : Z k ≤ 0 := by omega
          have hE0 := Lib.hid (show uintB (Z k) = uintB 0 from by rw [hz])
          have hn3 : ¬ 9223372036854775807 < (encA Z k).size + (intB (Z k)).size + (uintB 0).size := by rw [← hE0.out]; exact hn2
          clear hz hneg hn2
          go_wp2_with fail
          go_region_held3 (fun w' => w'.cell? ⟨b, off + k, none⟩ = some (.int .i64 (Z k)))
            (first | exact cZ | exact (hb1.cell (p := ⟨b, off + k, none⟩) (Nat.lt_of_lt_of_le hb hbel.size)).trans cZ | exact (hb2.cell (p := ⟨b, off + k, none⟩) (Nat.lt_of_lt_of_le hb (Nat.le_trans hbel.size hb1.size))).trans ((hb1.cell (p := ⟨b, off + k, none⟩) (Nat.lt_of_lt_of_le hb hbel.size)).trans cZ))
            (first | (go_at_call 10; refine (pint_any (Z k) _ z1 z2).mono ?_; rintro e w1 ⟨rfl, hb1⟩) | (go_at_call 8; refine (puint_any _ _ ?_).mono ?_; omega; rintro e w2 ⟨rfl, hb2⟩))
          all_goals
            go_wp2_with fail
            go_roundw
            case rel => exact ⟨k + 1, by omega, by go_num, by rw [← hE0.out, hE.out], below_then (below_then hbel.drew hb1) hb2⟩
            case measure => simp [intOf]; omega
        · have hpos : 0 < Z k := by omega
          clear hz hneg
          go_wp2_with fail
          go_region_held3 (fun w' => w'.cell? ⟨b, off + k, none⟩ = some (.int .i64 (Z k)))
            (first | exact cZ | exact (hb1.cell (p := ⟨b, off + k, none⟩) (Nat.lt_of_lt_of_le hb hbel.size)).trans cZ | exact (hb2.cell (p := ⟨b, off + k, none⟩) (Nat.lt_of_lt_of_le hb (Nat.le_trans hbel.size hb1.size))).trans ((hb1.cell (p := ⟨b, off + k, none⟩) (Nat.lt_of_lt_of_le hb hbel.size)).trans cZ))
            (first | (go_at_call 10; refine (pint_any (Z k) _ z1 z2).mono ?_; rintro e w1 ⟨rfl, hb1⟩) | (go_at_call 8; refine (puint_any _ _ ?_).mono ?_; omega; rintro e w2 ⟨rfl, hb2⟩))
          all_goals
            go_wp2_with fail
            go_roundw
            case rel => exact ⟨k + 1, by omega, by go_num, by rw [hE.out], below_then (below_then hbel.drew hb1) hb2⟩
            case measure => simp [intOf]; omega
    · obtain rfl : n1 = k := by omega
      clear hlt hk
      go_wp2_with fail
      go_loopw [7, 9] (fun v i wr => ∃ k : Nat, k ≤ n2 ∧ i = .int .i64 k ∧ v = .string (encT (encA Z n1) T k) ∧ (∀ j, j < k → (T j).size ≤ 256) ∧ Below W.heap.size W wr) (fun _ i _ => n2 - (intOf i).toNat)
      case atStart => exact ⟨0, by omega, rfl, rfl, fun j hj => by omega, hbel⟩
      case round =>
        clear hbel
        obtain ⟨k, hk, rfl, rfl, hTk, hbel⟩ := hrel
        have hsz := encT_size (encA Z n1) T k hTk
        have hsa := encA_size Z n1
        have HTk := Lib.hid hTk; clear hTk
        by_cases hlt : k < n2
        · obtain ⟨b, off, rfl, hb, hc⟩ := H2.out k hlt
          have cT := (hbel.cell (p := ⟨b, off + k, none⟩) hb).trans hc
          clear hc
          by_cases hbig : 256 < (T k).size
          · have hbig' : (256 : Int) < ((T k).size : Int) := by omega
            go_wp2_with fail
            refine (awake_any _).mono ?_
            rintro e w7 ⟨rfl, hb7⟩
            go_wp2_with fail
            go_ret
            exact ⟨rfl, below_then hbel hb7⟩
          · have hd : decide ((256 : Int) < ((T k).size : Int)) = false := by simp; omega
            have hu := uintB_size ((T k).size : Int)
            have ht : (textB (T k)).size ≤ 266 := by unfold textB; rw [ByteArray.size_append]; omega
            go_wp2_with fail
            refine (ptext_any (T k) _ (by omega)).mono ?_
            rintro e w1 ⟨rfl, hb1⟩
            go_wp2_with fail
            go_roundw
            case rel =>
              refine ⟨k + 1, by omega, by go_num, rfl, fun j hj => ?_, below_then hbel hb1⟩
              by_cases e : j = k
              · rw [e]; omega
              · exact HTk.out j (by omega)
            case measure => simp [intOf]; omega
        · obtain rfl : n2 = k := by omega
          clear hlt hk
          go_wp2_with fail
          refine (new_as _ _).mono ?_
          rintro e w1 ⟨rfl, HR0, hbN, hszN⟩
          have hbel1 := below_then hbel hbN
          have hWR := hbel.size
          have hfit0 : Fit (some (restA Z n1 (restT T n2 n2) n1)) := by
            intro t ht
            injection ht with ht
            rw [← ht, ← enc_all]; omega
          rw [enc_all] at HR0
          revert HR0 hWR
          generalize wr.heap.size = R
          intro HR0 hWR
          clear hbel hbN hszN hsz hsa
          go_wp2_with fail
          go_loopw [11] (fun i wr => ∃ k : Nat, k ≤ n1 ∧ i = .int .i64 k ∧ Rd wr R (some (restA Z n1 (restT T n2 n2) (n1 - k))) ∧ Fit (some (restA Z n1 (restT T n2 n2) (n1 - k))) ∧ Below W.heap.size W wr) (fun i _ => n1 - (intOf i).toNat)
          case atStart => exact ⟨0, by omega, rfl, HR0, hfit0, hbel1⟩
          case round =>
            clear hbel1 hfit0 HR0
            obtain ⟨k, hk, rfl, HR, hfit, hbel⟩ := hrel
            by_cases hlt : k < n1
            · obtain ⟨b, off, rfl, hb, hc⟩ := H1.out k hlt
              have cZ := (hbel.cell (p := ⟨b, off + k, none⟩) hb).trans hc
              clear hc
              obtain ⟨z1, z2⟩ := HZ.out k hlt
              obtain ⟨u1, u2⟩ := up0_le (Z k) z2
              have e1 : (Z k != Z k) = false := by simp
              rw [restA_next Z n1 k _ hlt] at HR hfit
              by_cases hneg : Z k < 0
              · have hle : Z k ≤ 0 := by omega
                have hu : up0 (Z k) = 0 := by unfold up0; rw [if_pos hneg]
                rw [hu] at HR hfit u1 u2
                clear hu
                go_wp2_with fail
                go_region_held3 (fun w' => w'.cell? ⟨b, off + k, none⟩ = some (.int .i64 (Z k)))
                  (first | exact cZ | exact (hg1.cell_far ⟨b, off + k, none⟩ (Nat.lt_of_lt_of_le hb hbel.size) (by simp; omega)).trans cZ | exact (hg2.cell_far ⟨b, off + k, none⟩ (Nat.lt_of_lt_of_le hb (Nat.le_trans hbel.size hg1.size)) (by simp; omega)).trans ((hg1.cell_far ⟨b, off + k, none⟩ (Nat.lt_of_lt_of_le hb hbel.size) (by simp; omega)).trans cZ))
                  (first | (go_at_call 17; refine (int_as R (Z k) _ _ ?_ hfit z1 z2).mono ?_; exact HR; rintro e w1 ⟨rfl, HR1, hg1⟩) | (go_at_call 15; refine (uint_as R 0 _ _ HR1 (fit_tail hfit) u1 u2).mono ?_; rintro e w2 ⟨rfl, HR2, hg2⟩))
                all_goals
                  go_wp2_with fail
                  go_roundw
                  case rel => exact ⟨k + 1, by omega, by go_num, HR2, fit_tail (fit_tail hfit), below_of_only (below_of_only hbel.drew hWR hg1) hWR hg2⟩
                  case measure => simp [intOf]; omega
              · have hu : up0 (Z k) = Z k := by unfold up0; rw [if_neg hneg]
                rw [hu] at HR hfit u1 u2
                clear hu
                by_cases hz : Z k = 0
                · have hle : Z k ≤ 0 := by omega
                  have e2 : ((0 : Int) != Z k) = false := by simp [hz]
                  have e3 : (Z k != 0) = false := by simp [hz]
                  clear hz hneg
                  go_wp2_with fail
                  go_region_held3 (fun w' => w'.cell? ⟨b, off + k, none⟩ = some (.int .i64 (Z k)))
                    (first | exact cZ | exact (hg1.cell_far ⟨b, off + k, none⟩ (Nat.lt_of_lt_of_le hb hbel.size) (by simp; omega)).trans cZ | exact (hg2.cell_far ⟨b, off + k, none⟩ (Nat.lt_of_lt_of_le hb (Nat.le_trans hbel.size hg1.size)) (by simp; omega)).trans ((hg1.cell_far ⟨b, off + k, none⟩ (Nat.lt_of_lt_of_le hb hbel.size) (by simp; omega)).trans cZ))
                    (first | (go_at_call 17; refine (int_as R (Z k) _ _ ?_ hfit z1 z2).mono ?_; exact HR; rintro e w1 ⟨rfl, HR1, hg1⟩) | (go_at_call 15; refine (uint_as R (Z k) _ _ HR1 (fit_tail hfit) u1 u2).mono ?_; rintro e w2 ⟨rfl, HR2, hg2⟩))
                  all_goals
                    go_wp2_with fail
                    go_roundw
                    case rel => exact ⟨k + 1, by omega, by go_num, HR2, fit_tail (fit_tail hfit), below_of_only (below_of_only hbel.drew hWR hg1) hWR hg2⟩
                    case measure => simp [intOf]; omega
                · have hpos : 0 < Z k := by omega
                  clear hz hneg
                  go_wp2_with fail
                  go_region_held3 (fun w' => w'.cell? ⟨b, off + k, none⟩ = some (.int .i64 (Z k)))
                    (first | exact cZ | exact (hg1.cell_far ⟨b, off + k, none⟩ (Nat.lt_of_lt_of_le hb hbel.size) (by simp; omega)).trans cZ | exact (hg2.cell_far ⟨b, off + k, none⟩ (Nat.lt_of_lt_of_le hb (Nat.le_trans hbel.size hg1.size)) (by simp; omega)).trans ((hg1.cell_far ⟨b, off + k, none⟩ (Nat.lt_of_lt_of_le hb hbel.size) (by simp; omega)).trans cZ))
                    (first | (go_at_call 17; refine (int_as R (Z k) _ _ ?_ hfit z1 z2).mono ?_; exact HR; rintro e w1 ⟨rfl, HR1, hg1⟩) | (go_at_call 15; refine (uint_as R (Z k) _ _ HR1 (fit_tail hfit) u1 u2).mono ?_; rintro e w2 ⟨rfl, HR2, hg2⟩))
                  all_goals
                    go_wp2_with fail
                    go_roundw
                    case rel => exact ⟨k + 1, by omega, by go_num, HR2, fit_tail (fit_tail hfit), below_of_only (below_of_only hbel.drew hWR hg1) hWR hg2⟩
                    case measure => simp [intOf]; omega
            · obtain rfl : n1 = k := by omega
              rw [Nat.sub_self] at HR hfit
              clear hlt hk
              go_wp2_with fail
              go_loopw [12] (fun i wr => ∃ k : Nat, k ≤ n2 ∧ i = .int .i64 k ∧ Rd wr R (some (restT T n2 (n2 - k))) ∧ Fit (some (restT T n2 (n2 - k))) ∧ Below W.heap.size W wr) (fun i _ => n2 - (intOf i).toNat)
              case atStart => exact ⟨0, by omega, rfl, HR, hfit, hbel⟩
              case round =>
                clear hbel hfit HR
                obtain ⟨k, hk, rfl, HR, hfit, hbel⟩ := hrel
                by_cases hlt : k < n2
                · obtain ⟨b, off, rfl, hb, hc⟩ := H2.out k hlt
                  have cT := (hbel.cell (p := ⟨b, off + k, none⟩) hb).trans hc
                  clear hc
                  have ht := HTk.out k hlt
                  rw [restT_next T n2 k hlt] at HR hfit
                  go_wp2_with fail
                  go_region_held3 (fun w' => w'.cell? ⟨b, off + k, none⟩ = some (.string (T k)))
                    (first | exact cT | exact (hg1.cell_far ⟨b, off + k, none⟩ (Nat.lt_of_lt_of_le hb hbel.size) (by simp; omega)).trans cT)
                    ((go_at_call 19; refine (text_as R (T k) _ _ ?_ hfit ht).mono ?_; exact HR; rintro e w1 ⟨rfl, HR1, hg1⟩))
                  all_goals
                    go_wp2_with fail
                    go_roundw
                    case rel => exact ⟨k + 1, by omega, by go_num, HR1, fit_tail hfit, below_of_only hbel.drew hWR hg1⟩
                    case measure => simp [intOf]; omega
                · have HD := Lib.hid (done_end T n2 k hlt)
                  have hlt' : ¬ (k : Int) < (n2 : Int) := by omega
                  go_wp2_with fail
                  refine (done_any R _ _ HR).mono ?_
                  rintro e w' ⟨rfl, rfl⟩
                  rw [HD.out]
                  clear HR hfit HD HTk H1 H2 HZ HT
                  go_wp2_with fail
                  refine (new_as S _).mono ?_
                  rintro e w1 ⟨rfl, HX, hbX, hszX⟩
                  have hb1 := below_then hbel hbX
                  have hWX := hbel.size
                  revert HX hWX hszX
                  generalize wr.heap.size = X
                  intro HX hszX hWX
                  clear hbel hbX
                  go_wp2_with fail
                  refine (new_as S _).mono ?_
                  rintro e w2 ⟨rfl, HY, hbY, hszY⟩
                  have hb2 := below_then hb1 hbY
                  have HX2 := HX.of_below hbY
                  have hWY := hb1.size
                  revert HY hWY hszY hszX
                  generalize w1.heap.size = Y
                  intro hszX HY hszY hWY
                  have hXY : X ≠ Y := by omega
                  clear hbY hb1 HX hszY hszX
                  have hfitS : Fit (some S) := fit_small (by omega)
                  go_wp2_with fail
                  refine (uint_any X (some S) 9223372036854775807 _ HX2 hfitS (by omega)).mono ?_
                  rintro e w3 ⟨rfl, HX3, hg3⟩
                  have HY3 := HY.of_grown hg3 (by simpa using Ne.symm hXY)
                  have hb3 := below_of_only hb2 hWX hg3
                  clear hg3 HX2 HY hb2
                  go_wp2_with fail
                  refine (int_any Y (some S) _ HY3 hfitS).mono ?_
                  rintro e w4 ⟨rfl, HY4, hg4⟩
                  have HX4 := HX3.of_grown hg4 (by simpa using hXY)
                  have hb4 := below_of_only hb3 hWY hg4
                  clear hg4 HX3 HY3 hb3
                  have hn63 := uiN_le (some S) 9223372036854775807 (by omega)
                  have hm63 := inN_fits (some S)
                  have hUI : ∀ t, uiS (some S) 9223372036854775807 = some t → t.size ≤ S.size := fun t h => (ui_wrote h).2
                  have hIN : ∀ t, inS (some S) = some t → t.size ≤ S.size := fun t h => (in_wrote h).2
                  have hWU : Hid (∀ t, uiS (some S) 9223372036854775807 = some t → uintB (uiN (some S) 9223372036854775807) = S.extract 0 (S.size - t.size)) := Lib.hid (fun t h => (ui_wrote h).1)
                  have hWI : Hid (∀ t, inS (some S) = some t → intB (inN (some S)) = S.extract 0 (S.size - t.size)) := Lib.hid (fun t h => (in_wrote h).1)
                  revert HX4 HY4 hn63 hm63 hUI hIN hWU hWI
                  generalize uiS (some S) 9223372036854775807 = sx
                  generalize uiN (some S) 9223372036854775807 = nx
                  generalize inS (some S) = sy
                  generalize inN (some S) = ny
                  intro HY4 HX4 hn63 hm63 hUI hIN hWU hWI
                  obtain ⟨hx1, hx2⟩ := left_in hUI
                  obtain ⟨hy1, hy2⟩ := left_in hIN
                  have HUI := Lib.hid hUI; have HIN := Lib.hid hIN
                  clear hUI hIN
                  go_wp2_with fail
                  refine (left_any X sx _ HX4).mono ?_
                  rintro e w' ⟨rfl, rfl⟩
                  go_wp2_with fail
                  refine (left_any X sx _ HX4).mono ?_
                  rintro e w' ⟨rfl, rfl⟩
                  go_wp2_with fail
                  refine (left_any Y sy _ HY4).mono ?_
                  rintro e w' ⟨rfl, rfl⟩
                  go_wp2_with fail
                  refine (left_any Y sy _ HY4).mono ?_
                  rintro e w' ⟨rfl, rfl⟩
                  go_wp2_with fail
                  refine (bad_any X sx _ HX4).mono ?_
                  rintro e w' ⟨rfl, rfl⟩
                  cases sx with
                  | none =>
                    go_wp2_with fail
                    refine (bad_any Y sy _ HY4).mono ?_
                    rintro e w' ⟨rfl, rfl⟩
                    cases sy with
                    | none =>
                      go_wp2_with fail
                      refine (awake_any _).mono ?_
                      rintro e w9 ⟨rfl, hb9⟩
                      go_wp2_with fail
                      go_ret
                      exact ⟨rfl, below_then hb4 hb9⟩
                    | some t2 =>
                      have hs2 := HIN.out t2 rfl
                      obtain ⟨j2, hj2⟩ : ∃ j2, S.size - t2.size = j2 := ⟨_, rfl⟩
                      have hji2 : (S.size : Int) - (t2.size : Int) = (j2 : Int) := by omega
                      have hW2 : intB ny = S.extract 0 j2 := by rw [hWI.out t2 rfl, hj2]
                      have hjs2 : j2 ≤ S.size := by omega
                      have HW2 := Lib.hid hW2
                      clear hj2 hW2
                      go_wp2_with fail
                      refine (pint_any ny _ hm63.1 hm63.2).mono ?_
                      rintro e w6 ⟨rfl, hb6⟩
                      rw [HW2.out]
                      have HY6 := HY4.of_below hb6
                      have hbb6 := below_then hb4 hb6
                      clear hb6
                      go_wp2_with fail
                      refine (left_any Y _ _ HY6).mono ?_
                      rintro e w' ⟨rfl, rfl⟩
                      rw [show leftOf (some t2) = (t2.size : Int) from rfl]
                      go_wp2_with fail
                      refine (awake_any _).mono ?_
                      rintro e w9 ⟨rfl, hb9⟩
                      go_wp2_with fail
                      go_ret
                      exact ⟨rfl, below_then hbb6 hb9⟩
                  | some t =>
                    have hs := HUI.out t rfl
                    obtain ⟨j, hj⟩ : ∃ j, S.size - t.size = j := ⟨_, rfl⟩
                    have hji : (S.size : Int) - (t.size : Int) = (j : Int) := by omega
                    have hW1 : uintB nx = S.extract 0 j := by rw [hWU.out t rfl, hj]
                    have hjs : j ≤ S.size := by omega
                    have HW1 := Lib.hid hW1
                    clear hj hW1
                    go_wp2_with fail
                    refine (puint_any nx _ (by omega)).mono ?_
                    rintro e w5 ⟨rfl, hb5⟩
                    rw [HW1.out]
                    have HX5 := HX4.of_below hb5
                    have HY5 := HY4.of_below hb5
                    have hbb5 := below_then hb4 hb5
                    clear hb5
                    go_wp2_with fail
                    refine (left_any X _ _ HX5).mono ?_
                    rintro e w' ⟨rfl, rfl⟩
                    rw [show leftOf (some t) = (t.size : Int) from rfl]
                    go_wp2_with fail
                    refine (bad_any Y sy _ HY5).mono ?_
                    rintro e w' ⟨rfl, rfl⟩
                    cases sy with
                    | none =>
                      go_wp2_with fail
                      refine (awake_any _).mono ?_
                      rintro e w9 ⟨rfl, hb9⟩
                      go_wp2_with fail
                      go_ret
                      exact ⟨rfl, below_then hbb5 hb9⟩
                    | some t2 =>
                      have hs2 := HIN.out t2 rfl
                      obtain ⟨j2, hj2⟩ : ∃ j2, S.size - t2.size = j2 := ⟨_, rfl⟩
                      have hji2 : (S.size : Int) - (t2.size : Int) = (j2 : Int) := by omega
                      have hW2 : intB ny = S.extract 0 j2 := by rw [hWI.out t2 rfl, hj2]
                      have hjs2 : j2 ≤ S.size := by omega
                      have HW2 := Lib.hid hW2
                      clear hj2 hW2
                      go_wp2_with fail
                      refine (pint_any ny _ hm63.1 hm63.2).mono ?_
                      rintro e w6 ⟨rfl, hb6⟩
                      rw [HW2.out]
                      have HY6 := HY5.of_below hb6
                      have hbb6 := below_then hbb5 hb6
                      clear hb6
                      go_wp2_with fail
                      refine (left_any Y _ _ HY6).mono ?_
                      rintro e w' ⟨rfl, rfl⟩
                      rw [show leftOf (some t2) = (t2.size : Int) from rfl]
                      go_wp2_with fail
                      refine (awake_any _).mono ?_
                      rintro e w9 ⟨rfl, hb9⟩
                      go_wp2_with fail
                      go_ret
                      exact ⟨rfl, below_then hbb6 hb9⟩
end Go.Proofs.Ytidfoflbebampaa
