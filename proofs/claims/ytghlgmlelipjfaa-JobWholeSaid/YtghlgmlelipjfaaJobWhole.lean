/- JobWhole: whatever is done, a job may be; it runs for its time in all. -/
import Derived.Test.YtghlgmlelipjfaaJobAwake
import Derived.Test.YtghlgmlelipjfaaJobInv
import Derived.Test.YtghlgmlelipjfaaJobSame
namespace Go.Proofs.Ytghlgmlelipjfaa.Job
open Go.RowKit Go.Lib
open Goods (St Sts OwnS)

set_option maxRecDepth 100000 in
set_option maxHeartbeats 32000000 in
theorem jobWhole_in (time : Int) (a : Option Addr) (n c : Nat) (l : List St) (w : World) (hl : l.length = n) (hs : Sts w a l) (hn : n ≤ 9223372036854775807) :
    Calls Try.prog 5 #[.int .i64 time, .slice a n c] w fun e w' => e = .returned (.bool true) ∧ Below w.heap.size w w' := by
  have HAW : Hid (∀ W, Calls Try.prog 6 #[] W fun e w' => e = .returned (.bool true) ∧ Hid (Below W.heap.size W w')) := Lib.hid fun W => Im.awake_im W
  by_cases hb : 40 < n
  · have d1 : decide ((40 : Int) < (n : Int)) = true := by simp; omega
    have d2 : decide (40 < n) = true := by simp; omega
    clear hl hs hn hb
    go_enter Try.func5, Try.ntmps5
    go_wp2_with fail
    refine (HAW.out _).mono ?_
    rintro e w1 ⟨rfl, H1⟩
    go_wp2_with fail
    go_ret
    exact ⟨rfl, H1.out⟩
  have d1 : decide ((40 : Int) < (n : Int)) = false := by simp; omega
  have d2 : decide (40 < n) = false := by simp; omega
  have hn1 : n ≤ 40 := by omega
  have hn2 : (n : Int) ≤ 40 := by omega
  have HT := Goods.sts_at hs
  have HL := Lib.hid hl
  obtain ⟨r, hr0, hr1, hra⟩ := and_65535 time
  obtain ⟨T, hT⟩ : ∃ T, 1 + r = T := ⟨_, rfl⟩
  have wT : IntKind.i64.wrap (1 + r) = T := by rw [hT]; exact IntWalk.i64_in _ (by omega)
  have HTB : Hid (1 ≤ T ∧ T ≤ 65536) := Lib.hid (by omega)
  clear hl hs hn hb hr0 hr1 hT
  go_enter Try.func5, Try.ntmps5
  go_wp2_with fail
  refine (Im.plain_im w).mono ?_
  rintro e v0 ⟨rfl, P0⟩
  obtain ⟨U, y0, hU, hy0, HB0, HZ0⟩ := box_zero v0
  go_wp2_with ((with_reducible show wpList _ _ _ _ _ y0); refine store_jo rfl _ _ rfl U rfl Im.plainJ none 0 0 rfl zJ (.slice none 0 0) HZ0.out ?_; intro y1 h1 g1; have M1 : Hid (Has y1 U Im.plainJ (.slice none 0 0) ∧ Below w.heap.size w y1 ∧ w.heap.size ≤ U) := Lib.hid ⟨h1, below_then P0.out (below_of_only HB0.out.1 (Nat.le_of_eq hU) g1), by have := P0.out.size; omega⟩; have k9 : y1.cell? ⟨U, 9, none⟩ = some (.int .i64 10) := cell_block (j := 9) h1 rfl; have f9 := free_block 9 h1; have k15 : y1.cell? ⟨U, 15, none⟩ = some (.int .i64 10) := cell_block (j := 15) h1 rfl; have f15 := free_block 15 h1; clear h1 g1 hy0)
  have HS0 : Hid (Has ((y1.setCell ⟨U, 9, none⟩ (.int .i64 T)).setCell ⟨U, 15, none⟩ (.int .i64 T)) U { Im.plainJ with tm := T, lf := T } (.slice none 0 0) ∧ Below w.heap.size w ((y1.setCell ⟨U, 9, none⟩ (.int .i64 T)).setCell ⟨U, 15, none⟩ (.int .i64 T))) := Lib.hid ⟨heap_setCell_same _ U 15 _ _ (.int .i64 T) (heap_setCell_same y1 U 9 _ _ (.int .i64 T) M1.out.1), below_of_only M1.out.2.1 M1.out.2.2 (only_setCell (only_setCell (only_refl y1 (some U)) _ _) _ _)⟩
  have HUW : Hid (w.heap.size ≤ U) := Lib.hid M1.out.2.2
  clear k9 f9 k15 f15 wT hra
  go_loopw [6, 7, 8] (fun s6 s7 s8 wr => ∃ (i : Nat) (J : JS) (b : Option Addr) (d : Nat) (now ran : Int), s6 = .int .i64 now ∧ s7 = .int .i64 ran ∧ s8 = .int .i64 (i : Int) ∧ i ≤ n ∧ now ≤ 65535 * (i : Int) ∧ Hid (Inv J T now ran) ∧ Hid (Has wr U J (.slice b 0 d)) ∧ Hid (Below w.heap.size w wr)) (fun _ _ s8 _ => n - (RowKit.intOf s8).toNat)
  case atStart => exact ⟨0, _, none, 0, 0, 0, rfl, rfl, rfl, by omega, by omega, Lib.hid (inv_start HTB.out.1 HTB.out.2), Lib.hid HS0.out.1, Lib.hid HS0.out.2⟩
  case round =>
    obtain ⟨i, J, b, d, now, ran, rfl, rfl, rfl, hi, hnow, HI, HJ, HB⟩ := hrel
    obtain ⟨W0, rfl⟩ : ∃ W0, W0 = wr := ⟨_, rfl⟩
    have hi0 : (0 : Int) ≤ (i : Int) := by omega
    by_cases hlt : i < n
    case neg =>
      obtain rfl : i = n := by omega
      go_wp2_with fail
      refine (HAW.out _).mono ?_
      rintro e w1 ⟨rfl, H1⟩
      go_wp2_with fail
      go_ret
      exact ⟨rfl, below_then HB.out H1.out⟩
    have hlt2 : (i : Int) < (n : Int) := by omega
    have wi : IntKind.i64.wrap ((i : Int) + 1) = (i : Int) + 1 := IntWalk.i64_in _ (by omega)
    obtain ⟨g, off, t, hat, ht, q0, q1⟩ := HT.out W0 i HB.out (by rw [HL.out]; exact hlt)
    obtain ⟨m, hm0, hm1, hma⟩ := and_65535 t.qty
    obtain ⟨now2, hnow2⟩ : ∃ x, now + m = x := ⟨_, rfl⟩
    have hnb : 0 ≤ now2 ∧ now2 ≤ 65535 * (i : Int) + 65535 ∧ now ≤ now2 := by have := HI.out.n0; omega
    have wn : IntKind.i64.wrap (now + m) = now2 := by rw [hnow2]; exact IntWalk.i64_in _ (by omega)
    have HI2 := Lib.hid (HI.out.later hnb.2.2)
    have HNB : Hid (now2 ≤ 65535 * ((i + 1 : Nat) : Int) ∧ 0 ≤ now2 ∧ now2 ≤ 2621400) := Lib.hid (by omega)
    have HCELL : Hid (∀ W, Below w.heap.size w W → W.cell? ⟨g, off + i * 2, none⟩ = some (.int .i64 t.kind)) := Lib.hid (fun W hW => by
      obtain ⟨g2, off2, t2, e2, ht2, p0, _⟩ := HT.out W i hW (by rw [HL.out]; exact hlt)
      have e3 : t2 = t := by
        have := ht2.out
        rw [ht.out] at this
        injection this with this
        exact this.symm
      rw [hat] at e2
      injection e2 with e2
      injection e2 with e4 e5 _
      subst e4 e5
      rw [← e3]
      exact p0)
    obtain ⟨R, hR⟩ : ∃ R, doV t.kind now2 J = R := ⟨_, rfl⟩
    obtain ⟨E, hE⟩ : ∃ E, doE t.kind now2 J = E := ⟨_, rfl⟩
    have HST := inv_step t.kind HI2.out
    rw [hR, hE] at HST
    have HST := Lib.hid HST
    have HDO : Hid (∀ W, Calls Try.prog 7 #[jV J (.slice b 0 d), .int .i64 t.kind, .int .i64 now2] W fun e w' => ∃ a2 c2, e = .returned (.tuple #[jV R (.slice a2 0 c2), .int .i64 E]) ∧ Hid (Below W.heap.size W w')) := Lib.hid fun W => by
      rw [← hR, ← hE]
      refine (Im.do_im t.kind now2 J b 0 d W (by rw [HI.out.s]; exact jin_none W b) (by omega)).mono ?_
      rintro e w' ⟨a2, n2, c2, rfl, H⟩
      obtain rfl : n2 = 0 := by have := H.out.2.1; omega
      exact ⟨a2, c2, rfl, Lib.hid H.out.2.2⟩
    have HRS : Hid (E = 0 → Ok R ∧ R.s = [] ∧ R.tm = T) := Lib.hid fun e0 => by
      rcases HST.out with ⟨h, _⟩ | ⟨_, _, _, _, _, _, h⟩ | ⟨_, _, _, _, _, h⟩ | ⟨_, _, _, _, h⟩
      · exact absurd e0 h
      · exact ⟨h.ok, h.s, h.tm⟩
      · exact ⟨h.ok, h.s, h.tm⟩
      · exact ⟨h.ok, h.s, h.tm⟩
    rw [hat]
    clear hnow2 hR hE ht hm0 hm1 hnb hat hnow
    obtain ⟨U9, y9, hU9, hy9, HB9, HZ9⟩ := box_zero W0
    go_wp2_with (first
      | ((with_reducible show wpList _ _ _ _ _ W0); refine load_jo rfl _ rfl U rfl J (.slice b 0 d) HJ.out ?_)
      | ((with_reducible show wpList _ _ _ _ _ y9); refine store_jo rfl _ _ rfl U9 rfl J b 0 d rfl zJ (.slice none 0 0) HZ9.out ?_; intro x9 h9 g9; have M9 : Hid (Has x9 U9 J (.slice b 0 d) ∧ Has x9 U J (.slice b 0 d) ∧ Below w.heap.size w x9 ∧ U < U9) := Lib.hid (by have hb9 := below_of_only HB9.out.1 (Nat.le_of_eq hU9) g9; exact ⟨h9, has_under HJ.out hb9, below_then HB.out hb9, by rw [← hU9]; exact (Array.getElem?_eq_some_iff.1 HJ.out).1⟩); clear h9 g9 hy9 hU9))
    clear q0 q1
    have HSS : Hid (∀ W, Below x9.heap.size x9 W → Has W U J (.slice b 0 d) ∧ W.cell? ⟨g, off + i * 2, none⟩ = some (.int .i64 t.kind)) := Lib.hid fun W hW => ⟨has_under M9.out.2.1 hW, HCELL.out W (below_then M9.out.2.2.1 hW)⟩
    have D0 : Hid (Below x9.heap.size x9 x9.drew) := Lib.hid (Below.refl _ x9).drew
    refine wp_region_held_drew (S := fun W => Has W U J (.slice b 0 d) ∧ W.cell? ⟨g, off + i * 2, none⟩ = some (.int .i64 t.kind)) (by kernel_rfl) (HSS.out x9 (Below.refl _ _)) (fun hHeld => ?_)
    refine wpAnyH_take (i := 0) (v := jV J (.slice b 0 d)) rfl (by kernel_rfl) (by kernel_rfl) (by kernel_rfl) (fun _ _ _ h => h) (yields_jo (by kernel_rfl) _ rfl U rfl J (.slice b 0 d) (fun _ h => h.1)) (by assumption) ?_
    (try simp only [Act.put, List.getElem_toArray, List.getElem_cons_zero, List.setIfInBounds_toArray, List.set_cons_zero, List.set_cons_succ])
    refine wpAnyH_take (i := 1) (v := .slice (some ⟨g, off, none⟩) n c) rfl (by kernel_rfl) (by kernel_rfl) (by kernel_rfl) (fun _ _ _ h => h) (Or.inl ⟨by rfl, fun W hSV => ?_⟩) (by assumption) ?_
    · have hc := hSV.2
      go_simp
    (try simp only [Act.put, List.getElem_toArray, List.getElem_cons_succ, List.getElem_cons_zero, List.setIfInBounds_toArray, List.set_cons_zero, List.set_cons_succ])
    refine wpAnyH_take (i := 2) (v := .int .i64 (i : Int)) rfl (by kernel_rfl) (by kernel_rfl) (by kernel_rfl) (fun _ _ _ h => h) (Or.inl ⟨by rfl, fun W hSV => ?_⟩) (by assumption) ?_
    · have hc := hSV.2
      go_simp
    (try simp only [Act.put, List.getElem_toArray, List.getElem_cons_succ, List.getElem_cons_zero, List.setIfInBounds_toArray, List.set_cons_zero, List.set_cons_succ])
    refine wpAnyH_take (i := 3) (v := .pointer (some ⟨g, off + i * 2, none⟩)) rfl (by kernel_rfl) (by kernel_rfl) (by kernel_rfl) (fun _ _ _ h => h) (Or.inl ⟨by rfl, fun W hSV => ?_⟩) (by assumption) ?_
    · have hc := hSV.2
      go_simp
    (try simp only [Act.put, List.getElem_toArray, List.getElem_cons_succ, List.getElem_cons_zero, List.setIfInBounds_toArray, List.set_cons_zero, List.set_cons_succ])
    refine wpAnyH_take (i := 4) (v := .pointer (some ⟨g, off + i * 2, none⟩)) rfl (by kernel_rfl) (by kernel_rfl) (by kernel_rfl) (fun _ _ _ h => h) (Or.inl ⟨by rfl, fun W hSV => ?_⟩) (by assumption) ?_
    · have hc := hSV.2
      go_simp
    (try simp only [Act.put, List.getElem_toArray, List.getElem_cons_succ, List.getElem_cons_zero, List.setIfInBounds_toArray, List.set_cons_zero, List.set_cons_succ])
    refine wpAnyH_take (i := 5) (v := .int .i64 t.kind) rfl (by kernel_rfl) (by kernel_rfl) (by kernel_rfl) (fun _ _ _ h => h) (Or.inl ⟨by rfl, fun W hSV => ?_⟩) (by assumption) ?_
    · have hc := hSV.2
      go_simp
    (try simp only [Act.put, List.getElem_toArray, List.getElem_cons_succ, List.getElem_cons_zero, List.setIfInBounds_toArray, List.set_cons_zero, List.set_cons_succ])
    refine wpAnyH_take (i := 6) (v := .int .i64 now2) rfl (by kernel_rfl) (by kernel_rfl) (by kernel_rfl) (fun _ _ _ h => h) (Or.inl ⟨by rfl, fun W hSV => ?_⟩) (by assumption) ?_
    · have hc := hSV.2
      go_simp
    (try simp only [Act.put, List.getElem_toArray, List.getElem_cons_succ, List.getElem_cons_zero, List.setIfInBounds_toArray, List.set_cons_zero, List.set_cons_succ])
    refine wpAnyH_ready (rs := [7, 11]) (by kernel_rfl) (by simp) ?_
    refine AllReadyH.cons (o := _) rfl (fun K hK => ?_) (AllReadyH.cons (o := _) rfl (fun K hK => ?_) AllReadyH.nil)
    · skip
      go_simp
      refine (HDO.out x9.drew).mono ?_
      rintro e z1 ⟨a2, c2, rfl, G1⟩
      have D1 : Hid (Below x9.heap.size x9 z1) := Lib.hid (below_then D0.out G1.out)
      (try dsimp only)
      refine hK.out _ _ (HSS.out z1 D1.out) (fun hHeld => ?_)
      clear hK K
      (try simp only [Act.put, List.getElem_toArray, List.getElem_cons_succ, List.getElem_cons_zero, List.setIfInBounds_toArray, List.set_cons_zero, List.set_cons_succ])
      refine wpAnyH_take (i := 8) (v := .tuple #[jV R (.slice a2 0 c2), .int .i64 E]) rfl (by kernel_rfl) (by kernel_rfl) (by kernel_rfl) (fun _ _ _ h => h) (Or.inl ⟨by rfl, fun W hSV => ?_⟩) (by assumption) ?_
      · have hc := hSV.2
        go_simp
      (try simp only [Act.put, List.getElem_toArray, List.getElem_cons_succ, List.getElem_cons_zero, List.setIfInBounds_toArray, List.set_cons_zero, List.set_cons_succ])
      refine wpAnyH_take (i := 9) (v := jV R (.slice a2 0 c2)) rfl (by kernel_rfl) (by kernel_rfl) (by kernel_rfl) (fun _ _ _ h => h) (Or.inl ⟨by rfl, fun W hSV => ?_⟩) (by assumption) ?_
      · have hc := hSV.2
        go_simp
      (try simp only [Act.put, List.getElem_toArray, List.getElem_cons_succ, List.getElem_cons_zero, List.setIfInBounds_toArray, List.set_cons_zero, List.set_cons_succ])
      refine wpAnyH_take (i := 10) (v := .int .i64 E) rfl (by kernel_rfl) (by kernel_rfl) (by kernel_rfl) (fun _ _ _ h => h) (Or.inl ⟨by rfl, fun W hSV => ?_⟩) (by assumption) ?_
      · have hc := hSV.2
        go_simp
      (try simp only [Act.put, List.getElem_toArray, List.getElem_cons_succ, List.getElem_cons_zero, List.setIfInBounds_toArray, List.set_cons_zero, List.set_cons_succ])
      refine wpAnyH_ready (rs := [11]) (by kernel_rfl) (by simp) ?_
      refine AllReadyH.cons (o := _) rfl (fun K hK => ?_) AllReadyH.nil
      obtain ⟨X, z2, hX, hz2, HXB, HXX⟩ := box_zero z1
      have D2 : Hid (Below x9.heap.size x9 z2) := Lib.hid (below_then D1.out HXB.out.1)
      have HXS : Hid (x9.heap.size ≤ X) := Lib.hid (by have := D1.out.size; omega)
      go_simp
      (try dsimp only)
      refine hK.out _ _ (HSS.out z2 D2.out) (fun hHeld => ?_)
      clear hK K
      (try simp only [Act.put, List.getElem_toArray, List.getElem_cons_succ, List.getElem_cons_zero, List.setIfInBounds_toArray, List.set_cons_zero, List.set_cons_succ])
      clear hX hz2
      refine wpAnyH_ready (rs := [12]) (by kernel_rfl) (by simp) ?_
      refine AllReadyH.cons (o := _) rfl (fun K hK => ?_) AllReadyH.nil
      refine wp_store_jo _ _ rfl X rfl R a2 0 c2 rfl zJ (.slice none 0 0) HXX.out ?_
      intro wz hz gz
      have HF : Hid (Has wz X R (.slice a2 0 c2) ∧ Below x9.heap.size x9 wz) := Lib.hid ⟨hz, below_of_only D2.out HXS.out gz⟩
      clear hz gz
      (try dsimp only)
      refine hK.out _ _ (HSS.out wz HF.out.2) (fun hHeld => ?_)
      clear hK K
      (try simp only [Act.put, List.getElem_toArray, List.getElem_cons_succ, List.getElem_cons_zero])
      refine wpAnyH_take (i := 13) (v := .int .i64 E) rfl (by kernel_rfl) (by kernel_rfl) (by kernel_rfl) (fun _ _ _ h => h) (Or.inl ⟨by rfl, fun W hSV => ?_⟩) (by assumption) ?_
      · have hc := hSV.2
        go_simp
      (try simp only [Act.put, List.getElem_toArray, List.getElem_cons_succ, List.getElem_cons_zero, List.setIfInBounds_toArray, List.set_cons_zero, List.set_cons_succ])
      refine wpAnyH_done (by kernel_rfl) ?_ _
      have HZ : Hid (Has wz X R (.slice a2 0 c2) ∧ Has wz U J (.slice b 0 d) ∧ Has wz U9 J (.slice b 0 d) ∧ Below w.heap.size w wz) := Lib.hid ⟨HF.out.1, (HSS.out wz HF.out.2).1, has_under M9.out.1 HF.out.2, below_then M9.out.2.2.1 HF.out.2⟩
      clear HSS HDO HCELL D0
      rcases HST.out with ⟨he, hv⟩ | ⟨he, s1, s2, s3, s4, s5, hv⟩ | ⟨he, s1, s2, s3, s4, hv⟩ | ⟨he, s1, s2, s3, hv⟩
      · subst hv
        have en : (E != 0) = true := by simpa using he
        clear he HST
        go_wp2_with ((with_reducible show wpList _ _ _ _ _ wz); refine load_jo rfl _ rfl X rfl zJ (.slice a2 0 c2) HZ.out.1 ?_)
        refine (dsame_jo zJ a2 0 c2 none 0 0 wz (jin_none _ _) (by omega) (jin_none _ _) (by omega)).mono ?_
        rintro e z3 ⟨rfl, G3⟩
        go_wp2_with fail
        go_roundw
        case rel => exact ⟨i + 1, J, b, d, now2, ran, rfl, rfl, by go_num, by omega, HNB.out.1, HI2, Lib.hid (has_under HZ.out.2.1 G3.out), Lib.hid (below_then HZ.out.2.2.2 G3.out)⟩
        case measure => simp [RowKit.intOf]; omega
      · subst he
        have hRS := HRS.out (by first | trivial | rfl)
        have hbs := inv_bounds HI2.out HTB.out.2
        have hTt := HI2.out.tm
        have hTB := HTB.out
        have hnb := HNB.out
        have HI3 := Lib.hid hv
        have HCK0 := Im.check_im R a2 0 c2 wz (by rw [hRS.2.1]; exact jin_none wz a2) (by omega)
        rw [chk_yes hRS.1] at HCK0
        have HCK : Hid (Calls Try.prog 10 #[jV R (.slice a2 0 c2)] wz fun e w' => e = .returned (.int .i64 0) ∧ Hid (Below wz.heap.size wz w')) := Lib.hid (HCK0.mono fun _ _ ⟨e, h⟩ => ⟨e, Lib.hid h⟩)
        have hoj : openJ J = true := decide_eq_true (by omega)
        have HOJ : Hid (∀ W, Calls Try.prog 12 #[jV J (.slice b 0 d)] W fun e w' => e = .returned (.bool true) ∧ Hid (Below W.heap.size W w')) := Lib.hid fun W => by
          rw [← hoj]
          exact (Im.open_im J _ W).mono fun _ _ ⟨e, h⟩ => ⟨e, Lib.hid h⟩
        have k12 : wz.cell? ⟨U9, 12, none⟩ = some (.int .i64 J.st) := cell_block (j := 12) HZ.out.2.2.1 rfl
        have k13 : wz.cell? ⟨U9, 13, none⟩ = some (.int .i64 J.sr) := cell_block (j := 13) HZ.out.2.2.1 rfl
        have k14 : wz.cell? ⟨U9, 14, none⟩ = some (.int .i64 J.en) := cell_block (j := 14) HZ.out.2.2.1 rfl
        have x12 : wz.cell? ⟨X, 12, none⟩ = some (.int .i64 R.st) := cell_block (j := 12) HZ.out.1 rfl
        have u9 : wz.cell? ⟨U, 9, none⟩ = some (.int .i64 J.tm) := cell_block (j := 9) HZ.out.2.1 rfl
        have hsr := inv_sr HI2.out s1
        obtain ⟨ran2, hran⟩ : ∃ x, ran + now2 - J.sr = x := ⟨_, rfl⟩
        rw [hran] at s3 s4 s5 HI3
        obtain ⟨p, hp⟩ : ∃ x, ran + now2 = x := ⟨_, rfl⟩
        have w1 : IntKind.i64.wrap (ran + now2) = p := by rw [hp]; exact IntWalk.i64_in _ (by omega)
        have w2 : IntKind.i64.wrap (p - J.sr) = ran2 := by rw [← hp, hran]; exact IntWalk.i64_in _ (by omega)
        obtain ⟨q, hq⟩ : ∃ x, J.tm - ran2 = x := ⟨_, rfl⟩
        have w3 : IntKind.i64.wrap (J.tm - ran2) = q := by rw [hq]; exact IntWalk.i64_in _ (by omega)
        have g1 : (J.st == 2) = true := by simpa using s1
        have g2 : (R.st == 3) = true := by simpa using s2
        have g3 : (R.st == 4) = false := by simp; omega
        have g4 : (R.lf != q) = false := by simp; omega
        clear HCK0 hoj hRS hbs hTt hTB hnb HST HRS hv hsr hran hp hq s1 s2 s3 s4 s5
        go_wp2_with ((with_reducible show wpList _ _ _ _ _ wz); refine load_jo rfl _ rfl X rfl R (.slice a2 0 c2) HZ.out.1 ?_)
        clear k12 k13 k14 x12 u9
        refine HCK.out.mono ?_
        rintro e z3 ⟨rfl, G3⟩
        have H3 : Hid (Has z3 X R (.slice a2 0 c2) ∧ Has z3 U J (.slice b 0 d) ∧ Has z3 U9 J (.slice b 0 d) ∧ Below w.heap.size w z3) := Lib.hid ⟨has_under HZ.out.1 G3.out, has_under HZ.out.2.1 G3.out, has_under HZ.out.2.2.1 G3.out, below_then HZ.out.2.2.2 G3.out⟩
        go_wp2_with ((with_reducible show wpList _ _ _ _ _ z3); refine load_joG rfl _ rfl U9 rfl J (.slice b 0 d) H3.out.2.2.1 ?_)
        refine (HOJ.out z3).mono ?_
        rintro e z4 ⟨rfl, G4⟩
        have H4 : Hid (Has z4 X R (.slice a2 0 c2) ∧ Has z4 U J (.slice b 0 d) ∧ Below w.heap.size w z4) := Lib.hid ⟨has_under H3.out.1 G4.out, has_under H3.out.2.1 G4.out, below_then H3.out.2.2.2 G4.out⟩
        have x12 : z4.cell? ⟨X, 12, none⟩ = some (.int .i64 R.st) := cell_block (j := 12) H4.out.1 rfl
        have x15 : z4.cell? ⟨X, 15, none⟩ = some (.int .i64 R.lf) := cell_block (j := 15) H4.out.1 rfl
        have u9 : z4.cell? ⟨U, 9, none⟩ = some (.int .i64 J.tm) := cell_block (j := 9) H4.out.2.1 rfl
        go_wp2_with (first
          | ((with_reducible show wpList _ _ _ (Oper.mk (some 118) _ _ _ _ _ :: _) _ z4); refine load_jo rfl _ rfl X rfl R (.slice a2 0 c2) H4.out.1 ?_)
          | ((with_reducible show wpList _ _ _ (Oper.mk none _ _ _ _ _ :: _) _ z4); refine store_jo rfl _ _ rfl U rfl R a2 0 c2 rfl J (.slice b 0 d) H4.out.2.1 ?_; intro wn hn gn))
        go_roundw
        case rel => exact ⟨i + 1, R, a2, c2, now2, ran2, rfl, rfl, by go_num, by omega, HNB.out.1, HI3, Lib.hid hn, Lib.hid (below_of_only H4.out.2.2 HUW.out gn)⟩
        case measure => simp [RowKit.intOf]; omega
      · subst he
        have hRS := HRS.out (by first | trivial | rfl)
        have hbs := inv_bounds HI2.out HTB.out.2
        have hTt := HI2.out.tm
        have hTB := HTB.out
        have hnb := HNB.out
        have HI3 := Lib.hid hv
        have HCK0 := Im.check_im R a2 0 c2 wz (by rw [hRS.2.1]; exact jin_none wz a2) (by omega)
        rw [chk_yes hRS.1] at HCK0
        have HCK : Hid (Calls Try.prog 10 #[jV R (.slice a2 0 c2)] wz fun e w' => e = .returned (.int .i64 0) ∧ Hid (Below wz.heap.size wz w')) := Lib.hid (HCK0.mono fun _ _ ⟨e, h⟩ => ⟨e, Lib.hid h⟩)
        have hoj : openJ J = true := decide_eq_true (by omega)
        have HOJ : Hid (∀ W, Calls Try.prog 12 #[jV J (.slice b 0 d)] W fun e w' => e = .returned (.bool true) ∧ Hid (Below W.heap.size W w')) := Lib.hid fun W => by
          rw [← hoj]
          exact (Im.open_im J _ W).mono fun _ _ ⟨e, h⟩ => ⟨e, Lib.hid h⟩
        have k12 : wz.cell? ⟨U9, 12, none⟩ = some (.int .i64 J.st) := cell_block (j := 12) HZ.out.2.2.1 rfl
        have k13 : wz.cell? ⟨U9, 13, none⟩ = some (.int .i64 J.sr) := cell_block (j := 13) HZ.out.2.2.1 rfl
        have k14 : wz.cell? ⟨U9, 14, none⟩ = some (.int .i64 J.en) := cell_block (j := 14) HZ.out.2.2.1 rfl
        have x12 : wz.cell? ⟨X, 12, none⟩ = some (.int .i64 R.st) := cell_block (j := 12) HZ.out.1 rfl
        have u9 : wz.cell? ⟨U, 9, none⟩ = some (.int .i64 J.tm) := cell_block (j := 9) HZ.out.2.1 rfl
        have hsr := inv_sr HI2.out s1
        obtain ⟨p, hp⟩ : ∃ x, ran + J.en = x := ⟨_, rfl⟩
        have w1 : IntKind.i64.wrap (ran + J.en) = p := by rw [hp]; exact IntWalk.i64_in _ (by omega)
        obtain ⟨q, hq⟩ : ∃ x, p - J.sr = x := ⟨_, rfl⟩
        have w2 : IntKind.i64.wrap (p - J.sr) = q := by rw [hq]; exact IntWalk.i64_in _ (by omega)
        have g1 : (J.st == 2) = true := by simpa using s1
        have g2 : (R.st == 3) = false := by simp; omega
        have g3 : (R.st == 4) = true := by simpa using s2
        have g4 : (q != J.tm) = false := by simp; omega
        have g5 : decide (now2 < J.en) = false := decide_eq_false (by omega)
        clear HCK0 hoj hRS hbs hTt hTB hnb HST HRS hv hsr hp hq s1 s2 s3 s4
        go_wp2_with ((with_reducible show wpList _ _ _ _ _ wz); refine load_jo rfl _ rfl X rfl R (.slice a2 0 c2) HZ.out.1 ?_)
        clear k12 k13 k14 x12 u9
        refine HCK.out.mono ?_
        rintro e z3 ⟨rfl, G3⟩
        have H3 : Hid (Has z3 X R (.slice a2 0 c2) ∧ Has z3 U J (.slice b 0 d) ∧ Has z3 U9 J (.slice b 0 d) ∧ Below w.heap.size w z3) := Lib.hid ⟨has_under HZ.out.1 G3.out, has_under HZ.out.2.1 G3.out, has_under HZ.out.2.2.1 G3.out, below_then HZ.out.2.2.2 G3.out⟩
        go_wp2_with ((with_reducible show wpList _ _ _ _ _ z3); refine load_joG rfl _ rfl U9 rfl J (.slice b 0 d) H3.out.2.2.1 ?_)
        refine (HOJ.out z3).mono ?_
        rintro e z4 ⟨rfl, G4⟩
        have H4 : Hid (Has z4 X R (.slice a2 0 c2) ∧ Has z4 U J (.slice b 0 d) ∧ Below w.heap.size w z4) := Lib.hid ⟨has_under H3.out.1 G4.out, has_under H3.out.2.1 G4.out, below_then H3.out.2.2.2 G4.out⟩
        have x12 : z4.cell? ⟨X, 12, none⟩ = some (.int .i64 R.st) := cell_block (j := 12) H4.out.1 rfl
        have x15 : z4.cell? ⟨X, 15, none⟩ = some (.int .i64 R.lf) := cell_block (j := 15) H4.out.1 rfl
        have u9 : z4.cell? ⟨U, 9, none⟩ = some (.int .i64 J.tm) := cell_block (j := 9) H4.out.2.1 rfl
        go_wp2_with (first
          | ((with_reducible show wpList _ _ _ (Oper.mk (some 118) _ _ _ _ _ :: _) _ z4); refine load_jo rfl _ rfl X rfl R (.slice a2 0 c2) H4.out.1 ?_)
          | ((with_reducible show wpList _ _ _ (Oper.mk none _ _ _ _ _ :: _) _ z4); refine store_jo rfl _ _ rfl U rfl R a2 0 c2 rfl J (.slice b 0 d) H4.out.2.1 ?_; intro wn hn gn))
        go_roundw
        case rel => exact ⟨i + 1, R, a2, c2, now2, ran, rfl, rfl, by go_num, by omega, HNB.out.1, HI3, Lib.hid hn, Lib.hid (below_of_only H4.out.2.2 HUW.out gn)⟩
        case measure => simp [RowKit.intOf]; omega
      · subst he
        have hRS := HRS.out (by first | trivial | rfl)
        have hbs := inv_bounds HI2.out HTB.out.2
        have hTt := HI2.out.tm
        have hTB := HTB.out
        have hnb := HNB.out
        have HI3 := Lib.hid hv
        have HCK0 := Im.check_im R a2 0 c2 wz (by rw [hRS.2.1]; exact jin_none wz a2) (by omega)
        rw [chk_yes hRS.1] at HCK0
        have HCK : Hid (Calls Try.prog 10 #[jV R (.slice a2 0 c2)] wz fun e w' => e = .returned (.int .i64 0) ∧ Hid (Below wz.heap.size wz w')) := Lib.hid (HCK0.mono fun _ _ ⟨e, h⟩ => ⟨e, Lib.hid h⟩)
        have hoj : openJ J = true := decide_eq_true (by omega)
        have HOJ : Hid (∀ W, Calls Try.prog 12 #[jV J (.slice b 0 d)] W fun e w' => e = .returned (.bool true) ∧ Hid (Below W.heap.size W w')) := Lib.hid fun W => by
          rw [← hoj]
          exact (Im.open_im J _ W).mono fun _ _ ⟨e, h⟩ => ⟨e, Lib.hid h⟩
        have k12 : wz.cell? ⟨U9, 12, none⟩ = some (.int .i64 J.st) := cell_block (j := 12) HZ.out.2.2.1 rfl
        have k13 : wz.cell? ⟨U9, 13, none⟩ = some (.int .i64 J.sr) := cell_block (j := 13) HZ.out.2.2.1 rfl
        have k14 : wz.cell? ⟨U9, 14, none⟩ = some (.int .i64 J.en) := cell_block (j := 14) HZ.out.2.2.1 rfl
        have x12 : wz.cell? ⟨X, 12, none⟩ = some (.int .i64 R.st) := cell_block (j := 12) HZ.out.1 rfl
        have u9 : wz.cell? ⟨U, 9, none⟩ = some (.int .i64 J.tm) := cell_block (j := 9) HZ.out.2.1 rfl
        have g2 : (R.st == 3) = false := by simpa using s2
        have g3 : (R.st == 4) = false := by simpa using s3
        by_cases s4 : J.st = 2
        · have g1 : (J.st == 2) = true := by simpa using s4
          clear HCK0 hoj hRS hbs hTt hTB hnb HST HRS hv s1 s2 s3 s4
          go_wp2_with ((with_reducible show wpList _ _ _ _ _ wz); refine load_jo rfl _ rfl X rfl R (.slice a2 0 c2) HZ.out.1 ?_)
          clear k12 k13 k14 x12 u9
          refine HCK.out.mono ?_
          rintro e z3 ⟨rfl, G3⟩
          have H3 : Hid (Has z3 X R (.slice a2 0 c2) ∧ Has z3 U J (.slice b 0 d) ∧ Has z3 U9 J (.slice b 0 d) ∧ Below w.heap.size w z3) := Lib.hid ⟨has_under HZ.out.1 G3.out, has_under HZ.out.2.1 G3.out, has_under HZ.out.2.2.1 G3.out, below_then HZ.out.2.2.2 G3.out⟩
          go_wp2_with ((with_reducible show wpList _ _ _ _ _ z3); refine load_joG rfl _ rfl U9 rfl J (.slice b 0 d) H3.out.2.2.1 ?_)
          refine (HOJ.out z3).mono ?_
          rintro e z4 ⟨rfl, G4⟩
          have H4 : Hid (Has z4 X R (.slice a2 0 c2) ∧ Has z4 U J (.slice b 0 d) ∧ Below w.heap.size w z4) := Lib.hid ⟨has_under H3.out.1 G4.out, has_under H3.out.2.1 G4.out, below_then H3.out.2.2.2 G4.out⟩
          have x12 : z4.cell? ⟨X, 12, none⟩ = some (.int .i64 R.st) := cell_block (j := 12) H4.out.1 rfl
          have x15 : z4.cell? ⟨X, 15, none⟩ = some (.int .i64 R.lf) := cell_block (j := 15) H4.out.1 rfl
          have u9 : z4.cell? ⟨U, 9, none⟩ = some (.int .i64 J.tm) := cell_block (j := 9) H4.out.2.1 rfl
          go_wp2_with (first
            | ((with_reducible show wpList _ _ _ (Oper.mk (some 118) _ _ _ _ _ :: _) _ z4); refine load_jo rfl _ rfl X rfl R (.slice a2 0 c2) H4.out.1 ?_)
            | ((with_reducible show wpList _ _ _ (Oper.mk none _ _ _ _ _ :: _) _ z4); refine store_jo rfl _ _ rfl U rfl R a2 0 c2 rfl J (.slice b 0 d) H4.out.2.1 ?_; intro wn hn gn))
          go_roundw
          case rel => exact ⟨i + 1, R, a2, c2, now2, ran, rfl, rfl, by go_num, by omega, HNB.out.1, HI3, Lib.hid hn, Lib.hid (below_of_only H4.out.2.2 HUW.out gn)⟩
          case measure => simp [RowKit.intOf]; omega
        · have g1 : (J.st == 2) = false := by simpa using s4
          clear HCK0 hoj hRS hbs hTt hTB hnb HST HRS hv s1 s2 s3 s4
          go_wp2_with ((with_reducible show wpList _ _ _ _ _ wz); refine load_jo rfl _ rfl X rfl R (.slice a2 0 c2) HZ.out.1 ?_)
          clear k12 k13 k14 x12 u9
          refine HCK.out.mono ?_
          rintro e z3 ⟨rfl, G3⟩
          have H3 : Hid (Has z3 X R (.slice a2 0 c2) ∧ Has z3 U J (.slice b 0 d) ∧ Has z3 U9 J (.slice b 0 d) ∧ Below w.heap.size w z3) := Lib.hid ⟨has_under HZ.out.1 G3.out, has_under HZ.out.2.1 G3.out, has_under HZ.out.2.2.1 G3.out, below_then HZ.out.2.2.2 G3.out⟩
          go_wp2_with ((with_reducible show wpList _ _ _ _ _ z3); refine load_joG rfl _ rfl U9 rfl J (.slice b 0 d) H3.out.2.2.1 ?_)
          refine (HOJ.out z3).mono ?_
          rintro e z4 ⟨rfl, G4⟩
          have H4 : Hid (Has z4 X R (.slice a2 0 c2) ∧ Has z4 U J (.slice b 0 d) ∧ Below w.heap.size w z4) := Lib.hid ⟨has_under H3.out.1 G4.out, has_under H3.out.2.1 G4.out, below_then H3.out.2.2.2 G4.out⟩
          have x12 : z4.cell? ⟨X, 12, none⟩ = some (.int .i64 R.st) := cell_block (j := 12) H4.out.1 rfl
          have x15 : z4.cell? ⟨X, 15, none⟩ = some (.int .i64 R.lf) := cell_block (j := 15) H4.out.1 rfl
          have u9 : z4.cell? ⟨U, 9, none⟩ = some (.int .i64 J.tm) := cell_block (j := 9) H4.out.2.1 rfl
          go_wp2_with (first
            | ((with_reducible show wpList _ _ _ (Oper.mk (some 118) _ _ _ _ _ :: _) _ z4); refine load_jo rfl _ rfl X rfl R (.slice a2 0 c2) H4.out.1 ?_)
            | ((with_reducible show wpList _ _ _ (Oper.mk none _ _ _ _ _ :: _) _ z4); refine store_jo rfl _ _ rfl U rfl R a2 0 c2 rfl J (.slice b 0 d) H4.out.2.1 ?_; intro wn hn gn))
          go_roundw
          case rel => exact ⟨i + 1, R, a2, c2, now2, ran, rfl, rfl, by go_num, by omega, HNB.out.1, HI3, Lib.hid hn, Lib.hid (below_of_only H4.out.2.2 HUW.out gn)⟩
          case measure => simp [RowKit.intOf]; omega
    · skip
      obtain ⟨X, z1, hX, hz1, HXB, HXX⟩ := box_zero x9.drew
      have D1 : Hid (Below x9.heap.size x9 z1) := Lib.hid (below_then D0.out HXB.out.1)
      have HXS : Hid (x9.heap.size ≤ X) := Lib.hid (by have := D0.out.size; omega)
      go_simp
      (try dsimp only)
      refine hK.out _ _ (HSS.out z1 D1.out) (fun hHeld => ?_)
      clear hK K
      (try simp only [Act.put, List.getElem_toArray, List.getElem_cons_succ, List.getElem_cons_zero, List.setIfInBounds_toArray, List.set_cons_zero, List.set_cons_succ])
      clear hX hz1
      refine wpAnyH_ready (rs := [7]) (by kernel_rfl) (by simp) ?_
      refine AllReadyH.cons (o := _) rfl (fun K hK => ?_) AllReadyH.nil
      go_simp
      refine (HDO.out z1).mono ?_
      rintro e z2 ⟨a2, c2, rfl, G1⟩
      have D2 : Hid (Below x9.heap.size x9 z2) := Lib.hid (below_then D1.out G1.out)
      (try dsimp only)
      refine hK.out _ _ (HSS.out z2 D2.out) (fun hHeld => ?_)
      clear hK K
      (try simp only [Act.put, List.getElem_toArray, List.getElem_cons_succ, List.getElem_cons_zero, List.setIfInBounds_toArray, List.set_cons_zero, List.set_cons_succ])
      refine wpAnyH_take (i := 8) (v := .tuple #[jV R (.slice a2 0 c2), .int .i64 E]) rfl (by kernel_rfl) (by kernel_rfl) (by kernel_rfl) (fun _ _ _ h => h) (Or.inl ⟨by rfl, fun W hSV => ?_⟩) (by assumption) ?_
      · have hc := hSV.2
        go_simp
      (try simp only [Act.put, List.getElem_toArray, List.getElem_cons_succ, List.getElem_cons_zero, List.setIfInBounds_toArray, List.set_cons_zero, List.set_cons_succ])
      refine wpAnyH_take (i := 9) (v := jV R (.slice a2 0 c2)) rfl (by kernel_rfl) (by kernel_rfl) (by kernel_rfl) (fun _ _ _ h => h) (Or.inl ⟨by rfl, fun W hSV => ?_⟩) (by assumption) ?_
      · have hc := hSV.2
        go_simp
      (try simp only [Act.put, List.getElem_toArray, List.getElem_cons_succ, List.getElem_cons_zero, List.setIfInBounds_toArray, List.set_cons_zero, List.set_cons_succ])
      refine wpAnyH_take (i := 10) (v := .int .i64 E) rfl (by kernel_rfl) (by kernel_rfl) (by kernel_rfl) (fun _ _ _ h => h) (Or.inl ⟨by rfl, fun W hSV => ?_⟩) (by assumption) ?_
      · have hc := hSV.2
        go_simp
      (try simp only [Act.put, List.getElem_toArray, List.getElem_cons_succ, List.getElem_cons_zero, List.setIfInBounds_toArray, List.set_cons_zero, List.set_cons_succ])
      have HXZ := Lib.hid (has_under HXX.out G1.out)
      refine wpAnyH_ready (rs := [12]) (by kernel_rfl) (by simp) ?_
      refine AllReadyH.cons (o := _) rfl (fun K hK => ?_) AllReadyH.nil
      refine wp_store_jo _ _ rfl X rfl R a2 0 c2 rfl zJ (.slice none 0 0) HXZ.out ?_
      intro wz hz gz
      have HF : Hid (Has wz X R (.slice a2 0 c2) ∧ Below x9.heap.size x9 wz) := Lib.hid ⟨hz, below_of_only D2.out HXS.out gz⟩
      clear hz gz
      (try dsimp only)
      refine hK.out _ _ (HSS.out wz HF.out.2) (fun hHeld => ?_)
      clear hK K
      (try simp only [Act.put, List.getElem_toArray, List.getElem_cons_succ, List.getElem_cons_zero])
      refine wpAnyH_take (i := 13) (v := .int .i64 E) rfl (by kernel_rfl) (by kernel_rfl) (by kernel_rfl) (fun _ _ _ h => h) (Or.inl ⟨by rfl, fun W hSV => ?_⟩) (by assumption) ?_
      · have hc := hSV.2
        go_simp
      (try simp only [Act.put, List.getElem_toArray, List.getElem_cons_succ, List.getElem_cons_zero, List.setIfInBounds_toArray, List.set_cons_zero, List.set_cons_succ])
      refine wpAnyH_done (by kernel_rfl) ?_ _
      have HZ : Hid (Has wz X R (.slice a2 0 c2) ∧ Has wz U J (.slice b 0 d) ∧ Has wz U9 J (.slice b 0 d) ∧ Below w.heap.size w wz) := Lib.hid ⟨HF.out.1, (HSS.out wz HF.out.2).1, has_under M9.out.1 HF.out.2, below_then M9.out.2.2.1 HF.out.2⟩
      clear HSS HDO HCELL D0
      rcases HST.out with ⟨he, hv⟩ | ⟨he, s1, s2, s3, s4, s5, hv⟩ | ⟨he, s1, s2, s3, s4, hv⟩ | ⟨he, s1, s2, s3, hv⟩
      · subst hv
        have en : (E != 0) = true := by simpa using he
        clear he HST
        go_wp2_with ((with_reducible show wpList _ _ _ _ _ wz); refine load_jo rfl _ rfl X rfl zJ (.slice a2 0 c2) HZ.out.1 ?_)
        refine (dsame_jo zJ a2 0 c2 none 0 0 wz (jin_none _ _) (by omega) (jin_none _ _) (by omega)).mono ?_
        rintro e z3 ⟨rfl, G3⟩
        go_wp2_with fail
        go_roundw
        case rel => exact ⟨i + 1, J, b, d, now2, ran, rfl, rfl, by go_num, by omega, HNB.out.1, HI2, Lib.hid (has_under HZ.out.2.1 G3.out), Lib.hid (below_then HZ.out.2.2.2 G3.out)⟩
        case measure => simp [RowKit.intOf]; omega
      · subst he
        have hRS := HRS.out (by first | trivial | rfl)
        have hbs := inv_bounds HI2.out HTB.out.2
        have hTt := HI2.out.tm
        have hTB := HTB.out
        have hnb := HNB.out
        have HI3 := Lib.hid hv
        have HCK0 := Im.check_im R a2 0 c2 wz (by rw [hRS.2.1]; exact jin_none wz a2) (by omega)
        rw [chk_yes hRS.1] at HCK0
        have HCK : Hid (Calls Try.prog 10 #[jV R (.slice a2 0 c2)] wz fun e w' => e = .returned (.int .i64 0) ∧ Hid (Below wz.heap.size wz w')) := Lib.hid (HCK0.mono fun _ _ ⟨e, h⟩ => ⟨e, Lib.hid h⟩)
        have hoj : openJ J = true := decide_eq_true (by omega)
        have HOJ : Hid (∀ W, Calls Try.prog 12 #[jV J (.slice b 0 d)] W fun e w' => e = .returned (.bool true) ∧ Hid (Below W.heap.size W w')) := Lib.hid fun W => by
          rw [← hoj]
          exact (Im.open_im J _ W).mono fun _ _ ⟨e, h⟩ => ⟨e, Lib.hid h⟩
        have k12 : wz.cell? ⟨U9, 12, none⟩ = some (.int .i64 J.st) := cell_block (j := 12) HZ.out.2.2.1 rfl
        have k13 : wz.cell? ⟨U9, 13, none⟩ = some (.int .i64 J.sr) := cell_block (j := 13) HZ.out.2.2.1 rfl
        have k14 : wz.cell? ⟨U9, 14, none⟩ = some (.int .i64 J.en) := cell_block (j := 14) HZ.out.2.2.1 rfl
        have x12 : wz.cell? ⟨X, 12, none⟩ = some (.int .i64 R.st) := cell_block (j := 12) HZ.out.1 rfl
        have u9 : wz.cell? ⟨U, 9, none⟩ = some (.int .i64 J.tm) := cell_block (j := 9) HZ.out.2.1 rfl
        have hsr := inv_sr HI2.out s1
        obtain ⟨ran2, hran⟩ : ∃ x, ran + now2 - J.sr = x := ⟨_, rfl⟩
        rw [hran] at s3 s4 s5 HI3
        obtain ⟨p, hp⟩ : ∃ x, ran + now2 = x := ⟨_, rfl⟩
        have w1 : IntKind.i64.wrap (ran + now2) = p := by rw [hp]; exact IntWalk.i64_in _ (by omega)
        have w2 : IntKind.i64.wrap (p - J.sr) = ran2 := by rw [← hp, hran]; exact IntWalk.i64_in _ (by omega)
        obtain ⟨q, hq⟩ : ∃ x, J.tm - ran2 = x := ⟨_, rfl⟩
        have w3 : IntKind.i64.wrap (J.tm - ran2) = q := by rw [hq]; exact IntWalk.i64_in _ (by omega)
        have g1 : (J.st == 2) = true := by simpa using s1
        have g2 : (R.st == 3) = true := by simpa using s2
        have g3 : (R.st == 4) = false := by simp; omega
        have g4 : (R.lf != q) = false := by simp; omega
        clear HCK0 hoj hRS hbs hTt hTB hnb HST HRS hv hsr hran hp hq s1 s2 s3 s4 s5
        go_wp2_with ((with_reducible show wpList _ _ _ _ _ wz); refine load_jo rfl _ rfl X rfl R (.slice a2 0 c2) HZ.out.1 ?_)
        clear k12 k13 k14 x12 u9
        refine HCK.out.mono ?_
        rintro e z3 ⟨rfl, G3⟩
        have H3 : Hid (Has z3 X R (.slice a2 0 c2) ∧ Has z3 U J (.slice b 0 d) ∧ Has z3 U9 J (.slice b 0 d) ∧ Below w.heap.size w z3) := Lib.hid ⟨has_under HZ.out.1 G3.out, has_under HZ.out.2.1 G3.out, has_under HZ.out.2.2.1 G3.out, below_then HZ.out.2.2.2 G3.out⟩
        go_wp2_with ((with_reducible show wpList _ _ _ _ _ z3); refine load_joG rfl _ rfl U9 rfl J (.slice b 0 d) H3.out.2.2.1 ?_)
        refine (HOJ.out z3).mono ?_
        rintro e z4 ⟨rfl, G4⟩
        have H4 : Hid (Has z4 X R (.slice a2 0 c2) ∧ Has z4 U J (.slice b 0 d) ∧ Below w.heap.size w z4) := Lib.hid ⟨has_under H3.out.1 G4.out, has_under H3.out.2.1 G4.out, below_then H3.out.2.2.2 G4.out⟩
        have x12 : z4.cell? ⟨X, 12, none⟩ = some (.int .i64 R.st) := cell_block (j := 12) H4.out.1 rfl
        have x15 : z4.cell? ⟨X, 15, none⟩ = some (.int .i64 R.lf) := cell_block (j := 15) H4.out.1 rfl
        have u9 : z4.cell? ⟨U, 9, none⟩ = some (.int .i64 J.tm) := cell_block (j := 9) H4.out.2.1 rfl
        go_wp2_with (first
          | ((with_reducible show wpList _ _ _ (Oper.mk (some 118) _ _ _ _ _ :: _) _ z4); refine load_jo rfl _ rfl X rfl R (.slice a2 0 c2) H4.out.1 ?_)
          | ((with_reducible show wpList _ _ _ (Oper.mk none _ _ _ _ _ :: _) _ z4); refine store_jo rfl _ _ rfl U rfl R a2 0 c2 rfl J (.slice b 0 d) H4.out.2.1 ?_; intro wn hn gn))
        go_roundw
        case rel => exact ⟨i + 1, R, a2, c2, now2, ran2, rfl, rfl, by go_num, by omega, HNB.out.1, HI3, Lib.hid hn, Lib.hid (below_of_only H4.out.2.2 HUW.out gn)⟩
        case measure => simp [RowKit.intOf]; omega
      · subst he
        have hRS := HRS.out (by first | trivial | rfl)
        have hbs := inv_bounds HI2.out HTB.out.2
        have hTt := HI2.out.tm
        have hTB := HTB.out
        have hnb := HNB.out
        have HI3 := Lib.hid hv
        have HCK0 := Im.check_im R a2 0 c2 wz (by rw [hRS.2.1]; exact jin_none wz a2) (by omega)
        rw [chk_yes hRS.1] at HCK0
        have HCK : Hid (Calls Try.prog 10 #[jV R (.slice a2 0 c2)] wz fun e w' => e = .returned (.int .i64 0) ∧ Hid (Below wz.heap.size wz w')) := Lib.hid (HCK0.mono fun _ _ ⟨e, h⟩ => ⟨e, Lib.hid h⟩)
        have hoj : openJ J = true := decide_eq_true (by omega)
        have HOJ : Hid (∀ W, Calls Try.prog 12 #[jV J (.slice b 0 d)] W fun e w' => e = .returned (.bool true) ∧ Hid (Below W.heap.size W w')) := Lib.hid fun W => by
          rw [← hoj]
          exact (Im.open_im J _ W).mono fun _ _ ⟨e, h⟩ => ⟨e, Lib.hid h⟩
        have k12 : wz.cell? ⟨U9, 12, none⟩ = some (.int .i64 J.st) := cell_block (j := 12) HZ.out.2.2.1 rfl
        have k13 : wz.cell? ⟨U9, 13, none⟩ = some (.int .i64 J.sr) := cell_block (j := 13) HZ.out.2.2.1 rfl
        have k14 : wz.cell? ⟨U9, 14, none⟩ = some (.int .i64 J.en) := cell_block (j := 14) HZ.out.2.2.1 rfl
        have x12 : wz.cell? ⟨X, 12, none⟩ = some (.int .i64 R.st) := cell_block (j := 12) HZ.out.1 rfl
        have u9 : wz.cell? ⟨U, 9, none⟩ = some (.int .i64 J.tm) := cell_block (j := 9) HZ.out.2.1 rfl
        have hsr := inv_sr HI2.out s1
        obtain ⟨p, hp⟩ : ∃ x, ran + J.en = x := ⟨_, rfl⟩
        have w1 : IntKind.i64.wrap (ran + J.en) = p := by rw [hp]; exact IntWalk.i64_in _ (by omega)
        obtain ⟨q, hq⟩ : ∃ x, p - J.sr = x := ⟨_, rfl⟩
        have w2 : IntKind.i64.wrap (p - J.sr) = q := by rw [hq]; exact IntWalk.i64_in _ (by omega)
        have g1 : (J.st == 2) = true := by simpa using s1
        have g2 : (R.st == 3) = false := by simp; omega
        have g3 : (R.st == 4) = true := by simpa using s2
        have g4 : (q != J.tm) = false := by simp; omega
        have g5 : decide (now2 < J.en) = false := decide_eq_false (by omega)
        clear HCK0 hoj hRS hbs hTt hTB hnb HST HRS hv hsr hp hq s1 s2 s3 s4
        go_wp2_with ((with_reducible show wpList _ _ _ _ _ wz); refine load_jo rfl _ rfl X rfl R (.slice a2 0 c2) HZ.out.1 ?_)
        clear k12 k13 k14 x12 u9
        refine HCK.out.mono ?_
        rintro e z3 ⟨rfl, G3⟩
        have H3 : Hid (Has z3 X R (.slice a2 0 c2) ∧ Has z3 U J (.slice b 0 d) ∧ Has z3 U9 J (.slice b 0 d) ∧ Below w.heap.size w z3) := Lib.hid ⟨has_under HZ.out.1 G3.out, has_under HZ.out.2.1 G3.out, has_under HZ.out.2.2.1 G3.out, below_then HZ.out.2.2.2 G3.out⟩
        go_wp2_with ((with_reducible show wpList _ _ _ _ _ z3); refine load_joG rfl _ rfl U9 rfl J (.slice b 0 d) H3.out.2.2.1 ?_)
        refine (HOJ.out z3).mono ?_
        rintro e z4 ⟨rfl, G4⟩
        have H4 : Hid (Has z4 X R (.slice a2 0 c2) ∧ Has z4 U J (.slice b 0 d) ∧ Below w.heap.size w z4) := Lib.hid ⟨has_under H3.out.1 G4.out, has_under H3.out.2.1 G4.out, below_then H3.out.2.2.2 G4.out⟩
        have x12 : z4.cell? ⟨X, 12, none⟩ = some (.int .i64 R.st) := cell_block (j := 12) H4.out.1 rfl
        have x15 : z4.cell? ⟨X, 15, none⟩ = some (.int .i64 R.lf) := cell_block (j := 15) H4.out.1 rfl
        have u9 : z4.cell? ⟨U, 9, none⟩ = some (.int .i64 J.tm) := cell_block (j := 9) H4.out.2.1 rfl
        go_wp2_with (first
          | ((with_reducible show wpList _ _ _ (Oper.mk (some 118) _ _ _ _ _ :: _) _ z4); refine load_jo rfl _ rfl X rfl R (.slice a2 0 c2) H4.out.1 ?_)
          | ((with_reducible show wpList _ _ _ (Oper.mk none _ _ _ _ _ :: _) _ z4); refine store_jo rfl _ _ rfl U rfl R a2 0 c2 rfl J (.slice b 0 d) H4.out.2.1 ?_; intro wn hn gn))
        go_roundw
        case rel => exact ⟨i + 1, R, a2, c2, now2, ran, rfl, rfl, by go_num, by omega, HNB.out.1, HI3, Lib.hid hn, Lib.hid (below_of_only H4.out.2.2 HUW.out gn)⟩
        case measure => simp [RowKit.intOf]; omega
      · subst he
        have hRS := HRS.out (by first | trivial | rfl)
        have hbs := inv_bounds HI2.out HTB.out.2
        have hTt := HI2.out.tm
        have hTB := HTB.out
        have hnb := HNB.out
        have HI3 := Lib.hid hv
        have HCK0 := Im.check_im R a2 0 c2 wz (by rw [hRS.2.1]; exact jin_none wz a2) (by omega)
        rw [chk_yes hRS.1] at HCK0
        have HCK : Hid (Calls Try.prog 10 #[jV R (.slice a2 0 c2)] wz fun e w' => e = .returned (.int .i64 0) ∧ Hid (Below wz.heap.size wz w')) := Lib.hid (HCK0.mono fun _ _ ⟨e, h⟩ => ⟨e, Lib.hid h⟩)
        have hoj : openJ J = true := decide_eq_true (by omega)
        have HOJ : Hid (∀ W, Calls Try.prog 12 #[jV J (.slice b 0 d)] W fun e w' => e = .returned (.bool true) ∧ Hid (Below W.heap.size W w')) := Lib.hid fun W => by
          rw [← hoj]
          exact (Im.open_im J _ W).mono fun _ _ ⟨e, h⟩ => ⟨e, Lib.hid h⟩
        have k12 : wz.cell? ⟨U9, 12, none⟩ = some (.int .i64 J.st) := cell_block (j := 12) HZ.out.2.2.1 rfl
        have k13 : wz.cell? ⟨U9, 13, none⟩ = some (.int .i64 J.sr) := cell_block (j := 13) HZ.out.2.2.1 rfl
        have k14 : wz.cell? ⟨U9, 14, none⟩ = some (.int .i64 J.en) := cell_block (j := 14) HZ.out.2.2.1 rfl
        have x12 : wz.cell? ⟨X, 12, none⟩ = some (.int .i64 R.st) := cell_block (j := 12) HZ.out.1 rfl
        have u9 : wz.cell? ⟨U, 9, none⟩ = some (.int .i64 J.tm) := cell_block (j := 9) HZ.out.2.1 rfl
        have g2 : (R.st == 3) = false := by simpa using s2
        have g3 : (R.st == 4) = false := by simpa using s3
        by_cases s4 : J.st = 2
        · have g1 : (J.st == 2) = true := by simpa using s4
          clear HCK0 hoj hRS hbs hTt hTB hnb HST HRS hv s1 s2 s3 s4
          go_wp2_with ((with_reducible show wpList _ _ _ _ _ wz); refine load_jo rfl _ rfl X rfl R (.slice a2 0 c2) HZ.out.1 ?_)
          clear k12 k13 k14 x12 u9
          refine HCK.out.mono ?_
          rintro e z3 ⟨rfl, G3⟩
          have H3 : Hid (Has z3 X R (.slice a2 0 c2) ∧ Has z3 U J (.slice b 0 d) ∧ Has z3 U9 J (.slice b 0 d) ∧ Below w.heap.size w z3) := Lib.hid ⟨has_under HZ.out.1 G3.out, has_under HZ.out.2.1 G3.out, has_under HZ.out.2.2.1 G3.out, below_then HZ.out.2.2.2 G3.out⟩
          go_wp2_with ((with_reducible show wpList _ _ _ _ _ z3); refine load_joG rfl _ rfl U9 rfl J (.slice b 0 d) H3.out.2.2.1 ?_)
          refine (HOJ.out z3).mono ?_
          rintro e z4 ⟨rfl, G4⟩
          have H4 : Hid (Has z4 X R (.slice a2 0 c2) ∧ Has z4 U J (.slice b 0 d) ∧ Below w.heap.size w z4) := Lib.hid ⟨has_under H3.out.1 G4.out, has_under H3.out.2.1 G4.out, below_then H3.out.2.2.2 G4.out⟩
          have x12 : z4.cell? ⟨X, 12, none⟩ = some (.int .i64 R.st) := cell_block (j := 12) H4.out.1 rfl
          have x15 : z4.cell? ⟨X, 15, none⟩ = some (.int .i64 R.lf) := cell_block (j := 15) H4.out.1 rfl
          have u9 : z4.cell? ⟨U, 9, none⟩ = some (.int .i64 J.tm) := cell_block (j := 9) H4.out.2.1 rfl
          go_wp2_with (first
            | ((with_reducible show wpList _ _ _ (Oper.mk (some 118) _ _ _ _ _ :: _) _ z4); refine load_jo rfl _ rfl X rfl R (.slice a2 0 c2) H4.out.1 ?_)
            | ((with_reducible show wpList _ _ _ (Oper.mk none _ _ _ _ _ :: _) _ z4); refine store_jo rfl _ _ rfl U rfl R a2 0 c2 rfl J (.slice b 0 d) H4.out.2.1 ?_; intro wn hn gn))
          go_roundw
          case rel => exact ⟨i + 1, R, a2, c2, now2, ran, rfl, rfl, by go_num, by omega, HNB.out.1, HI3, Lib.hid hn, Lib.hid (below_of_only H4.out.2.2 HUW.out gn)⟩
          case measure => simp [RowKit.intOf]; omega
        · have g1 : (J.st == 2) = false := by simpa using s4
          clear HCK0 hoj hRS hbs hTt hTB hnb HST HRS hv s1 s2 s3 s4
          go_wp2_with ((with_reducible show wpList _ _ _ _ _ wz); refine load_jo rfl _ rfl X rfl R (.slice a2 0 c2) HZ.out.1 ?_)
          clear k12 k13 k14 x12 u9
          refine HCK.out.mono ?_
          rintro e z3 ⟨rfl, G3⟩
          have H3 : Hid (Has z3 X R (.slice a2 0 c2) ∧ Has z3 U J (.slice b 0 d) ∧ Has z3 U9 J (.slice b 0 d) ∧ Below w.heap.size w z3) := Lib.hid ⟨has_under HZ.out.1 G3.out, has_under HZ.out.2.1 G3.out, has_under HZ.out.2.2.1 G3.out, below_then HZ.out.2.2.2 G3.out⟩
          go_wp2_with ((with_reducible show wpList _ _ _ _ _ z3); refine load_joG rfl _ rfl U9 rfl J (.slice b 0 d) H3.out.2.2.1 ?_)
          refine (HOJ.out z3).mono ?_
          rintro e z4 ⟨rfl, G4⟩
          have H4 : Hid (Has z4 X R (.slice a2 0 c2) ∧ Has z4 U J (.slice b 0 d) ∧ Below w.heap.size w z4) := Lib.hid ⟨has_under H3.out.1 G4.out, has_under H3.out.2.1 G4.out, below_then H3.out.2.2.2 G4.out⟩
          have x12 : z4.cell? ⟨X, 12, none⟩ = some (.int .i64 R.st) := cell_block (j := 12) H4.out.1 rfl
          have x15 : z4.cell? ⟨X, 15, none⟩ = some (.int .i64 R.lf) := cell_block (j := 15) H4.out.1 rfl
          have u9 : z4.cell? ⟨U, 9, none⟩ = some (.int .i64 J.tm) := cell_block (j := 9) H4.out.2.1 rfl
          go_wp2_with (first
            | ((with_reducible show wpList _ _ _ (Oper.mk (some 118) _ _ _ _ _ :: _) _ z4); refine load_jo rfl _ rfl X rfl R (.slice a2 0 c2) H4.out.1 ?_)
            | ((with_reducible show wpList _ _ _ (Oper.mk none _ _ _ _ _ :: _) _ z4); refine store_jo rfl _ _ rfl U rfl R a2 0 c2 rfl J (.slice b 0 d) H4.out.2.1 ?_; intro wn hn gn))
          go_roundw
          case rel => exact ⟨i + 1, R, a2, c2, now2, ran, rfl, rfl, by go_num, by omega, HNB.out.1, HI3, Lib.hid hn, Lib.hid (below_of_only H4.out.2.2 HUW.out gn)⟩
          case measure => simp [RowKit.intOf]; omega
end Go.Proofs.Ytghlgmlelipjfaa.Job
