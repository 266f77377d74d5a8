/- JobSteps: what comes of any job, whatever is done, and whenever. -/
import Derived.Test.YtghlgmlelipjfaaJobAwake
import Derived.Test.YtghlgmlelipjfaaJobDd
import Derived.Test.YtghlgmlelipjfaaJobSame
namespace Go.Proofs.Ytghlgmlelipjfaa.Job
open Go.RowKit Go.Lib
open Goods (St Sts OwnS)

set_option maxRecDepth 100000 in
set_option maxHeartbeats 16000000 in
theorem jobSteps_in (j : JS) (a : Option Addr) (n c : Nat) (what now : Int) (w : World) (h : JIn w a n j.s) (hn : n ≤ 9223372036854775807) :
    Calls Try.prog 3 #[jV j (.slice a n c), .int .i64 what, .int .i64 now] w fun e w' => e = .returned (.bool true) ∧ Below w.heap.size w w' := by
  obtain ⟨V, X, hV, hX, HXB, HH⟩ := box_jo w j (.slice a n c)
  have k11 : X.cell? ⟨V, 11, none⟩ = some (.slice a n c) := cell_block (j := 11) HH.out rfl
  have HAW : Hid (∀ W, Calls Try.prog 6 #[] W fun e w' => e = .returned (.bool true) ∧ Hid (Below W.heap.size W w')) := Lib.hid fun W => Im.awake_im W
  by_cases hb : 12 < n
  · have d1 : decide ((12 : Int) < (n : Int)) = true := by simp; omega
    have d2 : decide (12 < n) = true := by simp; omega
    clear h hn hb
    go_enter Try.func3, Try.ntmps3
    go_wp2_with fail
    clear hV hX
    refine (HAW.out _).mono ?_
    rintro e w1 ⟨rfl, H1⟩
    go_wp2_with fail
    go_ret
    exact ⟨rfl, below_then HXB.out.1 H1.out⟩
  have d1 : decide ((12 : Int) < (n : Int)) = false := by simp; omega
  have d2 : decide (12 < n) = false := by simp; omega
  have hn2 : n ≤ 1024 := by omega
  have HJ : Hid (∀ W, Below X.heap.size X W → JIn W a n j.s ∧ n ≤ 1024 ∧ Has W V j (.slice a n c) ∧ Below w.heap.size w W) := Lib.hid fun W hW => ⟨(h.under HXB.out.1).under hW, hn2, has_under HH.out hW, below_then HXB.out.1 hW⟩
  have H0 := Lib.hid (Im.do_im what now j a n c X (h.under HXB.out.1) hn2)
  obtain ⟨R, hR⟩ : ∃ R, doV what now j = R := ⟨_, rfl⟩
  obtain ⟨E, hE⟩ : ∃ E, doE what now j = E := ⟨_, rfl⟩
  rw [hR, hE] at H0
  have HD : Hid (∀ W, Below X.heap.size X W → Calls Try.prog 8 #[jV j (.slice a n c), .int .i64 what, .int .i64 now] W fun e w' => ∃ a' n' c', e = .returned (.tuple #[jV R (.slice a' n' c'), .int .i64 E]) ∧ Hid (JIn w' a' n' R.s ∧ n' ≤ n ∧ Below W.heap.size W w')) := Lib.hid fun W hW => by
    rw [← hR, ← hE]
    refine (ddo what now j a n c W (HJ.out W hW).1 hn2).mono ?_
    rintro e w' ⟨a', n', c', rfl, H⟩
    exact ⟨a', n', c', rfl, Lib.hid ⟨H.out.1, H.out.2.1, H.out.2.2⟩⟩
  have HCK : Hid (∀ W, Below X.heap.size X W → Calls Try.prog 10 #[jV j (.slice a n c)] W fun e w' => e = .returned (.int .i64 (chk j)) ∧ Hid (Below W.heap.size W w')) := Lib.hid fun W hW => (Im.check_im j a n c W (HJ.out W hW).1 hn2).mono fun _ _ ⟨e, h⟩ => ⟨e, Lib.hid h⟩
  have HDC : Hid (∀ W, Below X.heap.size X W → Calls Try.prog 11 #[jV j (.slice a n c)] W fun e w' => e = .returned (.int .i64 (chk j)) ∧ Hid (Below W.heap.size W w')) := Lib.hid fun W hW => (dcheck j a n c W (HJ.out W hW).1 hn2).mono fun _ _ ⟨e, h⟩ => ⟨e, Lib.hid h⟩
  have HOP : Hid (∀ W, Below X.heap.size X W → Calls Try.prog 12 #[jV j (.slice a n c)] W fun e w' => e = .returned (.bool (openJ j)) ∧ Hid (Below W.heap.size W w')) := Lib.hid fun W hW => (Im.open_im j _ W).mono fun _ _ ⟨e, h⟩ => ⟨e, Lib.hid h⟩
  have HDO : Hid (∀ W, Below X.heap.size X W → Calls Try.prog 13 #[jV j (.slice a n c)] W fun e w' => e = .returned (.bool (openJ j)) ∧ Hid (Below W.heap.size W w')) := Lib.hid fun W hW => (dopen j _ W).mono fun _ _ ⟨e, h⟩ => ⟨e, Lib.hid h⟩
  obtain ⟨ck, hck⟩ : ∃ ck, chk j = ck := ⟨_, rfl⟩
  obtain ⟨op, hop⟩ : ∃ op, openJ j = op := ⟨_, rfl⟩
  obtain ⟨sd, hsd⟩ : ∃ sd : Int, (if what = 1 then 0 else 1) = sd := ⟨_, rfl⟩
  rw [hck] at HCK HDC
  rw [hop] at HOP HDO
  have HSD : Hid (∀ W, Calls Try.prog 14 #[.int .i64 what] W fun e w' => e = .returned (.int .i64 sd) ∧ W = w') := Lib.hid fun W => by rw [← hsd]; exact Im.side_im what W
  have HDS : Hid (∀ W, Calls Try.prog 15 #[.int .i64 what] W fun e w' => e = .returned (.int .i64 sd) ∧ W = w') := Lib.hid fun W => by rw [← hsd]; exact dside what W
  clear h hn hb hR hE hck hop hsd hn2
  go_enter Try.func3, Try.ntmps3
  go_wp2_with (refine load_jo rfl _ rfl V rfl j (.slice a n c) HH.out ?_)
  clear hV hX k11
  refine H0.out.mono ?_
  rintro e v1 ⟨a1, n1, c1, rfl, H1⟩
  obtain ⟨U1, y1, hU1, hy1, HB1, HZ1⟩ := box_zero v1
  go_wp2_with (first
    | ((with_reducible show wpList _ _ _ _ _ y1); refine store_jo rfl _ _ rfl U1 rfl R a1 n1 c1 rfl zJ (.slice none 0 0) HZ1.out ?_; intro w1 h1 g1; have L1 : Hid (Below v1.heap.size v1 w1) := Lib.hid (below_of_only HB1.out.1 (Nat.le_of_eq hU1) g1); have K1 : Hid (Below X.heap.size X w1) := Lib.hid (below_then H1.out.2.2 L1.out); have HU1 := Lib.hid h1; clear h1 g1 hy1)
    | ((with_reducible show wpList _ _ _ _ _ w1); refine load_jo rfl _ rfl V rfl j (.slice a n c) (HJ.out w1 K1.out).2.2.1 ?_))
  refine (HD.out w1 K1.out).mono ?_
  rintro e v2 ⟨a2, n2, c2, rfl, H2⟩
  obtain ⟨U2, y2, hU2, hy2, HB2, HZ2⟩ := box_zero v2
  go_wp2_with ((with_reducible show wpList _ _ _ _ _ y2); refine store_jo rfl _ _ rfl U2 rfl R a2 n2 c2 rfl zJ (.slice none 0 0) HZ2.out ?_; intro w2 h2 g2; have L2 : Hid (Below v2.heap.size v2 w2) := Lib.hid (below_of_only HB2.out.1 (Nat.le_of_eq hU2) g2); have K2 : Hid (Below X.heap.size X w2) := Lib.hid (below_then (below_then K1.out H2.out.2.2) L2.out); have HU2 := Lib.hid h2; clear h2 g2 hy2)

  have HS0 : Hid (Has w2 V j (.slice a n c) ∧ Has w2 U1 R (.slice a1 n1 c1) ∧ Has w2 U2 R (.slice a2 n2 c2)) := Lib.hid ⟨(HJ.out w2 K2.out).2.2.1, has_under (has_under HU1.out H2.out.2.2) L2.out, HU2.out⟩
  have HSM := Lib.hid (dsame_jo R a1 n1 c1 a2 n2 c2 w2.drew (JIn.under (JIn.under (JIn.under (JIn.under (sts_row H1.out.1) L1.out) H2.out.2.2) L2.out) (Below.refl _ w2).drew) (by have := H1.out.2.1; have := (HJ.out w2 K2.out).2.1; omega) ((H2.out.1.under L2.out).under (Below.refl _ w2).drew) (by have := H2.out.2.1; have := (HJ.out w2 K2.out).2.1; omega))
  have D0 : Hid (Below w2.heap.size w2 w2.drew) := Lib.hid (Below.refl _ w2).drew
  refine wp_region_held_drew (S := fun W => Has W V j (.slice a n c) ∧ Has W U1 R (.slice a1 n1 c1) ∧ Has W U2 R (.slice a2 n2 c2)) (by kernel_rfl) HS0.out (fun hHeld => ?_)
  refine wpAnyH_take (i := 0) (v := jV R (.slice a1 n1 c1)) rfl (by kernel_rfl) (by kernel_rfl) (by kernel_rfl) (fun _ _ _ h => h) (yields_jo (by kernel_rfl) _ rfl U1 rfl R (.slice a1 n1 c1) (fun _ h => h.2.1)) (by assumption) ?_
  (try simp only [Act.put, List.getElem_toArray, List.getElem_cons_zero, List.setIfInBounds_toArray, List.set_cons_zero, List.set_cons_succ])
  refine wpAnyH_take (i := 1) (v := jV R (.slice a2 n2 c2)) rfl (by kernel_rfl) (by kernel_rfl) (by kernel_rfl) (fun _ _ _ h => h) (yields_jo (by kernel_rfl) _ rfl U2 rfl R (.slice a2 n2 c2) (fun _ h => h.2.2)) (by assumption) ?_
  (try simp only [Act.put, List.getElem_toArray, List.getElem_cons_succ, List.getElem_cons_zero, List.setIfInBounds_toArray, List.set_cons_zero, List.set_cons_succ])
  refine wpAnyH_ready (rs := [2]) (by kernel_rfl) (by simp) ?_
  refine AllReadyH.cons (o := _) rfl (fun K hK => ?_) AllReadyH.nil
  go_simp
  refine (HSM.out).mono ?_
  rintro e z0 ⟨rfl, G0⟩
  have D1 : Hid (Below w2.heap.size w2 z0) := Lib.hid (below_then D0.out G0.out)
  have E1 : Hid (Below X.heap.size X z0) := Lib.hid (below_then K2.out D1.out)
  (try dsimp only)
  refine hK.out _ _ ⟨has_under HS0.out.1 D1.out, has_under HS0.out.2.1 D1.out, has_under HS0.out.2.2 D1.out⟩ (fun hHeld => ?_)
  clear hK K
  (try simp only [Act.put, List.getElem_toArray, List.getElem_cons_succ, List.getElem_cons_zero, List.setIfInBounds_toArray, List.set_cons_zero, List.set_cons_succ])
  refine wpAnyH_take (i := 3) (v := .bool true) rfl (by kernel_rfl) (by kernel_rfl) (by kernel_rfl) (fun _ _ _ h => h) (Or.inl ⟨by rfl, fun W hSV => ?_⟩) (by assumption) ?_
  · go_simp
  (try simp only [Act.put, List.getElem_toArray, List.getElem_cons_succ, List.getElem_cons_zero, List.setIfInBounds_toArray, List.set_cons_zero, List.set_cons_succ])
  refine wpAnyH_take (i := 4) (v := .int .i64 E) rfl (by kernel_rfl) (by kernel_rfl) (by kernel_rfl) (fun _ _ _ h => h) (Or.inl ⟨by rfl, fun W hSV => ?_⟩) (by assumption) ?_
  · go_simp
  (try simp only [Act.put, List.getElem_toArray, List.getElem_cons_succ, List.getElem_cons_zero, List.setIfInBounds_toArray, List.set_cons_zero, List.set_cons_succ])
  refine wpAnyH_take (i := 5) (v := .int .i64 E) rfl (by kernel_rfl) (by kernel_rfl) (by kernel_rfl) (fun _ _ _ h => h) (Or.inl ⟨by rfl, fun W hSV => ?_⟩) (by assumption) ?_
  · go_simp
  (try simp only [Act.put, List.getElem_toArray, List.getElem_cons_succ, List.getElem_cons_zero, List.setIfInBounds_toArray, List.set_cons_zero, List.set_cons_succ])
  refine wpAnyH_take (i := 6) (v := .bool true) rfl (by kernel_rfl) (by kernel_rfl) (by kernel_rfl) (fun _ _ _ h => h) (Or.inl ⟨by rfl, fun W hSV => ?_⟩) (by assumption) ?_
  · go_simp
  (try simp only [Act.put, List.getElem_toArray, List.getElem_cons_succ, List.getElem_cons_zero, List.setIfInBounds_toArray, List.set_cons_zero, List.set_cons_succ])
  refine wpAnyH_take (i := 7) (v := .bool true) rfl (by kernel_rfl) (by kernel_rfl) (by kernel_rfl) (fun _ _ _ h => h) (Or.inl ⟨by rfl, fun W hSV => ?_⟩) (by assumption) ?_
  · go_simp
  (try simp only [Act.put, List.getElem_toArray, List.getElem_cons_succ, List.getElem_cons_zero, List.setIfInBounds_toArray, List.set_cons_zero, List.set_cons_succ])
  refine wpAnyH_take (i := 8) (v := .bool true) rfl (by kernel_rfl) (by kernel_rfl) (by kernel_rfl) (fun _ _ _ h => h) (Or.inl ⟨by rfl, fun W hSV => ?_⟩) (by assumption) ?_
  · go_simp
  (try simp only [Act.put, List.getElem_toArray, List.getElem_cons_succ, List.getElem_cons_zero, List.setIfInBounds_toArray, List.set_cons_zero, List.set_cons_succ])
  refine wpAnyH_take (i := 9) (v := jV j (.slice a n c)) rfl (by kernel_rfl) (by kernel_rfl) (by kernel_rfl) (fun _ _ _ h => h) (yields_jo (by kernel_rfl) _ rfl V rfl j (.slice a n c) (fun _ h => h.1)) (by assumption) ?_
  (try simp only [Act.put, List.getElem_toArray, List.getElem_cons_succ, List.getElem_cons_zero, List.setIfInBounds_toArray, List.set_cons_zero, List.set_cons_succ])
  refine wpAnyH_take (i := 11) (v := jV j (.slice a n c)) rfl (by kernel_rfl) (by kernel_rfl) (by kernel_rfl) (fun _ _ _ h => h) (yields_jo (by kernel_rfl) _ rfl V rfl j (.slice a n c) (fun _ h => h.1)) (by assumption) ?_
  (try simp only [Act.put, List.getElem_toArray, List.getElem_cons_succ, List.getElem_cons_zero, List.setIfInBounds_toArray, List.set_cons_zero, List.set_cons_succ])
  refine wpAnyH_ready (rs := [10]) (by kernel_rfl) (by simp) ?_
  refine AllReadyH.cons (o := _) rfl (fun K hK => ?_) AllReadyH.nil
  go_simp
  refine (HCK.out z0 E1.out).mono ?_
  rintro e z1 ⟨rfl, G1⟩
  have D2 : Hid (Below w2.heap.size w2 z1) := Lib.hid (below_then D1.out G1.out)
  have E2 : Hid (Below X.heap.size X z1) := Lib.hid (below_then K2.out D2.out)
  (try dsimp only)
  refine hK.out _ _ ⟨has_under HS0.out.1 D2.out, has_under HS0.out.2.1 D2.out, has_under HS0.out.2.2 D2.out⟩ (fun hHeld => ?_)
  clear hK K
  (try simp only [Act.put, List.getElem_toArray, List.getElem_cons_succ, List.getElem_cons_zero, List.setIfInBounds_toArray, List.set_cons_zero, List.set_cons_succ])
  refine wpAnyH_ready (rs := [12]) (by kernel_rfl) (by simp) ?_
  refine AllReadyH.cons (o := _) rfl (fun K hK => ?_) AllReadyH.nil
  go_simp
  refine (HDC.out z1 E2.out).mono ?_
  rintro e z2 ⟨rfl, G2⟩
  have D3 : Hid (Below w2.heap.size w2 z2) := Lib.hid (below_then D2.out G2.out)
  have E3 : Hid (Below X.heap.size X z2) := Lib.hid (below_then K2.out D3.out)
  (try dsimp only)
  refine hK.out _ _ ⟨has_under HS0.out.1 D3.out, has_under HS0.out.2.1 D3.out, has_under HS0.out.2.2 D3.out⟩ (fun hHeld => ?_)
  clear hK K
  (try simp only [Act.put, List.getElem_toArray, List.getElem_cons_succ, List.getElem_cons_zero, List.setIfInBounds_toArray, List.set_cons_zero, List.set_cons_succ])
  refine wpAnyH_take (i := 13) (v := .bool true) rfl (by kernel_rfl) (by kernel_rfl) (by kernel_rfl) (fun _ _ _ h => h) (Or.inl ⟨by rfl, fun W hSV => ?_⟩) (by assumption) ?_
  · go_simp
  (try simp only [Act.put, List.getElem_toArray, List.getElem_cons_succ, List.getElem_cons_zero, List.setIfInBounds_toArray, List.set_cons_zero, List.set_cons_succ])
  refine wpAnyH_take (i := 14) (v := .bool true) rfl (by kernel_rfl) (by kernel_rfl) (by kernel_rfl) (fun _ _ _ h => h) (Or.inl ⟨by rfl, fun W hSV => ?_⟩) (by assumption) ?_
  · go_simp
  (try simp only [Act.put, List.getElem_toArray, List.getElem_cons_succ, List.getElem_cons_zero, List.setIfInBounds_toArray, List.set_cons_zero, List.set_cons_succ])
  refine wpAnyH_take (i := 15) (v := .bool true) rfl (by kernel_rfl) (by kernel_rfl) (by kernel_rfl) (fun _ _ _ h => h) (Or.inl ⟨by rfl, fun W hSV => ?_⟩) (by assumption) ?_
  · go_simp
  (try simp only [Act.put, List.getElem_toArray, List.getElem_cons_succ, List.getElem_cons_zero, List.setIfInBounds_toArray, List.set_cons_zero, List.set_cons_succ])
  refine wpAnyH_take (i := 16) (v := jV j (.slice a n c)) rfl (by kernel_rfl) (by kernel_rfl) (by kernel_rfl) (fun _ _ _ h => h) (yields_jo (by kernel_rfl) _ rfl V rfl j (.slice a n c) (fun _ h => h.1)) (by assumption) ?_
  (try simp only [Act.put, List.getElem_toArray, List.getElem_cons_succ, List.getElem_cons_zero, List.setIfInBounds_toArray, List.set_cons_zero, List.set_cons_succ])
  refine wpAnyH_take (i := 18) (v := jV j (.slice a n c)) rfl (by kernel_rfl) (by kernel_rfl) (by kernel_rfl) (fun _ _ _ h => h) (yields_jo (by kernel_rfl) _ rfl V rfl j (.slice a n c) (fun _ h => h.1)) (by assumption) ?_
  (try simp only [Act.put, List.getElem_toArray, List.getElem_cons_succ, List.getElem_cons_zero, List.setIfInBounds_toArray, List.set_cons_zero, List.set_cons_succ])
  refine wpAnyH_ready (rs := [17]) (by kernel_rfl) (by simp) ?_
  refine AllReadyH.cons (o := _) rfl (fun K hK => ?_) AllReadyH.nil
  go_simp
  refine (HOP.out z2 E3.out).mono ?_
  rintro e z3 ⟨rfl, G3⟩
  have D4 : Hid (Below w2.heap.size w2 z3) := Lib.hid (below_then D3.out G3.out)
  have E4 : Hid (Below X.heap.size X z3) := Lib.hid (below_then K2.out D4.out)
  (try dsimp only)
  refine hK.out _ _ ⟨has_under HS0.out.1 D4.out, has_under HS0.out.2.1 D4.out, has_under HS0.out.2.2 D4.out⟩ (fun hHeld => ?_)
  clear hK K
  (try simp only [Act.put, List.getElem_toArray, List.getElem_cons_succ, List.getElem_cons_zero, List.setIfInBounds_toArray, List.set_cons_zero, List.set_cons_succ])
  refine wpAnyH_ready (rs := [19]) (by kernel_rfl) (by simp) ?_
  refine AllReadyH.cons (o := _) rfl (fun K hK => ?_) AllReadyH.nil
  go_simp
  refine (HDO.out z3 E4.out).mono ?_
  rintro e z4 ⟨rfl, G4⟩
  have D5 : Hid (Below w2.heap.size w2 z4) := Lib.hid (below_then D4.out G4.out)
  have E5 : Hid (Below X.heap.size X z4) := Lib.hid (below_then K2.out D5.out)
  (try dsimp only)
  refine hK.out _ _ ⟨has_under HS0.out.1 D5.out, has_under HS0.out.2.1 D5.out, has_under HS0.out.2.2 D5.out⟩ (fun hHeld => ?_)
  clear hK K
  (try simp only [Act.put, List.getElem_toArray, List.getElem_cons_succ, List.getElem_cons_zero, List.setIfInBounds_toArray, List.set_cons_zero, List.set_cons_succ])
  refine wpAnyH_take (i := 20) (v := .bool true) rfl (by kernel_rfl) (by kernel_rfl) (by kernel_rfl) (fun _ _ _ h => h) (Or.inl ⟨by rfl, fun W hSV => ?_⟩) (by assumption) ?_
  · go_simp
  (try simp only [Act.put, List.getElem_toArray, List.getElem_cons_succ, List.getElem_cons_zero, List.setIfInBounds_toArray, List.set_cons_zero, List.set_cons_succ])
  refine wpAnyH_take (i := 21) (v := .bool true) rfl (by kernel_rfl) (by kernel_rfl) (by kernel_rfl) (fun _ _ _ h => h) (Or.inl ⟨by rfl, fun W hSV => ?_⟩) (by assumption) ?_
  · go_simp
  (try simp only [Act.put, List.getElem_toArray, List.getElem_cons_succ, List.getElem_cons_zero, List.setIfInBounds_toArray, List.set_cons_zero, List.set_cons_succ])
  refine wpAnyH_take (i := 22) (v := .bool true) rfl (by kernel_rfl) (by kernel_rfl) (by kernel_rfl) (fun _ _ _ h => h) (Or.inl ⟨by rfl, fun W hSV => ?_⟩) (by assumption) ?_
  · go_simp
  (try simp only [Act.put, List.getElem_toArray, List.getElem_cons_succ, List.getElem_cons_zero, List.setIfInBounds_toArray, List.set_cons_zero, List.set_cons_succ])
  refine wpAnyH_take (i := 23) (v := .int .i64 what) rfl (by kernel_rfl) (by kernel_rfl) (by kernel_rfl) (fun _ _ _ h => h) (Or.inl ⟨by rfl, fun W hSV => ?_⟩) (by assumption) ?_
  · go_simp
  (try simp only [Act.put, List.getElem_toArray, List.getElem_cons_succ, List.getElem_cons_zero, List.setIfInBounds_toArray, List.set_cons_zero, List.set_cons_succ])
  refine wpAnyH_take (i := 25) (v := .int .i64 what) rfl (by kernel_rfl) (by kernel_rfl) (by kernel_rfl) (fun _ _ _ h => h) (Or.inl ⟨by rfl, fun W hSV => ?_⟩) (by assumption) ?_
  · go_simp
  (try simp only [Act.put, List.getElem_toArray, List.getElem_cons_succ, List.getElem_cons_zero, List.setIfInBounds_toArray, List.set_cons_zero, List.set_cons_succ])
  refine wpAnyH_ready (rs := [24]) (by kernel_rfl) (by simp) ?_
  refine AllReadyH.cons (o := _) rfl (fun K hK => ?_) AllReadyH.nil
  go_simp
  refine (HSD.out z4).mono ?_
  rintro e x ⟨rfl, rfl⟩
  (try dsimp only)
  refine hK.out _ _ ⟨has_under HS0.out.1 D5.out, has_under HS0.out.2.1 D5.out, has_under HS0.out.2.2 D5.out⟩ (fun hHeld => ?_)
  clear hK K
  (try simp only [Act.put, List.getElem_toArray, List.getElem_cons_succ, List.getElem_cons_zero, List.setIfInBounds_toArray, List.set_cons_zero, List.set_cons_succ])
  refine wpAnyH_ready (rs := [26]) (by kernel_rfl) (by simp) ?_
  refine AllReadyH.cons (o := _) rfl (fun K hK => ?_) AllReadyH.nil
  go_simp
  refine (HDS.out z4).mono ?_
  rintro e x ⟨rfl, rfl⟩
  (try dsimp only)
  refine hK.out _ _ ⟨has_under HS0.out.1 D5.out, has_under HS0.out.2.1 D5.out, has_under HS0.out.2.2 D5.out⟩ (fun hHeld => ?_)
  clear hK K
  (try simp only [Act.put, List.getElem_toArray, List.getElem_cons_succ, List.getElem_cons_zero, List.setIfInBounds_toArray, List.set_cons_zero, List.set_cons_succ])
  refine wpAnyH_take (i := 27) (v := .bool true) rfl (by kernel_rfl) (by kernel_rfl) (by kernel_rfl) (fun _ _ _ h => h) (Or.inl ⟨by rfl, fun W hSV => ?_⟩) (by assumption) ?_
  · go_simp
  (try simp only [Act.put, List.getElem_toArray, List.getElem_cons_succ, List.getElem_cons_zero, List.setIfInBounds_toArray, List.set_cons_zero, List.set_cons_succ])
  refine wpAnyH_take (i := 28) (v := .bool true) rfl (by kernel_rfl) (by kernel_rfl) (by kernel_rfl) (fun _ _ _ h => h) (Or.inl ⟨by rfl, fun W hSV => ?_⟩) (by assumption) ?_
  · go_simp
  (try simp only [Act.put, List.getElem_toArray, List.getElem_cons_succ, List.getElem_cons_zero, List.setIfInBounds_toArray, List.set_cons_zero, List.set_cons_succ])
  refine wpAnyH_take (i := 29) (v := .bool true) rfl (by kernel_rfl) (by kernel_rfl) (by kernel_rfl) (fun _ _ _ h => h) (Or.inl ⟨by rfl, fun W hSV => ?_⟩) (by assumption) ?_
  · go_simp
  (try simp only [Act.put, List.getElem_toArray, List.getElem_cons_succ, List.getElem_cons_zero, List.setIfInBounds_toArray, List.set_cons_zero, List.set_cons_succ])
  refine wpAnyH_ready (rs := [30]) (by kernel_rfl) (by simp) ?_
  refine AllReadyH.cons (o := _) rfl (fun K hK => ?_) AllReadyH.nil
  go_simp
  refine (HAW.out z4).mono ?_
  rintro e z5 ⟨rfl, G5⟩
  have D6 : Hid (Below w2.heap.size w2 z5) := Lib.hid (below_then D5.out G5.out)
  have E6 : Hid (Below X.heap.size X z5) := Lib.hid (below_then K2.out D6.out)
  (try dsimp only)
  refine hK.out _ _ ⟨has_under HS0.out.1 D6.out, has_under HS0.out.2.1 D6.out, has_under HS0.out.2.2 D6.out⟩ (fun hHeld => ?_)
  clear hK K
  (try simp only [Act.put, List.getElem_toArray, List.getElem_cons_succ, List.getElem_cons_zero, List.setIfInBounds_toArray, List.set_cons_zero, List.set_cons_succ])
  refine wpAnyH_take (i := 31) (v := .bool true) rfl (by kernel_rfl) (by kernel_rfl) (by kernel_rfl) (fun _ _ _ h => h) (Or.inl ⟨by rfl, fun W hSV => ?_⟩) (by assumption) ?_
  · go_simp
  (try simp only [Act.put, List.getElem_toArray, List.getElem_cons_succ, List.getElem_cons_zero, List.setIfInBounds_toArray, List.set_cons_zero, List.set_cons_succ])
  refine wpAnyH_take (i := 32) (v := .bool true) rfl (by kernel_rfl) (by kernel_rfl) (by kernel_rfl) (fun _ _ _ h => h) (Or.inl ⟨by rfl, fun W hSV => ?_⟩) (by assumption) ?_
  · go_simp
  (try simp only [Act.put, List.getElem_toArray, List.getElem_cons_succ, List.getElem_cons_zero, List.setIfInBounds_toArray, List.set_cons_zero, List.set_cons_succ])
  refine wpAnyH_done (by kernel_rfl) ?_ _
  go_wp2_with fail
  go_ret
  exact ⟨rfl, (HJ.out _ E6.out).2.2.2⟩
end Go.Proofs.Ytghlgmlelipjfaa.Job
