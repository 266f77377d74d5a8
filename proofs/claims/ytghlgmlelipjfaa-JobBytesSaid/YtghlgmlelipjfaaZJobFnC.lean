/- The program's Cancel. The law's plain and do. -/
import Derived.Test.YtghlgmlelipjfaaZJobFn
import Derived.Deep.RegionWith
import Derived.Deep.RegionHeld3
import Derived.BigRegion
namespace Go.Proofs.Ytghlgmlelipjfaa.Job.Im
open Go.RowKit Go.Lib
open Goods (St Sts OwnS)

set_option maxRecDepth 100000 in
set_option maxHeartbeats 16000000 in
theorem cancel_im (j : JS) (a : Option Addr) (n c : Nat) (w : World) (h : JIn w a n j.s) (hn : n ≤ 1024) :
    Calls Try.prog 26 #[jV j (.slice a n c)] w fun e w' => ∃ a' n' c', e = .returned (.tuple #[jV (chV j (mayCancel j) (cancelJ j)) (.slice a' n' c'), .int .i64 (chE j (mayCancel j))]) ∧ Hid (OwnS w' w.heap.size (.slice a' n' c') (chV j (mayCancel j) (cancelJ j)).s ∧ n' ≤ n ∧ Below w.heap.size w w') := by
  obtain ⟨V, X, hV, hX, HXB, HH⟩ := box_jo w j (.slice a n c)
  obtain ⟨G, Z, hG, hZ, HZB, HG⟩ := box_zero X
  have HN : Hid (w.heap.size = V ∧ G = V + 1 ∧ Below w.heap.size w Z ∧ Z.heap.size = G + 1) := Lib.hid ⟨hV, by have := HXB.out.2; omega, below_then HXB.out.1 HZB.out.1, HZB.out.2⟩
  have HHZ : Hid (Has Z V j (.slice a n c)) := Lib.hid (has_under HH.out HZB.out.1)
  obtain ⟨m, hm⟩ : ∃ m, mayCancel j = m := ⟨_, rfl⟩
  rw [hm]
  have HC : Hid (∀ W, Below Z.heap.size Z W → Calls Try.prog 48 #[jV j (.slice a n c), .bool m, .func (.func 52) #[] #[]] W fun e w' => ∃ a' n' c', e = .returned (.tuple #[jV (chV j m (cancelJ j)) (.slice a' n' c'), .int .i64 (chE j m)]) ∧ Hid (OwnS w' Z.heap.size (.slice a' n' c') (chV j m (cancelJ j)).s ∧ n' ≤ n ∧ Below Z.heap.size Z w')) := Lib.hid (fun W hW => by
    refine (changed_cancel j a n c m W (h.under (below_then HN.out.2.2.1 hW)) hn).mono ?_
    rintro e w' ⟨a', n', c', rfl, H⟩
    exact ⟨a', n', c', rfl, Lib.hid ⟨World.ownsRow.mono H.out.1 hW.size, H.out.2.1, below_then hW H.out.2.2⟩⟩)
  obtain ⟨R, hR⟩ : ∃ R, chV j m (cancelJ j) = R := ⟨_, rfl⟩
  obtain ⟨E, hE⟩ : ∃ E, chE j m = E := ⟨_, rfl⟩
  rw [hR, hE] at HC
  rw [hR, hE]
  obtain ⟨op, hop⟩ : ∃ op, openJ j = op := ⟨_, rfl⟩
  have HO : Hid (∀ W, Below Z.heap.size Z W → Calls Try.prog 12 #[jV j (.slice a n c)] W fun e w' => e = .returned (.bool op) ∧ Hid (Below Z.heap.size Z w')) := Lib.hid (fun W hW => by
    rw [← hop]
    exact (open_im j _ W).mono fun _ _ ⟨e, h⟩ => ⟨e, Lib.hid (below_then hW h)⟩)
  have HZD : Hid (Below Z.heap.size Z Z.drew) := Lib.hid (Below.refl _ Z).drew
  have HCE : Hid (∀ W, Below Z.heap.size Z W → Has W V j (.slice a n c) ∧ Has W G zJ (.slice none 0 0)) := Lib.hid fun W hW => ⟨has_under HHZ.out hW, has_under HG.out hW⟩
  by_cases c0 : j.st = 1 ∨ j.st = 2 ∨ j.st = 3
  · have g4 : (j.st != 4) = true := by simp; omega
    obtain rfl : op = true := hop.symm.trans (decide_eq_true (by omega))
    obtain rfl : m = true := hm.symm.trans (decide_eq_true (by omega))
    clear h hn hR hE hm hop c0
    go_enter Try.func26, Try.ntmps26
    go_wp2_with fail
    clear hV hX hG hZ
    refine wp_region_held_drew (S := fun W => Has W V j (.slice a n c)) (by kernel_rfl) HHZ.out (fun hHeld => ?_)
    refine wpAnyH_take (i := 0) (v := jV j (.slice a n c)) rfl (by kernel_rfl) (by kernel_rfl) (by kernel_rfl) (fun _ _ _ h => h) (yields_jo (by kernel_rfl) _ rfl V rfl j (.slice a n c) (fun _ h => h)) (by assumption) ?_
    (try simp only [Act.put, List.getElem_toArray, List.getElem_cons_zero, List.setIfInBounds_toArray, List.set_cons_zero, List.set_cons_succ])
    refine wpAnyH_take (i := 1) (v := jV j (.slice a n c)) rfl (by kernel_rfl) (by kernel_rfl) (by kernel_rfl) (fun _ _ _ h => h) (yields_jo (by kernel_rfl) _ rfl V rfl j (.slice a n c) (fun _ h => h)) (by assumption) ?_
    (try simp only [Act.put, List.getElem_toArray, List.getElem_cons_succ, List.getElem_cons_zero, List.setIfInBounds_toArray, List.set_cons_zero, List.set_cons_succ])
    refine wpAnyH_ready (rs := [2]) (by kernel_rfl) (by simp) ?_
    refine AllReadyH.cons (o := _) rfl (fun K hK => ?_) AllReadyH.nil
    go_simp
    refine (HO.out _ HZD.out).mono ?_
    rintro e w1 ⟨rfl, H1⟩
    (try dsimp only)
    refine hK.out _ _ ((HCE.out w1 H1.out).1) (fun hHeld => ?_)
    clear hK K
    (try simp only [Act.put, List.getElem_toArray, List.getElem_cons_succ, List.getElem_cons_zero, List.setIfInBounds_toArray, List.set_cons_zero, List.set_cons_succ])
    refine wpAnyH_take (i := 3) (v := .bool true) rfl (by kernel_rfl) (by kernel_rfl) (by kernel_rfl) (fun _ _ _ h => h) (Or.inl ⟨by rfl, fun W hSV => ?_⟩) (by assumption) ?_
    · go_simp
    (try simp only [Act.put, List.getElem_toArray, List.getElem_cons_succ, List.getElem_cons_zero, List.setIfInBounds_toArray, List.set_cons_zero, List.set_cons_succ])
    refine wpAnyH_take (i := 4) (v := .pointer (some ⟨V, 12, none⟩)) rfl (by kernel_rfl) (by kernel_rfl) (by kernel_rfl) (fun _ _ _ h => h) (Or.inl ⟨by rfl, fun W hSV => ?_⟩) (by assumption) ?_
    · go_simp
    (try simp only [Act.put, List.getElem_toArray, List.getElem_cons_succ, List.getElem_cons_zero, List.setIfInBounds_toArray, List.set_cons_zero, List.set_cons_succ])
    refine wpAnyH_take (i := 5) (v := .int .i64 j.st) rfl (by kernel_rfl) (by kernel_rfl) (by kernel_rfl) (fun _ _ _ h => h) (Or.inl ⟨by rfl, fun W hSV => ?_⟩) (by assumption) ?_
    · have c12 : W.cell? ⟨V, 12, none⟩ = some (.int .i64 j.st) := cell_block (j := 12) hSV rfl
      go_simp
    (try simp only [Act.put, List.getElem_toArray, List.getElem_cons_succ, List.getElem_cons_zero, List.setIfInBounds_toArray, List.set_cons_zero, List.set_cons_succ])
    refine wpAnyH_take (i := 6) (v := .bool true) rfl (by kernel_rfl) (by kernel_rfl) (by kernel_rfl) (fun _ _ _ h => h) (Or.inl ⟨by rfl, fun W hSV => ?_⟩) (by assumption) ?_
    · go_simp
    (try simp only [Act.put, List.getElem_toArray, List.getElem_cons_succ, List.getElem_cons_zero, List.setIfInBounds_toArray, List.set_cons_zero, List.set_cons_succ])
    refine wpAnyH_take (i := 7) (v := .bool true) rfl (by kernel_rfl) (by kernel_rfl) (by kernel_rfl) (fun _ _ _ h => h) (Or.inl ⟨by rfl, fun W hSV => ?_⟩) (by assumption) ?_
    · go_simp
    (try simp only [Act.put, List.getElem_toArray, List.getElem_cons_succ, List.getElem_cons_zero, List.setIfInBounds_toArray, List.set_cons_zero, List.set_cons_succ])
    refine wpAnyH_ready (rs := [8]) (by kernel_rfl) (by simp) ?_
    refine AllReadyH.cons (o := _) rfl (fun K hK => ?_) AllReadyH.nil
    go_simp
    refine (HC.out _ H1.out).mono ?_
    rintro e w2 ⟨a2, n2, c2, rfl, H2⟩
    (try dsimp only)
    refine hK.out _ _ ((HCE.out w2 H2.out.2.2).1) (fun hHeld => ?_)
    clear hK K
    (try simp only [Act.put, List.getElem_toArray, List.getElem_cons_succ, List.getElem_cons_zero, List.setIfInBounds_toArray, List.set_cons_zero, List.set_cons_succ])
    refine wpAnyH_take (i := 9) (v := jV R (.slice a2 n2 c2)) rfl (by kernel_rfl) (by kernel_rfl) (by kernel_rfl) (fun _ _ _ h => h) (Or.inl ⟨by rfl, fun W hSV => ?_⟩) (by assumption) ?_
    · go_simp
    (try simp only [Act.put, List.getElem_toArray, List.getElem_cons_succ, List.getElem_cons_zero, List.setIfInBounds_toArray, List.set_cons_zero, List.set_cons_succ])
    refine wpAnyH_take (i := 10) (v := .int .i64 E) rfl (by kernel_rfl) (by kernel_rfl) (by kernel_rfl) (fun _ _ _ h => h) (Or.inl ⟨by rfl, fun W hSV => ?_⟩) (by assumption) ?_
    · go_simp
    (try simp only [Act.put, List.getElem_toArray, List.getElem_cons_succ, List.getElem_cons_zero, List.setIfInBounds_toArray, List.set_cons_zero, List.set_cons_succ])
    refine wpAnyH_ready (rs := [11]) (by kernel_rfl) (by simp) ?_
    refine AllReadyH.cons (o := _) rfl (fun K hK => ?_) AllReadyH.nil
    refine wp_store_jo _ _ rfl G rfl R a2 n2 c2 rfl zJ (.slice none 0 0) (HCE.out w2 H2.out.2.2).2 ?_
    intro w5 h5 g5
    (try dsimp only)
    refine hK.out _ _ (has_by (HCE.out w2 H2.out.2.2).1 g5 (by have := HN.out; omega)) (fun hHeld => ?_)
    clear hK K
    (try simp only [Act.put, List.getElem_toArray, List.getElem_cons_succ, List.getElem_cons_zero])
    refine wpAnyH_take (i := 12) (v := .int .i64 E) rfl (by kernel_rfl) (by kernel_rfl) (by kernel_rfl) (fun _ _ _ h => h) (Or.inl ⟨by rfl, fun W hSV => ?_⟩) (by assumption) ?_
    · go_simp
    (try simp only [Act.put, List.getElem_toArray, List.getElem_cons_succ, List.getElem_cons_zero, List.setIfInBounds_toArray, List.set_cons_zero, List.set_cons_succ])
    refine wpAnyH_done (by kernel_rfl) ?_ _
    go_wp2_with fail
    exact ret_jo2 (x := R) (v := .slice a2 n2 c2) rfl rfl rfl rfl h5 ⟨a2, n2, c2, rfl, Lib.hid ⟨World.ownsRow.mono (own_past H2.out.1 g5 (by have := HN.out; omega)) HN.out.2.2.1.size, H2.out.2.1, below_of_only (below_then HN.out.2.2.1 H2.out.2.2) (by have := HN.out; omega) g5⟩⟩
  by_cases c1 : j.st = 4
  · have g4 : (j.st != 4) = false := by simpa using c1
    obtain rfl : op = true := hop.symm.trans (decide_eq_true (by omega))
    obtain rfl : m = false := hm.symm.trans (decide_eq_false (by omega))
    clear h hn hR hE hm hop c0 c1
    go_enter Try.func26, Try.ntmps26
    go_wp2_with fail
    clear hV hX hG hZ
    refine wp_region_held_drew (S := fun W => Has W V j (.slice a n c)) (by kernel_rfl) HHZ.out (fun hHeld => ?_)
    refine wpAnyH_take (i := 0) (v := jV j (.slice a n c)) rfl (by kernel_rfl) (by kernel_rfl) (by kernel_rfl) (fun _ _ _ h => h) (yields_jo (by kernel_rfl) _ rfl V rfl j (.slice a n c) (fun _ h => h)) (by assumption) ?_
    (try simp only [Act.put, List.getElem_toArray, List.getElem_cons_zero, List.setIfInBounds_toArray, List.set_cons_zero, List.set_cons_succ])
    refine wpAnyH_take (i := 1) (v := jV j (.slice a n c)) rfl (by kernel_rfl) (by kernel_rfl) (by kernel_rfl) (fun _ _ _ h => h) (yields_jo (by kernel_rfl) _ rfl V rfl j (.slice a n c) (fun _ h => h)) (by assumption) ?_
    (try simp only [Act.put, List.getElem_toArray, List.getElem_cons_succ, List.getElem_cons_zero, List.setIfInBounds_toArray, List.set_cons_zero, List.set_cons_succ])
    refine wpAnyH_ready (rs := [2]) (by kernel_rfl) (by simp) ?_
    refine AllReadyH.cons (o := _) rfl (fun K hK => ?_) AllReadyH.nil
    go_simp
    refine (HO.out _ HZD.out).mono ?_
    rintro e w1 ⟨rfl, H1⟩
    (try dsimp only)
    refine hK.out _ _ ((HCE.out w1 H1.out).1) (fun hHeld => ?_)
    clear hK K
    (try simp only [Act.put, List.getElem_toArray, List.getElem_cons_succ, List.getElem_cons_zero, List.setIfInBounds_toArray, List.set_cons_zero, List.set_cons_succ])
    refine wpAnyH_take (i := 3) (v := .bool true) rfl (by kernel_rfl) (by kernel_rfl) (by kernel_rfl) (fun _ _ _ h => h) (Or.inl ⟨by rfl, fun W hSV => ?_⟩) (by assumption) ?_
    · go_simp
    (try simp only [Act.put, List.getElem_toArray, List.getElem_cons_succ, List.getElem_cons_zero, List.setIfInBounds_toArray, List.set_cons_zero, List.set_cons_succ])
    refine wpAnyH_take (i := 4) (v := .pointer (some ⟨V, 12, none⟩)) rfl (by kernel_rfl) (by kernel_rfl) (by kernel_rfl) (fun _ _ _ h => h) (Or.inl ⟨by rfl, fun W hSV => ?_⟩) (by assumption) ?_
    · go_simp
    (try simp only [Act.put, List.getElem_toArray, List.getElem_cons_succ, List.getElem_cons_zero, List.setIfInBounds_toArray, List.set_cons_zero, List.set_cons_succ])
    refine wpAnyH_take (i := 5) (v := .int .i64 j.st) rfl (by kernel_rfl) (by kernel_rfl) (by kernel_rfl) (fun _ _ _ h => h) (Or.inl ⟨by rfl, fun W hSV => ?_⟩) (by assumption) ?_
    · have c12 : W.cell? ⟨V, 12, none⟩ = some (.int .i64 j.st) := cell_block (j := 12) hSV rfl
      go_simp
    (try simp only [Act.put, List.getElem_toArray, List.getElem_cons_succ, List.getElem_cons_zero, List.setIfInBounds_toArray, List.set_cons_zero, List.set_cons_succ])
    refine wpAnyH_take (i := 6) (v := .bool false) rfl (by kernel_rfl) (by kernel_rfl) (by kernel_rfl) (fun _ _ _ h => h) (Or.inl ⟨by rfl, fun W hSV => ?_⟩) (by assumption) ?_
    · go_simp
    (try simp only [Act.put, List.getElem_toArray, List.getElem_cons_succ, List.getElem_cons_zero, List.setIfInBounds_toArray, List.set_cons_zero, List.set_cons_succ])
    refine wpAnyH_take (i := 7) (v := .bool false) rfl (by kernel_rfl) (by kernel_rfl) (by kernel_rfl) (fun _ _ _ h => h) (Or.inl ⟨by rfl, fun W hSV => ?_⟩) (by assumption) ?_
    · go_simp
    (try simp only [Act.put, List.getElem_toArray, List.getElem_cons_succ, List.getElem_cons_zero, List.setIfInBounds_toArray, List.set_cons_zero, List.set_cons_succ])
    refine wpAnyH_ready (rs := [8]) (by kernel_rfl) (by simp) ?_
    refine AllReadyH.cons (o := _) rfl (fun K hK => ?_) AllReadyH.nil
    go_simp
    refine (HC.out _ H1.out).mono ?_
    rintro e w2 ⟨a2, n2, c2, rfl, H2⟩
    (try dsimp only)
    refine hK.out _ _ ((HCE.out w2 H2.out.2.2).1) (fun hHeld => ?_)
    clear hK K
    (try simp only [Act.put, List.getElem_toArray, List.getElem_cons_succ, List.getElem_cons_zero, List.setIfInBounds_toArray, List.set_cons_zero, List.set_cons_succ])
    refine wpAnyH_take (i := 9) (v := jV R (.slice a2 n2 c2)) rfl (by kernel_rfl) (by kernel_rfl) (by kernel_rfl) (fun _ _ _ h => h) (Or.inl ⟨by rfl, fun W hSV => ?_⟩) (by assumption) ?_
    · go_simp
    (try simp only [Act.put, List.getElem_toArray, List.getElem_cons_succ, List.getElem_cons_zero, List.setIfInBounds_toArray, List.set_cons_zero, List.set_cons_succ])
    refine wpAnyH_take (i := 10) (v := .int .i64 E) rfl (by kernel_rfl) (by kernel_rfl) (by kernel_rfl) (fun _ _ _ h => h) (Or.inl ⟨by rfl, fun W hSV => ?_⟩) (by assumption) ?_
    · go_simp
    (try simp only [Act.put, List.getElem_toArray, List.getElem_cons_succ, List.getElem_cons_zero, List.setIfInBounds_toArray, List.set_cons_zero, List.set_cons_succ])
    refine wpAnyH_ready (rs := [11]) (by kernel_rfl) (by simp) ?_
    refine AllReadyH.cons (o := _) rfl (fun K hK => ?_) AllReadyH.nil
    refine wp_store_jo _ _ rfl G rfl R a2 n2 c2 rfl zJ (.slice none 0 0) (HCE.out w2 H2.out.2.2).2 ?_
    intro w5 h5 g5
    (try dsimp only)
    refine hK.out _ _ (has_by (HCE.out w2 H2.out.2.2).1 g5 (by have := HN.out; omega)) (fun hHeld => ?_)
    clear hK K
    (try simp only [Act.put, List.getElem_toArray, List.getElem_cons_succ, List.getElem_cons_zero])
    refine wpAnyH_take (i := 12) (v := .int .i64 E) rfl (by kernel_rfl) (by kernel_rfl) (by kernel_rfl) (fun _ _ _ h => h) (Or.inl ⟨by rfl, fun W hSV => ?_⟩) (by assumption) ?_
    · go_simp
    (try simp only [Act.put, List.getElem_toArray, List.getElem_cons_succ, List.getElem_cons_zero, List.setIfInBounds_toArray, List.set_cons_zero, List.set_cons_succ])
    refine wpAnyH_done (by kernel_rfl) ?_ _
    go_wp2_with fail
    exact ret_jo2 (x := R) (v := .slice a2 n2 c2) rfl rfl rfl rfl h5 ⟨a2, n2, c2, rfl, Lib.hid ⟨World.ownsRow.mono (own_past H2.out.1 g5 (by have := HN.out; omega)) HN.out.2.2.1.size, H2.out.2.1, below_of_only (below_then HN.out.2.2.1 H2.out.2.2) (by have := HN.out; omega) g5⟩⟩
  have g4 : (j.st != 4) = true := by simpa using c1
  obtain rfl : op = false := hop.symm.trans (decide_eq_false (by omega))
  obtain rfl : m = false := hm.symm.trans (decide_eq_false (by omega))
  clear h hn hR hE hm hop c0 c1
  go_enter Try.func26, Try.ntmps26
  go_wp2_with fail
  clear hV hX hG hZ
  refine wp_region_held_drew (S := fun W => Has W V j (.slice a n c)) (by kernel_rfl) HHZ.out (fun hHeld => ?_)
  refine wpAnyH_take (i := 0) (v := jV j (.slice a n c)) rfl (by kernel_rfl) (by kernel_rfl) (by kernel_rfl) (fun _ _ _ h => h) (yields_jo (by kernel_rfl) _ rfl V rfl j (.slice a n c) (fun _ h => h)) (by assumption) ?_
  (try simp only [Act.put, List.getElem_toArray, List.getElem_cons_zero, List.setIfInBounds_toArray, List.set_cons_zero, List.set_cons_succ])
  refine wpAnyH_take (i := 1) (v := jV j (.slice a n c)) rfl (by kernel_rfl) (by kernel_rfl) (by kernel_rfl) (fun _ _ _ h => h) (yields_jo (by kernel_rfl) _ rfl V rfl j (.slice a n c) (fun _ h => h)) (by assumption) ?_
  (try simp only [Act.put, List.getElem_toArray, List.getElem_cons_succ, List.getElem_cons_zero, List.setIfInBounds_toArray, List.set_cons_zero, List.set_cons_succ])
  refine wpAnyH_ready (rs := [2]) (by kernel_rfl) (by simp) ?_
  refine AllReadyH.cons (o := _) rfl (fun K hK => ?_) AllReadyH.nil
  go_simp
  refine (HO.out _ HZD.out).mono ?_
  rintro e w1 ⟨rfl, H1⟩
  (try dsimp only)
  refine hK.out _ _ ((HCE.out w1 H1.out).1) (fun hHeld => ?_)
  clear hK K
  (try simp only [Act.put, List.getElem_toArray, List.getElem_cons_succ, List.getElem_cons_zero, List.setIfInBounds_toArray, List.set_cons_zero, List.set_cons_succ])
  refine wpAnyH_take (i := 3) (v := .bool false) rfl (by kernel_rfl) (by kernel_rfl) (by kernel_rfl) (fun _ _ _ h => h) (Or.inl ⟨by rfl, fun W hSV => ?_⟩) (by assumption) ?_
  · go_simp
  (try simp only [Act.put, List.getElem_toArray, List.getElem_cons_succ, List.getElem_cons_zero, List.setIfInBounds_toArray, List.set_cons_zero, List.set_cons_succ])
  refine wpAnyH_take (i := 4) (v := undef) rfl (by kernel_rfl) (by kernel_rfl) (by kernel_rfl) (fun _ _ _ h => h) (Or.inr ⟨by kernel_rfl, rfl⟩) (by assumption) ?_
  (try simp only [Act.put, List.getElem_toArray, List.getElem_cons_succ, List.getElem_cons_zero, List.setIfInBounds_toArray, List.set_cons_zero, List.set_cons_succ])
  refine wpAnyH_take (i := 5) (v := undef) rfl (by kernel_rfl) (by kernel_rfl) (by kernel_rfl) (fun _ _ _ h => h) (Or.inr ⟨by kernel_rfl, rfl⟩) (by assumption) ?_
  (try simp only [Act.put, List.getElem_toArray, List.getElem_cons_succ, List.getElem_cons_zero, List.setIfInBounds_toArray, List.set_cons_zero, List.set_cons_succ])
  refine wpAnyH_take (i := 6) (v := undef) rfl (by kernel_rfl) (by kernel_rfl) (by kernel_rfl) (fun _ _ _ h => h) (Or.inr ⟨by kernel_rfl, rfl⟩) (by assumption) ?_
  (try simp only [Act.put, List.getElem_toArray, List.getElem_cons_succ, List.getElem_cons_zero, List.setIfInBounds_toArray, List.set_cons_zero, List.set_cons_succ])
  refine wpAnyH_take (i := 7) (v := .bool false) rfl (by kernel_rfl) (by kernel_rfl) (by kernel_rfl) (fun _ _ _ h => h) (Or.inl ⟨by rfl, fun W hSV => ?_⟩) (by assumption) ?_
  · go_simp
  (try simp only [Act.put, List.getElem_toArray, List.getElem_cons_succ, List.getElem_cons_zero, List.setIfInBounds_toArray, List.set_cons_zero, List.set_cons_succ])
  refine wpAnyH_ready (rs := [8]) (by kernel_rfl) (by simp) ?_
  refine AllReadyH.cons (o := _) rfl (fun K hK => ?_) AllReadyH.nil
  go_simp
  refine (HC.out _ H1.out).mono ?_
  rintro e w2 ⟨a2, n2, c2, rfl, H2⟩
  (try dsimp only)
  refine hK.out _ _ ((HCE.out w2 H2.out.2.2).1) (fun hHeld => ?_)
  clear hK K
  (try simp only [Act.put, List.getElem_toArray, List.getElem_cons_succ, List.getElem_cons_zero, List.setIfInBounds_toArray, List.set_cons_zero, List.set_cons_succ])
  refine wpAnyH_take (i := 9) (v := jV R (.slice a2 n2 c2)) rfl (by kernel_rfl) (by kernel_rfl) (by kernel_rfl) (fun _ _ _ h => h) (Or.inl ⟨by rfl, fun W hSV => ?_⟩) (by assumption) ?_
  · go_simp
  (try simp only [Act.put, List.getElem_toArray, List.getElem_cons_succ, List.getElem_cons_zero, List.setIfInBounds_toArray, List.set_cons_zero, List.set_cons_succ])
  refine wpAnyH_take (i := 10) (v := .int .i64 E) rfl (by kernel_rfl) (by kernel_rfl) (by kernel_rfl) (fun _ _ _ h => h) (Or.inl ⟨by rfl, fun W hSV => ?_⟩) (by assumption) ?_
  · go_simp
  (try simp only [Act.put, List.getElem_toArray, List.getElem_cons_succ, List.getElem_cons_zero, List.setIfInBounds_toArray, List.set_cons_zero, List.set_cons_succ])
  refine wpAnyH_ready (rs := [11]) (by kernel_rfl) (by simp) ?_
  refine AllReadyH.cons (o := _) rfl (fun K hK => ?_) AllReadyH.nil
  refine wp_store_jo _ _ rfl G rfl R a2 n2 c2 rfl zJ (.slice none 0 0) (HCE.out w2 H2.out.2.2).2 ?_
  intro w5 h5 g5
  (try dsimp only)
  refine hK.out _ _ (has_by (HCE.out w2 H2.out.2.2).1 g5 (by have := HN.out; omega)) (fun hHeld => ?_)
  clear hK K
  (try simp only [Act.put, List.getElem_toArray, List.getElem_cons_succ, List.getElem_cons_zero])
  refine wpAnyH_take (i := 12) (v := .int .i64 E) rfl (by kernel_rfl) (by kernel_rfl) (by kernel_rfl) (fun _ _ _ h => h) (Or.inl ⟨by rfl, fun W hSV => ?_⟩) (by assumption) ?_
  · go_simp
  (try simp only [Act.put, List.getElem_toArray, List.getElem_cons_succ, List.getElem_cons_zero, List.setIfInBounds_toArray, List.set_cons_zero, List.set_cons_succ])
  refine wpAnyH_done (by kernel_rfl) ?_ _
  go_wp2_with fail
  exact ret_jo2 (x := R) (v := .slice a2 n2 c2) rfl rfl rfl rfl h5 ⟨a2, n2, c2, rfl, Lib.hid ⟨World.ownsRow.mono (own_past H2.out.1 g5 (by have := HN.out; omega)) HN.out.2.2.1.size, H2.out.2.1, below_of_only (below_then HN.out.2.2.1 H2.out.2.2) (by have := HN.out; omega) g5⟩⟩
end Go.Proofs.Ytghlgmlelipjfaa.Job.Im
namespace Go.Proofs.Ytghlgmlelipjfaa.Job.Im
open Go.RowKit Go.Lib
open Goods (St Sts OwnS)

def plainJ : JS := ⟨1, 1, 2, 0, 2, 1, 3, 4, 0, 10, 0, [], 1, 0, 0, 10⟩
set_option maxRecDepth 100000 in
theorem plain_im (w : World) : Calls Try.prog 20 #[] w fun e w' => e = .returned (jV plainJ (.slice none 0 0)) ∧ Hid (Below w.heap.size w w') := by
  obtain ⟨G, Z, hG, hZ, HZB, HG⟩ := box_zero w
  have HGS : Hid (w.heap.size = G) := Lib.hid hG
  go_enter Try.func20, Try.ntmps20
  go_wp2_with (refine store_jo rfl _ _ rfl G rfl plainJ none 0 0 rfl zJ (.slice none 0 0) HG.out ?_; intro w5 h5 g5)
  exact ret_jo (x := plainJ) (v := .slice none 0 0) rfl rfl rfl h5 ⟨rfl, Lib.hid (below_of_only HZB.out.1 (by have := HGS.out; omega) g5)⟩
set_option maxRecDepth 100000 in
set_option maxHeartbeats 16000000 in
theorem do_im (what now : Int) (j : JS) (a : Option Addr) (n c : Nat) (w : World) (h : JIn w a n j.s) (hn : n ≤ 1024) :
    Calls Try.prog 7 #[jV j (.slice a n c), .int .i64 what, .int .i64 now] w fun e w' => ∃ a' n' c', e = .returned (.tuple #[jV (doV what now j) (.slice a' n' c'), .int .i64 (doE what now j)]) ∧ Hid (OwnS w' w.heap.size (.slice a' n' c') (doV what now j).s ∧ n' ≤ n ∧ Below w.heap.size w w') := by
  obtain ⟨V, X, hV, hX, HXB, HH⟩ := box_jo w j (.slice a n c)
  obtain ⟨G, Z, hG, hZ, HZB, HG⟩ := box_zero X
  have HN : Hid (w.heap.size = V ∧ G = V + 1 ∧ Below w.heap.size w Z ∧ Z.heap.size = G + 1) := Lib.hid ⟨hV, by have := HXB.out.2; omega, below_then HXB.out.1 HZB.out.1, HZB.out.2⟩
  have HHZ : Hid (Has Z V j (.slice a n c)) := Lib.hid (has_under HH.out HZB.out.1)
  have hz : JIn Z a n j.s := h.under HN.out.2.2.1
  by_cases c1 : what = 1
  · subst c1
    obtain ⟨e0, e1⟩ := do_one now j
    rw [e0, e1]
    have HC := Lib.hid (start_im j a n c now Z hz hn)
    obtain ⟨R, hR⟩ : ∃ R, caV now j (mayStart j) (startJ now j) = R := ⟨_, rfl⟩
    obtain ⟨E, hE⟩ : ∃ E, caE now j (mayStart j) = E := ⟨_, rfl⟩
    rw [hR, hE] at HC
    rw [hR, hE]
    clear h hn hR hE e0 e1 hz
    go_enter Try.func7, Try.ntmps7
    go_wp2_with (refine load_jo rfl _ rfl V rfl j (.slice a n c) HHZ.out ?_)
    clear hV hX hG hZ
    refine HC.out.mono ?_
    rintro e w2 ⟨a2, n2, c2, rfl, H2⟩
    have HG2 : Hid (Has w2 G zJ (.slice none 0 0) ∧ Below w.heap.size w w2) := Lib.hid ⟨has_under HG.out H2.out.2.2, below_then HN.out.2.2.1 H2.out.2.2⟩
    go_wp2_with (refine store_jo rfl _ _ rfl G rfl R a2 n2 c2 rfl zJ (.slice none 0 0) HG2.out.1 ?_; intro w5 h5 g5)
    exact ret_jo2 (x := R) (v := .slice a2 n2 c2) rfl rfl rfl rfl h5 ⟨a2, n2, c2, rfl, Lib.hid ⟨World.ownsRow.mono (own_past H2.out.1 g5 (by have := HN.out; omega)) HN.out.2.2.1.size, H2.out.2.1, below_of_only HG2.out.2 (by have := HN.out; omega) g5⟩⟩
  have m1 : (what == 1) = false := by simpa using c1
  by_cases c2 : what = 2
  · subst c2
    obtain ⟨e0, e1⟩ := do_two now j
    rw [e0, e1]
    have HC := Lib.hid (pause_im j a n c now Z hz hn)
    obtain ⟨R, hR⟩ : ∃ R, caV now j (mayPause now j) (pauseJ now j) = R := ⟨_, rfl⟩
    obtain ⟨E, hE⟩ : ∃ E, caE now j (mayPause now j) = E := ⟨_, rfl⟩
    rw [hR, hE] at HC
    rw [hR, hE]
    clear h hn hR hE e0 e1 hz c1
    go_enter Try.func7, Try.ntmps7
    go_wp2_with (refine load_jo rfl _ rfl V rfl j (.slice a n c) HHZ.out ?_)
    clear hV hX hG hZ
    refine HC.out.mono ?_
    rintro e w2 ⟨a2, n2, c2, rfl, H2⟩
    have HG2 : Hid (Has w2 G zJ (.slice none 0 0) ∧ Below w.heap.size w w2) := Lib.hid ⟨has_under HG.out H2.out.2.2, below_then HN.out.2.2.1 H2.out.2.2⟩
    go_wp2_with (refine store_jo rfl _ _ rfl G rfl R a2 n2 c2 rfl zJ (.slice none 0 0) HG2.out.1 ?_; intro w5 h5 g5)
    exact ret_jo2 (x := R) (v := .slice a2 n2 c2) rfl rfl rfl rfl h5 ⟨a2, n2, c2, rfl, Lib.hid ⟨World.ownsRow.mono (own_past H2.out.1 g5 (by have := HN.out; omega)) HN.out.2.2.1.size, H2.out.2.1, below_of_only HG2.out.2 (by have := HN.out; omega) g5⟩⟩
  have m2 : (what == 2) = false := by simpa using c2
  by_cases c3 : what = 3
  · subst c3
    obtain ⟨e0, e1⟩ := do_three now j
    rw [e0, e1]
    have HC := Lib.hid (resume_im j a n c Z hz hn)
    obtain ⟨R, hR⟩ : ∃ R, chV j (mayResume j) (resumeJ j) = R := ⟨_, rfl⟩
    obtain ⟨E, hE⟩ : ∃ E, chE j (mayResume j) = E := ⟨_, rfl⟩
    rw [hR, hE] at HC
    rw [hR, hE]
    clear h hn hR hE e0 e1 hz c1 c2
    go_enter Try.func7, Try.ntmps7
    go_wp2_with (refine load_jo rfl _ rfl V rfl j (.slice a n c) HHZ.out ?_)
    clear hV hX hG hZ
    refine HC.out.mono ?_
    rintro e w2 ⟨a2, n2, c2, rfl, H2⟩
    have HG2 : Hid (Has w2 G zJ (.slice none 0 0) ∧ Below w.heap.size w w2) := Lib.hid ⟨has_under HG.out H2.out.2.2, below_then HN.out.2.2.1 H2.out.2.2⟩
    go_wp2_with (refine store_jo rfl _ _ rfl G rfl R a2 n2 c2 rfl zJ (.slice none 0 0) HG2.out.1 ?_; intro w5 h5 g5)
    exact ret_jo2 (x := R) (v := .slice a2 n2 c2) rfl rfl rfl rfl h5 ⟨a2, n2, c2, rfl, Lib.hid ⟨World.ownsRow.mono (own_past H2.out.1 g5 (by have := HN.out; omega)) HN.out.2.2.1.size, H2.out.2.1, below_of_only HG2.out.2 (by have := HN.out; omega) g5⟩⟩
  have m3 : (what == 3) = false := by simpa using c3
  by_cases c4 : what = 4
  · subst c4
    obtain ⟨e0, e1⟩ := do_four now j
    rw [e0, e1]
    have HC := Lib.hid (finish_im j a n c now Z hz hn)
    obtain ⟨R, hR⟩ : ∃ R, caV now j (mayFinish now j) (finishJ j) = R := ⟨_, rfl⟩
    obtain ⟨E, hE⟩ : ∃ E, caE now j (mayFinish now j) = E := ⟨_, rfl⟩
    rw [hR, hE] at HC
    rw [hR, hE]
    clear h hn hR hE e0 e1 hz c1 c2 c3
    go_enter Try.func7, Try.ntmps7
    go_wp2_with (refine load_jo rfl _ rfl V rfl j (.slice a n c) HHZ.out ?_)
    clear hV hX hG hZ
    refine HC.out.mono ?_
    rintro e w2 ⟨a2, n2, c2, rfl, H2⟩
    have HG2 : Hid (Has w2 G zJ (.slice none 0 0) ∧ Below w.heap.size w w2) := Lib.hid ⟨has_under HG.out H2.out.2.2, below_then HN.out.2.2.1 H2.out.2.2⟩
    go_wp2_with (refine store_jo rfl _ _ rfl G rfl R a2 n2 c2 rfl zJ (.slice none 0 0) HG2.out.1 ?_; intro w5 h5 g5)
    exact ret_jo2 (x := R) (v := .slice a2 n2 c2) rfl rfl rfl rfl h5 ⟨a2, n2, c2, rfl, Lib.hid ⟨World.ownsRow.mono (own_past H2.out.1 g5 (by have := HN.out; omega)) HN.out.2.2.1.size, H2.out.2.1, below_of_only HG2.out.2 (by have := HN.out; omega) g5⟩⟩
  have m4 : (what == 4) = false := by simpa using c4
  by_cases c5 : what = 5
  · subst c5
    obtain ⟨e0, e1⟩ := do_five now j
    rw [e0, e1]
    have HC := Lib.hid (deliver_im j a n c Z hz hn)
    obtain ⟨R, hR⟩ : ∃ R, chV j (mayDeliver j) (deliverJ j) = R := ⟨_, rfl⟩
    obtain ⟨E, hE⟩ : ∃ E, chE j (mayDeliver j) = E := ⟨_, rfl⟩
    rw [hR, hE] at HC
    rw [hR, hE]
    clear h hn hR hE e0 e1 hz c1 c2 c3 c4
    go_enter Try.func7, Try.ntmps7
    go_wp2_with (refine load_jo rfl _ rfl V rfl j (.slice a n c) HHZ.out ?_)
    clear hV hX hG hZ
    refine HC.out.mono ?_
    rintro e w2 ⟨a2, n2, c2, rfl, H2⟩
    have HG2 : Hid (Has w2 G zJ (.slice none 0 0) ∧ Below w.heap.size w w2) := Lib.hid ⟨has_under HG.out H2.out.2.2, below_then HN.out.2.2.1 H2.out.2.2⟩
    go_wp2_with (refine store_jo rfl _ _ rfl G rfl R a2 n2 c2 rfl zJ (.slice none 0 0) HG2.out.1 ?_; intro w5 h5 g5)
    exact ret_jo2 (x := R) (v := .slice a2 n2 c2) rfl rfl rfl rfl h5 ⟨a2, n2, c2, rfl, Lib.hid ⟨World.ownsRow.mono (own_past H2.out.1 g5 (by have := HN.out; omega)) HN.out.2.2.1.size, H2.out.2.1, below_of_only HG2.out.2 (by have := HN.out; omega) g5⟩⟩
  have m5 : (what == 5) = false := by simpa using c5
  obtain ⟨e0, e1⟩ := do_more ⟨c1, c2, c3, c4, c5⟩ now j
  rw [e0, e1]
  have n1 : (what == 1) = false := by simpa using c1
  have n2 : (what == 2) = false := by simpa using c2
  have n3 : (what == 3) = false := by simpa using c3
  have n4 : (what == 4) = false := by simpa using c4
  have n5 : (what == 5) = false := by simpa using c5
  have HC := Lib.hid (cancel_im j a n c Z hz hn)
  obtain ⟨R, hR⟩ : ∃ R, chV j (mayCancel j) (cancelJ j) = R := ⟨_, rfl⟩
  obtain ⟨E, hE⟩ : ∃ E, chE j (mayCancel j) = E := ⟨_, rfl⟩
  rw [hR, hE] at HC
  rw [hR, hE]
  clear h hn hR hE e0 e1 hz c1 c2 c3 c4 c5
  go_enter Try.func7, Try.ntmps7
  go_wp2_with (refine load_jo rfl _ rfl V rfl j (.slice a n c) HHZ.out ?_)
  clear hV hX hG hZ
  refine HC.out.mono ?_
  rintro e w2 ⟨a2, n2, c2, rfl, H2⟩
  have HG2 : Hid (Has w2 G zJ (.slice none 0 0) ∧ Below w.heap.size w w2) := Lib.hid ⟨has_under HG.out H2.out.2.2, below_then HN.out.2.2.1 H2.out.2.2⟩
  go_wp2_with (refine store_jo rfl _ _ rfl G rfl R a2 n2 c2 rfl zJ (.slice none 0 0) HG2.out.1 ?_; intro w5 h5 g5)
  exact ret_jo2 (x := R) (v := .slice a2 n2 c2) rfl rfl rfl rfl h5 ⟨a2, n2, c2, rfl, Lib.hid ⟨World.ownsRow.mono (own_past H2.out.1 g5 (by have := HN.out; omega)) HN.out.2.2.1.size, H2.out.2.1, below_of_only HG2.out.2 (by have := HN.out; omega) g5⟩⟩
end Go.Proofs.Ytghlgmlelipjfaa.Job.Im
