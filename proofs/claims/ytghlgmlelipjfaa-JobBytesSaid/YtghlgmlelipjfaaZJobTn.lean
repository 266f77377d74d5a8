/- The program's taken: the job whose numbers stand there. -/
import Derived.Test.YtghlgmlelipjfaaZPqTimes
namespace Go.Proofs.Ytghlgmlelipjfaa.Job.Im
open Go.RowKit Go.Lib
open Goods (St Sts OwnS)
open Pen (uiN uiS tmN tmS)

set_option maxRecDepth 100000 in
set_option maxHeartbeats 16000000 in
theorem taken_im (R : Nat) (st : RS) (w : World) (h : Pen.Rd w R st) (hf : Pen.Fit st) :
    Calls Try.prog 41 #[.pointer (some ⟨R, 0, none⟩)] w fun e w' => ∃ a m c, e = .returned (jV (jobQ st).1 (.slice a m c)) ∧ Hid (m ≤ 8 ∧ OwnS w' w.heap.size (.slice a m c) (jobQ st).1.s ∧ Went w w' R (jobQ st).2) := by
  obtain ⟨n0, hn0⟩ : ∃ n : Nat, uiN st MX = n := ⟨_, rfl⟩
  obtain ⟨s1, hs1⟩ : ∃ s : RS, uiS st MX = s := ⟨_, rfl⟩
  obtain ⟨n1, hn1⟩ : ∃ n : Nat, uiN s1 MX = n := ⟨_, rfl⟩
  obtain ⟨s2, hs2⟩ : ∃ s : RS, uiS s1 MX = s := ⟨_, rfl⟩
  obtain ⟨n2, hn2⟩ : ∃ n : Nat, uiN s2 MX = n := ⟨_, rfl⟩
  obtain ⟨s3, hs3⟩ : ∃ s : RS, uiS s2 MX = s := ⟨_, rfl⟩
  obtain ⟨n3, hn3⟩ : ∃ n : Nat, uiN s3 MX = n := ⟨_, rfl⟩
  obtain ⟨s4, hs4⟩ : ∃ s : RS, uiS s3 MX = s := ⟨_, rfl⟩
  obtain ⟨n4, hn4⟩ : ∃ n : Nat, uiN s4 MX = n := ⟨_, rfl⟩
  obtain ⟨s5, hs5⟩ : ∃ s : RS, uiS s4 MX = s := ⟨_, rfl⟩
  obtain ⟨n5, hn5⟩ : ∃ n : Nat, uiN s5 MX = n := ⟨_, rfl⟩
  obtain ⟨s6, hs6⟩ : ∃ s : RS, uiS s5 MX = s := ⟨_, rfl⟩
  obtain ⟨n6, hn6⟩ : ∃ n : Nat, uiN s6 MX = n := ⟨_, rfl⟩
  obtain ⟨s7, hs7⟩ : ∃ s : RS, uiS s6 MX = s := ⟨_, rfl⟩
  obtain ⟨n7, hn7⟩ : ∃ n : Nat, uiN s7 MX = n := ⟨_, rfl⟩
  obtain ⟨s8, hs8⟩ : ∃ s : RS, uiS s7 MX = s := ⟨_, rfl⟩
  obtain ⟨n8, hn8⟩ : ∃ n : Nat, uiN s8 MX = n := ⟨_, rfl⟩
  obtain ⟨s9, hs9⟩ : ∃ s : RS, uiS s8 MX = s := ⟨_, rfl⟩
  obtain ⟨n9, hn9⟩ : ∃ n : Nat, uiN s9 MX = n := ⟨_, rfl⟩
  obtain ⟨s10, hs10⟩ : ∃ s : RS, uiS s9 MX = s := ⟨_, rfl⟩
  obtain ⟨n10, hn10⟩ : ∃ n : Nat, uiN s10 MX = n := ⟨_, rfl⟩
  obtain ⟨s11, hs11⟩ : ∃ s : RS, uiS s10 MX = s := ⟨_, rfl⟩
  obtain ⟨tk, htk⟩ : ∃ n : Nat, tmN s11 8 = n := ⟨_, rfl⟩
  obtain ⟨sT, hsT⟩ : ∃ s : RS, tmS s11 8 = s := ⟨_, rfl⟩
  obtain ⟨l, s12, hl⟩ : ∃ l s, lsq stq tk sT = (l, s) := ⟨_, _, rfl⟩
  obtain ⟨n11, hn11⟩ : ∃ n : Nat, uiN s12 MX = n := ⟨_, rfl⟩
  obtain ⟨s13, hs13⟩ : ∃ s : RS, uiS s12 MX = s := ⟨_, rfl⟩
  obtain ⟨n12, hn12⟩ : ∃ n : Nat, uiN s13 MX = n := ⟨_, rfl⟩
  obtain ⟨s14, hs14⟩ : ∃ s : RS, uiS s13 MX = s := ⟨_, rfl⟩
  obtain ⟨n13, hn13⟩ : ∃ n : Nat, uiN s14 MX = n := ⟨_, rfl⟩
  obtain ⟨s15, hs15⟩ : ∃ s : RS, uiS s14 MX = s := ⟨_, rfl⟩
  obtain ⟨n14, hn14⟩ : ∃ n : Nat, uiN s15 MX = n := ⟨_, rfl⟩
  obtain ⟨s16, hs16⟩ : ∃ s : RS, uiS s15 MX = s := ⟨_, rfl⟩
  have HJQ : Hid (jobQ st = (⟨(n0 : Int), (n1 : Int), (n2 : Int), (n3 : Int), (n4 : Int), (n5 : Int), (n6 : Int), (n7 : Int), (n8 : Int), (n9 : Int), (n10 : Int), l, (n11 : Int), (n12 : Int), (n13 : Int), (n14 : Int)⟩, s16)) := Lib.hid (by
    have e1 : rdK 11 st = ([(n0 : Int), (n1 : Int), (n2 : Int), (n3 : Int), (n4 : Int), (n5 : Int), (n6 : Int), (n7 : Int), (n8 : Int), (n9 : Int), (n10 : Int)], s11) := by
      subst hn0 hs1 hn1 hs2 hn2 hs3 hn3 hs4 hn4 hs5 hn5 hs6 hn6 hs7 hn7 hs8 hn8 hs9 hn9 hs10 hn10 hs11
      rfl
    have e2 : ltq stq 8 s11 = (l, s12) := by
      unfold ltq
      rw [htk, hsT, hl]
    have e3 : rdK 4 s12 = ([(n11 : Int), (n12 : Int), (n13 : Int), (n14 : Int)], s16) := by
      subst hn11 hs13 hn12 hs14 hn13 hs15 hn14 hs16
      rfl
    unfold jobQ q2 p1
    rw [e1]
    simp only []
    rw [e2]
    simp only []
    rw [e3]
    rfl)
  have htk8 : tk ≤ 8 := by have := tm_le (st := s11) (most := 8) (by omega); rw [htk] at this; omega
  have N0 := Lib.hid hn0
  have N1 := Lib.hid hn1
  have N2 := Lib.hid hn2
  have N3 := Lib.hid hn3
  have N4 := Lib.hid hn4
  have N5 := Lib.hid hn5
  have N6 := Lib.hid hn6
  have N7 := Lib.hid hn7
  have N8 := Lib.hid hn8
  have N9 := Lib.hid hn9
  have N10 := Lib.hid hn10
  have N11 := Lib.hid hn11
  have N12 := Lib.hid hn12
  have N13 := Lib.hid hn13
  have N14 := Lib.hid hn14
  have S1 := Lib.hid hs1
  have S2 := Lib.hid hs2
  have S3 := Lib.hid hs3
  have S4 := Lib.hid hs4
  have S5 := Lib.hid hs5
  have S6 := Lib.hid hs6
  have S7 := Lib.hid hs7
  have S8 := Lib.hid hs8
  have S9 := Lib.hid hs9
  have S10 := Lib.hid hs10
  have S11 := Lib.hid hs11
  have S13 := Lib.hid hs13
  have S14 := Lib.hid hs14
  have S15 := Lib.hid hs15
  have S16 := Lib.hid hs16
  have HTK := Lib.hid htk
  have HST := Lib.hid hsT
  have HLQ := Lib.hid hl
  clear hn0 hn1 hn2 hn3 hn4 hn5 hn6 hn7 hn8 hn9 hn10 hn11 hn12 hn13 hn14 hs1 hs2 hs3 hs4 hs5 hs6 hs7 hs8 hs9 hs10 hs11 hs13 hs14 hs15 hs16 htk hsT hl
  obtain ⟨B, X, hB, hX⟩ : ∃ B X, w.heap.size = B ∧ w.alloc (.cells #[.pointer (some ⟨R, 0, none⟩)] 62) = X := ⟨_, _, rfl, rfl⟩
  have HX : Hid (Below w.heap.size w X ∧ X.heap.size = B + 1 ∧ X.cell? ⟨B, 0, none⟩ = some (.pointer (some ⟨R, 0, none⟩))) := Lib.hid (by
    rw [← hX, ← hB]
    exact ⟨(Below.refl _ w).alloc (Nat.le_refl _) _, by simp, cell_block (j := 0) (heap_alloc_new w _) rfl⟩)
  obtain ⟨G, Z, hG, hZ, HZB, HG⟩ := box_zero X
  have HRL : Hid (R < w.heap.size) := Lib.hid h.lt
  have HN : Hid (w.heap.size = B ∧ G = B + 1 ∧ Below w.heap.size w Z ∧ Z.heap.size = G + 1 ∧ Z.cell? ⟨B, 0, none⟩ = some (.pointer (some ⟨R, 0, none⟩))) := Lib.hid ⟨hB, by have := HX.out.2; omega, below_then HX.out.1 HZB.out.1, HZB.out.2, ((bcell HZB.out.1).1 B 0 (by have := HX.out.2; omega)).trans HX.out.2.2⟩
  have HWZ : Hid (Went w Z R st) := Lib.hid ((Went.begin h hf).under HN.out.2.2.1)
  have hBR : B ≠ R := by have := HN.out; have := HRL.out; omega
  have HBR := Lib.hid hBR
  have HNUM := number_at Z B R hBR HN.out.2.2.2.2
  have W0 : Hid (Went Z Z.drew R st) := Lib.hid ⟨HWZ.out.rd.of_below (Below.refl _ Z).drew, HWZ.out.fit, only_drewN (only_refl Z _) 1⟩
  have HS : Hid (∀ W, Z.grownBy W (some R) → W.cell? ⟨B, 0, none⟩ = some (.pointer (some ⟨R, 0, none⟩))) := Lib.hid fun W hW => own_here HN.out.2.2.2.2 hW HBR.out
  have kz : Z.cell? ⟨B, 0, none⟩ = some (.pointer (some ⟨R, 0, none⟩)) := HN.out.2.2.2.2
  clear h hf hBR
  go_enter Try.func41, Try.ntmps41
  go_wp2_with fail
  clear hB hX hG hZ kz
  refine wp_region_held_drew (S := fun W => W.cell? ⟨B, 0, none⟩ = some (.pointer (some ⟨R, 0, none⟩))) (by kernel_rfl) HN.out.2.2.2.2 (fun hHeld => ?_)
  refine wpAnyH_take (i := 0) (v := .func (.func 60) #[] #[.pointer (some ⟨B, 0, none⟩)]) rfl (by kernel_rfl) (by kernel_rfl) (by kernel_rfl) (fun _ _ _ h => h) (Or.inl ⟨by rfl, fun W hSV => ?_⟩) (by assumption) ?_
  · go_simp
  (try simp only [Act.put, List.getElem_toArray, List.getElem_cons_zero, List.setIfInBounds_toArray, List.set_cons_zero, List.set_cons_succ])
  refine wpAnyH_take (i := 2) (v := .func (.func 60) #[] #[.pointer (some ⟨B, 0, none⟩)]) rfl (by kernel_rfl) (by kernel_rfl) (by kernel_rfl) (fun _ _ _ h => h) (Or.inl ⟨by rfl, fun W hSV => ?_⟩) (by assumption) ?_
  · go_simp
  (try simp only [Act.put, List.getElem_toArray, List.getElem_cons_succ, List.getElem_cons_zero, List.setIfInBounds_toArray, List.set_cons_zero, List.set_cons_succ])
  refine wpAnyH_take (i := 4) (v := .func (.func 60) #[] #[.pointer (some ⟨B, 0, none⟩)]) rfl (by kernel_rfl) (by kernel_rfl) (by kernel_rfl) (fun _ _ _ h => h) (Or.inl ⟨by rfl, fun W hSV => ?_⟩) (by assumption) ?_
  · go_simp
  (try simp only [Act.put, List.getElem_toArray, List.getElem_cons_succ, List.getElem_cons_zero, List.setIfInBounds_toArray, List.set_cons_zero, List.set_cons_succ])
  refine wpAnyH_take (i := 6) (v := .func (.func 60) #[] #[.pointer (some ⟨B, 0, none⟩)]) rfl (by kernel_rfl) (by kernel_rfl) (by kernel_rfl) (fun _ _ _ h => h) (Or.inl ⟨by rfl, fun W hSV => ?_⟩) (by assumption) ?_
  · go_simp
  (try simp only [Act.put, List.getElem_toArray, List.getElem_cons_succ, List.getElem_cons_zero, List.setIfInBounds_toArray, List.set_cons_zero, List.set_cons_succ])
  refine wpAnyH_take (i := 8) (v := .func (.func 60) #[] #[.pointer (some ⟨B, 0, none⟩)]) rfl (by kernel_rfl) (by kernel_rfl) (by kernel_rfl) (fun _ _ _ h => h) (Or.inl ⟨by rfl, fun W hSV => ?_⟩) (by assumption) ?_
  · go_simp
  (try simp only [Act.put, List.getElem_toArray, List.getElem_cons_succ, List.getElem_cons_zero, List.setIfInBounds_toArray, List.set_cons_zero, List.set_cons_succ])
  refine wpAnyH_take (i := 10) (v := .func (.func 60) #[] #[.pointer (some ⟨B, 0, none⟩)]) rfl (by kernel_rfl) (by kernel_rfl) (by kernel_rfl) (fun _ _ _ h => h) (Or.inl ⟨by rfl, fun W hSV => ?_⟩) (by assumption) ?_
  · go_simp
  (try simp only [Act.put, List.getElem_toArray, List.getElem_cons_succ, List.getElem_cons_zero, List.setIfInBounds_toArray, List.set_cons_zero, List.set_cons_succ])
  refine wpAnyH_take (i := 12) (v := .func (.func 60) #[] #[.pointer (some ⟨B, 0, none⟩)]) rfl (by kernel_rfl) (by kernel_rfl) (by kernel_rfl) (fun _ _ _ h => h) (Or.inl ⟨by rfl, fun W hSV => ?_⟩) (by assumption) ?_
  · go_simp
  (try simp only [Act.put, List.getElem_toArray, List.getElem_cons_succ, List.getElem_cons_zero, List.setIfInBounds_toArray, List.set_cons_zero, List.set_cons_succ])
  refine wpAnyH_take (i := 14) (v := .func (.func 60) #[] #[.pointer (some ⟨B, 0, none⟩)]) rfl (by kernel_rfl) (by kernel_rfl) (by kernel_rfl) (fun _ _ _ h => h) (Or.inl ⟨by rfl, fun W hSV => ?_⟩) (by assumption) ?_
  · go_simp
  (try simp only [Act.put, List.getElem_toArray, List.getElem_cons_succ, List.getElem_cons_zero, List.setIfInBounds_toArray, List.set_cons_zero, List.set_cons_succ])
  refine wpAnyH_take (i := 16) (v := .func (.func 60) #[] #[.pointer (some ⟨B, 0, none⟩)]) rfl (by kernel_rfl) (by kernel_rfl) (by kernel_rfl) (fun _ _ _ h => h) (Or.inl ⟨by rfl, fun W hSV => ?_⟩) (by assumption) ?_
  · go_simp
  (try simp only [Act.put, List.getElem_toArray, List.getElem_cons_succ, List.getElem_cons_zero, List.setIfInBounds_toArray, List.set_cons_zero, List.set_cons_succ])
  refine wpAnyH_take (i := 18) (v := .func (.func 60) #[] #[.pointer (some ⟨B, 0, none⟩)]) rfl (by kernel_rfl) (by kernel_rfl) (by kernel_rfl) (fun _ _ _ h => h) (Or.inl ⟨by rfl, fun W hSV => ?_⟩) (by assumption) ?_
  · go_simp
  (try simp only [Act.put, List.getElem_toArray, List.getElem_cons_succ, List.getElem_cons_zero, List.setIfInBounds_toArray, List.set_cons_zero, List.set_cons_succ])
  refine wpAnyH_take (i := 20) (v := .func (.func 60) #[] #[.pointer (some ⟨B, 0, none⟩)]) rfl (by kernel_rfl) (by kernel_rfl) (by kernel_rfl) (fun _ _ _ h => h) (Or.inl ⟨by rfl, fun W hSV => ?_⟩) (by assumption) ?_
  · go_simp
  (try simp only [Act.put, List.getElem_toArray, List.getElem_cons_succ, List.getElem_cons_zero, List.setIfInBounds_toArray, List.set_cons_zero, List.set_cons_succ])
  refine wpAnyH_take (i := 22) (v := .pointer (some ⟨R, 0, none⟩)) rfl (by kernel_rfl) (by kernel_rfl) (by kernel_rfl) (fun _ _ _ h => h) (Or.inl ⟨by rfl, fun W hSV => ?_⟩) (by assumption) ?_
  · go_simp
  (try simp only [Act.put, List.getElem_toArray, List.getElem_cons_succ, List.getElem_cons_zero, List.setIfInBounds_toArray, List.set_cons_zero, List.set_cons_succ])
  refine wpAnyH_take (i := 24) (v := .func (.func 60) #[] #[.pointer (some ⟨B, 0, none⟩)]) rfl (by kernel_rfl) (by kernel_rfl) (by kernel_rfl) (fun _ _ _ h => h) (Or.inl ⟨by rfl, fun W hSV => ?_⟩) (by assumption) ?_
  · go_simp
  (try simp only [Act.put, List.getElem_toArray, List.getElem_cons_succ, List.getElem_cons_zero, List.setIfInBounds_toArray, List.set_cons_zero, List.set_cons_succ])
  refine wpAnyH_take (i := 26) (v := .func (.func 60) #[] #[.pointer (some ⟨B, 0, none⟩)]) rfl (by kernel_rfl) (by kernel_rfl) (by kernel_rfl) (fun _ _ _ h => h) (Or.inl ⟨by rfl, fun W hSV => ?_⟩) (by assumption) ?_
  · go_simp
  (try simp only [Act.put, List.getElem_toArray, List.getElem_cons_succ, List.getElem_cons_zero, List.setIfInBounds_toArray, List.set_cons_zero, List.set_cons_succ])
  refine wpAnyH_take (i := 28) (v := .func (.func 60) #[] #[.pointer (some ⟨B, 0, none⟩)]) rfl (by kernel_rfl) (by kernel_rfl) (by kernel_rfl) (fun _ _ _ h => h) (Or.inl ⟨by rfl, fun W hSV => ?_⟩) (by assumption) ?_
  · go_simp
  (try simp only [Act.put, List.getElem_toArray, List.getElem_cons_succ, List.getElem_cons_zero, List.setIfInBounds_toArray, List.set_cons_zero, List.set_cons_succ])
  refine wpAnyH_take (i := 30) (v := .func (.func 60) #[] #[.pointer (some ⟨B, 0, none⟩)]) rfl (by kernel_rfl) (by kernel_rfl) (by kernel_rfl) (fun _ _ _ h => h) (Or.inl ⟨by rfl, fun W hSV => ?_⟩) (by assumption) ?_
  · go_simp
  (try simp only [Act.put, List.getElem_toArray, List.getElem_cons_succ, List.getElem_cons_zero, List.setIfInBounds_toArray, List.set_cons_zero, List.set_cons_succ])
  refine wpAnyH_take (i := 32) (v := .func (.func 60) #[] #[.pointer (some ⟨B, 0, none⟩)]) rfl (by kernel_rfl) (by kernel_rfl) (by kernel_rfl) (fun _ _ _ h => h) (Or.inl ⟨by rfl, fun W hSV => ?_⟩) (by assumption) ?_
  · go_simp
  (try simp only [Act.put, List.getElem_toArray, List.getElem_cons_succ, List.getElem_cons_zero, List.setIfInBounds_toArray, List.set_cons_zero, List.set_cons_succ])
  refine wpAnyH_ready (rs := [1]) (by kernel_rfl) (by simp) ?_
  refine AllReadyH.cons (o := _) rfl (fun K hK => ?_) AllReadyH.nil
  go_simp
  refine (HNUM.out Z.drew st n0 s1 N0.out S1.out W0.out).mono ?_
  rintro e w0 ⟨rfl, G0⟩
  (try dsimp only)
  refine hK.out _ _ (HS.out w0 G0.out.1.grown) (fun hHeld => ?_)
  clear hK K
  (try simp only [Act.put, List.getElem_toArray, List.getElem_cons_succ, List.getElem_cons_zero, List.setIfInBounds_toArray, List.set_cons_zero, List.set_cons_succ])
  refine wpAnyH_ready (rs := [3]) (by kernel_rfl) (by simp) ?_
  refine AllReadyH.cons (o := _) rfl (fun K hK => ?_) AllReadyH.nil
  go_simp
  refine (HNUM.out w0 s1 n1 s2 N1.out S2.out G0.out.1).mono ?_
  rintro e w1 ⟨rfl, G1⟩
  (try dsimp only)
  refine hK.out _ _ (HS.out w1 G1.out.1.grown) (fun hHeld => ?_)
  clear hK K
  (try simp only [Act.put, List.getElem_toArray, List.getElem_cons_succ, List.getElem_cons_zero, List.setIfInBounds_toArray, List.set_cons_zero, List.set_cons_succ])
  refine wpAnyH_ready (rs := [5]) (by kernel_rfl) (by simp) ?_
  refine AllReadyH.cons (o := _) rfl (fun K hK => ?_) AllReadyH.nil
  go_simp
  refine (HNUM.out w1 s2 n2 s3 N2.out S3.out G1.out.1).mono ?_
  rintro e w2 ⟨rfl, G2⟩
  (try dsimp only)
  refine hK.out _ _ (HS.out w2 G2.out.1.grown) (fun hHeld => ?_)
  clear hK K
  (try simp only [Act.put, List.getElem_toArray, List.getElem_cons_succ, List.getElem_cons_zero, List.setIfInBounds_toArray, List.set_cons_zero, List.set_cons_succ])
  refine wpAnyH_ready (rs := [7]) (by kernel_rfl) (by simp) ?_
  refine AllReadyH.cons (o := _) rfl (fun K hK => ?_) AllReadyH.nil
  go_simp
  refine (HNUM.out w2 s3 n3 s4 N3.out S4.out G2.out.1).mono ?_
  rintro e w3 ⟨rfl, G3⟩
  (try dsimp only)
  refine hK.out _ _ (HS.out w3 G3.out.1.grown) (fun hHeld => ?_)
  clear hK K
  (try simp only [Act.put, List.getElem_toArray, List.getElem_cons_succ, List.getElem_cons_zero, List.setIfInBounds_toArray, List.set_cons_zero, List.set_cons_succ])
  refine wpAnyH_ready (rs := [9]) (by kernel_rfl) (by simp) ?_
  refine AllReadyH.cons (o := _) rfl (fun K hK => ?_) AllReadyH.nil
  go_simp
  refine (HNUM.out w3 s4 n4 s5 N4.out S5.out G3.out.1).mono ?_
  rintro e w4 ⟨rfl, G4⟩
  (try dsimp only)
  refine hK.out _ _ (HS.out w4 G4.out.1.grown) (fun hHeld => ?_)
  clear hK K
  (try simp only [Act.put, List.getElem_toArray, List.getElem_cons_succ, List.getElem_cons_zero, List.setIfInBounds_toArray, List.set_cons_zero, List.set_cons_succ])
  refine wpAnyH_ready (rs := [11]) (by kernel_rfl) (by simp) ?_
  refine AllReadyH.cons (o := _) rfl (fun K hK => ?_) AllReadyH.nil
  go_simp
  refine (HNUM.out w4 s5 n5 s6 N5.out S6.out G4.out.1).mono ?_
  rintro e w5 ⟨rfl, G5⟩
  (try dsimp only)
  refine hK.out _ _ (HS.out w5 G5.out.1.grown) (fun hHeld => ?_)
  clear hK K
  (try simp only [Act.put, List.getElem_toArray, List.getElem_cons_succ, List.getElem_cons_zero, List.setIfInBounds_toArray, List.set_cons_zero, List.set_cons_succ])
  refine wpAnyH_ready (rs := [13]) (by kernel_rfl) (by simp) ?_
  refine AllReadyH.cons (o := _) rfl (fun K hK => ?_) AllReadyH.nil
  go_simp
  refine (HNUM.out w5 s6 n6 s7 N6.out S7.out G5.out.1).mono ?_
  rintro e w6 ⟨rfl, G6⟩
  (try dsimp only)
  refine hK.out _ _ (HS.out w6 G6.out.1.grown) (fun hHeld => ?_)
  clear hK K
  (try simp only [Act.put, List.getElem_toArray, List.getElem_cons_succ, List.getElem_cons_zero, List.setIfInBounds_toArray, List.set_cons_zero, List.set_cons_succ])
  refine wpAnyH_ready (rs := [15]) (by kernel_rfl) (by simp) ?_
  refine AllReadyH.cons (o := _) rfl (fun K hK => ?_) AllReadyH.nil
  go_simp
  refine (HNUM.out w6 s7 n7 s8 N7.out S8.out G6.out.1).mono ?_
  rintro e w7 ⟨rfl, G7⟩
  (try dsimp only)
  refine hK.out _ _ (HS.out w7 G7.out.1.grown) (fun hHeld => ?_)
  clear hK K
  (try simp only [Act.put, List.getElem_toArray, List.getElem_cons_succ, List.getElem_cons_zero, List.setIfInBounds_toArray, List.set_cons_zero, List.set_cons_succ])
  refine wpAnyH_ready (rs := [17]) (by kernel_rfl) (by simp) ?_
  refine AllReadyH.cons (o := _) rfl (fun K hK => ?_) AllReadyH.nil
  go_simp
  refine (HNUM.out w7 s8 n8 s9 N8.out S9.out G7.out.1).mono ?_
  rintro e w8 ⟨rfl, G8⟩
  (try dsimp only)
  refine hK.out _ _ (HS.out w8 G8.out.1.grown) (fun hHeld => ?_)
  clear hK K
  (try simp only [Act.put, List.getElem_toArray, List.getElem_cons_succ, List.getElem_cons_zero, List.setIfInBounds_toArray, List.set_cons_zero, List.set_cons_succ])
  refine wpAnyH_ready (rs := [19]) (by kernel_rfl) (by simp) ?_
  refine AllReadyH.cons (o := _) rfl (fun K hK => ?_) AllReadyH.nil
  go_simp
  refine (HNUM.out w8 s9 n9 s10 N9.out S10.out G8.out.1).mono ?_
  rintro e w9 ⟨rfl, G9⟩
  (try dsimp only)
  refine hK.out _ _ (HS.out w9 G9.out.1.grown) (fun hHeld => ?_)
  clear hK K
  (try simp only [Act.put, List.getElem_toArray, List.getElem_cons_succ, List.getElem_cons_zero, List.setIfInBounds_toArray, List.set_cons_zero, List.set_cons_succ])
  refine wpAnyH_ready (rs := [21]) (by kernel_rfl) (by simp) ?_
  refine AllReadyH.cons (o := _) rfl (fun K hK => ?_) AllReadyH.nil
  go_simp
  refine (HNUM.out w9 s10 n10 s11 N10.out S11.out G9.out.1).mono ?_
  rintro e w10 ⟨rfl, G10⟩
  (try dsimp only)
  refine hK.out _ _ (HS.out w10 G10.out.1.grown) (fun hHeld => ?_)
  clear hK K
  (try simp only [Act.put, List.getElem_toArray, List.getElem_cons_succ, List.getElem_cons_zero, List.setIfInBounds_toArray, List.set_cons_zero, List.set_cons_succ])
  have HTM := times_at 8 G10.out.1 (by omega)
  rw [HTK.out, HST.out] at HTM
  refine wpAnyH_ready (rs := [23]) (by kernel_rfl) (by simp) ?_
  refine AllReadyH.cons (o := _) rfl (fun K hK => ?_) AllReadyH.nil
  go_simp
  refine (HTM).mono ?_
  rintro e wT ⟨rfl, GT⟩
  (try dsimp only)
  refine hK.out _ _ (HS.out wT GT.out.1.grown) (fun hHeld => ?_)
  clear hK K
  (try simp only [Act.put, List.getElem_toArray, List.getElem_cons_succ, List.getElem_cons_zero, List.setIfInBounds_toArray, List.set_cons_zero, List.set_cons_succ])
  have HSK := Lib.hid (stacks_im B R tk sT wT htk8 HBR.out (HS.out wT GT.out.1.grown) GT.out.1.rd GT.out.1.fit l s12 HLQ.out)
  refine wpAnyH_ready (rs := [25]) (by kernel_rfl) (by simp) ?_
  refine AllReadyH.cons (o := _) rfl (fun K hK => ?_) AllReadyH.nil
  go_simp
  refine (HSK.out).mono ?_
  rintro e wS ⟨a, m, c, rfl, GS⟩
  (try dsimp only)
  refine hK.out _ _ (HS.out wS (GT.out.1.then GS.out.2.2.2).grown) (fun hHeld => ?_)
  clear hK K
  (try simp only [Act.put, List.getElem_toArray, List.getElem_cons_succ, List.getElem_cons_zero, List.setIfInBounds_toArray, List.set_cons_zero, List.set_cons_succ])
  have WS : Hid (Went Z wS R s12) := Lib.hid (GT.out.1.then GS.out.2.2.2)
  refine wpAnyH_ready (rs := [27]) (by kernel_rfl) (by simp) ?_
  refine AllReadyH.cons (o := _) rfl (fun K hK => ?_) AllReadyH.nil
  go_simp
  refine (HNUM.out wS s12 n11 s13 N11.out S13.out WS.out).mono ?_
  rintro e w11 ⟨rfl, G11⟩
  (try dsimp only)
  refine hK.out _ _ (HS.out w11 G11.out.1.grown) (fun hHeld => ?_)
  clear hK K
  (try simp only [Act.put, List.getElem_toArray, List.getElem_cons_succ, List.getElem_cons_zero, List.setIfInBounds_toArray, List.set_cons_zero, List.set_cons_succ])
  refine wpAnyH_ready (rs := [29]) (by kernel_rfl) (by simp) ?_
  refine AllReadyH.cons (o := _) rfl (fun K hK => ?_) AllReadyH.nil
  go_simp
  refine (HNUM.out w11 s13 n12 s14 N12.out S14.out G11.out.1).mono ?_
  rintro e w12 ⟨rfl, G12⟩
  (try dsimp only)
  refine hK.out _ _ (HS.out w12 G12.out.1.grown) (fun hHeld => ?_)
  clear hK K
  (try simp only [Act.put, List.getElem_toArray, List.getElem_cons_succ, List.getElem_cons_zero, List.setIfInBounds_toArray, List.set_cons_zero, List.set_cons_succ])
  refine wpAnyH_ready (rs := [31]) (by kernel_rfl) (by simp) ?_
  refine AllReadyH.cons (o := _) rfl (fun K hK => ?_) AllReadyH.nil
  go_simp
  refine (HNUM.out w12 s14 n13 s15 N13.out S15.out G12.out.1).mono ?_
  rintro e w13 ⟨rfl, G13⟩
  (try dsimp only)
  refine hK.out _ _ (HS.out w13 G13.out.1.grown) (fun hHeld => ?_)
  clear hK K
  (try simp only [Act.put, List.getElem_toArray, List.getElem_cons_succ, List.getElem_cons_zero, List.setIfInBounds_toArray, List.set_cons_zero, List.set_cons_succ])
  refine wpAnyH_ready (rs := [33]) (by kernel_rfl) (by simp) ?_
  refine AllReadyH.cons (o := _) rfl (fun K hK => ?_) AllReadyH.nil
  go_simp
  refine (HNUM.out w13 s15 n14 s16 N14.out S16.out G13.out.1).mono ?_
  rintro e w14 ⟨rfl, G14⟩
  (try dsimp only)
  refine hK.out _ _ (HS.out w14 G14.out.1.grown) (fun hHeld => ?_)
  clear hK K
  (try simp only [Act.put, List.getElem_toArray, List.getElem_cons_succ, List.getElem_cons_zero, List.setIfInBounds_toArray, List.set_cons_zero, List.set_cons_succ])
  have HBASE : Hid (R < wT.heap.size ∧ G < wT.heap.size ∧ w.heap.size ≤ wT.heap.size ∧ R ≠ G) := Lib.hid ⟨by have h1 := GT.out.1.grown.size; have := HN.out; have := HRL.out; omega, by have h1 := GT.out.1.grown.size; have := HN.out; omega, by have h1 := GT.out.1.grown.size; have := HN.out; omega, by have := HN.out; have := HRL.out; omega⟩
  have HOWN : Hid (OwnS w14 wT.heap.size (.slice a m c) l) := Lib.hid (own_past (own_past (own_past (own_past GS.out.2.2.1 G11.out.2 HBASE.out.1) G12.out.2 HBASE.out.1) G13.out.2 HBASE.out.1) G14.out.2 HBASE.out.1)
  have HG14 : Hid (Has w14 G zJ (.slice none 0 0)) := Lib.hid (has_by HG.out G14.out.1.grown HBASE.out.2.2.2)
  refine wpAnyH_take (i := 34) (v := jV ⟨(n0 : Int), (n1 : Int), (n2 : Int), (n3 : Int), (n4 : Int), (n5 : Int), (n6 : Int), (n7 : Int), (n8 : Int), (n9 : Int), (n10 : Int), l, (n11 : Int), (n12 : Int), (n13 : Int), (n14 : Int)⟩ (.slice a m c)) rfl (by kernel_rfl) (by kernel_rfl) (by kernel_rfl) (fun _ _ _ h => h) (Or.inl ⟨by rfl, fun W hSV => ?_⟩) (by assumption) ?_
  · go_simp
  (try simp only [Act.put, List.getElem_toArray, List.getElem_cons_succ, List.getElem_cons_zero, List.setIfInBounds_toArray, List.set_cons_zero, List.set_cons_succ])
  refine wpAnyH_ready (rs := [35]) (by kernel_rfl) (by simp) ?_
  refine AllReadyH.cons (o := _) rfl (fun K hK => ?_) AllReadyH.nil
  refine wp_store_jo _ _ rfl G rfl ⟨(n0 : Int), (n1 : Int), (n2 : Int), (n3 : Int), (n4 : Int), (n5 : Int), (n6 : Int), (n7 : Int), (n8 : Int), (n9 : Int), (n10 : Int), l, (n11 : Int), (n12 : Int), (n13 : Int), (n14 : Int)⟩ a m c rfl zJ (.slice none 0 0) HG14.out ?_
  intro w9 h9 g9
  (try dsimp only)
  refine hK.out _ _ (own_here (HS.out w14 G14.out.1.grown) g9 (by have := HN.out; omega)) (fun hHeld => ?_)
  clear hK K
  (try simp only [Act.put, List.getElem_toArray, List.getElem_cons_succ, List.getElem_cons_zero])
  refine wpAnyH_done (by kernel_rfl) ?_ _
  go_wp2_with fail
  refine ret_jo (x := ⟨(n0 : Int), (n1 : Int), (n2 : Int), (n3 : Int), (n4 : Int), (n5 : Int), (n6 : Int), (n7 : Int), (n8 : Int), (n9 : Int), (n10 : Int), l, (n11 : Int), (n12 : Int), (n13 : Int), (n14 : Int)⟩) (v := .slice a m c) rfl rfl rfl h9 ?_
  rw [HJQ.out]
  have HWE : Went w w14 R s16 := ⟨G14.out.1.rd, G14.out.1.fit, only_trans HWZ.out.grown G14.out.1.grown⟩
  exact ⟨a, m, c, rfl, Lib.hid ⟨GS.out.2.1, World.ownsRow.mono (own_past HOWN.out g9 HBASE.out.2.1) HBASE.out.2.2.1, HWE.grew g9 (fun g e => by injection e with e; subst e; have := HN.out; omega) HRL.out⟩⟩
end Go.Proofs.Ytghlgmlelipjfaa.Job.Im
