/- The document's Put. -/
import Derived.Test.YtghlgmlelipjfaaZJobG
namespace Go.Proofs.Ytghlgmlelipjfaa.Job
open Go.RowKit Go.Lib IRows
open Goods (St Sts OwnS)
open Pen (uintB)

set_option maxRecDepth 100000 in
set_option maxHeartbeats 16000000 in
theorem dput (j : JS) (a : Option Addr) (n c : Nat) (w : World) (h : JIn w a n j.s) (hn : n ≤ 1024) :
    Calls Try.prog 17 #[jV j (.slice a n c)] w fun e w' => e = .returned (.tuple #[.string (putV j), .int .i64 (putE j)]) ∧ Hid (Below w.heap.size w w') := by
  obtain ⟨V, X, hV, hX, HXB, HH⟩ := box_jo w j (.slice a n c)
  obtain ⟨er, her⟩ : ∃ er, chk j = er := ⟨_, rfl⟩
  have HC := dcheck j a n c X (h.under HXB.out.1) hn
  rw [her] at HC
  have HC := Lib.hid HC
  by_cases he : er = 0
  case neg =>
    obtain ⟨e1, e2⟩ := put_no (j := j) (by rw [her]; exact he)
    have hk : er = 1 := by
      by_cases ho : Ok j
      · exact absurd (her.symm.trans (chk_yes ho)) he
      · exact her.symm.trans (chk_no ho)
    rw [e1, e2, her]
    subst hk
    clear h hn her he e1 e2
    go_enter Try.func17, Try.ntmps17
    go_wp2_with (refine load_jo rfl _ rfl V rfl j (.slice a n c) HH.out ?_)
    clear hX hV
    refine HC.out.mono ?_
    rintro e w1 ⟨rfl, h1⟩
    have H1 := Lib.hid h1
    clear h1
    go_wp2_with fail
    go_ret2
    exact ⟨rfl, Lib.hid (below_then HXB.out.1 H1.out)⟩
  subst he
  obtain ⟨e1, e2⟩ := put_yes her
  obtain ⟨hp1, hp2, hp3, hp4⟩ := ok_pos (chk_zero her)
  have hn8 : n ≤ 8 := by rw [← h.1]; exact hp3
  obtain ⟨S1, HS1, HZ1, HN1⟩ := nums_at (front j) 11 rfl (by omega) (fun x hx => (hp1 x hx).2)
  obtain ⟨S3, HS3, HZ3, HN3⟩ := nums_at (back j) 4 rfl (by omega) (fun x hx => (hp2 x hx).2)
  obtain ⟨S2, hS2⟩ : ∃ S2, numsB ([(n : Int)] ++ intsS j.s) = S2 := ⟨_, rfl⟩
  have HST : Hid (∀ W, Below X.heap.size X W → Calls Try.prog 39 #[.slice a n c] W fun e w' => e = .returned (.string S2) ∧ Hid (Below W.heap.size W w')) := Lib.hid fun W hW => by
    rw [← hS2]
    exact dstacks a n c j.s W h.1 ((h.under HXB.out.1).under hW).2 hn8 fun t ht => ⟨(hp4 t ht).1.2, (hp4 t ht).2.2⟩
  have HZ2 : Hid (S2.size ≤ 170) := Lib.hid (by
    have h1 := numsB_size ([(n : Int)] ++ intsS j.s)
    have h2 := intsS_length j.s
    rw [hS2] at h1
    simp at h1
    omega)
  have HEND : Hid (S1 ++ S2 ++ S3 = putV j) := Lib.hid (by
    rw [e1, HS1.out, HS3.out, ← hS2]
    unfold ints
    rw [h.1]
    simp only [numsB_append, append_assoc])
  have z12 : ¬ 9223372036854775807 < S1.size + S2.size := by have := HZ1.out; have := HZ2.out; omega
  have z123 : ¬ 9223372036854775807 < (S1 ++ S2).size + S3.size := by rw [ByteArray.size_append]; have := HZ1.out; have := HZ2.out; have := HZ3.out; omega
  have z124 : ¬ 9223372036854775807 < S1.size + S2.size + S3.size := by have := HZ1.out; have := HZ2.out; have := HZ3.out; omega
  rw [e2]
  clear h hn her e1 e2 hp1 hp2 hp3 hp4 hS2
  go_enter Try.func17, Try.ntmps17
  go_wp2_with (refine load_jo rfl _ rfl V rfl j (.slice a n c) HH.out ?_)
  clear hX hV
  refine HC.out.mono ?_
  rintro e w1 ⟨rfl, h1⟩
  have HB1 : Hid (Below X.heap.size X w1) := Lib.hid h1
  have HHS : Hid (∀ W, Below w1.heap.size w1 W → Has W V j (.slice a n c)) := Lib.hid fun W hW => has_under (has_under HH.out HB1.out) hW
  clear h1
  go_wp2_with fail
  refine wp_region_held_drew (S := fun W => Has W V j (.slice a n c)) (by kernel_rfl) (HHS.out w1 (Below.refl _ _)) (fun hHeld => ?_)
  refine wpAnyH_take (i := 0) (v := .pointer (some ⟨V, 0, none⟩)) rfl (by kernel_rfl) (by kernel_rfl) (by kernel_rfl) (fun _ _ _ h => h) (Or.inl ⟨by rfl, fun W hSV => ?_⟩) (by assumption) ?_
  · go_simp
  (try simp only [Act.put, List.getElem_toArray, List.getElem_cons_zero, List.setIfInBounds_toArray, List.set_cons_zero, List.set_cons_succ])
  refine wpAnyH_take (i := 1) (v := .int .i64 j.id) rfl (by kernel_rfl) (by kernel_rfl) (by kernel_rfl) (fun _ _ _ h => h) (Or.inl ⟨by rfl, fun W hSV => ?_⟩) (by assumption) ?_
  · have hc : W.cell? ⟨V, 0, none⟩ = some (.int .i64 j.id) := cell_block (j := 0) hSV rfl
    go_simp
  (try simp only [Act.put, List.getElem_toArray, List.getElem_cons_succ, List.getElem_cons_zero, List.setIfInBounds_toArray, List.set_cons_zero, List.set_cons_succ])
  refine wpAnyH_take (i := 2) (v := .pointer (some ⟨V, 1, none⟩)) rfl (by kernel_rfl) (by kernel_rfl) (by kernel_rfl) (fun _ _ _ h => h) (Or.inl ⟨by rfl, fun W hSV => ?_⟩) (by assumption) ?_
  · go_simp
  (try simp only [Act.put, List.getElem_toArray, List.getElem_cons_succ, List.getElem_cons_zero, List.setIfInBounds_toArray, List.set_cons_zero, List.set_cons_succ])
  refine wpAnyH_take (i := 3) (v := .int .i64 j.kd) rfl (by kernel_rfl) (by kernel_rfl) (by kernel_rfl) (fun _ _ _ h => h) (Or.inl ⟨by rfl, fun W hSV => ?_⟩) (by assumption) ?_
  · have hc : W.cell? ⟨V, 1, none⟩ = some (.int .i64 j.kd) := cell_block (j := 1) hSV rfl
    go_simp
  (try simp only [Act.put, List.getElem_toArray, List.getElem_cons_succ, List.getElem_cons_zero, List.setIfInBounds_toArray, List.set_cons_zero, List.set_cons_succ])
  refine wpAnyH_take (i := 4) (v := .pointer (some ⟨V, 2, none⟩)) rfl (by kernel_rfl) (by kernel_rfl) (by kernel_rfl) (fun _ _ _ h => h) (Or.inl ⟨by rfl, fun W hSV => ?_⟩) (by assumption) ?_
  · go_simp
  (try simp only [Act.put, List.getElem_toArray, List.getElem_cons_succ, List.getElem_cons_zero, List.setIfInBounds_toArray, List.set_cons_zero, List.set_cons_succ])
  refine wpAnyH_take (i := 5) (v := .int .i64 j.ow) rfl (by kernel_rfl) (by kernel_rfl) (by kernel_rfl) (fun _ _ _ h => h) (Or.inl ⟨by rfl, fun W hSV => ?_⟩) (by assumption) ?_
  · have hc : W.cell? ⟨V, 2, none⟩ = some (.int .i64 j.ow) := cell_block (j := 2) hSV rfl
    go_simp
  (try simp only [Act.put, List.getElem_toArray, List.getElem_cons_succ, List.getElem_cons_zero, List.setIfInBounds_toArray, List.set_cons_zero, List.set_cons_succ])
  refine wpAnyH_take (i := 6) (v := .pointer (some ⟨V, 3, none⟩)) rfl (by kernel_rfl) (by kernel_rfl) (by kernel_rfl) (fun _ _ _ h => h) (Or.inl ⟨by rfl, fun W hSV => ?_⟩) (by assumption) ?_
  · go_simp
  (try simp only [Act.put, List.getElem_toArray, List.getElem_cons_succ, List.getElem_cons_zero, List.setIfInBounds_toArray, List.set_cons_zero, List.set_cons_succ])
  refine wpAnyH_take (i := 7) (v := .int .i64 j.dv) rfl (by kernel_rfl) (by kernel_rfl) (by kernel_rfl) (fun _ _ _ h => h) (Or.inl ⟨by rfl, fun W hSV => ?_⟩) (by assumption) ?_
  · have hc : W.cell? ⟨V, 3, none⟩ = some (.int .i64 j.dv) := cell_block (j := 3) hSV rfl
    go_simp
  (try simp only [Act.put, List.getElem_toArray, List.getElem_cons_succ, List.getElem_cons_zero, List.setIfInBounds_toArray, List.set_cons_zero, List.set_cons_succ])
  refine wpAnyH_take (i := 8) (v := .pointer (some ⟨V, 4, none⟩)) rfl (by kernel_rfl) (by kernel_rfl) (by kernel_rfl) (fun _ _ _ h => h) (Or.inl ⟨by rfl, fun W hSV => ?_⟩) (by assumption) ?_
  · go_simp
  (try simp only [Act.put, List.getElem_toArray, List.getElem_cons_succ, List.getElem_cons_zero, List.setIfInBounds_toArray, List.set_cons_zero, List.set_cons_succ])
  refine wpAnyH_take (i := 9) (v := .int .i64 j.pb) rfl (by kernel_rfl) (by kernel_rfl) (by kernel_rfl) (fun _ _ _ h => h) (Or.inl ⟨by rfl, fun W hSV => ?_⟩) (by assumption) ?_
  · have hc : W.cell? ⟨V, 4, none⟩ = some (.int .i64 j.pb) := cell_block (j := 4) hSV rfl
    go_simp
  (try simp only [Act.put, List.getElem_toArray, List.getElem_cons_succ, List.getElem_cons_zero, List.setIfInBounds_toArray, List.set_cons_zero, List.set_cons_succ])
  refine wpAnyH_take (i := 10) (v := .pointer (some ⟨V, 5, none⟩)) rfl (by kernel_rfl) (by kernel_rfl) (by kernel_rfl) (fun _ _ _ h => h) (Or.inl ⟨by rfl, fun W hSV => ?_⟩) (by assumption) ?_
  · go_simp
  (try simp only [Act.put, List.getElem_toArray, List.getElem_cons_succ, List.getElem_cons_zero, List.setIfInBounds_toArray, List.set_cons_zero, List.set_cons_succ])
  refine wpAnyH_take (i := 11) (v := .int .i64 j.ba) rfl (by kernel_rfl) (by kernel_rfl) (by kernel_rfl) (fun _ _ _ h => h) (Or.inl ⟨by rfl, fun W hSV => ?_⟩) (by assumption) ?_
  · have hc : W.cell? ⟨V, 5, none⟩ = some (.int .i64 j.ba) := cell_block (j := 5) hSV rfl
    go_simp
  (try simp only [Act.put, List.getElem_toArray, List.getElem_cons_succ, List.getElem_cons_zero, List.setIfInBounds_toArray, List.set_cons_zero, List.set_cons_succ])
  refine wpAnyH_take (i := 12) (v := .pointer (some ⟨V, 6, none⟩)) rfl (by kernel_rfl) (by kernel_rfl) (by kernel_rfl) (fun _ _ _ h => h) (Or.inl ⟨by rfl, fun W hSV => ?_⟩) (by assumption) ?_
  · go_simp
  (try simp only [Act.put, List.getElem_toArray, List.getElem_cons_succ, List.getElem_cons_zero, List.setIfInBounds_toArray, List.set_cons_zero, List.set_cons_succ])
  refine wpAnyH_take (i := 13) (v := .int .i64 j.dr) rfl (by kernel_rfl) (by kernel_rfl) (by kernel_rfl) (fun _ _ _ h => h) (Or.inl ⟨by rfl, fun W hSV => ?_⟩) (by assumption) ?_
  · have hc : W.cell? ⟨V, 6, none⟩ = some (.int .i64 j.dr) := cell_block (j := 6) hSV rfl
    go_simp
  (try simp only [Act.put, List.getElem_toArray, List.getElem_cons_succ, List.getElem_cons_zero, List.setIfInBounds_toArray, List.set_cons_zero, List.set_cons_succ])
  refine wpAnyH_take (i := 14) (v := .pointer (some ⟨V, 7, none⟩)) rfl (by kernel_rfl) (by kernel_rfl) (by kernel_rfl) (fun _ _ _ h => h) (Or.inl ⟨by rfl, fun W hSV => ?_⟩) (by assumption) ?_
  · go_simp
  (try simp only [Act.put, List.getElem_toArray, List.getElem_cons_succ, List.getElem_cons_zero, List.setIfInBounds_toArray, List.set_cons_zero, List.set_cons_succ])
  refine wpAnyH_take (i := 15) (v := .int .i64 j.rn) rfl (by kernel_rfl) (by kernel_rfl) (by kernel_rfl) (fun _ _ _ h => h) (Or.inl ⟨by rfl, fun W hSV => ?_⟩) (by assumption) ?_
  · have hc : W.cell? ⟨V, 7, none⟩ = some (.int .i64 j.rn) := cell_block (j := 7) hSV rfl
    go_simp
  (try simp only [Act.put, List.getElem_toArray, List.getElem_cons_succ, List.getElem_cons_zero, List.setIfInBounds_toArray, List.set_cons_zero, List.set_cons_succ])
  refine wpAnyH_take (i := 16) (v := .pointer (some ⟨V, 8, none⟩)) rfl (by kernel_rfl) (by kernel_rfl) (by kernel_rfl) (fun _ _ _ h => h) (Or.inl ⟨by rfl, fun W hSV => ?_⟩) (by assumption) ?_
  · go_simp
  (try simp only [Act.put, List.getElem_toArray, List.getElem_cons_succ, List.getElem_cons_zero, List.setIfInBounds_toArray, List.set_cons_zero, List.set_cons_succ])
  refine wpAnyH_take (i := 17) (v := .int .i64 j.cp) rfl (by kernel_rfl) (by kernel_rfl) (by kernel_rfl) (fun _ _ _ h => h) (Or.inl ⟨by rfl, fun W hSV => ?_⟩) (by assumption) ?_
  · have hc : W.cell? ⟨V, 8, none⟩ = some (.int .i64 j.cp) := cell_block (j := 8) hSV rfl
    go_simp
  (try simp only [Act.put, List.getElem_toArray, List.getElem_cons_succ, List.getElem_cons_zero, List.setIfInBounds_toArray, List.set_cons_zero, List.set_cons_succ])
  refine wpAnyH_take (i := 18) (v := .pointer (some ⟨V, 9, none⟩)) rfl (by kernel_rfl) (by kernel_rfl) (by kernel_rfl) (fun _ _ _ h => h) (Or.inl ⟨by rfl, fun W hSV => ?_⟩) (by assumption) ?_
  · go_simp
  (try simp only [Act.put, List.getElem_toArray, List.getElem_cons_succ, List.getElem_cons_zero, List.setIfInBounds_toArray, List.set_cons_zero, List.set_cons_succ])
  refine wpAnyH_take (i := 19) (v := .int .i64 j.tm) rfl (by kernel_rfl) (by kernel_rfl) (by kernel_rfl) (fun _ _ _ h => h) (Or.inl ⟨by rfl, fun W hSV => ?_⟩) (by assumption) ?_
  · have hc : W.cell? ⟨V, 9, none⟩ = some (.int .i64 j.tm) := cell_block (j := 9) hSV rfl
    go_simp
  (try simp only [Act.put, List.getElem_toArray, List.getElem_cons_succ, List.getElem_cons_zero, List.setIfInBounds_toArray, List.set_cons_zero, List.set_cons_succ])
  refine wpAnyH_take (i := 20) (v := .pointer (some ⟨V, 10, none⟩)) rfl (by kernel_rfl) (by kernel_rfl) (by kernel_rfl) (fun _ _ _ h => h) (Or.inl ⟨by rfl, fun W hSV => ?_⟩) (by assumption) ?_
  · go_simp
  (try simp only [Act.put, List.getElem_toArray, List.getElem_cons_succ, List.getElem_cons_zero, List.setIfInBounds_toArray, List.set_cons_zero, List.set_cons_succ])
  refine wpAnyH_take (i := 21) (v := .int .i64 j.fe) rfl (by kernel_rfl) (by kernel_rfl) (by kernel_rfl) (fun _ _ _ h => h) (Or.inl ⟨by rfl, fun W hSV => ?_⟩) (by assumption) ?_
  · have hc : W.cell? ⟨V, 10, none⟩ = some (.int .i64 j.fe) := cell_block (j := 10) hSV rfl
    go_simp
  (try simp only [Act.put, List.getElem_toArray, List.getElem_cons_succ, List.getElem_cons_zero, List.setIfInBounds_toArray, List.set_cons_zero, List.set_cons_succ])
  refine wpAnyH_take (i := 24) (v := .pointer (some ⟨V, 11, none⟩)) rfl (by kernel_rfl) (by kernel_rfl) (by kernel_rfl) (fun _ _ _ h => h) (Or.inl ⟨by rfl, fun W hSV => ?_⟩) (by assumption) ?_
  · go_simp
  (try simp only [Act.put, List.getElem_toArray, List.getElem_cons_succ, List.getElem_cons_zero, List.setIfInBounds_toArray, List.set_cons_zero, List.set_cons_succ])
  refine wpAnyH_take (i := 25) (v := .slice a n c) rfl (by kernel_rfl) (by kernel_rfl) (by kernel_rfl) (fun _ _ _ h => h) (Or.inl ⟨by rfl, fun W hSV => ?_⟩) (by assumption) ?_
  · have hc : W.cell? ⟨V, 11, none⟩ = some (.slice a n c) := cell_block (j := 11) hSV rfl
    go_simp
  (try simp only [Act.put, List.getElem_toArray, List.getElem_cons_succ, List.getElem_cons_zero, List.setIfInBounds_toArray, List.set_cons_zero, List.set_cons_succ])
  refine wpAnyH_take (i := 28) (v := .pointer (some ⟨V, 12, none⟩)) rfl (by kernel_rfl) (by kernel_rfl) (by kernel_rfl) (fun _ _ _ h => h) (Or.inl ⟨by rfl, fun W hSV => ?_⟩) (by assumption) ?_
  · go_simp
  (try simp only [Act.put, List.getElem_toArray, List.getElem_cons_succ, List.getElem_cons_zero, List.setIfInBounds_toArray, List.set_cons_zero, List.set_cons_succ])
  refine wpAnyH_take (i := 29) (v := .int .i64 j.st) rfl (by kernel_rfl) (by kernel_rfl) (by kernel_rfl) (fun _ _ _ h => h) (Or.inl ⟨by rfl, fun W hSV => ?_⟩) (by assumption) ?_
  · have hc : W.cell? ⟨V, 12, none⟩ = some (.int .i64 j.st) := cell_block (j := 12) hSV rfl
    go_simp
  (try simp only [Act.put, List.getElem_toArray, List.getElem_cons_succ, List.getElem_cons_zero, List.setIfInBounds_toArray, List.set_cons_zero, List.set_cons_succ])
  refine wpAnyH_take (i := 30) (v := .pointer (some ⟨V, 13, none⟩)) rfl (by kernel_rfl) (by kernel_rfl) (by kernel_rfl) (fun _ _ _ h => h) (Or.inl ⟨by rfl, fun W hSV => ?_⟩) (by assumption) ?_
  · go_simp
  (try simp only [Act.put, List.getElem_toArray, List.getElem_cons_succ, List.getElem_cons_zero, List.setIfInBounds_toArray, List.set_cons_zero, List.set_cons_succ])
  refine wpAnyH_take (i := 31) (v := .int .i64 j.sr) rfl (by kernel_rfl) (by kernel_rfl) (by kernel_rfl) (fun _ _ _ h => h) (Or.inl ⟨by rfl, fun W hSV => ?_⟩) (by assumption) ?_
  · have hc : W.cell? ⟨V, 13, none⟩ = some (.int .i64 j.sr) := cell_block (j := 13) hSV rfl
    go_simp
  (try simp only [Act.put, List.getElem_toArray, List.getElem_cons_succ, List.getElem_cons_zero, List.setIfInBounds_toArray, List.set_cons_zero, List.set_cons_succ])
  refine wpAnyH_take (i := 32) (v := .pointer (some ⟨V, 14, none⟩)) rfl (by kernel_rfl) (by kernel_rfl) (by kernel_rfl) (fun _ _ _ h => h) (Or.inl ⟨by rfl, fun W hSV => ?_⟩) (by assumption) ?_
  · go_simp
  (try simp only [Act.put, List.getElem_toArray, List.getElem_cons_succ, List.getElem_cons_zero, List.setIfInBounds_toArray, List.set_cons_zero, List.set_cons_succ])
  refine wpAnyH_take (i := 33) (v := .int .i64 j.en) rfl (by kernel_rfl) (by kernel_rfl) (by kernel_rfl) (fun _ _ _ h => h) (Or.inl ⟨by rfl, fun W hSV => ?_⟩) (by assumption) ?_
  · have hc : W.cell? ⟨V, 14, none⟩ = some (.int .i64 j.en) := cell_block (j := 14) hSV rfl
    go_simp
  (try simp only [Act.put, List.getElem_toArray, List.getElem_cons_succ, List.getElem_cons_zero, List.setIfInBounds_toArray, List.set_cons_zero, List.set_cons_succ])
  refine wpAnyH_take (i := 34) (v := .pointer (some ⟨V, 15, none⟩)) rfl (by kernel_rfl) (by kernel_rfl) (by kernel_rfl) (fun _ _ _ h => h) (Or.inl ⟨by rfl, fun W hSV => ?_⟩) (by assumption) ?_
  · go_simp
  (try simp only [Act.put, List.getElem_toArray, List.getElem_cons_succ, List.getElem_cons_zero, List.setIfInBounds_toArray, List.set_cons_zero, List.set_cons_succ])
  refine wpAnyH_take (i := 35) (v := .int .i64 j.lf) rfl (by kernel_rfl) (by kernel_rfl) (by kernel_rfl) (fun _ _ _ h => h) (Or.inl ⟨by rfl, fun W hSV => ?_⟩) (by assumption) ?_
  · have hc : W.cell? ⟨V, 15, none⟩ = some (.int .i64 j.lf) := cell_block (j := 15) hSV rfl
    go_simp
  (try simp only [Act.put, List.getElem_toArray, List.getElem_cons_succ, List.getElem_cons_zero, List.setIfInBounds_toArray, List.set_cons_zero, List.set_cons_succ])
  have D0 : Hid (Below w1.heap.size w1 w1.drew) := Lib.hid (Below.refl _ w1).drew
  refine wpAnyH_ready (rs := [22, 36]) (by kernel_rfl) (by simp) ?_
  refine AllReadyH.cons (o := _) rfl (fun K hK => ?_) (AllReadyH.cons (o := _) rfl (fun K hK => ?_) AllReadyH.nil)
  · skip
    obtain ⟨A1, y1, hA, hY⟩ : ∃ A Y, w1.drew.heap.size = A ∧ w1.drew.alloc (.cells #[.int .i64 j.id, .int .i64 j.kd, .int .i64 j.ow, .int .i64 j.dv, .int .i64 j.pb, .int .i64 j.ba, .int .i64 j.dr, .int .i64 j.rn, .int .i64 j.cp, .int .i64 j.tm, .int .i64 j.fe] 3) = Y := ⟨_, _, rfl, rfl⟩
    have D1 : Hid (Below w1.heap.size w1 y1) := Lib.hid (by rw [← hY]; exact D0.out.alloc D0.out.size _)
    have R1 : Hid (IRow y1 (some ⟨A1, 0, none⟩) (front j)) := Lib.hid (by rw [← hY, ← hA]; exact irow_lay (front j) (heap_alloc_new w1.drew _) rfl)
    go_simp
    (try dsimp only)
    refine hK.out _ _ (HHS.out y1 D1.out) (fun hHeld => ?_)
    clear hK K hA hY
    (try simp only [Act.put, List.getElem_toArray, List.getElem_cons_succ, List.getElem_cons_zero, List.setIfInBounds_toArray, List.set_cons_zero, List.set_cons_succ])
    refine wpAnyH_ready (rs := [23, 36]) (by kernel_rfl) (by simp) ?_
    refine AllReadyH.cons (o := _) rfl (fun K hK => ?_) (AllReadyH.cons (o := _) rfl (fun K hK => ?_) AllReadyH.nil)
    · skip
      go_simp
      refine (HN1.out y1 A1 11 R1.out).mono ?_
      rintro e y2 ⟨rfl, G2⟩
      have D2 : Hid (Below w1.heap.size w1 y2) := Lib.hid (below_then D1.out G2.out)
      have Q2a : Hid (IRow y2 (some ⟨A1, 0, none⟩) (front j)) := Lib.hid (R1.out.under G2.out)
      (try dsimp only)
      refine hK.out _ _ (HHS.out y2 D2.out) (fun hHeld => ?_)
      clear hK K
      (try simp only [Act.put, List.getElem_toArray, List.getElem_cons_succ, List.getElem_cons_zero, List.setIfInBounds_toArray, List.set_cons_zero, List.set_cons_succ])
      refine wpAnyH_ready (rs := [26, 36]) (by kernel_rfl) (by simp) ?_
      refine AllReadyH.cons (o := _) rfl (fun K hK => ?_) (AllReadyH.cons (o := _) rfl (fun K hK => ?_) AllReadyH.nil)
      · skip
        go_simp
        refine (HST.out y2 (below_then HB1.out D2.out)).mono ?_
        rintro e y3 ⟨rfl, G3⟩
        have D3 : Hid (Below w1.heap.size w1 y3) := Lib.hid (below_then D2.out G3.out)
        have Q3a : Hid (IRow y3 (some ⟨A1, 0, none⟩) (front j)) := Lib.hid (Q2a.out.under G3.out)
        (try dsimp only)
        refine hK.out _ _ (HHS.out y3 D3.out) (fun hHeld => ?_)
        clear hK K
        (try simp only [Act.put, List.getElem_toArray, List.getElem_cons_succ, List.getElem_cons_zero, List.setIfInBounds_toArray, List.set_cons_zero, List.set_cons_succ])
        refine wpAnyH_take (i := 27) (v := .string (S1 ++ S2)) rfl (by kernel_rfl) (by kernel_rfl) (by kernel_rfl) (fun _ _ _ h => h) (Or.inl ⟨by rfl, fun W hSV => ?_⟩) (by assumption) ?_
        · go_simp
        (try simp only [Act.put, List.getElem_toArray, List.getElem_cons_succ, List.getElem_cons_zero, List.setIfInBounds_toArray, List.set_cons_zero, List.set_cons_succ])
        refine wpAnyH_ready (rs := [36]) (by kernel_rfl) (by simp) ?_
        refine AllReadyH.cons (o := _) rfl (fun K hK => ?_) AllReadyH.nil
        obtain ⟨A4, y4, hA, hY⟩ : ∃ A Y, y3.heap.size = A ∧ y3.alloc (.cells #[.int .i64 j.st, .int .i64 j.sr, .int .i64 j.en, .int .i64 j.lf] 3) = Y := ⟨_, _, rfl, rfl⟩
        have D4 : Hid (Below w1.heap.size w1 y4) := Lib.hid (by rw [← hY]; exact D3.out.alloc D3.out.size _)
        have R4 : Hid (IRow y4 (some ⟨A4, 0, none⟩) (back j)) := Lib.hid (by rw [← hY, ← hA]; exact irow_lay (back j) (heap_alloc_new y3 _) rfl)
        have Q4 : Hid (IRow y4 (some ⟨A1, 0, none⟩) (front j)) := Lib.hid (Q3a.out.under (by rw [← hY]; exact (Below.refl _ y3).alloc (Nat.le_refl _) _))
        go_simp
        (try dsimp only)
        refine hK.out _ _ (HHS.out y4 D4.out) (fun hHeld => ?_)
        clear hK K hA hY
        (try simp only [Act.put, List.getElem_toArray, List.getElem_cons_succ, List.getElem_cons_zero, List.setIfInBounds_toArray, List.set_cons_zero, List.set_cons_succ])
        refine wpAnyH_ready (rs := [37]) (by kernel_rfl) (by simp) ?_
        refine AllReadyH.cons (o := _) rfl (fun K hK => ?_) AllReadyH.nil
        go_simp
        refine (HN3.out y4 A4 4 R4.out).mono ?_
        rintro e y5 ⟨rfl, G5⟩
        have D5 : Hid (Below w1.heap.size w1 y5) := Lib.hid (below_then D4.out G5.out)
        have Q5a : Hid (IRow y5 (some ⟨A1, 0, none⟩) (front j)) := Lib.hid (Q4.out.under G5.out)
        have Q5b : Hid (IRow y5 (some ⟨A4, 0, none⟩) (back j)) := Lib.hid (R4.out.under G5.out)
        (try dsimp only)
        refine hK.out _ _ (HHS.out y5 D5.out) (fun hHeld => ?_)
        clear hK K
        (try simp only [Act.put, List.getElem_toArray, List.getElem_cons_succ, List.getElem_cons_zero, List.setIfInBounds_toArray, List.set_cons_zero, List.set_cons_succ])
        refine wpAnyH_take (i := 38) (v := .string (S1 ++ S2 ++ S3)) rfl (by kernel_rfl) (by kernel_rfl) (by kernel_rfl) (fun _ _ _ h => h) (Or.inl ⟨by rfl, fun W hSV => ?_⟩) (by assumption) ?_
        · go_simp
        (try simp only [Act.put, List.getElem_toArray, List.getElem_cons_succ, List.getElem_cons_zero, List.setIfInBounds_toArray, List.set_cons_zero, List.set_cons_succ])
        refine wpAnyH_take (i := 39) (v := .string (S1 ++ S2 ++ S3)) rfl (by kernel_rfl) (by kernel_rfl) (by kernel_rfl) (fun _ _ _ h => h) (Or.inl ⟨by rfl, fun W hSV => ?_⟩) (by assumption) ?_
        · go_simp
        (try simp only [Act.put, List.getElem_toArray, List.getElem_cons_succ, List.getElem_cons_zero, List.setIfInBounds_toArray, List.set_cons_zero, List.set_cons_succ])
        refine wpAnyH_take (i := 40) (v := .int .i64 0) rfl (by kernel_rfl) (by kernel_rfl) (by kernel_rfl) (fun _ _ _ h => h) (Or.inl ⟨by rfl, fun W hSV => ?_⟩) (by assumption) ?_
        · go_simp
        (try simp only [Act.put, List.getElem_toArray, List.getElem_cons_succ, List.getElem_cons_zero, List.setIfInBounds_toArray, List.set_cons_zero, List.set_cons_succ])
        refine wpAnyH_done (by kernel_rfl) ?_ _
        go_wp2_with fail
        go_ret2
        exact ⟨by rw [HEND.out]; rfl, Lib.hid (below_then HXB.out.1 (below_then HB1.out D5.out))⟩
      · skip
        obtain ⟨A6, y6, hA, hY⟩ : ∃ A Y, y2.heap.size = A ∧ y2.alloc (.cells #[.int .i64 j.st, .int .i64 j.sr, .int .i64 j.en, .int .i64 j.lf] 3) = Y := ⟨_, _, rfl, rfl⟩
        have D6 : Hid (Below w1.heap.size w1 y6) := Lib.hid (by rw [← hY]; exact D2.out.alloc D2.out.size _)
        have R6 : Hid (IRow y6 (some ⟨A6, 0, none⟩) (back j)) := Lib.hid (by rw [← hY, ← hA]; exact irow_lay (back j) (heap_alloc_new y2 _) rfl)
        have Q6 : Hid (IRow y6 (some ⟨A1, 0, none⟩) (front j)) := Lib.hid (Q2a.out.under (by rw [← hY]; exact (Below.refl _ y2).alloc (Nat.le_refl _) _))
        go_simp
        (try dsimp only)
        refine hK.out _ _ (HHS.out y6 D6.out) (fun hHeld => ?_)
        clear hK K hA hY
        (try simp only [Act.put, List.getElem_toArray, List.getElem_cons_succ, List.getElem_cons_zero, List.setIfInBounds_toArray, List.set_cons_zero, List.set_cons_succ])
        refine wpAnyH_ready (rs := [26]) (by kernel_rfl) (by simp) ?_
        refine AllReadyH.cons (o := _) rfl (fun K hK => ?_) AllReadyH.nil
        go_simp
        refine (HST.out y6 (below_then HB1.out D6.out)).mono ?_
        rintro e y7 ⟨rfl, G7⟩
        have D7 : Hid (Below w1.heap.size w1 y7) := Lib.hid (below_then D6.out G7.out)
        have Q7a : Hid (IRow y7 (some ⟨A1, 0, none⟩) (front j)) := Lib.hid (Q6.out.under G7.out)
        have Q7b : Hid (IRow y7 (some ⟨A6, 0, none⟩) (back j)) := Lib.hid (R6.out.under G7.out)
        (try dsimp only)
        refine hK.out _ _ (HHS.out y7 D7.out) (fun hHeld => ?_)
        clear hK K
        (try simp only [Act.put, List.getElem_toArray, List.getElem_cons_succ, List.getElem_cons_zero, List.setIfInBounds_toArray, List.set_cons_zero, List.set_cons_succ])
        refine wpAnyH_take (i := 27) (v := .string (S1 ++ S2)) rfl (by kernel_rfl) (by kernel_rfl) (by kernel_rfl) (fun _ _ _ h => h) (Or.inl ⟨by rfl, fun W hSV => ?_⟩) (by assumption) ?_
        · go_simp
        (try simp only [Act.put, List.getElem_toArray, List.getElem_cons_succ, List.getElem_cons_zero, List.setIfInBounds_toArray, List.set_cons_zero, List.set_cons_succ])
        refine wpAnyH_ready (rs := [37]) (by kernel_rfl) (by simp) ?_
        refine AllReadyH.cons (o := _) rfl (fun K hK => ?_) AllReadyH.nil
        go_simp
        refine (HN3.out y7 A6 4 Q7b.out).mono ?_
        rintro e y8 ⟨rfl, G8⟩
        have D8 : Hid (Below w1.heap.size w1 y8) := Lib.hid (below_then D7.out G8.out)
        have Q8a : Hid (IRow y8 (some ⟨A1, 0, none⟩) (front j)) := Lib.hid (Q7a.out.under G8.out)
        have Q8b : Hid (IRow y8 (some ⟨A6, 0, none⟩) (back j)) := Lib.hid (Q7b.out.under G8.out)
        (try dsimp only)
        refine hK.out _ _ (HHS.out y8 D8.out) (fun hHeld => ?_)
        clear hK K
        (try simp only [Act.put, List.getElem_toArray, List.getElem_cons_succ, List.getElem_cons_zero, List.setIfInBounds_toArray, List.set_cons_zero, List.set_cons_succ])
        refine wpAnyH_take (i := 38) (v := .string (S1 ++ S2 ++ S3)) rfl (by kernel_rfl) (by kernel_rfl) (by kernel_rfl) (fun _ _ _ h => h) (Or.inl ⟨by rfl, fun W hSV => ?_⟩) (by assumption) ?_
        · go_simp
        (try simp only [Act.put, List.getElem_toArray, List.getElem_cons_succ, List.getElem_cons_zero, List.setIfInBounds_toArray, List.set_cons_zero, List.set_cons_succ])
        refine wpAnyH_take (i := 39) (v := .string (S1 ++ S2 ++ S3)) rfl (by kernel_rfl) (by kernel_rfl) (by kernel_rfl) (fun _ _ _ h => h) (Or.inl ⟨by rfl, fun W hSV => ?_⟩) (by assumption) ?_
        · go_simp
        (try simp only [Act.put, List.getElem_toArray, List.getElem_cons_succ, List.getElem_cons_zero, List.setIfInBounds_toArray, List.set_cons_zero, List.set_cons_succ])
        refine wpAnyH_take (i := 40) (v := .int .i64 0) rfl (by kernel_rfl) (by kernel_rfl) (by kernel_rfl) (fun _ _ _ h => h) (Or.inl ⟨by rfl, fun W hSV => ?_⟩) (by assumption) ?_
        · go_simp
        (try simp only [Act.put, List.getElem_toArray, List.getElem_cons_succ, List.getElem_cons_zero, List.setIfInBounds_toArray, List.set_cons_zero, List.set_cons_succ])
        refine wpAnyH_done (by kernel_rfl) ?_ _
        go_wp2_with fail
        go_ret2
        exact ⟨by rw [HEND.out]; rfl, Lib.hid (below_then HXB.out.1 (below_then HB1.out D8.out))⟩
    · skip
      obtain ⟨A9, y9, hA, hY⟩ : ∃ A Y, y1.heap.size = A ∧ y1.alloc (.cells #[.int .i64 j.st, .int .i64 j.sr, .int .i64 j.en, .int .i64 j.lf] 3) = Y := ⟨_, _, rfl, rfl⟩
      have D9 : Hid (Below w1.heap.size w1 y9) := Lib.hid (by rw [← hY]; exact D1.out.alloc D1.out.size _)
      have R9 : Hid (IRow y9 (some ⟨A9, 0, none⟩) (back j)) := Lib.hid (by rw [← hY, ← hA]; exact irow_lay (back j) (heap_alloc_new y1 _) rfl)
      have Q9 : Hid (IRow y9 (some ⟨A1, 0, none⟩) (front j)) := Lib.hid (R1.out.under (by rw [← hY]; exact (Below.refl _ y1).alloc (Nat.le_refl _) _))
      go_simp
      (try dsimp only)
      refine hK.out _ _ (HHS.out y9 D9.out) (fun hHeld => ?_)
      clear hK K hA hY
      (try simp only [Act.put, List.getElem_toArray, List.getElem_cons_succ, List.getElem_cons_zero, List.setIfInBounds_toArray, List.set_cons_zero, List.set_cons_succ])
      refine wpAnyH_ready (rs := [23]) (by kernel_rfl) (by simp) ?_
      refine AllReadyH.cons (o := _) rfl (fun K hK => ?_) AllReadyH.nil
      go_simp
      refine (HN1.out y9 A1 11 Q9.out).mono ?_
      rintro e y10 ⟨rfl, G10⟩
      have D10 : Hid (Below w1.heap.size w1 y10) := Lib.hid (below_then D9.out G10.out)
      have Q10a : Hid (IRow y10 (some ⟨A1, 0, none⟩) (front j)) := Lib.hid (Q9.out.under G10.out)
      have Q10b : Hid (IRow y10 (some ⟨A9, 0, none⟩) (back j)) := Lib.hid (R9.out.under G10.out)
      (try dsimp only)
      refine hK.out _ _ (HHS.out y10 D10.out) (fun hHeld => ?_)
      clear hK K
      (try simp only [Act.put, List.getElem_toArray, List.getElem_cons_succ, List.getElem_cons_zero, List.setIfInBounds_toArray, List.set_cons_zero, List.set_cons_succ])
      refine wpAnyH_ready (rs := [26]) (by kernel_rfl) (by simp) ?_
      refine AllReadyH.cons (o := _) rfl (fun K hK => ?_) AllReadyH.nil
      go_simp
      refine (HST.out y10 (below_then HB1.out D10.out)).mono ?_
      rintro e y11 ⟨rfl, G11⟩
      have D11 : Hid (Below w1.heap.size w1 y11) := Lib.hid (below_then D10.out G11.out)
      have Q11a : Hid (IRow y11 (some ⟨A1, 0, none⟩) (front j)) := Lib.hid (Q10a.out.under G11.out)
      have Q11b : Hid (IRow y11 (some ⟨A9, 0, none⟩) (back j)) := Lib.hid (Q10b.out.under G11.out)
      (try dsimp only)
      refine hK.out _ _ (HHS.out y11 D11.out) (fun hHeld => ?_)
      clear hK K
      (try simp only [Act.put, List.getElem_toArray, List.getElem_cons_succ, List.getElem_cons_zero, List.setIfInBounds_toArray, List.set_cons_zero, List.set_cons_succ])
      refine wpAnyH_take (i := 27) (v := .string (S1 ++ S2)) rfl (by kernel_rfl) (by kernel_rfl) (by kernel_rfl) (fun _ _ _ h => h) (Or.inl ⟨by rfl, fun W hSV => ?_⟩) (by assumption) ?_
      · go_simp
      (try simp only [Act.put, List.getElem_toArray, List.getElem_cons_succ, List.getElem_cons_zero, List.setIfInBounds_toArray, List.set_cons_zero, List.set_cons_succ])
      refine wpAnyH_ready (rs := [37]) (by kernel_rfl) (by simp) ?_
      refine AllReadyH.cons (o := _) rfl (fun K hK => ?_) AllReadyH.nil
      go_simp
      refine (HN3.out y11 A9 4 Q11b.out).mono ?_
      rintro e y12 ⟨rfl, G12⟩
      have D12 : Hid (Below w1.heap.size w1 y12) := Lib.hid (below_then D11.out G12.out)
      have Q12a : Hid (IRow y12 (some ⟨A1, 0, none⟩) (front j)) := Lib.hid (Q11a.out.under G12.out)
      have Q12b : Hid (IRow y12 (some ⟨A9, 0, none⟩) (back j)) := Lib.hid (Q11b.out.under G12.out)
      (try dsimp only)
      refine hK.out _ _ (HHS.out y12 D12.out) (fun hHeld => ?_)
      clear hK K
      (try simp only [Act.put, List.getElem_toArray, List.getElem_cons_succ, List.getElem_cons_zero, List.setIfInBounds_toArray, List.set_cons_zero, List.set_cons_succ])
      refine wpAnyH_take (i := 38) (v := .string (S1 ++ S2 ++ S3)) rfl (by kernel_rfl) (by kernel_rfl) (by kernel_rfl) (fun _ _ _ h => h) (Or.inl ⟨by rfl, fun W hSV => ?_⟩) (by assumption) ?_
      · go_simp
      (try simp only [Act.put, List.getElem_toArray, List.getElem_cons_succ, List.getElem_cons_zero, List.setIfInBounds_toArray, List.set_cons_zero, List.set_cons_succ])
      refine wpAnyH_take (i := 39) (v := .string (S1 ++ S2 ++ S3)) rfl (by kernel_rfl) (by kernel_rfl) (by kernel_rfl) (fun _ _ _ h => h) (Or.inl ⟨by rfl, fun W hSV => ?_⟩) (by assumption) ?_
      · go_simp
      (try simp only [Act.put, List.getElem_toArray, List.getElem_cons_succ, List.getElem_cons_zero, List.setIfInBounds_toArray, List.set_cons_zero, List.set_cons_succ])
      refine wpAnyH_take (i := 40) (v := .int .i64 0) rfl (by kernel_rfl) (by kernel_rfl) (by kernel_rfl) (fun _ _ _ h => h) (Or.inl ⟨by rfl, fun W hSV => ?_⟩) (by assumption) ?_
      · go_simp
      (try simp only [Act.put, List.getElem_toArray, List.getElem_cons_succ, List.getElem_cons_zero, List.setIfInBounds_toArray, List.set_cons_zero, List.set_cons_succ])
      refine wpAnyH_done (by kernel_rfl) ?_ _
      go_wp2_with fail
      go_ret2
      exact ⟨by rw [HEND.out]; rfl, Lib.hid (below_then HXB.out.1 (below_then HB1.out D12.out))⟩
  · skip
    obtain ⟨A13, y13, hA, hY⟩ : ∃ A Y, w1.drew.heap.size = A ∧ w1.drew.alloc (.cells #[.int .i64 j.st, .int .i64 j.sr, .int .i64 j.en, .int .i64 j.lf] 3) = Y := ⟨_, _, rfl, rfl⟩
    have D13 : Hid (Below w1.heap.size w1 y13) := Lib.hid (by rw [← hY]; exact D0.out.alloc D0.out.size _)
    have R13 : Hid (IRow y13 (some ⟨A13, 0, none⟩) (back j)) := Lib.hid (by rw [← hY, ← hA]; exact irow_lay (back j) (heap_alloc_new w1.drew _) rfl)
    go_simp
    (try dsimp only)
    refine hK.out _ _ (HHS.out y13 D13.out) (fun hHeld => ?_)
    clear hK K hA hY
    (try simp only [Act.put, List.getElem_toArray, List.getElem_cons_succ, List.getElem_cons_zero, List.setIfInBounds_toArray, List.set_cons_zero, List.set_cons_succ])
    refine wpAnyH_ready (rs := [22]) (by kernel_rfl) (by simp) ?_
    refine AllReadyH.cons (o := _) rfl (fun K hK => ?_) AllReadyH.nil
    obtain ⟨A14, y14, hA, hY⟩ : ∃ A Y, y13.heap.size = A ∧ y13.alloc (.cells #[.int .i64 j.id, .int .i64 j.kd, .int .i64 j.ow, .int .i64 j.dv, .int .i64 j.pb, .int .i64 j.ba, .int .i64 j.dr, .int .i64 j.rn, .int .i64 j.cp, .int .i64 j.tm, .int .i64 j.fe] 3) = Y := ⟨_, _, rfl, rfl⟩
    have D14 : Hid (Below w1.heap.size w1 y14) := Lib.hid (by rw [← hY]; exact D13.out.alloc D13.out.size _)
    have R14 : Hid (IRow y14 (some ⟨A14, 0, none⟩) (front j)) := Lib.hid (by rw [← hY, ← hA]; exact irow_lay (front j) (heap_alloc_new y13 _) rfl)
    have Q14 : Hid (IRow y14 (some ⟨A13, 0, none⟩) (back j)) := Lib.hid (R13.out.under (by rw [← hY]; exact (Below.refl _ y13).alloc (Nat.le_refl _) _))
    go_simp
    (try dsimp only)
    refine hK.out _ _ (HHS.out y14 D14.out) (fun hHeld => ?_)
    clear hK K hA hY
    (try simp only [Act.put, List.getElem_toArray, List.getElem_cons_succ, List.getElem_cons_zero, List.setIfInBounds_toArray, List.set_cons_zero, List.set_cons_succ])
    refine wpAnyH_ready (rs := [23]) (by kernel_rfl) (by simp) ?_
    refine AllReadyH.cons (o := _) rfl (fun K hK => ?_) AllReadyH.nil
    go_simp
    refine (HN1.out y14 A14 11 R14.out).mono ?_
    rintro e y15 ⟨rfl, G15⟩
    have D15 : Hid (Below w1.heap.size w1 y15) := Lib.hid (below_then D14.out G15.out)
    have Q15b : Hid (IRow y15 (some ⟨A13, 0, none⟩) (back j)) := Lib.hid (Q14.out.under G15.out)
    have Q15a : Hid (IRow y15 (some ⟨A14, 0, none⟩) (front j)) := Lib.hid (R14.out.under G15.out)
    (try dsimp only)
    refine hK.out _ _ (HHS.out y15 D15.out) (fun hHeld => ?_)
    clear hK K
    (try simp only [Act.put, List.getElem_toArray, List.getElem_cons_succ, List.getElem_cons_zero, List.setIfInBounds_toArray, List.set_cons_zero, List.set_cons_succ])
    refine wpAnyH_ready (rs := [26]) (by kernel_rfl) (by simp) ?_
    refine AllReadyH.cons (o := _) rfl (fun K hK => ?_) AllReadyH.nil
    go_simp
    refine (HST.out y15 (below_then HB1.out D15.out)).mono ?_
    rintro e y16 ⟨rfl, G16⟩
    have D16 : Hid (Below w1.heap.size w1 y16) := Lib.hid (below_then D15.out G16.out)
    have Q16b : Hid (IRow y16 (some ⟨A13, 0, none⟩) (back j)) := Lib.hid (Q15b.out.under G16.out)
    have Q16a : Hid (IRow y16 (some ⟨A14, 0, none⟩) (front j)) := Lib.hid (Q15a.out.under G16.out)
    (try dsimp only)
    refine hK.out _ _ (HHS.out y16 D16.out) (fun hHeld => ?_)
    clear hK K
    (try simp only [Act.put, List.getElem_toArray, List.getElem_cons_succ, List.getElem_cons_zero, List.setIfInBounds_toArray, List.set_cons_zero, List.set_cons_succ])
    refine wpAnyH_take (i := 27) (v := .string (S1 ++ S2)) rfl (by kernel_rfl) (by kernel_rfl) (by kernel_rfl) (fun _ _ _ h => h) (Or.inl ⟨by rfl, fun W hSV => ?_⟩) (by assumption) ?_
    · go_simp
    (try simp only [Act.put, List.getElem_toArray, List.getElem_cons_succ, List.getElem_cons_zero, List.setIfInBounds_toArray, List.set_cons_zero, List.set_cons_succ])
    refine wpAnyH_ready (rs := [37]) (by kernel_rfl) (by simp) ?_
    refine AllReadyH.cons (o := _) rfl (fun K hK => ?_) AllReadyH.nil
    go_simp
    refine (HN3.out y16 A13 4 Q16b.out).mono ?_
    rintro e y17 ⟨rfl, G17⟩
    have D17 : Hid (Below w1.heap.size w1 y17) := Lib.hid (below_then D16.out G17.out)
    have Q17b : Hid (IRow y17 (some ⟨A13, 0, none⟩) (back j)) := Lib.hid (Q16b.out.under G17.out)
    have Q17a : Hid (IRow y17 (some ⟨A14, 0, none⟩) (front j)) := Lib.hid (Q16a.out.under G17.out)
    (try dsimp only)
    refine hK.out _ _ (HHS.out y17 D17.out) (fun hHeld => ?_)
    clear hK K
    (try simp only [Act.put, List.getElem_toArray, List.getElem_cons_succ, List.getElem_cons_zero, List.setIfInBounds_toArray, List.set_cons_zero, List.set_cons_succ])
    refine wpAnyH_take (i := 38) (v := .string (S1 ++ S2 ++ S3)) rfl (by kernel_rfl) (by kernel_rfl) (by kernel_rfl) (fun _ _ _ h => h) (Or.inl ⟨by rfl, fun W hSV => ?_⟩) (by assumption) ?_
    · go_simp
    (try simp only [Act.put, List.getElem_toArray, List.getElem_cons_succ, List.getElem_cons_zero, List.setIfInBounds_toArray, List.set_cons_zero, List.set_cons_succ])
    refine wpAnyH_take (i := 39) (v := .string (S1 ++ S2 ++ S3)) rfl (by kernel_rfl) (by kernel_rfl) (by kernel_rfl) (fun _ _ _ h => h) (Or.inl ⟨by rfl, fun W hSV => ?_⟩) (by assumption) ?_
    · go_simp
    (try simp only [Act.put, List.getElem_toArray, List.getElem_cons_succ, List.getElem_cons_zero, List.setIfInBounds_toArray, List.set_cons_zero, List.set_cons_succ])
    refine wpAnyH_take (i := 40) (v := .int .i64 0) rfl (by kernel_rfl) (by kernel_rfl) (by kernel_rfl) (fun _ _ _ h => h) (Or.inl ⟨by rfl, fun W hSV => ?_⟩) (by assumption) ?_
    · go_simp
    (try simp only [Act.put, List.getElem_toArray, List.getElem_cons_succ, List.getElem_cons_zero, List.setIfInBounds_toArray, List.set_cons_zero, List.set_cons_succ])
    refine wpAnyH_done (by kernel_rfl) ?_ _
    go_wp2_with fail
    go_ret2
    exact ⟨by rw [HEND.out]; rfl, Lib.hid (below_then HXB.out.1 (below_then HB1.out D17.out))⟩
end Go.Proofs.Ytghlgmlelipjfaa.Job
