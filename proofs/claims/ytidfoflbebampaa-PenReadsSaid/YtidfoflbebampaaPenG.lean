/- The document's reader walked: Times, Text, Left and Done. -/
import Derived.Test.YtidfoflbebampaaPenF
namespace Go.Proofs.Ytidfoflbebampaa
open Go.RowKit Go.Lib

theorem link_size {S s : ByteArray} {a : Nat} (h : Link S (some s) a) : s.size = S.size - a ∧ a ≤ S.size := by
  rw [h.2 s rfl, ByteArray.size_extract]; exact ⟨by omega, h.1⟩
theorem tm_none {st : Option ByteArray} {most : Int} (h : uiS st most = none) : tmN st most = 0 ∧ tmS st most = none := by
  unfold tmN tmS
  rw [ui_none h, h]
  simp [leftOf]
theorem tm_over {st : Option ByteArray} {most : Int} {s : ByteArray} (h : uiS st most = some s) (hn : s.size < uiN st most) : tmN st most = 0 ∧ tmS st most = none := by
  unfold tmN tmS
  rw [h]
  have : leftOf (some s) < (uiN st most : Int) := by simp only [leftOf]; omega
  rw [if_pos this, if_pos this]; exact ⟨rfl, rfl⟩
theorem tm_in {st : Option ByteArray} {most : Int} {s : ByteArray} (h : uiS st most = some s) (hn : ¬ s.size < uiN st most) : tmN st most = uiN st most ∧ tmS st most = some s := by
  unfold tmN tmS
  rw [h]
  have : ¬ leftOf (some s) < (uiN st most : Int) := by simp only [leftOf]; omega
  rw [if_neg this, if_neg this]; exact ⟨rfl, rfl⟩

set_option maxHeartbeats 2000000 in
theorem rtimes_any (Q : Nat) (S : ByteArray) (st : Option ByteArray) (a : Nat) (most : Int) (w : World) (h : Rq w Q S a (isBad st)) (hl : Link S st a) (hS : S.size ≤ 4611686018427387904) (hm : most ≤ 9223372036854775807) :
    Calls Try.prog 22 #[.pointer (some ⟨Q, 0, none⟩), .int .i64 most] w fun e w' => e = .returned (.int .i64 (tmN st most)) ∧ RqTo w w' Q S (tmS st most) := by
  obtain ⟨n, hn⟩ : ∃ n, uiN st most = n := ⟨_, rfl⟩
  have hle := uiN_le st most hm
  rw [hn] at hle
  have HN := Lib.hid hn
  cases hs : uiS st most with
  | none =>
    obtain ⟨hN, hSt⟩ := tm_none hs
    have HNN := Lib.hid hN; have HSS := Lib.hid hSt; have HS := Lib.hid hs
    clear hN hSt hn hs
    go_enter Try.func22, Try.ntmps22
    go_wp2_with fail
    refine (ruint_any Q S st a most _ h hl hS hm).mono ?_
    rintro e w1 ⟨rfl, ⟨a1, H1, hl1⟩, hg1⟩
    rw [HN.out]
    rw [HS.out] at H1
    obtain ⟨c0, c1, c2, f0, f1, f2⟩ := H1.cells
    have c2' : w1.cell? ⟨Q, 2, none⟩ = some (.bool true) := c2
    clear c2
    go_wp2_with fail
    go_quiet (fail)
    go_wp2_with fail
    refine (fails_any Q S a1 _ _ (H1.drewN _)).mono ?_
    rintro e w2 ⟨rfl, H2, hg2⟩
    go_wp2_with fail
    go_ret
    exact ⟨ret_i64 (by rw [HNN.out]; rfl), by rw [HSS.out]; exact ⟨⟨a1, H2, Link.none hl1.1⟩, only_trans (only_drewN hg1 _) hg2⟩⟩
  | some s =>
    by_cases hov : s.size < n
    · obtain ⟨hN, hSt⟩ := tm_over hs (by omega)
      have HNN := Lib.hid hN; have HSS := Lib.hid hSt; have HS := Lib.hid hs
      clear hN hSt hn hs
      go_enter Try.func22, Try.ntmps22
      go_wp2_with fail
      refine (ruint_any Q S st a most _ h hl hS hm).mono ?_
      rintro e w1 ⟨rfl, ⟨a1, H1, hl1⟩, hg1⟩
      rw [HN.out]
      rw [HS.out] at H1 hl1
      obtain ⟨hz1, hz2⟩ := link_size hl1
      have hd : decide ((S.size : Int) - (a1 : Int) < (n : Int)) = true := by simp; omega
      have hw1 : IntKind.i64.wrap ((S.size : Int) - (a1 : Int)) = (S.size : Int) - (a1 : Int) := IntWalk.i64_in _ (by omega)
      clear hz1
      obtain ⟨c0, c1, c2, f0, f1, f2⟩ := H1.cells
      have c2' : w1.cell? ⟨Q, 2, none⟩ = some (.bool false) := c2
      clear c2
      go_wp2_with fail
      go_quiet (fail)
      go_wp2_with fail
      refine (fails_any Q S a1 _ _ (H1.drewN _)).mono ?_
      rintro e w2 ⟨rfl, H2, hg2⟩
      go_wp2_with fail
      go_ret
      exact ⟨ret_i64 (by rw [HNN.out]; rfl), by rw [HSS.out]; exact ⟨⟨a1, H2, Link.none hl1.1⟩, only_trans (only_drewN hg1 _) hg2⟩⟩
    · obtain ⟨hN, hSt⟩ := tm_in hs (by omega)
      rw [hn] at hN
      have HNN := Lib.hid hN; have HSS := Lib.hid hSt; have HS := Lib.hid hs
      clear hN hSt hn hs
      go_enter Try.func22, Try.ntmps22
      go_wp2_with fail
      refine (ruint_any Q S st a most _ h hl hS hm).mono ?_
      rintro e w1 ⟨rfl, ⟨a1, H1, hl1⟩, hg1⟩
      rw [HN.out]
      rw [HS.out] at H1 hl1
      obtain ⟨hz1, hz2⟩ := link_size hl1
      have hd : decide ((S.size : Int) - (a1 : Int) < (n : Int)) = false := by simp; omega
      have hw1 : IntKind.i64.wrap ((S.size : Int) - (a1 : Int)) = (S.size : Int) - (a1 : Int) := IntWalk.i64_in _ (by omega)
      clear hz1
      obtain ⟨c0, c1, c2, f0, f1, f2⟩ := H1.cells
      have c2' : w1.cell? ⟨Q, 2, none⟩ = some (.bool false) := c2
      clear c2
      go_wp2_with fail
      go_quiet (fail)
      go_wp2_with fail
      go_ret
      exact ⟨ret_i64 (by rw [HNN.out]), by rw [HSS.out]; exact ⟨⟨a1, H1, hl1⟩, only_drewN hg1 _⟩⟩

set_option maxHeartbeats 2000000 in
theorem rtext_any (Q : Nat) (S : ByteArray) (st : Option ByteArray) (a : Nat) (most : Int) (w : World) (h : Rq w Q S a (isBad st)) (hl : Link S st a) (hS : S.size ≤ 4611686018427387904) (hm : most ≤ 9223372036854775807) :
    Calls Try.prog 20 #[.pointer (some ⟨Q, 0, none⟩), .int .i64 most] w fun e w' => e = .returned (.string (txV st most)) ∧ RqTo w w' Q S (txS st most) := by
  obtain ⟨n, hn⟩ : ∃ n, uiN st most = n := ⟨_, rfl⟩
  have hle := uiN_le st most hm
  rw [hn] at hle
  have HN := Lib.hid hn
  cases hs : uiS st most with
  | none =>
    have hV : txV st most = ⟨#[]⟩ := by unfold txV; rw [(tm_none hs).2]
    have hSt : txS st most = none := by unfold txS; rw [(tm_none hs).2]
    have HV := Lib.hid hV; have HSS := Lib.hid hSt; have HS := Lib.hid hs
    clear hV hSt hn hs
    go_enter Try.func20, Try.ntmps20
    go_wp2_with fail
    refine (ruint_any Q S st a most _ h hl hS hm).mono ?_
    rintro e w1 ⟨rfl, ⟨a1, H1, hl1⟩, hg1⟩
    rw [HN.out]
    rw [HS.out] at H1
    obtain ⟨c0, c1, c2, f0, f1, f2⟩ := H1.cells
    have c2' : w1.cell? ⟨Q, 2, none⟩ = some (.bool true) := c2
    clear c2
    go_wp2_with fail
    go_quiet (fail)
    go_wp2_with fail
    refine (fails_any Q S a1 _ _ (H1.drewN _)).mono ?_
    rintro e w2 ⟨rfl, H2, hg2⟩
    go_wp2_with fail
    go_ret
    exact ⟨ret_str (by rw [HV.out]), by rw [HSS.out]; exact ⟨⟨a1, H2, Link.none hl1.1⟩, only_trans (only_drewN hg1 _) hg2⟩⟩
  | some s =>
    by_cases hov : s.size < n
    · have hV : txV st most = ⟨#[]⟩ := by unfold txV; rw [(tm_over hs (by omega)).2]
      have hSt : txS st most = none := by unfold txS; rw [(tm_over hs (by omega)).2]
      have HV := Lib.hid hV; have HSS := Lib.hid hSt; have HS := Lib.hid hs
      clear hV hSt hn hs
      go_enter Try.func20, Try.ntmps20
      go_wp2_with fail
      refine (ruint_any Q S st a most _ h hl hS hm).mono ?_
      rintro e w1 ⟨rfl, ⟨a1, H1, hl1⟩, hg1⟩
      rw [HN.out]
      rw [HS.out] at H1 hl1
      obtain ⟨hz1, hz2⟩ := link_size hl1
      have hd : decide ((S.size : Int) - (a1 : Int) < (n : Int)) = true := by simp; omega
      have hw1 : IntKind.i64.wrap ((S.size : Int) - (a1 : Int)) = (S.size : Int) - (a1 : Int) := IntWalk.i64_in _ (by omega)
      clear hz1
      obtain ⟨c0, c1, c2, f0, f1, f2⟩ := H1.cells
      have c2' : w1.cell? ⟨Q, 2, none⟩ = some (.bool false) := c2
      clear c2
      go_wp2_with fail
      go_quiet (fail)
      go_wp2_with fail
      refine (fails_any Q S a1 _ _ (H1.drewN _)).mono ?_
      rintro e w2 ⟨rfl, H2, hg2⟩
      go_wp2_with fail
      go_ret
      exact ⟨ret_str (by rw [HV.out]), by rw [HSS.out]; exact ⟨⟨a1, H2, Link.none hl1.1⟩, only_trans (only_drewN hg1 _) hg2⟩⟩
    · have hV : txV st most = s.extract 0 n := by unfold txV; rw [(tm_in hs (by omega)).2, (tm_in hs (by omega)).1, hn]
      have hSt : txS st most = some (s.extract n s.size) := by unfold txS; rw [(tm_in hs (by omega)).2, (tm_in hs (by omega)).1, hn]
      have HV := Lib.hid hV; have HSS := Lib.hid hSt; have HS := Lib.hid hs
      clear hV hSt hn hs
      go_enter Try.func20, Try.ntmps20
      go_wp2_with fail
      refine (ruint_any Q S st a most _ h hl hS hm).mono ?_
      rintro e w1 ⟨rfl, ⟨a1, H1, hl1⟩, hg1⟩
      rw [HN.out]
      rw [HS.out] at H1 hl1
      obtain ⟨hz1, hz2⟩ := link_size hl1
      have hd : decide ((S.size : Int) - (a1 : Int) < (n : Int)) = false := by simp; omega
      have hb : (a1 : Int) + (n : Int) ≤ (S.size : Int) := by omega
      have hw1 : IntKind.i64.wrap ((S.size : Int) - (a1 : Int)) = (S.size : Int) - (a1 : Int) := IntWalk.i64_in _ (by omega)
      have hw2 : IntKind.i64.wrap ((a1 : Int) + (n : Int) - (n : Int)) = (a1 : Int) := by rw [IntWalk.i64_in _ (by omega)]; omega
      clear hz1
      obtain ⟨c0, c1, c2, f0, f1, f2⟩ := H1.cells
      have c2' : w1.cell? ⟨Q, 2, none⟩ = some (.bool false) := c2
      clear c2
      go_wp2_with fail
      go_quiet (fail)
      go_wp2_with fail
      go_quiet (fail)
      go_wp2_with fail
      go_ret
      exact ⟨ret_str (by rw [HV.out, hl1.2 s rfl, extract_front S a1 n (by omega)]), by rw [HSS.out]; exact ⟨⟨a1 + n, (Rq.moved_as (H1.drewN _) _ _ (by simp)).drewN _, hl1.cut (by omega)⟩, only_drewN (only_setCell (only_drewN hg1 _) _ _) _⟩⟩
theorem rleft_any (Q : Nat) (S : ByteArray) (st : Option ByteArray) (a : Nat) (w : World) (h : Rq w Q S a (isBad st)) (hl : Link S st a) (hS : S.size ≤ 4611686018427387904) :
    Calls Try.prog 24 #[.pointer (some ⟨Q, 0, none⟩)] w fun e w' => e = .returned (.int .i64 (leftOf st)) ∧ ∃ m, w.drewN m = w' := by
  cases st with
  | none =>
    obtain ⟨c0, c1, c2, f0, f1, f2⟩ := h.cells
    have c2' : w.cell? ⟨Q, 2, none⟩ = some (.bool true) := c2
    clear c2 h
    go_enter Try.func24, Try.ntmps24
    go_wp2
    go_ret
    exact ⟨rfl, 0, rfl⟩
  | some s =>
    obtain ⟨hz1, hz2⟩ := link_size hl
    have HZ := Lib.hid hz1; clear hz1
    obtain ⟨c0, c1, c2, f0, f1, f2⟩ := h.cells
    have c2' : w.cell? ⟨Q, 2, none⟩ = some (.bool false) := c2
    clear c2 h
    have hw1 : IntKind.i64.wrap ((S.size : Int) - (a : Int)) = (S.size : Int) - (a : Int) := IntWalk.i64_in _ (by omega)
    go_enter Try.func24, Try.ntmps24
    go_wp2
    go_quiet (fail)
    go_wp2
    go_ret
    exact ⟨ret_i64 (by have := HZ.out; simp only [leftOf]; omega), _, rfl⟩
theorem done_link {S s : ByteArray} {a : Nat} (h : Link S (some s) a) : doneOf (some s) = ((a : Int) == (S.size : Int)) := by
  obtain ⟨h1, h2⟩ := link_size h
  have e : s.toList.length = s.size := by rw [ByteArray.toList_eq, Array.length_toList]; rfl
  simp only [doneOf]
  rw [Bool.eq_iff_iff, List.isEmpty_iff_length_eq_zero, beq_iff_eq, e]
  omega
theorem rdone_any (Q : Nat) (S : ByteArray) (st : Option ByteArray) (a : Nat) (w : World) (h : Rq w Q S a (isBad st)) (hl : Link S st a) :
    Calls Try.prog 27 #[.pointer (some ⟨Q, 0, none⟩)] w fun e w' => e = .returned (.bool (doneOf st)) ∧ ∃ m, w.drewN m = w' := by
  cases st with
  | none =>
    obtain ⟨c0, c1, c2, f0, f1, f2⟩ := h.cells
    have c2' : w.cell? ⟨Q, 2, none⟩ = some (.bool true) := c2
    clear c2 h
    go_enter Try.func27, Try.ntmps27
    go_wp2
    go_quiet (fail)
    go_wp2
    go_ret
    exact ⟨rfl, _, rfl⟩
  | some s =>
    have HZ := Lib.hid (done_link hl)
    obtain ⟨c0, c1, c2, f0, f1, f2⟩ := h.cells
    have c2' : w.cell? ⟨Q, 2, none⟩ = some (.bool false) := c2
    clear c2 h
    go_enter Try.func27, Try.ntmps27
    go_wp2
    go_quiet (fail)
    go_wp2
    go_ret
    exact ⟨ret_bool (by rw [HZ.out]), _, rfl⟩
end Go.Proofs.Ytidfoflbebampaa
