/- The walk over the law DiskNobody, a room too large. -/
import Derived.Test.YtflkglnmenbmaaaDiskT
namespace Go.Proofs.Ytflkglnmenbmaaa.Disk
open Go.RowKit Go.Lib

set_option maxRecDepth 100000 in
set_option maxHeartbeats 4000000 in
theorem lawNobody_big (I : Impl) (J : Nobody) (hnil : ∀ w : World, J.ND w none (fun _ => False)) (hzero : ∀ w : World, J.ND (w.alloc (.cells zeroDisk 57)) (some ⟨w.heap.size, 0, none⟩) (fun k => k = w.heap.size))
    (x : Int) (a : AC) (ka : Option Addr) (kn kc : Nat) (Z : Nat → Int) (w : World) (hx1 : 16777216 < x) (hx2 : x ≤ 9223372036854775807) (hA : ActIs w a ka kn Z) (hs : a.name.size ≤ 40 ∧ a.arg.size ≤ 200 ∧ kn ≤ 20) :
    Calls Try.prog 6 #[.int .i64 x, .agg (actCells a ka kn kc)] w fun e w' => e = .returned (.bool true) ∧ Below w.heap.size w w' := by
  have HA := Lib.hid hA
  have HN := Lib.hid hnil; have HZ := Lib.hid hzero; have HS := Lib.hid hs
  have HSm : Hid (∀ (W : World) (B : Nat), Below w.heap.size w W → W.heap[B]? = some (.cells (actCells a ka kn kc) 36 (0, 0)) → Calls Try.prog 7 #[.slice (some ⟨B, 0, none⟩) 1 1, .int .i64 1] W fun e w' => e = .returned (.bool true) ∧ W = w') :=
    Lib.hid (fun W B hW hB => small_yes 1 (some ⟨B, 0, none⟩) 1 1 _ _ _ _ _ W (acts_one hA hW hB) (by omega) (by omega) (fun j _ => hs))
  clear hA hnil hzero hs
  go_enter Try.func6, Try.ntmps6
  go_wp2_with fail
  have hw2 : Below w.heap.size w ((w.alloc (.cells (actCells a ka kn kc) 36)).alloc (.cells (actCells a ka kn kc) 36)) := ((Below.refl _ w).alloc (Nat.le_refl _) _).alloc (by simp) _
  have hblk : ((w.alloc (.cells (actCells a ka kn kc) 36)).alloc (.cells (actCells a ka kn kc) 36)).heap[w.heap.size]? = some (.cells (actCells a ka kn kc) 36 (0, 0)) :=
    (((Below.refl (w.heap.size + 1) (w.alloc (.cells (actCells a ka kn kc) 36))).alloc (by simp) _).block w.heap.size (by omega)).trans (heap_alloc_new w _)
  have hblk2 : ((w.alloc (.cells (actCells a ka kn kc) 36)).alloc (.cells (actCells a ka kn kc) 36)).heap[w.heap.size + 1]? = some (.cells (actCells a ka kn kc) 36 (0, 0)) := by
    have := heap_alloc_new (w.alloc (.cells (actCells a ka kn kc) 36)) (.cells (actCells a ka kn kc) 36)
    simpa using this
  refine (HSm.out _ _ hw2 hblk2).mono ?_
  rintro e w2 ⟨rfl, rfl⟩
  obtain ⟨w2, hw2e⟩ : ∃ w2, ((w.alloc (.cells (actCells a ka kn kc) 36)).alloc (.cells (actCells a ka kn kc) 36)) = w2 := ⟨_, rfl⟩
  rw [hw2e] at hw2 hblk ⊢
  have H2 := Lib.hid hw2; have HB := Lib.hid hblk
  clear hw2 hblk hblk2 hw2e HSm
  go_wp2_with fail
  have g0 : 0 ≤ x := by omega
  have g1 : ¬ x ≤ 16777216 := by omega
  refine (I.new_bad x _ ⟨by omega, hx2⟩ (.inr hx1)).mono ?_
  rintro e x1 ⟨rfl, hb⟩
  have H3 := Lib.hid (below_then H2.out hb)
  have HB3 := Lib.hid ((hb.block w.heap.size (Array.getElem?_eq_some_iff.1 HB.out).1).trans HB.out)
  clear hb H2 HB
  have hT := noes_start HZ.out H3.out HB3.out
  have HT := Lib.hid hT
  clear hT H3 HB3
  go_wp2_with fail
  obtain ⟨Zb, hZb⟩ : ∃ Zb, x1.heap.size = Zb := ⟨_, rfl⟩
  rw [hZb] at HT ⊢
  go_loopw [8] (fun i wr => ∃ (k : Nat) (F' : Nat → Prop), k ≤ 2 ∧ i = .int .i64 k ∧ Noes J w wr F' Zb (Zb + 1) w.heap.size a ka kn kc) (fun i _ => 2 - (RowKit.intOf i).toNat)
  case atStart => exact ⟨0, _, by omega, rfl, HT.out⟩
  case round =>
    clear HT
    obtain ⟨k, F', hk, rfl, HP⟩ := hrel
    by_cases k0 : k = 0
    · subst k0
      by_cases k5 : a.kind = 5
      · have hee : noE a = 0 := by unfold noE; rw [if_pos k5]
        have HE := Lib.hid hee; have K5 := Lib.hid k5
        clear hee k5
        have T0 := Lib.hid HP
        clear HP
        have d0 := T0.out.l0; have e0 := T0.out.a0; have e1 := T0.out.a1; have e2 := T0.out.a2; have e3 := T0.out.a3; have e4 := T0.out.a4; have e5 := T0.out.a5
        have HD : Hid (∀ w1, Below wr.heap.size wr w1 → Calls Try.prog 11 #[.pointer none, .agg #[.int .i64 a.kind, .int .i64 a.n, .string a.name, .string a.arg, .bool a.half, .slice ka kn kc]] w1 fun e w' => e = .returned (.tuple #[.string ⟨#[]⟩, .int .i64 0]) ∧ ∃ F, Noes J w w' F Zb (Zb + 1) w.heap.size a ka kn kc) := Lib.hid (fun w1 hw => by
          have T1 := T0.out.under hw
          have hA1 : ActIs w1 a ka kn Z := ⟨HA.out.name, HA.out.arg, HA.out.n, ints_below HA.out.ints T1.below, HA.out.few, HA.out.keep⟩
          refine (ndo_any J none _ a ka kn kc Z w1 (HN.out _) hA1 HS.out.1 HS.out.2.1 HS.out.2.2).mono ?_
          rintro e w2 ⟨rfl, F2, hn, hs⟩
          rw [HE.out]
          exact ⟨rfl, _, T1.nil hs⟩)
        go_wp2_with fail
        go_region_with (go_at_call 11; refine (HD.out _ ((Below.refl _ wr).drew)).mono ?_; rintro e w1 ⟨rfl, F1, T⟩)
        all_goals
          have T1 := Lib.hid T
          clear T d0 e0 e1 e2 e3 e4 e5 HD
          have d0 := T1.out.l0; have e0 := T1.out.a0; rw [K5.out] at e0
          go_wp2_with fail
          refine (J.names none _ _ (HN.out _)).mono ?_
          rintro e w2 ⟨o, c, G2, rfl, hn, hs⟩
          have T2 := Lib.hid (T1.out.nil hs)
          clear hn hs T1 d0 e0
          have d0 := T2.out.l0; have e0 := T2.out.a0; rw [K5.out] at e0
          go_wp2_with fail
          refine (J.used none _ _ (HN.out _)).mono ?_
          rintro e w3 ⟨rfl, G3, hn, hs⟩
          have T3 := Lib.hid (T2.out.nil hs)
          clear hn hs T2 d0 e0
          have d0 := T3.out.l0; have e0 := T3.out.a0; rw [K5.out] at e0
          go_wp2_with fail
          refine (J.ops none _ _ (HN.out _)).mono ?_
          rintro e w4 ⟨rfl, G4, hn, hs⟩
          have T4 := Lib.hid (T3.out.nil hs)
          clear hn hs T3 d0 e0
          have d0 := T4.out.l0; have e0 := T4.out.a0; rw [K5.out] at e0
          go_wp2_with fail
          refine (J.dead none _ _ (HN.out _)).mono ?_
          rintro e w5 ⟨rfl, G5, hn, hs⟩
          have T5 := Lib.hid (T4.out.nil hs)
          clear hn hs T4 d0 e0
          go_wp2_with fail
          go_roundw
          case rel => exact ⟨1, _, by omega, by go_num, T5.out⟩
          case measure => simp [RowKit.intOf]
      · have hee : noE a = 1 := by unfold noE; rw [if_neg k5]
        have HE := Lib.hid hee
        clear hee k5
        have T0 := Lib.hid HP
        clear HP
        have d0 := T0.out.l0; have e0 := T0.out.a0; have e1 := T0.out.a1; have e2 := T0.out.a2; have e3 := T0.out.a3; have e4 := T0.out.a4; have e5 := T0.out.a5
        have HD : Hid (∀ w1, Below wr.heap.size wr w1 → Calls Try.prog 11 #[.pointer none, .agg #[.int .i64 a.kind, .int .i64 a.n, .string a.name, .string a.arg, .bool a.half, .slice ka kn kc]] w1 fun e w' => e = .returned (.tuple #[.string ⟨#[]⟩, .int .i64 1]) ∧ ∃ F, Noes J w w' F Zb (Zb + 1) w.heap.size a ka kn kc) := Lib.hid (fun w1 hw => by
          have T1 := T0.out.under hw
          have hA1 : ActIs w1 a ka kn Z := ⟨HA.out.name, HA.out.arg, HA.out.n, ints_below HA.out.ints T1.below, HA.out.few, HA.out.keep⟩
          refine (ndo_any J none _ a ka kn kc Z w1 (HN.out _) hA1 HS.out.1 HS.out.2.1 HS.out.2.2).mono ?_
          rintro e w2 ⟨rfl, F2, hn, hs⟩
          rw [HE.out]
          exact ⟨rfl, _, T1.nil hs⟩)
        go_wp2_with fail
        go_region_with (go_at_call 11; refine (HD.out _ ((Below.refl _ wr).drew)).mono ?_; rintro e w1 ⟨rfl, F1, T⟩)
        all_goals
          have T1 := Lib.hid T
          clear T d0 e0 e1 e2 e3 e4 e5 HD
          have d0 := T1.out.l0; have e0 := T1.out.a0
          go_wp2_with fail
          refine (J.names none _ _ (HN.out _)).mono ?_
          rintro e w2 ⟨o, c, G2, rfl, hn, hs⟩
          have T2 := Lib.hid (T1.out.nil hs)
          clear hn hs T1 d0 e0
          have d0 := T2.out.l0; have e0 := T2.out.a0
          go_wp2_with fail
          refine (J.used none _ _ (HN.out _)).mono ?_
          rintro e w3 ⟨rfl, G3, hn, hs⟩
          have T3 := Lib.hid (T2.out.nil hs)
          clear hn hs T2 d0 e0
          have d0 := T3.out.l0; have e0 := T3.out.a0
          go_wp2_with fail
          refine (J.ops none _ _ (HN.out _)).mono ?_
          rintro e w4 ⟨rfl, G4, hn, hs⟩
          have T4 := Lib.hid (T3.out.nil hs)
          clear hn hs T3 d0 e0
          have d0 := T4.out.l0; have e0 := T4.out.a0
          go_wp2_with fail
          refine (J.dead none _ _ (HN.out _)).mono ?_
          rintro e w5 ⟨rfl, G5, hn, hs⟩
          have T5 := Lib.hid (T4.out.nil hs)
          clear hn hs T4 d0 e0
          go_wp2_with fail
          go_roundw
          case rel => exact ⟨1, _, by omega, by go_num, T5.out⟩
          case measure => simp [RowKit.intOf]
    by_cases k1 : k = 1
    · subst k1
      clear k0
      by_cases k5 : a.kind = 5
      · have hee : noE a = 0 := by unfold noE; rw [if_pos k5]
        have HE := Lib.hid hee; have K5 := Lib.hid k5
        clear hee k5
        have T0 := Lib.hid HP
        clear HP
        have d0 := T0.out.l1; have e0 := T0.out.a0; have e1 := T0.out.a1; have e2 := T0.out.a2; have e3 := T0.out.a3; have e4 := T0.out.a4; have e5 := T0.out.a5
        have HD : Hid (∀ w1, Below wr.heap.size wr w1 → Calls Try.prog 11 #[.pointer (some ⟨Zb, 0, none⟩), .agg #[.int .i64 a.kind, .int .i64 a.n, .string a.name, .string a.arg, .bool a.half, .slice ka kn kc]] w1 fun e w' => e = .returned (.tuple #[.string ⟨#[]⟩, .int .i64 0]) ∧ ∃ F, Noes J w w' F Zb (Zb + 1) w.heap.size a ka kn kc) := Lib.hid (fun w1 hw => by
          have T1 := T0.out.under hw
          have hA1 : ActIs w1 a ka kn Z := ⟨HA.out.name, HA.out.arg, HA.out.n, ints_below HA.out.ints T1.below, HA.out.few, HA.out.keep⟩
          refine (ndo_any J (some ⟨Zb, 0, none⟩) _ a ka kn kc Z w1 T1.nd hA1 HS.out.1 HS.out.2.1 HS.out.2.2).mono ?_
          rintro e w2 ⟨rfl, F2, hn, hs⟩
          rw [HE.out]
          exact ⟨rfl, _, T1.step hn hs⟩)
        go_wp2_with fail
        go_region_with (go_at_call 11; refine (HD.out _ ((Below.refl _ wr).drew)).mono ?_; rintro e w1 ⟨rfl, F1, T⟩)
        all_goals
          have T1 := Lib.hid T
          clear T d0 e0 e1 e2 e3 e4 e5 HD
          have d0 := T1.out.l1; have e0 := T1.out.a0; rw [K5.out] at e0
          go_wp2_with fail
          refine (J.names (some ⟨Zb, 0, none⟩) _ _ T1.out.nd).mono ?_
          rintro e w2 ⟨o, c, G2, rfl, hn, hs⟩
          have T2 := Lib.hid (T1.out.step hn hs)
          clear hn hs T1 d0 e0
          have d0 := T2.out.l1; have e0 := T2.out.a0; rw [K5.out] at e0
          go_wp2_with fail
          refine (J.used (some ⟨Zb, 0, none⟩) _ _ T2.out.nd).mono ?_
          rintro e w3 ⟨rfl, G3, hn, hs⟩
          have T3 := Lib.hid (T2.out.step hn hs)
          clear hn hs T2 d0 e0
          have d0 := T3.out.l1; have e0 := T3.out.a0; rw [K5.out] at e0
          go_wp2_with fail
          refine (J.ops (some ⟨Zb, 0, none⟩) _ _ T3.out.nd).mono ?_
          rintro e w4 ⟨rfl, G4, hn, hs⟩
          have T4 := Lib.hid (T3.out.step hn hs)
          clear hn hs T3 d0 e0
          have d0 := T4.out.l1; have e0 := T4.out.a0; rw [K5.out] at e0
          go_wp2_with fail
          refine (J.dead (some ⟨Zb, 0, none⟩) _ _ T4.out.nd).mono ?_
          rintro e w5 ⟨rfl, G5, hn, hs⟩
          have T5 := Lib.hid (T4.out.step hn hs)
          clear hn hs T4 d0 e0
          go_wp2_with fail
          go_roundw
          case rel => exact ⟨2, _, by omega, by go_num, T5.out⟩
          case measure => simp [RowKit.intOf]
      · have hee : noE a = 1 := by unfold noE; rw [if_neg k5]
        have HE := Lib.hid hee
        clear hee k5
        have T0 := Lib.hid HP
        clear HP
        have d0 := T0.out.l1; have e0 := T0.out.a0; have e1 := T0.out.a1; have e2 := T0.out.a2; have e3 := T0.out.a3; have e4 := T0.out.a4; have e5 := T0.out.a5
        have HD : Hid (∀ w1, Below wr.heap.size wr w1 → Calls Try.prog 11 #[.pointer (some ⟨Zb, 0, none⟩), .agg #[.int .i64 a.kind, .int .i64 a.n, .string a.name, .string a.arg, .bool a.half, .slice ka kn kc]] w1 fun e w' => e = .returned (.tuple #[.string ⟨#[]⟩, .int .i64 1]) ∧ ∃ F, Noes J w w' F Zb (Zb + 1) w.heap.size a ka kn kc) := Lib.hid (fun w1 hw => by
          have T1 := T0.out.under hw
          have hA1 : ActIs w1 a ka kn Z := ⟨HA.out.name, HA.out.arg, HA.out.n, ints_below HA.out.ints T1.below, HA.out.few, HA.out.keep⟩
          refine (ndo_any J (some ⟨Zb, 0, none⟩) _ a ka kn kc Z w1 T1.nd hA1 HS.out.1 HS.out.2.1 HS.out.2.2).mono ?_
          rintro e w2 ⟨rfl, F2, hn, hs⟩
          rw [HE.out]
          exact ⟨rfl, _, T1.step hn hs⟩)
        go_wp2_with fail
        go_region_with (go_at_call 11; refine (HD.out _ ((Below.refl _ wr).drew)).mono ?_; rintro e w1 ⟨rfl, F1, T⟩)
        all_goals
          have T1 := Lib.hid T
          clear T d0 e0 e1 e2 e3 e4 e5 HD
          have d0 := T1.out.l1; have e0 := T1.out.a0
          go_wp2_with fail
          refine (J.names (some ⟨Zb, 0, none⟩) _ _ T1.out.nd).mono ?_
          rintro e w2 ⟨o, c, G2, rfl, hn, hs⟩
          have T2 := Lib.hid (T1.out.step hn hs)
          clear hn hs T1 d0 e0
          have d0 := T2.out.l1; have e0 := T2.out.a0
          go_wp2_with fail
          refine (J.used (some ⟨Zb, 0, none⟩) _ _ T2.out.nd).mono ?_
          rintro e w3 ⟨rfl, G3, hn, hs⟩
          have T3 := Lib.hid (T2.out.step hn hs)
          clear hn hs T2 d0 e0
          have d0 := T3.out.l1; have e0 := T3.out.a0
          go_wp2_with fail
          refine (J.ops (some ⟨Zb, 0, none⟩) _ _ T3.out.nd).mono ?_
          rintro e w4 ⟨rfl, G4, hn, hs⟩
          have T4 := Lib.hid (T3.out.step hn hs)
          clear hn hs T3 d0 e0
          have d0 := T4.out.l1; have e0 := T4.out.a0
          go_wp2_with fail
          refine (J.dead (some ⟨Zb, 0, none⟩) _ _ T4.out.nd).mono ?_
          rintro e w5 ⟨rfl, G5, hn, hs⟩
          have T5 := Lib.hid (T4.out.step hn hs)
          clear hn hs T4 d0 e0
          go_wp2_with fail
          go_roundw
          case rel => exact ⟨2, _, by omega, by go_num, T5.out⟩
          case measure => simp [RowKit.intOf]
    obtain rfl : k = 2 := by omega
    have HB := Lib.hid HP.below
    clear HP k0 k1
    go_wp2_with fail
    refine (awake_any I _).mono ?_
    rintro e xa ⟨rfl, hb⟩
    have hba := below_then HB.out hb
    go_wp2_with fail
    go_ret
    exact ⟨rfl, hba⟩
end Go.Proofs.Ytflkglnmenbmaaa.Disk
