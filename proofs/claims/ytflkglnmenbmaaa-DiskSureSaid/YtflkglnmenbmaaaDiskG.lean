/- The walk over Cut of the document's disk. -/
import Derived.Test.YtflkglnmenbmaaaDiskF
namespace Go.Proofs.Ytflkglnmenbmaaa.Disk
open Go.RowKit Go.Lib

theorem cell_other {w : World} {b o b' o' : Nat} {u v : Value} (h : w.cell? ⟨b, o, none⟩ = some v) (hne : b' ≠ b ∨ o' ≠ o) : (w.setCell ⟨b', o', none⟩ u).cell? ⟨b, o, none⟩ = some v := by
  rw [World.cell?_setCell_other (w := w) (h := show (⟨b', o', none⟩ : Addr) ≠ ⟨b, o, none⟩ by intro e; injection e with e1 e2 _; rcases hne with h | h <;> contradiction)]
  exact h
set_option maxRecDepth 100000 in
set_option maxHeartbeats 2000000 in
theorem cut_any (Q : Nat) (v : Value) (st : DS) (s : ByteArray) (m : Int) (w : World) (h : RD w Q v st) (ho : st.ops + 1 ≤ 1048576) (hm64 : -9223372036854775808 ≤ m ∧ m ≤ 9223372036854775807) :
    Calls Try.prog 29 #[.pointer (some ⟨Q, 0, none⟩), .string s, .int .i64 m] w fun e w' => e = .returned (.int .i64 (cutE st s m)) ∧ ∃ v', RD w' Q v' (cutS st s m) ∧ Step w w' Q v v' := by
  have q5 := cell_block (j := 5) h.block rfl
  have HD := Lib.hid h
  cases hd : st.dead with
  | true =>
    have hE : cutE st s m = 14 := by unfold cutE; rw [hd]; rfl
    have hS : cutS st s m = st := by unfold cutS; rw [hd]; rfl
    rw [hE, hS]
    rw [hd] at q5
    clear hE hS h
    go_enter Try.func29, Try.ntmps29
    go_wp2_with fail
    go_ret
    exact ⟨rfl, v, HD.out, Step.refl _ _ _⟩
  | false =>
    rw [hd] at q5
    rcases look_pos (l := st.fs) (s := s) with ⟨k, f, hp, hfk, hfn, hl, hm⟩ | ⟨hp, hl⟩
    · obtain ⟨a, cap, rfl, hcap, _, hrow⟩ := h.rowed
      obtain ⟨g, rfl, hgl, hgq, c0, c1, c2⟩ := hrow k f hfk
      have q0 : w.cell? ⟨Q, 0, none⟩ = some (.slice (some ⟨g, 0, none⟩) st.fs.length cap) := cell_block h.block rfl
      have HP := Lib.hid (posZ_some hp)
      have hkn : k < st.fs.length := (List.getElem?_eq_some_iff.1 hfk).1
      have hfew := h.good.few
      have hsz := used_mem (look_mem hl).1
      have hroom := h.good.room; have hfit := h.good.fit
      have hsure := h.good.sure f (look_mem hl).1
      have hfile := fileOf_some hl
      by_cases hneg : m < 0
      · have hbad : badCut st s m := .inl hneg
        have hE : cutE st s m = 1 := by unfold cutE; rw [hd, hl, if_pos hbad]; rfl
        have hS : cutS st s m = st := by unfold cutS; rw [hd, hl, if_pos hbad]; rfl
        rw [hE, hS]
        clear hE hS h hrow hp hl hm hbad
        go_enter Try.func29, Try.ntmps29
        go_wp2_with fail
        refine (find_any Q _ st s _ HD.out (by omega)).mono ?_
        rintro e w' ⟨rfl, rfl⟩
        rw [HP.out]
        go_wp2_with fail
        go_ret
        exact ⟨rfl, _, HD.out, Step.refl _ _ _⟩
      · obtain ⟨n, rfl⟩ := Int.eq_ofNat_of_zero_le (show 0 ≤ m by omega)
        by_cases hbig : f.bytes.size < n
        · have hbad : badCut st s (n : Int) := .inr (by rw [hfile]; omega)
          have hE : cutE st s (n : Int) = 1 := by unfold cutE; rw [hd, hl, if_pos hbad]; rfl
          have hS : cutS st s (n : Int) = st := by unfold cutS; rw [hd, hl, if_pos hbad]; rfl
          rw [hE, hS]
          clear hE hS h hrow hp hl hm hbad
          go_enter Try.func29, Try.ntmps29
          go_wp2_with fail
          refine (find_any Q _ st s _ HD.out (by omega)).mono ?_
          rintro e w' ⟨rfl, rfl⟩
          rw [HP.out]
          go_wp2_with fail
          go_ret
          exact ⟨rfl, _, HD.out, Step.refl _ _ _⟩
        · have hbad : ¬ badCut st s (n : Int) := by unfold badCut; rw [hfile]; omega
          have hE : cutE st s (n : Int) = opE st := by unfold cutE; rw [hd, hl, if_neg hbad]; rfl
          rw [hE]
          obtain ⟨e0, he0⟩ : ∃ e0, opE st = e0 := ⟨_, rfl⟩
          have HOp := Lib.hid (op_any Q _ st w HD.out (by omega))
          rw [he0]
          cases hdo : opD st with
          | false =>
            have hS : cutS st s (n : Int) = opS st := by unfold cutS; rw [hd, hl, if_neg hbad, hdo]; rfl
            rw [hS]
            rw [show opV st = .tuple #[.bool false, .int .i64 e0] by unfold opV; rw [hdo, he0]] at HOp
            clear hE hS h hrow hp hl hm hdo he0 hbad
            go_enter Try.func29, Try.ntmps29
            go_wp2_with fail
            refine (find_any Q _ st s _ HD.out (by omega)).mono ?_
            rintro e w' ⟨rfl, rfl⟩
            rw [HP.out]
            go_wp2_with fail
            refine HOp.out.mono ?_
            rintro e w1 ⟨rfl, hr1, hs1⟩
            have HR1 := Lib.hid hr1; have HS1 := Lib.hid hs1
            clear hr1 hs1
            go_wp2_with fail
            go_ret
            exact ⟨rfl, _, HR1.out, HS1.out⟩
          | true =>
            have hS : cutS st s (n : Int) = { opS st with fs := (opS st).fs.set k (shorter n f) } := by unfold cutS; rw [hd, hl, if_neg hbad, hdo, opS_fs]; simp [hm]
            rw [hS]
            rw [show opV st = .tuple #[.bool true, .int .i64 e0] by unfold opV; rw [hdo, he0]] at HOp
            have hfk2 : (opS st).fs[k]? = some f := by rw [opS_fs]; exact hfk
            have hlen : st.fs.length = (opS st).fs.length := by rw [opS_fs]
            have hbsz : (shorter n f).bytes.size = n := by unfold shorter; rw [ByteArray.size_extract]; omega
            rw [hlen] at HOp hkn hfew q0
            have HL := Lib.hid hlen
            have HW := Lib.hid (fun (W : World) hR => rd_write (w := W) (Q := Q) (g := g) (cap := cap) (k := k) (st := opS st) (f := f) (f' := shorter n f) hR hfk2 rfl (by rw [hbsz]; omega) (by rw [hbsz]; exact Nat.min_le_right _ _))
            obtain ⟨b', hb'⟩ : ∃ b', f.bytes.extract 0 n = b' := ⟨_, rfl⟩
            obtain ⟨x', hx'⟩ : ∃ x', min f.sure n = x' := ⟨_, rfl⟩
            rw [show (shorter n f).bytes = b' from hb', show (shorter n f).sure = x' from hx'] at HW
            by_cases hmin : f.sure ≤ n
            · obtain rfl : x' = f.sure := by omega
              clear hE hS h hrow hp hl hm hdo he0 hlen hbad hx' hbsz
              go_enter Try.func29, Try.ntmps29
              go_wp2_with fail
              refine (find_any Q _ st s _ HD.out (by omega)).mono ?_
              rintro e w' ⟨rfl, rfl⟩
              rw [HP.out]
              go_wp2_with fail
              refine HOp.out.mono ?_
              rintro e w1 ⟨rfl, hr1, hs1⟩
              have p0 : w1.cell? ⟨Q, 0, none⟩ = some (.slice (some ⟨g, 0, none⟩) (opS st).fs.length cap) := cell_block hr1.block rfl
              obtain ⟨d0, d1, d2⟩ := rd_cells hr1 hfk2
              have z1 : w1.frozen? ⟨g, k * 3 + 1, none⟩ = false := hr1.row.frozenAt _
              have z2 : w1.frozen? ⟨g, k * 3 + 2, none⟩ = false := hr1.row.frozenAt _
              have y0 := cell_other (u := .string b') (b' := g) (o' := k * 3 + 1) p0 (.inl hgq)
              have y2 := cell_other (u := .string b') (b' := g) (o' := k * 3 + 1) d2 (.inr (by omega))
              have y1 : (w1.setCell ⟨g, k * 3 + 1, none⟩ (.string b')).frozen? ⟨g, k * 3 + 2, none⟩ = false := by rw [World.frozen?_setCell]; exact z2
              obtain ⟨r2, s2⟩ := HW.out w1 hr1
              have hd1 := drew_below ((w1.setCell ⟨g, k * 3 + 1, none⟩ (.string b')).setCell ⟨g, k * 3 + 2, none⟩ (.int .i64 (f.sure : Int)))
              have hd2 := below_then hd1 (drew_below _)
              have HR2 := Lib.hid (r2.below hd2); have HS2 := Lib.hid ((hs1.trans s2).app hd2)
              clear hr1 hs1 r2 s2 hd1 hd2
              go_wp2_with fail
              go_region
              all_goals go_wp2_with fail
              all_goals go_region
              all_goals (go_wp2_with fail; go_ret; exact ⟨rfl, _, HR2.out, by rw [HL.out]; exact HS2.out⟩)
            · obtain rfl : n = x' := by omega
              clear hE hS h hrow hp hl hm hdo he0 hlen hbad hx' hbsz
              go_enter Try.func29, Try.ntmps29
              go_wp2_with fail
              refine (find_any Q _ st s _ HD.out (by omega)).mono ?_
              rintro e w' ⟨rfl, rfl⟩
              rw [HP.out]
              go_wp2_with fail
              refine HOp.out.mono ?_
              rintro e w1 ⟨rfl, hr1, hs1⟩
              have p0 : w1.cell? ⟨Q, 0, none⟩ = some (.slice (some ⟨g, 0, none⟩) (opS st).fs.length cap) := cell_block hr1.block rfl
              obtain ⟨d0, d1, d2⟩ := rd_cells hr1 hfk2
              have z1 : w1.frozen? ⟨g, k * 3 + 1, none⟩ = false := hr1.row.frozenAt _
              have z2 : w1.frozen? ⟨g, k * 3 + 2, none⟩ = false := hr1.row.frozenAt _
              have y0 := cell_other (u := .string b') (b' := g) (o' := k * 3 + 1) p0 (.inl hgq)
              have y2 := cell_other (u := .string b') (b' := g) (o' := k * 3 + 1) d2 (.inr (by omega))
              have y1 : (w1.setCell ⟨g, k * 3 + 1, none⟩ (.string b')).frozen? ⟨g, k * 3 + 2, none⟩ = false := by rw [World.frozen?_setCell]; exact z2
              obtain ⟨r2, s2⟩ := HW.out w1 hr1
              have hd1 := drew_below ((w1.setCell ⟨g, k * 3 + 1, none⟩ (.string b')).setCell ⟨g, k * 3 + 2, none⟩ (.int .i64 (n : Int)))
              have hd2 := below_then hd1 (drew_below _)
              have HR2 := Lib.hid (r2.below hd2); have HS2 := Lib.hid ((hs1.trans s2).app hd2)
              clear hr1 hs1 r2 s2 hd1 hd2
              go_wp2_with fail
              go_region
              all_goals go_wp2_with fail
              all_goals go_region
              all_goals (go_wp2_with fail; go_ret; exact ⟨rfl, _, HR2.out, by rw [HL.out]; exact HS2.out⟩)
    · have hE : cutE st s m = 3 := by unfold cutE; rw [hd, hl]; rfl
      have hS : cutS st s m = st := by unfold cutS; rw [hd, hl]; rfl
      have HP := Lib.hid (posZ_none hp)
      rw [hE, hS]
      clear hE hS h hp hl
      go_enter Try.func29, Try.ntmps29
      go_wp2_with fail
      refine (find_any Q _ st s _ HD.out (by omega)).mono ?_
      rintro e w' ⟨rfl, rfl⟩
      rw [HP.out]
      go_wp2_with fail
      go_ret
      exact ⟨rfl, v, HD.out, Step.refl _ _ _⟩
end Go.Proofs.Ytflkglnmenbmaaa.Disk
