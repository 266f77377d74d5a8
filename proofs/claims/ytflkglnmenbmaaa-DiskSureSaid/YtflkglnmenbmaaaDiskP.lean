/- The walk over the law DiskWhole, for any implementation. -/
import Derived.Test.YtflkglnmenbmaaaDiskO
namespace Go.Proofs.Ytflkglnmenbmaaa.Disk
open Go.RowKit Go.Lib

theorem two_texts {cs : Array Value} {a b : Value} (h : cs.size = 2) (h0 : cs[0]? = some a) (h1 : cs[1]? = some b) : cs = #[a, b] := by
  apply Array.ext
  · simpa using h
  · intro i hi hj
    have hi2 : i = 0 ∨ i = 1 := by omega
    rcases hi2 with rfl | rfl
    · simpa [Array.getElem?_eq_getElem hi] using h0
    · simpa [Array.getElem?_eq_getElem hi] using h1
theorem and_7 (x : Int) : ∃ m : Nat, m ≤ 7 ∧ bits .and .i64 x 7 = (m : Int) := by
  refine ⟨(BitVec.ofInt 64 x).toNat &&& 7, Nat.and_le_right, ?_⟩
  have h : (BitVec.ofInt 64 x).toNat &&& 7 ≤ 7 := Nat.and_le_right
  show IntKind.i64.wrap ((BitVec.ofInt 64 x &&& BitVec.ofInt 64 7).toNat : Int) = _
  rw [BitVec.toNat_and, show (BitVec.ofInt 64 7).toNat = 7 from rfl]
  generalize (BitVec.ofInt 64 x).toNat &&& 7 = q at h ⊢
  simp [IntKind.wrap, IntKind.bits, IntKind.signed]
  omega
theorem start_a {old : ByteArray} (h1 : old.size ≤ 200) :
    appE (newS 65536) nA old = 0 ∧ syncE (appS (newS 65536) nA old) nA = 0 ∧ syncS (appS (newS 65536) nA old) nA = wA old 0 false := by
  obtain ⟨a1, a2⟩ := app_is (st := newS 65536) (s := nA) (b := old) rfl nA_name (by show 0 + old.size ≤ 65536; omega)
  have hf0 : grown (fileOf (newS 65536) nA) old = ⟨nA, old, 0⟩ := by
    show (⟨nA, ⟨#[]⟩ ++ old, 0⟩ : DF) = _
    rw [nil_append]
  rw [hf0] at a1 a2
  have hp0 : put (newS 65536) ⟨nA, old, 0⟩ = ⟨[⟨nA, old, 0⟩], 65536, 0, 0, false, false⟩ := rfl
  rw [hp0] at a1 a2
  obtain ⟨o1, _, o3⟩ := opE_ok (st := ⟨[⟨nA, old, 0⟩], 65536, 0, 0, false, false⟩) rfl
  rw [o1] at a1
  rw [o3] at a2
  rw [a1, a2]
  have hl1 : look [(⟨nA, old, 0⟩ : DF)] nA = some ⟨nA, old, 0⟩ := by simp [look]
  obtain ⟨b1, b2⟩ := sync_is (st := ⟨[⟨nA, old, 0⟩], 65536, 0 + 1, 0, false, false⟩) (s := nA) rfl hl1
  obtain ⟨p1, p2, p3⟩ := opE_ok (st := ⟨[⟨nA, old, 0⟩], 65536, 0 + 1, 0, false, false⟩) rfl
  rw [p1] at b1
  rw [p2, p3, if_pos rfl] at b2
  have hmod : modF surely [(⟨nA, old, 0⟩ : DF)] nA = [⟨nA, old, old.size⟩] := by simp [modF, surely]
  refine ⟨rfl, b1, ?_⟩
  show syncS ⟨[⟨nA, old, 0⟩], 65536, 0 + 1, 0, false, false⟩ nA = _
  rw [b2]
  show (⟨modF surely [(⟨nA, old, 0⟩ : DF)] nA, 65536, 2, 0, false, false⟩ : DS) = _
  rw [hmod]
  rfl
theorem fuse_wA (old : ByteArray) (m : Nat) (h : Bool) : fuseS (wA old 0 false) (m : Int) h = wA old m h := by
  unfold fuseS wA
  rw [show (max 0 (m : Int)).toNat = m by omega]
set_option maxRecDepth 100000 in
set_option maxHeartbeats 4000000 in
theorem lawWhole_yes (I : Impl) (old fresh : ByteArray) (x : Int) (ka : Option Addr) (kn kc : Nat) (Z : Nat → Int) (w : World) (hk : Ints w ka kn Z) (hkn : kn ≤ 20) (h1 : 1 ≤ old.size ∧ old.size ≤ 200) (h2 : 1 ≤ fresh.size ∧ fresh.size ≤ 200) :
    Calls Try.prog 5 #[.agg #[.string old, .string fresh], .int .i64 x, .slice ka kn kc] w fun e w' => e = .returned (.bool true) ∧ Below w.heap.size w w' := by
  obtain ⟨h1a, h1b⟩ := h1
  obtain ⟨h2a, h2b⟩ := h2
  obtain ⟨m, hm7, hm⟩ := and_7 x
  obtain ⟨hh, hhh⟩ : ∃ hh, (bits .and .i64 (x / 8) 1 == 1) = hh := ⟨_, rfl⟩
  obtain ⟨e1, e2, e3⟩ := start_a h1b
  obtain ⟨r1, r2, r3⟩ := whole_end old fresh m hh (keepOf kn Z) ⟨h1a, h1b⟩ ⟨h2a, h2b⟩
  have R1 := Lib.hid r1; have R2 := Lib.hid r2; have R3 := Lib.hid r3
  clear r1 r2 r3
  have hi2 : Inv (wA old 0 false) 2 := by rw [← e3]; exact inv_sync (inv_app (inv_new (room := 65536) (by omega)) nA old) nA
  have HK := Lib.hid hk; have E1 := Lib.hid e1; have E2 := Lib.hid e2; have E3 := Lib.hid e3
  have c0 : (w.alloc (.cells #[.string old, .string fresh] 46)).cell? ⟨w.heap.size, 0, none⟩ = some (.string old) := cell_block (heap_alloc_new w _) rfl
  have c1 : (w.alloc (.cells #[.string old, .string fresh] 46)).cell? ⟨w.heap.size, 1, none⟩ = some (.string fresh) := cell_block (heap_alloc_new w _) rfl
  have hal : Below w.heap.size w (w.alloc (.cells #[.string old, .string fresh] 46)) := (Below.refl _ w).alloc (Nat.le_refl _) _
  have HAl := Lib.hid hal
  clear hk e1 e2 e3 hal
  go_enter Try.func5, Try.ntmps5
  go_wp2_with fail
  go_quiet (fail)
  obtain ⟨x0, hx0, hb0⟩ : ∃ x0, (w.alloc (.cells #[.string old, .string fresh] 46)).drewN nq = x0 ∧ Below w.heap.size w x0 := ⟨_, rfl, below_then HAl.out (drewN_below _ _)⟩
  rw [hx0]
  have hb0 := Lib.hid hb0
  clear hx0 c0 c1 HAl
  go_wp2_with fail
  refine (I.new 65536 _ (by omega)).mono ?_
  rintro e x1 ⟨Q, F, rfl, hp, hb, hF⟩
  have hp1 := Lib.hid hp; have hb1 := Lib.hid (below_then hb0.out hb); have hF1 := Lib.hid (fun k hk => Nat.le_trans hb0.out.size (hF k hk))
  clear hp hb hF
  go_wp2_with fail
  refine (I.append Q F (newS 65536) nA old _ hp1.out ((inv_new (by omega)).mono (by omega)) (by decide) (by omega)).mono ?_
  rintro e x2 ⟨rfl, F2, hp, hs⟩
  obtain ⟨hb, hF⟩ := hs.fresh hb1.out hF1.out
  have hp2 := Lib.hid hp; have hb2 := Lib.hid hb; have hF2 := Lib.hid hF
  clear hp hb hF hs hp1 hb1 hF1 hb0
  rw [E1.out]
  go_wp2_with fail
  refine (I.sync Q F2 _ nA _ hp2.out ((inv_app (inv_new (room := 65536) (by omega)) nA old).mono (by omega)) (by decide)).mono ?_
  rintro e x3 ⟨rfl, F3, hp, hs⟩
  obtain ⟨hb, hF⟩ := hs.fresh hb2.out hF2.out
  rw [E3.out] at hp
  have hp3 := Lib.hid hp; have hb3 := Lib.hid hb; have hF3 := Lib.hid hF
  clear hp hb hF hs hp2 hb2 hF2
  rw [E2.out]
  go_wp2_with fail
  refine (I.fuse Q F3 (wA old 0 false) (m : Int) hh _ hp3.out (hi2.mono (by omega)) (by omega)).mono ?_
  rintro e x4 ⟨rfl, F4, hp, hs⟩
  obtain ⟨hb, hF⟩ := hs.fresh hb3.out hF3.out
  have hi4 := inv_fuse hi2 (m : Int) hh (by omega)
  rw [fuse_wA] at hp hi4
  have hp4 := Lib.hid hp; have hb4 := Lib.hid hb; have hF4 := Lib.hid hF
  clear hp hb hF hs hp3 hb3 hF3
  go_wp2_with fail
  refine (I.append Q F4 (wA old m hh) nB fresh _ hp4.out (hi4.mono (by omega)) (by decide) (by omega)).mono ?_
  rintro e x5 ⟨rfl, F5, hp, hs⟩
  obtain ⟨hb, hF⟩ := hs.fresh hb4.out hF4.out
  have hi5 := inv_app hi4 nB fresh
  by_cases g1 : appE (wA old m hh) nB fresh = 0
  · have hp5 := Lib.hid hp; have hb5 := Lib.hid hb; have hF5 := Lib.hid hF
    clear hp hb hF hs hp4 hb4 hF4
    rw [g1]
    go_wp2_with fail
    refine (I.sync Q F5 _ nB _ hp5.out (hi5.mono (by omega)) (by decide)).mono ?_
    rintro e x6 ⟨rfl, F6, hp, hs⟩
    obtain ⟨hb, hF⟩ := hs.fresh hb5.out hF5.out
    have hi6 := inv_sync hi5 nB
    by_cases g2 : syncE (appS (wA old m hh) nB fresh) nB = 0
    · have hp6 := Lib.hid hp; have hb6 := Lib.hid hb; have hF6 := Lib.hid hF
      clear hp hb hF hs hp5 hb5 hF5
      rw [g2]
      go_wp2_with fail
      refine (I.rename Q F6 _ nB nA _ hp6.out (hi6.mono (by omega)) (by decide) (by decide)).mono ?_
      rintro e x7 ⟨rfl, F7, hp, hs⟩
      obtain ⟨hb, hF⟩ := hs.fresh hb6.out hF6.out
      have hi7 := inv_ren hi6 nB nA
      have hWF : wholeF (wA old m hh) fresh = renE (syncS (appS (wA old m hh) nB fresh) nB) nB nA := by unfold wholeF; rw [if_pos g1, if_pos g2]
      have hWS : wholeS (wA old m hh) fresh = renS (syncS (appS (wA old m hh) nB fresh) nB) nB nA := by unfold wholeS; rw [if_pos g1, if_pos g2]
      rw [← hWF]
      rw [← hWS] at hp hi7
      obtain ⟨S, hSS⟩ : ∃ S, wholeS (wA old m hh) fresh = S := ⟨_, rfl⟩
      rw [hSS] at hp hi7 R2 R3
      rcases R1.out with g3 | g3
      · rw [g3] at R3 ⊢
        have hp7 := Lib.hid hp; have hb7 := Lib.hid hb; have hF7 := Lib.hid hF; have HI7 := Lib.hid hi7
        clear hp hb hF hs hi7 hi4 hi5 hi2
        go_wp2_with fail
        refine (I.crash Q _ S ka kn kc Z _ hp7.out (HI7.out.mono (by omega)) (ints_below HK.out hb7.out) hkn).mono ?_
        rintro e x8 ⟨rfl, F8, hp, hs⟩
        obtain ⟨hb, hF⟩ := hs.fresh hb7.out hF7.out
        have hp8 := Lib.hid hp; have hb8 := Lib.hid hb; have hF8 := Lib.hid hF
        clear hp hb hF hs
        go_wp2_with fail
        refine (I.read Q F8 _ nA _ hp8.out ((inv_crash HI7.out _).mono (by omega)) (by decide)).mono ?_
        rintro e x9 ⟨rfl, F9, hp, hs⟩
        obtain ⟨hb, hF⟩ := hs.fresh hb8.out hF8.out
        have hb9 := Lib.hid hb
        clear hp hb hF hs
        have hrs : readS (crashS S (keepOf kn Z)) nA = fresh := by
          rcases R3.out with h | ⟨h, _⟩
          · exact h
          · exact absurd rfl h
        rw [show readV (crashS S (keepOf kn Z)) nA = .tuple #[.string fresh, .int .i64 0] by unfold readV; rw [R2.out, hrs]]
        clear hrs
        go_wp2_with fail
        refine (awake_any I _).mono ?_
        rintro e xa ⟨rfl, hb⟩
        have hba := below_then hb9.out hb
        go_wp2_with fail
        go_ret
        exact ⟨rfl, hba⟩
      · rw [g3] at R3 ⊢
        have hp7 := Lib.hid hp; have hb7 := Lib.hid hb; have hF7 := Lib.hid hF; have HI7 := Lib.hid hi7
        clear hp hb hF hs hi7 hi4 hi5 hi2
        go_wp2_with fail
        refine (I.crash Q _ S ka kn kc Z _ hp7.out (HI7.out.mono (by omega)) (ints_below HK.out hb7.out) hkn).mono ?_
        rintro e x8 ⟨rfl, F8, hp, hs⟩
        obtain ⟨hb, hF⟩ := hs.fresh hb7.out hF7.out
        have hp8 := Lib.hid hp; have hb8 := Lib.hid hb; have hF8 := Lib.hid hF
        clear hp hb hF hs
        go_wp2_with fail
        refine (I.read Q F8 _ nA _ hp8.out ((inv_crash HI7.out _).mono (by omega)) (by decide)).mono ?_
        rintro e x9 ⟨rfl, F9, hp, hs⟩
        obtain ⟨hb, hF⟩ := hs.fresh hb8.out hF8.out
        have hb9 := Lib.hid hb
        clear hp hb hF hs
        by_cases hrs : readS (crashS S (keepOf kn Z)) nA = fresh
        · rw [show readV (crashS S (keepOf kn Z)) nA = .tuple #[.string fresh, .int .i64 0] by unfold readV; rw [R2.out, hrs]]
          clear hrs
          go_wp2_with fail
          refine (awake_any I _).mono ?_
          rintro e xa ⟨rfl, hb⟩
          have hba := below_then hb9.out hb
          go_wp2_with fail
          go_ret
          exact ⟨rfl, hba⟩
        · have hro : readS (crashS S (keepOf kn Z)) nA = old := by
            rcases R3.out with h | ⟨_, h⟩
            · exact absurd h hrs
            · exact h
          have hne : old ≠ fresh := by rw [← hro]; exact hrs
          have hne2 := bytes_ne hne
          have hne1 : (old == fresh) = false := by rw [beq_toListBytes]; exact hne2
          rw [show readV (crashS S (keepOf kn Z)) nA = .tuple #[.string old, .int .i64 0] by unfold readV; rw [R2.out, hro]]
          clear hrs hro
          go_wp2_with fail
          refine (awake_any I _).mono ?_
          rintro e xa ⟨rfl, hb⟩
          have hba := below_then hb9.out hb
          go_wp2_with fail
          go_ret
          exact ⟨rfl, hba⟩
    · have hWF : wholeF (wA old m hh) fresh = syncE (appS (wA old m hh) nB fresh) nB := by unfold wholeF; rw [if_pos g1, if_neg g2]
      have hWS : wholeS (wA old m hh) fresh = syncS (appS (wA old m hh) nB fresh) nB := by unfold wholeS; rw [if_pos g1, if_neg g2]
      have hi7 := hi6.mono (show 2 + 1 + 1 ≤ 2 + 1 + 1 + 1 by omega)
      rw [← hWF] at g2 ⊢
      rw [← hWS] at hp hi7
      obtain ⟨S, hSS⟩ : ∃ S, wholeS (wA old m hh) fresh = S := ⟨_, rfl⟩
      rw [hSS] at hp hi7 R2 R3
      have g3 : wholeF (wA old m hh) fresh = 14 := R1.out.resolve_left g2
      rw [g3] at R3 ⊢
      clear hWF hWS g2
      have hp7 := Lib.hid hp; have hb7 := Lib.hid hb; have hF7 := Lib.hid hF; have HI7 := Lib.hid hi7
      clear hp hb hF hs hi7 hi4 hi5 hi2
      go_wp2_with fail
      refine (I.crash Q _ S ka kn kc Z _ hp7.out (HI7.out.mono (by omega)) (ints_below HK.out hb7.out) hkn).mono ?_
      rintro e x8 ⟨rfl, F8, hp, hs⟩
      obtain ⟨hb, hF⟩ := hs.fresh hb7.out hF7.out
      have hp8 := Lib.hid hp; have hb8 := Lib.hid hb; have hF8 := Lib.hid hF
      clear hp hb hF hs
      go_wp2_with fail
      refine (I.read Q F8 _ nA _ hp8.out ((inv_crash HI7.out _).mono (by omega)) (by decide)).mono ?_
      rintro e x9 ⟨rfl, F9, hp, hs⟩
      obtain ⟨hb, hF⟩ := hs.fresh hb8.out hF8.out
      have hb9 := Lib.hid hb
      clear hp hb hF hs
      by_cases hrs : readS (crashS S (keepOf kn Z)) nA = fresh
      · rw [show readV (crashS S (keepOf kn Z)) nA = .tuple #[.string fresh, .int .i64 0] by unfold readV; rw [R2.out, hrs]]
        clear hrs
        go_wp2_with fail
        refine (awake_any I _).mono ?_
        rintro e xa ⟨rfl, hb⟩
        have hba := below_then hb9.out hb
        go_wp2_with fail
        go_ret
        exact ⟨rfl, hba⟩
      · have hro : readS (crashS S (keepOf kn Z)) nA = old := by
          rcases R3.out with h | ⟨_, h⟩
          · exact absurd h hrs
          · exact h
        have hne : old ≠ fresh := by rw [← hro]; exact hrs
        have hne2 := bytes_ne hne
        have hne1 : (old == fresh) = false := by rw [beq_toListBytes]; exact hne2
        rw [show readV (crashS S (keepOf kn Z)) nA = .tuple #[.string old, .int .i64 0] by unfold readV; rw [R2.out, hro]]
        clear hrs hro
        go_wp2_with fail
        refine (awake_any I _).mono ?_
        rintro e xa ⟨rfl, hb⟩
        have hba := below_then hb9.out hb
        go_wp2_with fail
        go_ret
        exact ⟨rfl, hba⟩
  · have hWF : wholeF (wA old m hh) fresh = appE (wA old m hh) nB fresh := by unfold wholeF; rw [if_neg g1]
    have hWS : wholeS (wA old m hh) fresh = appS (wA old m hh) nB fresh := by unfold wholeS; rw [if_neg g1]
    have hi7 := hi5.mono (show 2 + 1 ≤ 2 + 1 + 1 + 1 by omega)
    rw [← hWF] at g1 ⊢
    rw [← hWS] at hp hi7
    obtain ⟨S, hSS⟩ : ∃ S, wholeS (wA old m hh) fresh = S := ⟨_, rfl⟩
    rw [hSS] at hp hi7 R2 R3
    have g3 : wholeF (wA old m hh) fresh = 14 := R1.out.resolve_left g1
    rw [g3] at R3 ⊢
    clear hWF hWS g1
    have hp7 := Lib.hid hp; have hb7 := Lib.hid hb; have hF7 := Lib.hid hF; have HI7 := Lib.hid hi7
    clear hp hb hF hs hi7 hi4 hi5 hi2
    go_wp2_with fail
    refine (I.crash Q _ S ka kn kc Z _ hp7.out (HI7.out.mono (by omega)) (ints_below HK.out hb7.out) hkn).mono ?_
    rintro e x8 ⟨rfl, F8, hp, hs⟩
    obtain ⟨hb, hF⟩ := hs.fresh hb7.out hF7.out
    have hp8 := Lib.hid hp; have hb8 := Lib.hid hb; have hF8 := Lib.hid hF
    clear hp hb hF hs
    go_wp2_with fail
    refine (I.read Q F8 _ nA _ hp8.out ((inv_crash HI7.out _).mono (by omega)) (by decide)).mono ?_
    rintro e x9 ⟨rfl, F9, hp, hs⟩
    obtain ⟨hb, hF⟩ := hs.fresh hb8.out hF8.out
    have hb9 := Lib.hid hb
    clear hp hb hF hs
    by_cases hrs : readS (crashS S (keepOf kn Z)) nA = fresh
    · rw [show readV (crashS S (keepOf kn Z)) nA = .tuple #[.string fresh, .int .i64 0] by unfold readV; rw [R2.out, hrs]]
      clear hrs
      go_wp2_with fail
      refine (awake_any I _).mono ?_
      rintro e xa ⟨rfl, hb⟩
      have hba := below_then hb9.out hb
      go_wp2_with fail
      go_ret
      exact ⟨rfl, hba⟩
    · have hro : readS (crashS S (keepOf kn Z)) nA = old := by
        rcases R3.out with h | ⟨_, h⟩
        · exact absurd h hrs
        · exact h
      have hne : old ≠ fresh := by rw [← hro]; exact hrs
      have hne2 := bytes_ne hne
      have hne1 : (old == fresh) = false := by rw [beq_toListBytes]; exact hne2
      rw [show readV (crashS S (keepOf kn Z)) nA = .tuple #[.string old, .int .i64 0] by unfold readV; rw [R2.out, hro]]
      clear hrs hro
      go_wp2_with fail
      refine (awake_any I _).mono ?_
      rintro e xa ⟨rfl, hb⟩
      have hba := below_then hb9.out hb
      go_wp2_with fail
      go_ret
      exact ⟨rfl, hba⟩
set_option maxRecDepth 100000 in
set_option maxHeartbeats 2000000 in
theorem lawWhole_no (I : Impl) (old fresh : ByteArray) (x : Int) (ka : Option Addr) (kn kc : Nat) (w : World) (ho : old.size ≤ maxLen) (hf : fresh.size ≤ maxLen) (hkn : kn ≤ maxLen) (hno : ¬ ((1 ≤ old.size ∧ old.size ≤ 200) ∧ (1 ≤ fresh.size ∧ fresh.size ≤ 200) ∧ kn ≤ 20)) :
    Calls Try.prog 5 #[.agg #[.string old, .string fresh], .int .i64 x, .slice ka kn kc] w fun e w' => e = .returned (.bool true) ∧ Below w.heap.size w w' := by
  unfold maxLen at ho hf hkn
  have c0 : (w.alloc (.cells #[.string old, .string fresh] 46)).cell? ⟨w.heap.size, 0, none⟩ = some (.string old) := cell_block (heap_alloc_new w _) rfl
  have c1 : (w.alloc (.cells #[.string old, .string fresh] 46)).cell? ⟨w.heap.size, 1, none⟩ = some (.string fresh) := cell_block (heap_alloc_new w _) rfl
  have hal : Below w.heap.size w (w.alloc (.cells #[.string old, .string fresh] 46)) := (Below.refl _ w).alloc (Nat.le_refl _) _
  have HAl := Lib.hid hal
  clear hal
  by_cases q0 : old.size < 1
  · clear hno
    go_enter Try.func5, Try.ntmps5
    go_wp2_with fail
    go_quiet (fail)
    obtain ⟨x0, hx0, hb0⟩ : ∃ x0, (w.alloc (.cells #[.string old, .string fresh] 46)).drewN nq = x0 ∧ Below w.heap.size w x0 := ⟨_, rfl, below_then HAl.out (drewN_below _ _)⟩
    rw [hx0]
    have hb0 := Lib.hid hb0
    clear hx0 c0 c1 HAl
    go_wp2_with fail
    refine (awake_any I _).mono ?_
    rintro e xa ⟨rfl, hb⟩
    have hba := below_then hb0.out hb
    go_wp2_with fail
    go_ret
    exact ⟨rfl, hba⟩
  by_cases q1 : 200 < old.size
  · clear hno
    go_enter Try.func5, Try.ntmps5
    go_wp2_with fail
    go_quiet (fail)
    obtain ⟨x0, hx0, hb0⟩ : ∃ x0, (w.alloc (.cells #[.string old, .string fresh] 46)).drewN nq = x0 ∧ Below w.heap.size w x0 := ⟨_, rfl, below_then HAl.out (drewN_below _ _)⟩
    rw [hx0]
    have hb0 := Lib.hid hb0
    clear hx0 c0 c1 HAl
    go_wp2_with fail
    refine (awake_any I _).mono ?_
    rintro e xa ⟨rfl, hb⟩
    have hba := below_then hb0.out hb
    go_wp2_with fail
    go_ret
    exact ⟨rfl, hba⟩
  by_cases q2 : fresh.size < 1
  · clear hno
    go_enter Try.func5, Try.ntmps5
    go_wp2_with fail
    go_quiet (fail)
    obtain ⟨x0, hx0, hb0⟩ : ∃ x0, (w.alloc (.cells #[.string old, .string fresh] 46)).drewN nq = x0 ∧ Below w.heap.size w x0 := ⟨_, rfl, below_then HAl.out (drewN_below _ _)⟩
    rw [hx0]
    have hb0 := Lib.hid hb0
    clear hx0 c0 c1 HAl
    go_wp2_with fail
    refine (awake_any I _).mono ?_
    rintro e xa ⟨rfl, hb⟩
    have hba := below_then hb0.out hb
    go_wp2_with fail
    go_ret
    exact ⟨rfl, hba⟩
  by_cases q3 : 200 < fresh.size
  · clear hno
    go_enter Try.func5, Try.ntmps5
    go_wp2_with fail
    go_quiet (fail)
    obtain ⟨x0, hx0, hb0⟩ : ∃ x0, (w.alloc (.cells #[.string old, .string fresh] 46)).drewN nq = x0 ∧ Below w.heap.size w x0 := ⟨_, rfl, below_then HAl.out (drewN_below _ _)⟩
    rw [hx0]
    have hb0 := Lib.hid hb0
    clear hx0 c0 c1 HAl
    go_wp2_with fail
    refine (awake_any I _).mono ?_
    rintro e xa ⟨rfl, hb⟩
    have hba := below_then hb0.out hb
    go_wp2_with fail
    go_ret
    exact ⟨rfl, hba⟩
  by_cases q4 : 20 < kn
  · clear hno
    go_enter Try.func5, Try.ntmps5
    go_wp2_with fail
    go_quiet (fail)
    obtain ⟨x0, hx0, hb0⟩ : ∃ x0, (w.alloc (.cells #[.string old, .string fresh] 46)).drewN nq = x0 ∧ Below w.heap.size w x0 := ⟨_, rfl, below_then HAl.out (drewN_below _ _)⟩
    rw [hx0]
    have hb0 := Lib.hid hb0
    clear hx0 c0 c1 HAl
    go_wp2_with fail
    refine (awake_any I _).mono ?_
    rintro e xa ⟨rfl, hb⟩
    have hba := below_then hb0.out hb
    go_wp2_with fail
    go_ret
    exact ⟨rfl, hba⟩
  exact absurd ⟨⟨by omega, by omega⟩, ⟨by omega, by omega⟩, by omega⟩ hno
theorem lawWhole (I : Impl) (cs : Array Value) (T : Nat → ByteArray) (x : Int) (ka : Option Addr) (kn kc : Nat) (Z : Nat → Int) (w : World) (hz : cs.size = Try.prog.cellsOf 46) (hs : ∀ i, i < 2 → cs[i]? = some (.string (T i)) ∧ (T i).size ≤ maxLen) (hkn : kn ≤ maxLen) (hk : Ints w ka kn Z) :
    Calls Try.prog 5 #[.agg cs, .int .i64 x, .slice ka kn kc] w fun e w' => e = .returned (.bool true) ∧ Below w.heap.size w w' := by
  have hcs : cs = #[.string (T 0), .string (T 1)] := two_texts (hz.trans (by kernel_rfl)) (hs 0 (by omega)).1 (hs 1 (by omega)).1
  subst hcs
  by_cases hno : (1 ≤ (T 0).size ∧ (T 0).size ≤ 200) ∧ (1 ≤ (T 1).size ∧ (T 1).size ≤ 200) ∧ kn ≤ 20
  · exact lawWhole_yes I (T 0) (T 1) x ka kn kc Z w hk hno.2.2 hno.1 hno.2.1
  · exact lawWhole_no I (T 0) (T 1) x ka kn kc w (hs 0 (by omega)).2 (hs 1 (by omega)).2 hkn hno
end Go.Proofs.Ytflkglnmenbmaaa.Disk
