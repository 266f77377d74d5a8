/- The walk over the law DiskSure, for any implementation. -/
import Derived.Test.YtflkglnmenbmaaaDiskP
namespace Go.Proofs.Ytflkglnmenbmaaa.Disk
open Go.RowKit Go.Lib

def mine : ByteArray := ⟨#[109, 105, 110, 101]⟩
theorem mine_name : isName mine := by decide
theorem mine_list : mine.toList = [109, 105, 110, 101] := by rw [ByteArray.toList_eq]; rfl
theorem empty_list : (⟨#[]⟩ : ByteArray).toList = [] := by rw [ByteArray.toList_eq]
theorem empty_of {s : ByteArray} (h : s.size = 0) : s = ⟨#[]⟩ := by
  apply ByteArray.ext
  exact Array.eq_empty_of_size_eq_zero h
theorem extract_self {A : ByteArray} {k : Nat} (h : k ≤ A.size) : (A.extract 0 k).size = k ∧ A.extract 0 (A.extract 0 k).size = A.extract 0 k := by
  have h1 : (A.extract 0 k).size = k := by rw [ByteArray.size_extract]; omega
  exact ⟨h1, by rw [h1]⟩
set_option maxRecDepth 100000 in
set_option maxHeartbeats 4000000 in
theorem lawSure_yes (I : Impl) (sure more : ByteArray) (aa : Option Addr) (an ac : Nat) (A : Nat → AC) (KA : Nat → Option Addr) (KN KC : Nat → Nat) (KZ : Nat → Nat → Int) (ka : Option Addr) (kn kc : Nat) (Z : Nat → Int) (w : World)
    (h1 : sure.size ≤ 200) (h2 : more.size ≤ 200) (hA : Acts w aa an A KA KN KC KZ) (han : an ≤ 20) (hsm : ∀ j, j < an → small A KN j) (hk : Ints w ka kn Z) (hkn : kn ≤ 20) :
    Calls Try.prog 4 #[.agg #[.string sure, .string more], .slice aa an ac, .slice ka kn kc] w fun e w' => e = .returned (.bool true) ∧ Below w.heap.size w w' := by
  obtain ⟨e1, e2, e3, e4, e5, e6, e7⟩ := sure_start (m := mine) mine_name h1 h2
  have hi2 := inv_sync (inv_app (inv_new (room := 65536) (by omega)) mine sure) mine
  have hi3 := inv_app hi2 mine more
  have HK := Lib.hid hk; have HA := Lib.hid hA; have HS := Lib.hid hsm
  have E1 := Lib.hid e1; have E2 := Lib.hid e2; have E3 := Lib.hid e3; have E4 := Lib.hid e4; have HI2 := Lib.hid hi2; have HI3 := Lib.hid hi3
  have HSm : Hid (∀ W, Below w.heap.size w W → Calls Try.prog 7 #[.slice aa an ac, .int .i64 20] W fun e w' => e = .returned (.bool true) ∧ W = w') :=
    Lib.hid (fun W hW => small_yes 20 aa an ac A KA KN KC KZ W (acts_below hA hW) han (by omega) hsm)
  have c0 : (w.alloc (.cells #[.string sure, .string more] 46)).cell? ⟨w.heap.size, 0, none⟩ = some (.string sure) := cell_block (heap_alloc_new w _) rfl
  have c1 : (w.alloc (.cells #[.string sure, .string more] 46)).cell? ⟨w.heap.size, 1, none⟩ = some (.string more) := cell_block (heap_alloc_new w _) rfl
  have hal : Below w.heap.size w (w.alloc (.cells #[.string sure, .string more] 46)) := (Below.refl _ w).alloc (Nat.le_refl _) _
  have HAl := Lib.hid hal
  clear hk e1 e2 e3 e4 e5 e6 e7 hal hA hsm hi2 hi3
  go_enter Try.func4, Try.ntmps4
  go_wp2_with fail
  go_quiet (fail)
  obtain ⟨x0, hx0, hb0⟩ : ∃ x0, (w.alloc (.cells #[.string sure, .string more] 46)).drewN nq = x0 ∧ Below w.heap.size w x0 := ⟨_, rfl, below_then HAl.out (drewN_below _ _)⟩
  rw [hx0]
  have hb0 := Lib.hid hb0
  clear hx0 c0 c1 HAl
  go_wp2_with fail
  refine (HSm.out _ hb0.out).mono ?_
  rintro e w' ⟨rfl, rfl⟩
  clear HSm
  go_wp2_with fail
  refine (I.new 65536 _ (by omega)).mono ?_
  rintro e x1 ⟨Q, F, rfl, hp, hb, hF⟩
  have hp1 := Lib.hid hp; have hb1 := Lib.hid (below_then hb0.out hb); have hF1 := Lib.hid (fun k hk => Nat.le_trans hb0.out.size (hF k hk))
  clear hp hb hF
  go_wp2_with fail
  refine (I.append Q F (newS 65536) mine sure _ hp1.out ((inv_new (by omega)).mono (by omega)) (by decide) (by omega)).mono ?_
  rintro e x2 ⟨rfl, F2, hp, hs⟩
  obtain ⟨hb, hF⟩ := hs.fresh hb1.out hF1.out
  have hp2 := Lib.hid hp; have hb2 := Lib.hid hb; have hF2 := Lib.hid hF
  clear hp hb hF hs hp1 hb1 hF1 hb0
  rw [E1.out]
  go_wp2_with fail
  refine (I.sync Q F2 _ mine _ hp2.out ((inv_app (inv_new (room := 65536) (by omega)) mine sure).mono (by omega)) (by decide)).mono ?_
  rintro e x3 ⟨rfl, F3, hp, hs⟩
  obtain ⟨hb, hF⟩ := hs.fresh hb2.out hF2.out
  have hp3 := Lib.hid hp; have hb3 := Lib.hid hb; have hF3 := Lib.hid hF
  clear hp hb hF hs hp2 hb2 hF2
  rw [E2.out]
  go_wp2_with fail
  refine (I.append Q F3 _ mine more _ hp3.out (HI2.out.mono (by omega)) (by decide) (by omega)).mono ?_
  rintro e x4 ⟨rfl, F4, hp, hs⟩
  obtain ⟨hb, hF⟩ := hs.fresh hb3.out hF3.out
  have hp4 := Lib.hid hp; have hb4 := Lib.hid hb; have hF4 := Lib.hid hF
  clear hp hb hF hs hp3 hb3 hF3
  rw [E3.out]
  go_wp2_with fail
  go_loopw [11] (fun i wr => ∃ (k : Nat) (F' : Nat → Prop) (st : DS), k ≤ an ∧ i = .int .i64 k ∧ Hid (I.PD wr Q F' st ∧ Inv st (3 + k) ∧ look st.fs mine = some ⟨mine, sure ++ more, sure.size⟩ ∧ (∀ b, F' b → w.heap.size ≤ b)) ∧ Below w.heap.size w wr) (fun i _ => an - (RowKit.intOf i).toNat)
  case atStart => exact ⟨0, F4, _, by omega, rfl, Lib.hid ⟨hp4.out, HI3.out, E4.out, hF4.out⟩, hb4.out⟩
  case round =>
    obtain ⟨k, F', st, hk, rfl, HP, hb⟩ := hrel
    by_cases hlt : k < an
    · obtain ⟨b, off, rfl, _, c0, c1, c2, c3, c4, c5⟩ := (acts_below HA.out hb).cells k hlt
      have HB := Lib.hid hb
      clear hb
      have skip : Hid (∃ (F' : Nat → Prop) (st : DS), I.PD wr Q F' st ∧ Inv st (3 + (k + 1)) ∧ look st.fs mine = some ⟨mine, sure ++ more, sure.size⟩ ∧ (∀ b, F' b → w.heap.size ≤ b)) :=
        Lib.hid ⟨F', st, HP.out.1, HP.out.2.1.mono (by omega), HP.out.2.2⟩
      by_cases n1 : (A k).name = mine
      · rw [n1, show mine = ⟨#[109, 105, 110, 101]⟩ from rfl] at c2
        go_wp2_with fail
        go_roundw
        case rel =>
          obtain ⟨F1, s1, p⟩ := skip.out
          exact ⟨k + 1, F1, s1, by omega, by go_num, Lib.hid p, HB.out⟩
        case measure => simp [RowKit.intOf]; omega
      · have n1b := bytes_ne n1
        have n1d : ¬ (A k).name.toList = [109, 105, 110, 101] := fun h => by rw [h, mine_list] at n1b; exact absurd n1b (by decide)
        have n1c : ((A k).name == ⟨#[109, 105, 110, 101]⟩) = false := by rw [beq_toListBytes]; exact n1b
        by_cases n2 : (A k).arg = mine
        · rw [n2, show mine = ⟨#[109, 105, 110, 101]⟩ from rfl] at c3
          go_wp2_with fail
          go_roundw
          case rel =>
            obtain ⟨F1, s1, p⟩ := skip.out
            exact ⟨k + 1, F1, s1, by omega, by go_num, Lib.hid p, HB.out⟩
          case measure => simp [RowKit.intOf]; omega
        · have n2b := bytes_ne n2
          have n2d : ¬ (A k).arg.toList = [109, 105, 110, 101] := fun h => by rw [h, mine_list] at n2b; exact absurd n2b (by decide)
          have n2c : ((A k).arg == ⟨#[109, 105, 110, 101]⟩) = false := by rw [beq_toListBytes]; exact n2b
          by_cases n3 : (A k).kind = 6
          · rw [n3] at c0
            go_wp2_with fail
            go_roundw
            case rel =>
              obtain ⟨F1, s1, p⟩ := skip.out
              exact ⟨k + 1, F1, s1, by omega, by go_num, Lib.hid p, HB.out⟩
            case measure => simp [RowKit.intOf]; omega
          · have n3b : ((A k).kind == 6) = false := by simpa using n3
            have n1e : ((A k).name.toList == [109, 105, 110, 101]) = false := beq_eq_false_iff_ne.2 n1d
            have n2e : ((A k).arg.toList == [109, 105, 110, 101]) = false := beq_eq_false_iff_ne.2 n2d
            have n3c : ((A k).kind != 6) = true := by simpa using n3
            obtain ⟨p1, p2, p3, p4⟩ := HP.out
            obtain ⟨s1, s2, s3⟩ := HS.out k hlt
            have hAk := (acts_below HA.out HB.out).is k hlt
            have HD := Lib.hid (pdo_any I Q F' st (A k) (KA k) (KN k) (KC k) (KZ k) wr p1 (p2.mono (by omega)) hAk s1 s2 s3)
            have hlook := (look_do (st := st) (m := mine) (A k) n1 n2 n3).trans p3
            have hinv := inv_do p2 (A k) hAk.n.2
            have HF := Lib.hid p4; have HL := Lib.hid hlook; have HI := Lib.hid hinv
            clear p1 p2 p3 p4 hlook hinv skip HP hAk
            go_wp2_with fail
            refine HD.out.mono ?_
            rintro e w1 ⟨rfl, F1, hp, hs⟩
            obtain ⟨hb, hF⟩ := hs.fresh HB.out HF.out
            have HN : Hid (I.PD w1 Q F1 (doS st (A k)) ∧ Inv (doS st (A k)) (3 + (k + 1)) ∧ look (doS st (A k)).fs mine = some ⟨mine, sure ++ more, sure.size⟩ ∧ (∀ b, F1 b → w.heap.size ≤ b)) := Lib.hid ⟨hp, HI.out, HL.out, hF⟩
            have HB1 := Lib.hid hb
            clear hp hs hb hF
            go_wp2_with fail
            go_roundw
            case rel => exact ⟨k + 1, F1, _, by omega, by go_num, HN, HB1.out⟩
            case measure => simp [RowKit.intOf]; omega
    · obtain rfl : k = an := by omega
      have HB := Lib.hid hb
      clear hb
      obtain ⟨p1, p2, p3, p4⟩ := HP.out
      have hend := sure_end p2.sorted p3 (by rw [ByteArray.size_append]; omega) (keepOf kn Z)
      have HE := Lib.hid hend; have H1 := Lib.hid p1; have H2 := Lib.hid p2; have H4 := Lib.hid p4
      clear p1 p2 p3 p4 hend HP
      go_wp2_with fail
      refine (I.crash Q F' st ka kn kc Z _ H1.out (H2.out.mono (by omega)) (ints_below HK.out HB.out) hkn).mono ?_
      rintro e x8 ⟨rfl, F8, hp, hs⟩
      obtain ⟨hb, hF⟩ := hs.fresh HB.out H4.out
      have hp8 := Lib.hid hp; have hb8 := Lib.hid hb; have hF8 := Lib.hid hF
      clear hp hb hF hs
      go_wp2_with fail
      refine (I.read Q F8 _ mine _ hp8.out ((inv_crash H2.out _).mono (by omega)) (by decide)).mono ?_
      rintro e x9 ⟨rfl, F9, hp, hs⟩
      obtain ⟨hb, hF⟩ := hs.fresh hb8.out hF8.out
      have hb9 := Lib.hid hb
      clear hp hb hF hs
      rcases HE.out with ⟨r1, r2, r3⟩ | ⟨q, q0, q1, q2, r1, r2⟩
      · rw [show readV (crashS st (keepOf kn Z)) mine = .tuple #[.string ⟨#[]⟩, .int .i64 3] by unfold readV; rw [r1, r2]]
        have hse := empty_of r3
        subst hse
        clear r1 r2 r3
        go_wp2_with fail
        refine (awake_any I _).mono ?_
        rintro e xa ⟨rfl, hb⟩
        have hba := below_then hb9.out hb
        go_wp2_with fail
        go_ret
        exact ⟨rfl, hba⟩
      · obtain ⟨z1, z2⟩ := extract_self q2
        obtain ⟨All, hAll⟩ : ∃ All, sure ++ more = All := ⟨_, rfl⟩
        have hsz : All.size = sure.size + more.size := by rw [← hAll, ByteArray.size_append]
        rw [hAll] at z1 z2 r2 q2
        obtain ⟨s, hss⟩ : ∃ s, All.extract 0 q = s := ⟨_, rfl⟩
        rw [hss] at z1 z2 r2
        rw [show readV (crashS st (keepOf kn Z)) mine = .tuple #[.string s, .int .i64 0] by unfold readV; rw [r1, r2]]
        have hsne : s ≠ ⟨#[]⟩ := by rintro rfl; have : (⟨#[]⟩ : ByteArray).size = 0 := rfl; omega
        have hs3 := bytes_ne hsne
        have hs5 : ¬ s.toList = [] := fun h => by rw [h, empty_list] at hs3; exact absurd hs3 (by decide)
        have hs4 : s.toList.isEmpty = false := by cases h : s.toList with
          | nil => exact absurd h hs5
          | cons _ _ => rfl
        have hs2 : (s == ⟨#[]⟩) = false := by rw [beq_toListBytes]; exact hs3
        have hno : ¬ 9223372036854775807 < sure.size + more.size := by omega
        have hsz1 : sure.size ≤ s.size := by omega
        have hsz2 : s.size ≤ All.size := by omega
        have hAs : All.size ≤ 400 := by omega
        clear r1 r2 hss z1 hsz q0 q1 q2
        go_wp2_with fail
        refine (awake_any I _).mono ?_
        rintro e xa ⟨rfl, hb⟩
        have hba := below_then hb9.out hb
        go_wp2_with fail
        go_ret
        exact ⟨rfl, hba⟩
set_option maxRecDepth 100000 in
set_option maxHeartbeats 2000000 in
theorem lawSure_no (I : Impl) (sure more : ByteArray) (aa : Option Addr) (an ac : Nat) (A : Nat → AC) (KA : Nat → Option Addr) (KN KC : Nat → Nat) (KZ : Nat → Nat → Int) (ka : Option Addr) (kn kc : Nat) (w : World)
    (hs : sure.size ≤ maxLen) (hm : more.size ≤ maxLen) (han : an ≤ maxLen) (hkn : kn ≤ maxLen) (hA : Acts w aa an A KA KN KC KZ) (hno : ¬ (sure.size ≤ 200 ∧ more.size ≤ 200 ∧ (an ≤ 20 ∧ ∀ j, j < an → small A KN j) ∧ kn ≤ 20)) :
    Calls Try.prog 4 #[.agg #[.string sure, .string more], .slice aa an ac, .slice ka kn kc] w fun e w' => e = .returned (.bool true) ∧ Below w.heap.size w w' := by
  have han' := Lib.hid han
  unfold maxLen at hs hm hkn han
  have c0 : (w.alloc (.cells #[.string sure, .string more] 46)).cell? ⟨w.heap.size, 0, none⟩ = some (.string sure) := cell_block (heap_alloc_new w _) rfl
  have c1 : (w.alloc (.cells #[.string sure, .string more] 46)).cell? ⟨w.heap.size, 1, none⟩ = some (.string more) := cell_block (heap_alloc_new w _) rfl
  have hal : Below w.heap.size w (w.alloc (.cells #[.string sure, .string more] 46)) := (Below.refl _ w).alloc (Nat.le_refl _) _
  have HAl := Lib.hid hal; have HA := Lib.hid hA
  clear hal hA
  by_cases q0 : 200 < sure.size
  · clear hno
    go_enter Try.func4, Try.ntmps4
    go_wp2_with fail
    go_quiet (fail)
    obtain ⟨x0, hx0, hb0⟩ : ∃ x0, (w.alloc (.cells #[.string sure, .string more] 46)).drewN nq = x0 ∧ Below w.heap.size w x0 := ⟨_, rfl, below_then HAl.out (drewN_below _ _)⟩
    rw [hx0]
    have hb0 := Lib.hid hb0
    clear hx0 c0 c1 HAl
    go_wp2_with fail
    refine (awake_any I _).mono ?_
    rintro e xa ⟨rfl, hb⟩
    have hba := below_then hb0.out hb
    go_wp2_with fail
    go_ret
    exact ⟨rfl, hba⟩
  by_cases q1 : 200 < more.size
  · clear hno
    go_enter Try.func4, Try.ntmps4
    go_wp2_with fail
    go_quiet (fail)
    obtain ⟨x0, hx0, hb0⟩ : ∃ x0, (w.alloc (.cells #[.string sure, .string more] 46)).drewN nq = x0 ∧ Below w.heap.size w x0 := ⟨_, rfl, below_then HAl.out (drewN_below _ _)⟩
    rw [hx0]
    have hb0 := Lib.hid hb0
    clear hx0 c0 c1 HAl
    go_wp2_with fail
    refine (awake_any I _).mono ?_
    rintro e xa ⟨rfl, hb⟩
    have hba := below_then hb0.out hb
    go_wp2_with fail
    go_ret
    exact ⟨rfl, hba⟩
  by_cases q2 : an ≤ 20 ∧ ∀ j, j < an → small A KN j
  · have q3 : 20 < kn := by
      apply Nat.lt_of_not_le
      intro h
      exact hno ⟨by omega, by omega, q2, h⟩
    have HSm : Hid (∀ W, Below w.heap.size w W → Calls Try.prog 7 #[.slice aa an ac, .int .i64 20] W fun e w' => e = .returned (.bool true) ∧ W = w') :=
      Lib.hid (fun W hW => small_yes 20 aa an ac A KA KN KC KZ W (acts_below HA.out hW) q2.1 (by omega) q2.2)
    clear hno q2
    go_enter Try.func4, Try.ntmps4
    go_wp2_with fail
    go_quiet (fail)
    obtain ⟨x0, hx0, hb0⟩ : ∃ x0, (w.alloc (.cells #[.string sure, .string more] 46)).drewN nq = x0 ∧ Below w.heap.size w x0 := ⟨_, rfl, below_then HAl.out (drewN_below _ _)⟩
    rw [hx0]
    have hb0 := Lib.hid hb0
    clear hx0 c0 c1 HAl
    go_wp2_with fail
    refine (HSm.out _ hb0.out).mono ?_
    rintro e w' ⟨rfl, rfl⟩
    clear HSm
    go_wp2_with fail
    refine (awake_any I _).mono ?_
    rintro e xa ⟨rfl, hb⟩
    have hba := below_then hb0.out hb
    go_wp2_with fail
    go_ret
    exact ⟨rfl, hba⟩
  · have HSm : Hid (∀ W, Below w.heap.size w W → Calls Try.prog 7 #[.slice aa an ac, .int .i64 20] W fun e w' => e = .returned (.bool false) ∧ W = w') :=
      Lib.hid (fun W hW => small_no 20 aa an ac A KA KN KC KZ W (acts_below HA.out hW) han'.out (by omega) q2)
    clear hno q2
    go_enter Try.func4, Try.ntmps4
    go_wp2_with fail
    go_quiet (fail)
    obtain ⟨x0, hx0, hb0⟩ : ∃ x0, (w.alloc (.cells #[.string sure, .string more] 46)).drewN nq = x0 ∧ Below w.heap.size w x0 := ⟨_, rfl, below_then HAl.out (drewN_below _ _)⟩
    rw [hx0]
    have hb0 := Lib.hid hb0
    clear hx0 c0 c1 HAl
    go_wp2_with fail
    refine (HSm.out _ hb0.out).mono ?_
    rintro e w' ⟨rfl, rfl⟩
    clear HSm
    go_wp2_with fail
    refine (awake_any I _).mono ?_
    rintro e xa ⟨rfl, hb⟩
    have hba := below_then hb0.out hb
    go_wp2_with fail
    go_ret
    exact ⟨rfl, hba⟩
theorem lawSure (I : Impl) (cs : Array Value) (T : Nat → ByteArray) (aa : Option Addr) (an ac : Nat) (A : Nat → AC) (KA : Nat → Option Addr) (KN KC : Nat → Nat) (KZ : Nat → Nat → Int) (ka : Option Addr) (kn kc : Nat) (Z : Nat → Int) (w : World) (hz : cs.size = Try.prog.cellsOf 46) (hs : ∀ i, i < 2 → cs[i]? = some (.string (T i)) ∧ (T i).size ≤ maxLen)
    (han : an ≤ maxLen) (hA : Acts w aa an A KA KN KC KZ) (hkn : kn ≤ maxLen) (hk : Ints w ka kn Z) :
    Calls Try.prog 4 #[.agg cs, .slice aa an ac, .slice ka kn kc] w fun e w' => e = .returned (.bool true) ∧ Below w.heap.size w w' := by
  have hcs : cs = #[.string (T 0), .string (T 1)] := two_texts (hz.trans (by kernel_rfl)) (hs 0 (by omega)).1 (hs 1 (by omega)).1
  subst hcs
  by_cases hno : (T 0).size ≤ 200 ∧ (T 1).size ≤ 200 ∧ (an ≤ 20 ∧ ∀ j, j < an → small A KN j) ∧ kn ≤ 20
  · exact lawSure_yes I (T 0) (T 1) aa an ac A KA KN KC KZ ka kn kc Z w hno.1 hno.2.1 hA hno.2.2.1.1 hno.2.2.1.2 hk hno.2.2.2
  · exact lawSure_no I (T 0) (T 1) aa an ac A KA KN KC KZ ka kn kc w (hs 0 (by omega)).2 (hs 1 (by omega)).2 han hkn hA hno
end Go.Proofs.Ytflkglnmenbmaaa.Disk
