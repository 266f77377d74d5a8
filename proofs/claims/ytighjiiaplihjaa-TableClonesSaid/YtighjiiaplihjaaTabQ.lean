/- The walk of TablePlays. -/
import Derived.Test.YtighjiiaplihjaaTabJ
import Derived.Test.YtighjiiaplihjaaTabP
namespace Go.Proofs.Ytighjiiaplihjaa.Tab
open Go.RowKit Go.Lib
variable {I : Impl}

theorem acts_under {w w' : World} {aa : Option Addr} {an : Nat} {A : Nat → AC} (h : Acts w aa an A) (hb : Below w.heap.size w w') : Acts w' aa an A := fun j hj => by
  obtain ⟨b, off, e, hlt, c0, c1, c2, c3, c4, c5⟩ := h j hj
  have hh := (bcell hb).1
  exact ⟨b, off, e, Nat.lt_of_lt_of_le hlt hb.size, (hh b _ hlt).trans c0, (hh b _ hlt).trans c1, (hh b _ hlt).trans c2, (hh b _ hlt).trans c3, (hh b _ hlt).trans c4, (hh b _ hlt).trans c5⟩
theorem both_start (I : Impl) (w : World) : Both I w (w.alloc (.cells zeroT 28)) w.heap.size (fun k => k = w.heap.size) (.slice none 0 0) [] :=
  ⟨I.zero w, World.ownsRow_nil _ _ _ _, fun k hk => by rw [hk]; exact Nat.le_refl _, (fun q h => by simp [Value.ownBlock] at h), (Below.refl _ w).alloc (Nat.le_refl _) _⟩
theorem zero_key (W : World) : (Op.equalIn 10000 38 (.agg #[.int .i64 0, .int .i64 0, .int .i64 0, .int .i64 0]) (.agg #[.int .i64 0, .int .i64 0, .int .i64 0, .int .i64 0])).run Try.prog W = .ok true W := by
  have := run_keys ⟨0, 0, 0, 0⟩ ⟨0, 0, 0, 0⟩ 9998 W
  simpa using this
set_option maxRecDepth 100000 in
set_option maxHeartbeats 4000000 in
theorem plays_in (J : Iters I) (aa : Option Addr) (an ac : Nat) (A : Nat → AC) (w : World) (hA : Acts w aa an A) (hac : an ≤ ac) (hm : an ≤ maxLen) :
    Calls Try.prog 3 #[.slice aa an ac] w fun e w' => e = .returned (.bool true) ∧ Below w.heap.size w w' := by
  by_cases hbig : 40 < an
  · have hbi : (40 : Int) < (an : Int) := by omega
    go_enter Try.func3, Try.ntmps3
    go_wp2_with fail
    refine (awake_any J w).mono ?_
    rintro e w' ⟨rfl, hb⟩
    go_wp2_with fail
    go_ret
    exact ⟨rfl, hb⟩
  · have hbi : ¬ (40 : Int) < (an : Int) := by omega
    have hbd : decide ((40 : Int) < (an : Int)) = false := decide_eq_false hbi
    obtain ⟨l, hl⟩ : ∃ l, actsL A an = l := ⟨_, rfl⟩
    obtain ⟨m, hm⟩ : ∃ m, l.length = m := ⟨_, rfl⟩
    have HR : Hid (Rising l) := Lib.hid (hl ▸ rising_acts A an)
    have hm40 : m ≤ 40 := by have := length_acts A an; rw [hl] at this; omega
    have HAC : Hid (Calls Try.prog 9 #[ptr w.heap.size, .slice aa an ac] (w.alloc (.cells zeroT 28)) fun e w' => ∃ xa xc F, e = .returned (.tuple #[.slice xa m xc, .bool true]) ∧ Hid (Both I w w' w.heap.size F (.slice xa m xc) l)) := Lib.hid (by
      refine (acts_any w.heap.size _ aa an ac A _ hA (by omega) hac (both_start I w)).mono ?_
      rintro e w' ⟨xv, F, rfl, hb⟩
      rw [hl] at hb
      obtain ⟨a, c, rfl, _⟩ := pairs_slice hb.pairs
      rw [hm] at hb ⊢
      exact ⟨a, c, F, rfl, Lib.hid hb⟩)
    have HL := Lib.hid hm
    clear hl hA hm
    go_enter Try.func3, Try.ntmps3
    go_wp2_with fail
    refine HAC.out.mono ?_
    rintro e w2 ⟨xa, xc, F, rfl, H2⟩
    have HALL : Hid (Calls Try.prog 11 #[ptr w.heap.size] w2 fun e w' => ∃ v, e = .returned v ∧ Hid (Own w' w2.heap.size v l ∧ Both I w w' w.heap.size F (.slice xa m xc) l)) := Lib.hid (by
      refine (all_any J w.heap.size F l w2 H2.out.pt HR.out (by have := HL.out; omega)).mono ?_
      rintro e w' ⟨v, rfl, ho, hb⟩
      exact ⟨v, rfl, Lib.hid ⟨ho, H2.out.under hb⟩⟩)
    go_wp2_with fail
    refine HALL.out.mono ?_
    rintro e w3 ⟨va, rfl, H3⟩
    have HSM : Hid (Calls Try.prog 10 #[va, .slice xa m xc] w3 fun e w' => e = .returned (.bool true) ∧ Hid (Both I w w' w.heap.size F (.slice xa m xc) l)) := Lib.hid (by
      refine (same_yes va (.slice xa m xc) l w3 (World.ownsRow.mono H3.out.1 (Nat.zero_le _)) H3.out.2.pairs (by have := HL.out; omega)).mono ?_
      rintro e w' ⟨rfl, hb⟩
      exact ⟨rfl, Lib.hid (H3.out.2.under hb)⟩)
    go_wp2_with fail
    refine HSM.out.mono ?_
    rintro e w4 ⟨rfl, H4⟩
    have HKS : Hid (Calls Try.prog 13 #[ptr w.heap.size] w4 fun e w' => ∃ v, e = .returned v ∧ Hid (OwnK w' w4.heap.size v (keys l) ∧ Both I w w' w.heap.size F (.slice xa m xc) l)) := Lib.hid (by
      refine (I.keys' w.heap.size F l w4 H4.out.pt HR.out (by have := HL.out; omega)).mono ?_
      rintro e w' ⟨v, rfl, ho, hb⟩
      exact ⟨v, rfl, Lib.hid ⟨ho, H4.out.under hb⟩⟩)
    go_wp2_with fail
    refine HKS.out.mono ?_
    rintro e w5 ⟨vk, rfl, H5⟩
    have HKR : Hid (Calls Try.prog 14 #[.slice xa m xc] w5 fun e w' => ∃ v, e = .returned v ∧ Hid ((OwnK w' w4.heap.size vk (keys l) ∧ OwnK w' w5.heap.size v (keys l)) ∧ Both I w w' w.heap.size F (.slice xa m xc) l)) := Lib.hid (by
      refine (keys_any (.slice xa m xc) l w5 H5.out.2.pairs (by have := HL.out; omega)).mono ?_
      rintro e w' ⟨v, rfl, ho, hb⟩
      exact ⟨v, rfl, Lib.hid ⟨⟨H5.out.1.kept (row := none) ⟨hb.os, hb.tape, hb.output, hb.size, fun i hi _ => hb.block i hi⟩ (Classical.em _), ho⟩, H5.out.2.under hb⟩⟩)
    go_wp2_with fail
    refine HKR.out.mono ?_
    rintro e w6 ⟨vr, rfl, H6⟩
    have HSK : Hid (Calls Try.prog 12 #[vk, vr] w6 fun e w' => e = .returned (.bool true) ∧ Hid (Both I w w' w.heap.size F (.slice xa m xc) l)) := Lib.hid (by
      refine (sameKeys_yes vk vr _ _ (keys l) w6 H6.out.1.1 H6.out.1.2 (by unfold keys; rw [List.length_map]; have := HL.out; omega)).mono ?_
      rintro e w' ⟨rfl, hb⟩
      exact ⟨rfl, Lib.hid (H6.out.2.under hb)⟩)
    go_wp2_with fail
    refine HSK.out.mono ?_
    rintro e w7 ⟨rfl, H7⟩
    go_wp2_with fail
    go_loopw [6] (fun t wr => ∃ i : Int, -1 ≤ i ∧ i ≤ (m : Int) + 1 ∧ t = .int .i64 i ∧ Hid (Both I w wr w.heap.size F (.slice xa m xc) l)) (fun t _ => ((m : Int) + 1 - RowKit.intOf t).toNat)
    case atStart => exact ⟨-1, by omega, by omega, rfl, H7⟩
    case round =>
      obtain ⟨i, hi1, hi2, rfl, HB⟩ := hrel
      by_cases hle : i ≤ (m : Int)
      · by_cases hin : 0 ≤ i ∧ i < (m : Int)
        · obtain ⟨n, rfl⟩ : ∃ n : Nat, i = n := ⟨i.toNat, by omega⟩
          have hnm : (n : Int) < (m : Int) := hin.2
          have hn0 : (0 : Int) ≤ (n : Int) := hin.1
          obtain ⟨p, hp⟩ : ∃ p, l[n]? = some p := ⟨l[n]'(by have := HL.out; omega), List.getElem?_eq_getElem (by have := HL.out; omega)⟩
          have HPP := Lib.hid hp
          have HAT : Hid (Calls Try.prog 15 #[ptr w.heap.size, .int .i64 (n : Nat)] wr fun e w' => e = .returned (.tuple #[.agg #[.int .i64 p.k.a, .int .i64 p.k.b, .int .i64 p.k.c, .int .i64 p.k.d], .int .i64 p.v, .bool true]) ∧ Hid (Both I w w' w.heap.size F (.slice xa m xc) l)) := Lib.hid (by
            refine (I.at' w.heap.size F l n wr HB.out.pt HR.out (by have := HL.out; omega)).mono ?_
            rintro e w' ⟨rfl, hb⟩
            refine ⟨?_, Lib.hid (HB.out.under hb)⟩
            unfold atV
            rw [if_pos ⟨hn0, by have := HL.out; omega⟩]
            have : nthP l (n : Int).toNat = p := by rw [Int.toNat_natCast]; unfold nthP; rw [List.getD_eq_getElem?_getD, HPP.out]; rfl
            rw [this])
          clear hp hin
          go_wp2_with fail
          refine HAT.out.mono ?_
          rintro e w8 ⟨rfl, H8⟩
          obtain ⟨Z, hZ⟩ : ∃ Z, w8.alloc (.cells #[.int .i64 p.k.a, .int .i64 p.k.b, .int .i64 p.k.c, .int .i64 p.k.d] 38) = Z := ⟨_, rfl⟩
          have bZ : Below w8.heap.size w8 Z := by rw [← hZ]; exact (Below.refl _ w8).alloc (Nat.le_refl _) _
          have gZ : Z.heap[w8.heap.size]? = some (.cells p.k.cells 38 (0, 0)) := by rw [← hZ]; exact heap_alloc_new w8 _
          have HZ := Lib.hid (H8.out.under bZ)
          have z0 : Z.cell? ⟨w8.heap.size, 0, none⟩ = some (.int .i64 p.k.a) := key_at gZ 0 (by omega)
          have z1 : Z.cell? ⟨w8.heap.size, 1, none⟩ = some (.int .i64 p.k.b) := key_at gZ 1 (by omega)
          have z2 : Z.cell? ⟨w8.heap.size, 2, none⟩ = some (.int .i64 p.k.c) := key_at gZ 2 (by omega)
          have z3 : Z.cell? ⟨w8.heap.size, 3, none⟩ = some (.int .i64 p.k.d) := key_at gZ 3 (by omega)
          obtain ⟨a0, c0, he, _, hat⟩ := pairs_at HZ.out.pairs
          injection he with he1 he2 he3
          subst he1
          obtain ⟨g, rfl, hg, t0, t1, t2, t3, t4⟩ := hat n p HPP.out
          have hne : ∀ W, (binOp .neq 42 (pV p) (pV p)).run Try.prog W = .ok (.bool false) W := fun W => by
            have := run_pairs p p W
            simpa using this
          clear hat he2 he3 bZ gZ
          go_wp2_with fail
          try clear hZ
          go_quiet (fail)
          go_wp2_with fail
          go_roundw
          case rel => exact ⟨n + 1, by omega, by omega, by go_num, Lib.hid (HZ.out.under (below_drewN (Below.refl _ Z) _))⟩
          case measure => simp [RowKit.intOf]; omega
        · have HAT : Hid (Calls Try.prog 15 #[ptr w.heap.size, .int .i64 i] wr fun e w' => e = .returned (.tuple #[.agg #[.int .i64 0, .int .i64 0, .int .i64 0, .int .i64 0], .int .i64 0, .bool false]) ∧ Hid (Both I w w' w.heap.size F (.slice xa m xc) l)) := Lib.hid (by
            refine (I.at' w.heap.size F l i wr HB.out.pt HR.out (by have := HL.out; omega)).mono ?_
            rintro e w' ⟨rfl, hb⟩
            refine ⟨?_, Lib.hid (HB.out.under hb)⟩
            unfold atV
            rw [if_neg (by have := HL.out; omega)]
            rfl)
          have hzz := zero_key
          by_cases hneg : i < 0
          · obtain rfl : i = -1 := by omega
            clear hin hneg
            go_wp2_with fail
            refine HAT.out.mono ?_
            rintro e w8 ⟨rfl, H8⟩
            go_wp2_with fail
            obtain ⟨Z, hZ⟩ : ∃ Z, w8.alloc (.cells #[.int .i64 0, .int .i64 0, .int .i64 0, .int .i64 0] 38) = Z := ⟨_, rfl⟩
            have bZ : Below w8.heap.size w8 Z := by rw [← hZ]; exact (Below.refl _ w8).alloc (Nat.le_refl _) _
            have gZ : Z.heap[w8.heap.size]? = some (.cells (Key.cells ⟨0, 0, 0, 0⟩) 38 (0, 0)) := by rw [← hZ]; exact heap_alloc_new w8 _
            have HZ := Lib.hid (H8.out.under bZ)
            have z0 : Z.cell? ⟨w8.heap.size, 0, none⟩ = some (.int .i64 0) := key_at gZ 0 (by omega)
            have z1 : Z.cell? ⟨w8.heap.size, 1, none⟩ = some (.int .i64 0) := key_at gZ 1 (by omega)
            have z2 : Z.cell? ⟨w8.heap.size, 2, none⟩ = some (.int .i64 0) := key_at gZ 2 (by omega)
            have z3 : Z.cell? ⟨w8.heap.size, 3, none⟩ = some (.int .i64 0) := key_at gZ 3 (by omega)
            clear bZ gZ
            rw [hZ]
            clear hZ
            go_quiet (fail)
            go_wp2_with fail
            go_roundw
            case rel => exact ⟨0, by omega, by omega, by go_num, Lib.hid (HZ.out.under (below_drewN (Below.refl _ Z) _))⟩
            case measure => simp [RowKit.intOf]; omega
          · obtain rfl : i = (m : Int) := by omega
            have hm0 : (0 : Int) ≤ (m : Int) := by omega
            clear hin hneg
            go_wp2_with fail
            refine HAT.out.mono ?_
            rintro e w8 ⟨rfl, H8⟩
            go_wp2_with fail
            obtain ⟨Z, hZ⟩ : ∃ Z, w8.alloc (.cells #[.int .i64 0, .int .i64 0, .int .i64 0, .int .i64 0] 38) = Z := ⟨_, rfl⟩
            have bZ : Below w8.heap.size w8 Z := by rw [← hZ]; exact (Below.refl _ w8).alloc (Nat.le_refl _) _
            have gZ : Z.heap[w8.heap.size]? = some (.cells (Key.cells ⟨0, 0, 0, 0⟩) 38 (0, 0)) := by rw [← hZ]; exact heap_alloc_new w8 _
            have HZ := Lib.hid (H8.out.under bZ)
            have z0 : Z.cell? ⟨w8.heap.size, 0, none⟩ = some (.int .i64 0) := key_at gZ 0 (by omega)
            have z1 : Z.cell? ⟨w8.heap.size, 1, none⟩ = some (.int .i64 0) := key_at gZ 1 (by omega)
            have z2 : Z.cell? ⟨w8.heap.size, 2, none⟩ = some (.int .i64 0) := key_at gZ 2 (by omega)
            have z3 : Z.cell? ⟨w8.heap.size, 3, none⟩ = some (.int .i64 0) := key_at gZ 3 (by omega)
            clear bZ gZ
            rw [hZ]
            clear hZ
            go_quiet (fail)
            go_wp2_with fail
            go_roundw
            case rel => exact ⟨m + 1, by omega, by omega, by go_num, Lib.hid (HZ.out.under (below_drewN (Below.refl _ Z) _))⟩
            case measure => simp [RowKit.intOf]
      · have hgt : (m : Int) < i := by omega
        go_wp2_with fail
        refine (awake_any J _).mono ?_
        rintro e w' ⟨rfl, hb⟩
        go_wp2_with fail
        go_ret
        exact ⟨rfl, below_then HB.out.below hb⟩
end Go.Proofs.Ytighjiiaplihjaa.Tab
