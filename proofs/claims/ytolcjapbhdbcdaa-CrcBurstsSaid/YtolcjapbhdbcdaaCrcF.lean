/- A text of which some bits are turned, all within 32 neighbours: the mathematics, and the law's walk. -/
import Derived.Test.YtolcjapbhdbcdaaCrcB
import Derived.RegionTactic
import Derived.BigRegion
import Derived.IntWalk
namespace Go.Proofs.Ytolcjapbhdbcdaa.Crc
open Go.RowKit Go.Lib

theorem steps_back (N k : Nat) (h : k ≤ N) : steps (N - k) 1 = steps N (2 ^ k) := by
  have h1 := steps_mul 1 k
  rw [Nat.one_mul] at h1
  have h2 := steps_add k (2 ^ k) (N - k)
  rw [h1, show k + (N - k) = N by omega] at h2
  exact h2.symm
theorem turn_one {l s : List UInt8} {X p k E : Nat} (hl : l.length = s.length) (hq : p + k < 8 * s.length) (h : run X l = run X s ^^^ steps (8 * s.length - p) E) :
    run X (flip l (p + k)) = run X s ^^^ steps (8 * s.length - p) (E ^^^ 2 ^ k) := by
  rw [run_flip l X (p + k) (by rw [hl]; exact hq), h, hl, show 8 * s.length - (p + k) = 8 * s.length - p - k by omega, steps_back _ k (by omega), Nat.xor_assoc, ← steps_xor]
theorem turn_lt {E k : Nat} (h : E < 2 ^ k) : E ^^^ 2 ^ k < 2 ^ (k + 1) := by
  have h2 : 2 ^ (k + 1) = 2 ^ k * 2 := Nat.pow_succ ..
  exact Nat.xor_lt_two_pow (by omega) (by omega)
theorem turn_ne {E k : Nat} (h : E < 2 ^ k) : E ^^^ 2 ^ k ≠ 0 := by
  intro e
  have : E = 2 ^ k := by rw [← Nat.xor_zero E, ← Nat.xor_self (2 ^ k), ← Nat.xor_assoc, e, Nat.zero_xor]
  omega
theorem more_turned {l s : ByteArray} {N E : Nat} (hE : E < 4294967296) (h : run (ones ^^^ 0) l.data.toList = run (ones ^^^ 0) s.data.toList ^^^ steps N E) :
    (more 0 l = more 0 s) ↔ E = 0 := by
  have e : more 0 l = more 0 s ^^^ steps N E := by unfold more; rw [h, ← Nat.xor_assoc]
  rw [e]
  constructor
  · intro h1
    apply steps_zero hE N
    have : more 0 s ^^^ (more 0 s ^^^ steps N E) = more 0 s ^^^ more 0 s := by rw [h1]
    rwa [← Nat.xor_assoc, Nat.xor_self, Nat.zero_xor] at this
  · intro h1
    rw [h1, steps_of_zero, Nat.xor_zero]

theorem turn_byte (o : UInt8) (m : Nat) (h : m < 8) : bits .xor .u8 (o.toNat : Int) (2 ^ m % 256) = ((o ^^^ UInt8.ofNat (2 ^ m)).toNat : Int) := by
  have h1 : 2 ^ m < 256 := by
    have := Nat.pow_lt_pow_right (a := 2) (by omega) h
    omega
  have h2 := u8_xor_nat o.toNat (2 ^ m) o.toNat_lt h1
  have h3 : ((2 : Int) ^ m % 256) = ((2 ^ m : Nat) : Int) := by
    have h4 : ((2 ^ m : Nat) : Int) = (2 : Int) ^ m := Int.natCast_pow 2 m
    rw [← h4]
    exact Int.emod_eq_of_lt (Int.natCast_nonneg _) (Int.ofNat_lt.2 h1)
  rw [h3, h2, UInt8.toNat_xor]
  congr 2
  simp
  omega
set_option maxRecDepth 100000 in
set_option maxHeartbeats 1000000 in
theorem lawBursts (s : ByteArray) (at_ bs : Nat) (w : World) (hs : s.size ≤ 1024) (h0 : 0 < s.size) (ha : at_ < 65536) :
    Calls Try.prog 6 #[.string s, .int .u16 at_, .int .u32 bs] w fun e w' => e = .returned (.bool true) ∧ Below w.heap.size w w' := by
  have hne2 : ((s.size : Int) == 0) = false := beq_eq_false_iff_ne.2 (by omega)
  obtain ⟨cap, W, hconv, hbl, hbel⟩ := made_bytes w s
  obtain ⟨p, hp⟩ : ∃ p, at_ % (8 * s.size) = p := ⟨_, rfl⟩
  have hp1 : p < 8 * s.size := by rw [← hp]; exact Nat.mod_lt _ (by omega)
  have hpp : (at_ : Int) % (8 * (s.size : Int)) = (p : Int) := by rw [← hp]; exact_mod_cast rfl
  have h8 : (0 : Int) < 8 * (s.size : Int) := by omega
  obtain ⟨B, hB⟩ : ∃ B, w.heap.size = B := ⟨_, rfl⟩
  rw [hB] at hconv hbl hbel
  obtain ⟨X, hX⟩ : ∃ X, ones ^^^ 0 = X := ⟨_, rfl⟩
  have HB := Lib.hid hB
  have HX := Lib.hid hX
  clear hp hB hX
  have hstart : run X s.data.toList = run X s.data.toList ^^^ steps (8 * s.size - p) 0 := by rw [steps_of_zero, Nat.xor_zero]
  have HS := Lib.hid hstart
  clear hstart
  go_enter Try.func6, Try.ntmps6
  go_wp2_with fail
  clear hconv
  go_loopw [8, 9, 10] (fun tb k _ wr => ∃ (n E : Nat) (l : List UInt8), n ≤ 32 ∧ k = .int .i64 n ∧ tb = .bool (E != 0) ∧ E < 2 ^ n ∧ l.length = s.size ∧ Bl wr B l ∧ Hid (run X l = run X s.data.toList ^^^ steps (8 * s.size - p) E) ∧ Below B w wr) (fun _ k _ _ => 32 - (intOf k).toNat)
  case atStart => exact ⟨0, 0, s.data.toList, by omega, rfl, rfl, by omega, size_list s, hbl, HS, hbel⟩
  case round =>
    obtain ⟨n, E, l, hn, rfl, rfl, hE, hl, hbl, hrun, hbel⟩ := hrel
    by_cases hlt : n < 32
    · obtain ⟨q, hq⟩ : ∃ q, p + n = q := ⟨_, rfl⟩
      have hqq : (p : Int) + (n : Int) = (q : Int) := by rw [← hq]; rfl
      obtain ⟨b1, hb1⟩ : ∃ b1, bits .and .u32 ((bs : Int) / 2 ^ n) 1 = b1 := ⟨_, rfl⟩
      rcases Bool.eq_false_or_eq_true (b1 == 1) with ht | hf
      · by_cases hq8 : q < 8 * s.size
        · have HL := Lib.hid hl
          have HQ := Lib.hid hq
          have hq81 : (q : Int) < 8 * (s.size : Int) := by omega
          obtain ⟨d, hd⟩ : ∃ d, q / 8 = d := ⟨_, rfl⟩
          obtain ⟨m, hm⟩ : ∃ m, q % 8 = m := ⟨_, rfl⟩
          have hdl : d < l.length := by omega
          have hds : d < s.size := by omega
          have hdi : (d : Int) < (s.size : Int) := by omega
          have hm8 : m < 8 := by omega
          have hcell := (hbl.2 d hdl).1
          have hfroz := (hbl.2 d hdl).2
          obtain ⟨o, ho⟩ : ∃ o, l[d] = o := ⟨_, rfl⟩
          rw [ho] at hcell
          have HO := Lib.hid ho; have HD := Lib.hid hd; have HM := Lib.hid hm; have HB2 := Lib.hid hbl
          have hwd : IntKind.i64.wrap (d : Int) = (d : Int) := IntWalk.i64_in _ (by omega)
          have hwm : IntKind.i64.wrap (m : Int) = (m : Int) := IntWalk.i64_in _ (by omega)
          have hdd : (q : Int) / 8 = (d : Int) := by omega
          have hmm : (q : Int) % 8 = (m : Int) := by omega
          have hmt : (q : Int).tmod 8 = (m : Int) := by rw [Int.tmod_eq_emod_of_nonneg (by omega)]; omega
          have hdt : (q : Int).tdiv 8 = (d : Int) := by rw [Int.tdiv_eq_ediv_of_nonneg (by omega)]; omega
          obtain ⟨c, hc⟩ : ∃ c, o ^^^ UInt8.ofNat (2 ^ m) = c := ⟨_, rfl⟩
          have hxor := turn_byte o m hm8
          rw [hc] at hxor
          have hflip : flip l (p + n) = l.set d c := by
            unfold flip
            rw [hq, hd, hm, ← hc, ← ho]
            congr 2
            simp [List.getD, hdl]
          have hrun2 := turn_one (l := l) (s := s.data.toList) (X := X) (p := p) (k := n) (E := E) (by rw [hl, size_list]) (by rw [size_list]; omega) (by rw [size_list]; exact hrun.out)
          have HF := Lib.hid hflip; have HR := Lib.hid hrun2
          clear ho hd hm hbl hq hl hc hflip hrun2
          go_wp2_with fail
          go_region
          all_goals
            go_wp2_with fail
            go_roundw
            case rel =>
              refine ⟨n + 1, E ^^^ 2 ^ n, l.set d c, by omega, by go_num, ?_, turn_lt hE, by rw [List.length_set]; exact HL.out, (HB2.out.set d hdl c).drew, ?_, (hbel.setCell (Nat.le_refl _) _).drew⟩
              · rw [show (E ^^^ 2 ^ n != 0) = true from bne_iff_ne.2 (turn_ne hE)]
              · refine Lib.hid ?_
                have := HR.out
                rw [size_list, HF.out] at this
                exact this
            case measure => simp [intOf]; omega
        · have hq81 : 8 * (s.size : Int) ≤ (q : Int) := by omega
          have hE2 : E < 2 ^ (n + 1) := by rw [Nat.pow_succ]; omega
          have HE := Lib.hid hE2
          clear hE2 hE
          go_wp2_with fail
          go_roundw
          case rel => exact ⟨n + 1, E, l, by omega, by go_num, rfl, HE.out, hl, hbl, hrun, hbel⟩
          case measure => simp [intOf]; omega
      · have hE2 : E < 2 ^ (n + 1) := by rw [Nat.pow_succ]; omega
        have HE := Lib.hid hE2
        clear hE2 hE
        go_wp2_with fail
        go_roundw
        case rel => exact ⟨n + 1, E, l, by omega, by go_num, rfl, HE.out, hl, hbl, hrun, hbel⟩
        case measure => simp [intOf]; omega
    · obtain rfl : n = 32 := by omega
      have hback := hbl.back s.size cap hl
      obtain ⟨L, hL⟩ : ∃ L : ByteArray, (⟨l.toArray⟩ : ByteArray) = L := ⟨_, rfl⟩
      rw [hL] at hback
      have hLs : L.size ≤ 1024 := by rw [← hL, show (⟨l.toArray⟩ : ByteArray).size = l.length by simp [ByteArray.size]]; omega
      have hiff : (more 0 L = more 0 s) ↔ E = 0 := by
        apply more_turned (N := 8 * s.size - p) (by omega)
        have := hrun.out
        rw [HX.out, ← hL]
        exact this
      have a1 := more_lt 0 L (by omega)
      have a2 := more_lt 0 s (by omega)
      obtain ⟨u, hu⟩ : ∃ u, more 0 L = u := ⟨_, rfl⟩
      obtain ⟨v, hv⟩ : ∃ v, more 0 s = v := ⟨_, rfl⟩
      rw [hu, hv] at hiff
      rw [hu] at a1
      rw [hv] at a2
      have HU := Lib.hid hu; have HV := Lib.hid hv
      clear hu hv hL
      obtain ⟨t, ht⟩ : ∃ t, (E != 0) = t := ⟨_, rfl⟩
      rw [ht]
      have key : (t = true ∧ u ≠ v) ∨ (t = false ∧ u = v) := by
        by_cases h0 : E = 0
        · right; rw [← ht]; exact ⟨by simp [h0], hiff.2 h0⟩
        · left; rw [← ht]; exact ⟨by simp [h0], fun e => h0 (hiff.1 e)⟩
      have hs1 : s.size ≤ maxLen := by unfold maxLen; omega
      have hs2 : L.size ≤ maxLen := by unfold maxLen; omega
      have HS1 := Lib.hid hs1; have HS2 := Lib.hid hs2
      have HBel := Lib.hid hbel
      clear hiff ht hrun hbel hE hs1 hs2 hl
      rcases key with ⟨rfl, hne⟩ | ⟨rfl, rfl⟩
      · have hn1 : ((u : Int) != (v : Int)) = true := bne_iff_ne.2 (by omega)
        have hn2 : ((u : Int) == (v : Int)) = false := beq_eq_false_iff_ne.2 (by omega)
        go_wp2_with fail
        refine (sum_any L _ HS2.out).mono ?_
        rintro e w' ⟨rfl, rfl⟩
        rw [HU.out]
        go_wp2_with fail
        refine (sum_any s _ HS1.out).mono ?_
        rintro e w' ⟨rfl, rfl⟩
        rw [HV.out]
        go_wp2_with fail
        refine (awake_any _).mono ?_
        rintro e w' ⟨rfl, rfl⟩
        go_wp2_with fail
        go_ret
        exact ⟨rfl, by rw [HB.out]; exact HBel.out⟩
      · go_wp2_with fail
        refine (sum_any L _ HS2.out).mono ?_
        rintro e w' ⟨rfl, rfl⟩
        rw [HU.out]
        go_wp2_with fail
        refine (sum_any s _ HS1.out).mono ?_
        rintro e w' ⟨rfl, rfl⟩
        rw [HV.out]
        go_wp2_with fail
        refine (awake_any _).mono ?_
        rintro e w' ⟨rfl, rfl⟩
        go_wp2_with fail
        go_ret
        exact ⟨rfl, by rw [HB.out]; exact HBel.out⟩
set_option maxHeartbeats 1000000 in
theorem lawBursts_out (s : ByteArray) (at_ bs : Nat) (w : World) (hs : s.size ≤ maxLen) (h : 1024 < s.size ∨ s.size = 0) :
    Calls Try.prog 6 #[.string s, .int .u16 at_, .int .u32 bs] w fun e w' => e = .returned (.bool true) ∧ Below w.heap.size w w' := by
  unfold maxLen at hs
  rcases h with h | h
  all_goals
    go_enter Try.func6, Try.ntmps6
    go_wp2_with fail
    refine (awake_any _).mono ?_
    rintro e w' ⟨rfl, rfl⟩
    go_wp2_with fail
    go_ret
    exact ⟨rfl, Below.refl _ _⟩
theorem lawBursts_any (s : ByteArray) (at_ bs : Nat) (w : World) (hs : s.size ≤ maxLen) (ha : at_ < 65536) :
    Calls Try.prog 6 #[.string s, .int .u16 at_, .int .u32 bs] w fun e w' => e = .returned (.bool true) ∧ Below w.heap.size w w' := by
  by_cases h : 1024 < s.size ∨ s.size = 0
  · exact lawBursts_out s at_ bs w hs h
  · exact lawBursts s at_ bs w (by omega) (by omega) ha
end Go.Proofs.Ytolcjapbhdbcdaa.Crc
