/- The walk over the document's Scan. -/
import Derived.Test.YtajmdcbnejkfgaaFrameI
namespace Go.Proofs.Ytajmdcbnejkfgaa.Frame
open Go.RowKit Go.Lib

theorem first_short (s : ByteArray) (h : s.size ≤ 8) : first s = none := by
  by_cases hf : fits (num (s.data.toList.take 4))
  · exact first_long s _ rfl (by have := hf.1; omega)
  · exact first_unfit s _ rfl hf
/-- What stands at a place of a text, said without a cut. -/
theorem first_at (s : ByteArray) (a n : Nat) (ha : a + 8 ≤ s.size) (hn : num ((s.data.toList.drop a).take 4) = n) :
    (¬ fits n → first (s.extract a s.size) = none) ∧ (s.size < a + 8 + n → first (s.extract a s.size) = none) ∧
    (fits n → a + 8 + n ≤ s.size → recB (s.extract (a + 8) (a + 8 + n)) = s.extract a (a + 8 + n) → first (s.extract a s.size) = some (s.extract (a + 8) (a + 8 + n))) ∧
    (fits n → a + 8 + n ≤ s.size → recB (s.extract (a + 8) (a + 8 + n)) ≠ s.extract a (a + 8 + n) → first (s.extract a s.size) = none) := by
  have hz : (s.extract a s.size).size = s.size - a := by rw [ByteArray.size_extract]; omega
  have hk : num ((s.extract a s.size).data.toList.take 4) = n := by rw [from_list]; exact hn
  have hx : ∀ p q, a + q ≤ s.size → (s.extract a s.size).extract p q = s.extract (a + p) (a + q) := fun p q hq => by
    apply ByteArray.ext
    rw [ByteArray.data_extract, ByteArray.data_extract, ByteArray.data_extract, Array.extract_extract]
    congr 1
    omega
  refine ⟨first_unfit _ n hk, fun h => first_long _ n hk (by omega), fun hf h e => ?_, fun hf h e => ?_⟩
  · have e1 := hx 8 (8 + n) (by omega)
    have e0 := hx 0 (8 + n) (by omega)
    rw [Nat.add_zero, ← Nat.add_assoc] at e0
    rw [← Nat.add_assoc a] at e1
    rw [← e1]
    refine first_mk _ n (by omega) hk hf (by omega) ((rec_eq _ n (by omega)).1 ?_)
    rw [e1, e0]
    exact e
  · have e1 := hx 8 (8 + n) (by omega)
    have e0 := hx 0 (8 + n) (by omega)
    rw [Nat.add_zero, ← Nat.add_assoc] at e0
    rw [← Nat.add_assoc a] at e1
    refine first_other _ n hk (fun h' => e ?_)
    rw [← e1, ← e0]
    exact (rec_eq _ n (by omega)).2 h'
theorem bytes_ne {a b : ByteArray} (h : a ≠ b) : (a.toList == b.toList) = false := by
  rw [ByteArray.toList_eq, ByteArray.toList_eq]
  exact beq_eq_false_iff_ne.2 (fun e => h (ext_list e))
set_option maxRecDepth 100000 in
set_option maxHeartbeats 1000000 in
theorem rscan_any (s : ByteArray) (w : World) (hs : s.size ≤ 1048576) :
    Calls Try.prog 16 #[.string s] w fun e w' => ∃ v l a, e = .returned (.tuple #[v, .int .i64 (a : Nat)]) ∧ ScanIs s l a ∧ a ≤ s.size ∧ Owns w' w.heap.size v l ∧ Below w.heap.size w w' := by
  obtain ⟨i0, hi, hz0, hz1, hz2⟩ := info_parts info_str
  go_enter Try.func16, Try.ntmps16
  go_wp2_with fail
  go_loopw [4, 5] (fun v t wr => ∃ (l : List ByteArray) (a : Nat), t = .int .i64 a ∧ a ≤ s.size ∧ Hid (Reads s 0 l a) ∧ Owns wr w.heap.size v l ∧ Below w.heap.size w wr) (fun _ t _ => s.size - (RowKit.intOf t).toNat)
  case atStart => exact ⟨[], 0, rfl, by omega, Lib.hid rfl, World.ownsRow_nil _ _ _ _, Below.refl _ _⟩
  case round =>
    obtain ⟨l, a, rfl, ha, HR, hown, hbel⟩ := hrel
    by_cases h8 : a + 8 < s.size
    · have HA := Lib.hid (first_at s a _ (by omega) rfl)
      have HO := Lib.hid hown; have HBel := Lib.hid hbel
      clear hown hbel
      have hd8 : decide ((a : Int) + 8 < (s.size : Int)) = true := by simp; omega
      go_wp2_with fail
      go_loopw [6, 7] (fun n i w2 => ∃ k : Nat, k ≤ 4 ∧ n = .int .i64 (num ((s.data.toList.drop a).take k) : Nat) ∧ i = .int .i64 k ∧ w2 = wr) (fun _ i _ => 4 - (RowKit.intOf i).toNat)
      case atStart => exact ⟨0, by omega, rfl, rfl, rfl⟩
      case round =>
        obtain ⟨k, hk, rfl, rfl, rfl⟩ := hrel
        by_cases hlt : k < 4
        · have hkl : k < (s.data.toList.drop a).length := by rw [List.length_drop, size_list]; omega
          have hn : num ((s.data.toList.drop a).take k) < 16777216 := by
            have h1 := num_lt k ((s.data.toList.drop a).take k) (by rw [List.length_take]; omega)
            have h2 : 256 ^ k ≤ 256 ^ 3 := Nat.pow_le_pow_right (by omega) (by omega)
            omega
          have ht := num_take (s.data.toList.drop a) k hkl
          have hel : (s.data.toList.drop a)[k] = s[a + k]'(by omega) := by rw [List.getElem_drop]; rfl
          rw [hel] at ht
          obtain ⟨n, hnn⟩ : ∃ n, num ((s.data.toList.drop a).take k) = n := ⟨_, rfl⟩
          obtain ⟨b, hbb⟩ : ∃ b, (s[a + k]'(by omega)).toNat = b := ⟨_, rfl⟩
          have hb : b < 256 := by rw [← hbb]; exact UInt8.toNat_lt _
          rw [hnn] at hn ht ⊢
          rw [hbb] at ht
          have ho := i64_or_nat (n * 256) b (by omega) (by omega)
          rw [shift_or n b hb, ← ht] at ho
          have ho2 : bits .or .i64 ((n : Int) * 256) (b : Int) = ((num ((s.data.toList.drop a).take (k + 1)) : Nat) : Int) := by
            rw [← ho]
            rfl
          have HT := Lib.hid hnn
          clear ho ht hnn hel
          go_wp2_with fail
          go_roundw
          case rel => exact ⟨k + 1, by omega, rfl, by go_num, trivial⟩
          case measure => simp [RowKit.intOf]; omega
        · obtain rfl : k = 4 := by omega
          have hnlt : num ((s.data.toList.drop a).take 4) < 4294967296 := num_lt 4 _ (by rw [List.length_take, List.length_drop, size_list]; omega)
          obtain ⟨A1, A2, A3, A4⟩ := HA.out
          clear HA
          obtain ⟨n, hnn⟩ : ∃ n, num ((s.data.toList.drop a).take 4) = n := ⟨_, rfl⟩
          rw [hnn] at hnlt A1 A2 A3 A4 ⊢
          clear hnn
          by_cases hf : fits n
          · clear A1
            by_cases hlong : s.size < a + 8 + n
            · have hfr := Lib.hid (A2 hlong)
              obtain ⟨hf1, hf2⟩ := hf
              have hd : decide ((s.size : Int) - (a : Int) - 8 < (n : Int)) = true := by simp; omega
              have hd1 : decide ((n : Int) < 1) = false := by simp; omega
              have hd2 : decide (4096 < (n : Int)) = false := by simp; omega
              clear A2 A3 A4
              go_wp2_with fail
              go_ret2
              exact ⟨_, l, a, rfl, ⟨HR.out, hfr.out⟩, ha, HO.out, HBel.out⟩
            · have hd : decide ((s.size : Int) - (a : Int) - 8 < (n : Int)) = false := by simp; omega
              have A3' := A3 hf (by omega)
              have A4' := A4 hf (by omega)
              obtain ⟨x, hx⟩ : ∃ x, s.extract (a + 8) (a + 8 + n) = x := ⟨_, rfl⟩
              obtain ⟨y, hy⟩ : ∃ y, s.extract a (a + 8 + n) = y := ⟨_, rfl⟩
              have hxn : x.size = n := by rw [← hx, ByteArray.size_extract]; omega
              rw [hx, hy] at A3' A4'
              have HP := Lib.hid (fun W => rput_any x W (by unfold maxLen; omega))
              rw [show putV x = .tuple #[.string (recB x), .int .i64 0] from putV_yes (by rw [hxn]; exact hf)] at HP
              obtain ⟨hf1, hf2⟩ := hf
              have H3 := Lib.hid A3'; have H4 := Lib.hid A4'
              clear A2 A3 A4 A3' A4'
              have hd1 : decide ((n : Int) < 1) = false := by simp; omega
              have hd2 : decide (4096 < (n : Int)) = false := by simp; omega
              obtain ⟨q, hq⟩ : ∃ q, recB x = q := ⟨_, rfl⟩
              rw [hq] at HP H3 H4
              have HQ := Lib.hid hq; have HXN := Lib.hid hxn
              clear hq hxn
              by_cases he : q = y
              · subst he
                have hfr := H3.out rfl
                have hR2 := reads_snoc s x l 0 a HR.out hfr
                have hlen := reads_len s l 0 a HR.out
                have HR2 := Lib.hid hR2
                clear hR2 H3 H4 HR hfr
                go_wp2_with fail
                refine (HP.out _).mono ?_
                rintro e w1 ⟨rfl, hb1⟩
                have hown2 := own_below HO.out hb1
                have hbel2 := below_then HBel.out hb1
                clear HO HBel hb1
                go_wp2_with (at_builtin; refine wpList_append_own _ rfl _ _ 22 rfl w.heap.size 9 i0 (.string ⟨#[]⟩) 1 16 Try.underlying22 hi hz0 hz1 hz2 rfl (by decide) _ _ _ rfl (hown2.alloc _) ⟨w1.heap.size, 0, none⟩ 1 1 [.string x] rfl rfl ?c1 ?c2 ?c3 ?c4 ?c5 ?_)
                case c1 =>
                  intro j u hj
                  match j, hj with
                  | 0, hj => simp at hj; subst hj; simp [Addr.add]
                case c2 => intro u hu; simp at hu; subst hu; rfl
                case c3 => unfold maxLen; omega
                case c4 => omega
                case c5 => have := hbel2.size; simp; omega
                intro v' w3 hown' hgrow _
                have hbel3 : Below w.heap.size w w3 := grown_below hbel2 hown2 hgrow
                clear hgrow hown2 hbel2
                go_wp2_with fail
                go_roundw
                case rel =>
                  refine ⟨l ++ [x], a + 8 + n, ?_, by omega, ?_, ?_, hbel3⟩
                  · go_num
                  · rw [← HXN.out]
                    exact HR2
                  · show w3.ownsRow w.heap.size 9 1 v' (l ++ [x]).length ((l ++ [x]).map Value.string)
                    simpa using hown'
                case measure => simp [RowKit.intOf]; omega
              · have hfr := Lib.hid (H4.out he)
                have he3 := bytes_ne he
                have he2 : (q == y) = false := by rw [beq_toListBytes]; exact he3
                clear H3 H4
                go_wp2_with fail
                refine (HP.out _).mono ?_
                rintro e w1 ⟨rfl, hb1⟩
                go_wp2_with fail
                go_ret2
                exact ⟨_, l, a, rfl, ⟨HR.out, hfr.out⟩, ha, own_below HO.out hb1, below_then HBel.out hb1⟩
          · have hfr := Lib.hid (A1 hf)
            clear A1 A2 A3 A4
            by_cases h1 : n < 1
            · have hd1 : decide ((n : Int) < 1) = true := by simp; omega
              go_wp2_with fail
              go_ret2
              exact ⟨_, l, a, rfl, ⟨HR.out, hfr.out⟩, ha, HO.out, HBel.out⟩
            · have hd1 : decide ((n : Int) < 1) = false := by simp; omega
              have hd2 : decide (4096 < (n : Int)) = true := by simp; unfold fits at hf; omega
              have h2 : 4096 < n := by unfold fits at hf; omega
              go_wp2_with fail
              go_ret2
              exact ⟨_, l, a, rfl, ⟨HR.out, hfr.out⟩, ha, HO.out, HBel.out⟩
    · have hfr := Lib.hid (first_short (s.extract a s.size) (by rw [ByteArray.size_extract]; omega))
      go_wp2_with fail
      go_ret2
      exact ⟨_, l, a, rfl, ⟨HR.out, hfr.out⟩, ha, hown, hbel⟩
end Go.Proofs.Ytajmdcbnejkfgaa.Frame
