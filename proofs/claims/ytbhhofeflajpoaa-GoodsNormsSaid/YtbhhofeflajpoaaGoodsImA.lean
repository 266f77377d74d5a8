/- The program's counts in memory; some more of a type counted. -/
import Derived.Test.YtbhhofeflajpoaaGoodsI
import Derived.Test.YtbhhofeflajpoaaGoodsImMath
import Derived.Test.YtbhhofeflajpoaaCalcAddP
namespace Go.Proofs.Ytbhhofeflajpoaa.Goods.Im
open Go.RowKit Go.Lib

theorem zero_int (w : World) : (zeroValue 3).run Try.prog w = .ok (.int .i64 0) w := by
  have h : (Try.prog.info? 3).map (fun i => i.zero) = some (some (.int .i64 0)) := by kernel_rfl
  cases hi : Try.prog.info? 3 with
  | none => rw [hi] at h; cases h
  | some i =>
    rw [hi] at h
    have hz : i.zero = some (.int .i64 0) := Option.some.inj h
    simp [zeroValue, typeInfo, hi, hz, Result.andThen]
/-- What the map in block b counts: n types, of each as many as q says. -/
structure CM (w : World) (b n : Nat) (q : Int → Option Int) : Prop where
  map : Ints.MapIs Try.prog 3 w b n (mV q)
  good : Good q
theorem CM.of_block {w w' : World} {b n : Nat} {q : Int → Option Int} (h : CM w b n q) (hb : w'.heap[b]? = w.heap[b]?) : CM w' b n q := ⟨h.map.of_block hb, h.good⟩
theorem CM.under {w w' : World} {b n : Nat} {q : Int → Option Int} (h : CM w b n q) (hb : Below w.heap.size w w') : CM w' b n q := h.of_block (hb.block b h.map.lt)
theorem CM.look {w : World} {b n : Nat} {q : Int → Option Int} (h : CM w b n q) {k : Int} (hk : Ints.I64 k) : (Instr.lookup 41 (.map (some b)) (.int .i64 k) false).run Try.prog w = .ok (.int .i64 (at0 q k)) w := by
  rw [h.map.look Try.underlying3 Try.underlying41 (zero_int w) hk, mV_getD]
theorem made_counts (w : World) : CM (w.alloc (.map #[] 0)) w.heap.size 0 fun _ => none := ⟨Ints.mapIs_made _ _ w, good_none⟩
/-- What calc.Add tells of two numbers of which neither is below 0. -/
theorem sum_yes (a m : Int) (h : 0 ≤ a) (h0 : 0 ≤ m) (hi : a + m ≤ 9223372036854775807) (W : World) :
    Calls Try.prog 25 #[.int .i64 a, .int .i64 m] W fun e w' => e = .returned (.tuple #[.int .i64 (a + m), .int .i64 0]) ∧ W = w' := by
  have := Calc.add_any a m W (by omega) (by omega) (by omega) (by omega)
  rw [Calc.valN_in (by omega) hi, Calc.valE_in (by omega) hi] at this
  exact this
theorem sum_no (a m : Int) (h : 0 ≤ a) (h0 : 0 ≤ m) (ha : a ≤ 9223372036854775807) (hm : m ≤ 9223372036854775807) (hi : 9223372036854775807 < a + m) (W : World) :
    Calls Try.prog 25 #[.int .i64 a, .int .i64 m] W fun e w' => e = .returned (.tuple #[.int .i64 0, .int .i64 5]) ∧ W = w' := by
  have := Calc.add_any a m W (by omega) (by omega) (by omega) (by omega)
  rw [Calc.valN_out (.inr hi), Calc.valE_out (.inr hi)] at this
  exact this
set_option maxRecDepth 100000 in
set_option maxHeartbeats 2000000 in
theorem add_im (b n : Nat) (q : Int → Option Int) (k m : Int) (w : World) (h : CM w b n q) (hn : (n : Int) ≤ 1048576) (hk : 1 ≤ k) (hki : Ints.I64 k) (h0 : 0 ≤ m) (hm : m ≤ 9223372036854775807) (hle : at0 q k + m ≤ mq) :
    Calls Try.prog 27 #[.map (some b), .int .i64 k, .int .i64 m] w fun e w' => e = .returned (.int .i64 0) ∧ ∃ n', n' ≤ n + 1 ∧ CM w' b n' (put q k (at0 q k + m)) ∧ w.grownBy w' (some b) ∧ w'.heap.size = w.heap.size := by
  have hl0 := h.look hki
  have hg := h.good.bound k
  obtain ⟨a, ha⟩ : ∃ a, at0 q k = a := ⟨_, rfl⟩
  rw [ha] at hl0 hg hle ⊢
  have HA := Lib.hid (sum_yes a m hg.1 h0 (by unfold mq at hle; omega))
  have hM := h.map
  have HP : Hid (∀ W n', n' ≤ n + 1 → Ints.MapIs Try.prog 3 W b n' (fun x => if x = k then some (.int .i64 (a + m)) else mV q x) → CM W b n' (put q k (a + m))) := Lib.hid (fun W n' _ hM2 => ⟨hM2.congr rfl (fun s => mV_put q k (a + m) s), h.good.more hk hki (by omega) hle⟩)
  have hd : decide (1125899906842624 < a + m) = false := by simp; unfold mq at hle; omega
  have HN : Hid (n < maxLen) := Lib.hid (by unfold maxLen; omega)
  have HK := Lib.hid hki
  clear h hg ha hle hn hk hki h0 hm
  go_enter Try.func27, Try.ntmps27
  go_wp2_with fail
  refine (HA.out _).mono ?_
  rintro e w1 ⟨rfl, rfl⟩
  go_wp2_with (at_mapUpdate; refine Ints.wpList_store_int _ rfl _ _ _ 41 rfl 3 3 Try.underlying3 Try.underlying41 b n _ rfl hM HN.out k rfl HK.out _ rfl ?_; intro w2 hM2 hg2 hs2)
  go_ret
  exact ⟨rfl, _, by split <;> omega, HP.out _ _ (by split <;> omega) hM2, hg2, hs2⟩
set_option maxRecDepth 100000 in
set_option maxHeartbeats 2000000 in
theorem add_no (b n : Nat) (q : Int → Option Int) (k m : Int) (w : World) (h : CM w b n q) (hki : Ints.I64 k) (h0 : 0 ≤ m) (hm : m ≤ 9223372036854775807) (hlt : mq < at0 q k + m) :
    Calls Try.prog 27 #[.map (some b), .int .i64 k, .int .i64 m] w fun e w' => e = .returned (.int .i64 5) ∧ Below w.heap.size w w' := by
  have hl0 := h.look hki
  have hg := h.good.bound k
  obtain ⟨a, ha⟩ : ∃ a, at0 q k = a := ⟨_, rfl⟩
  rw [ha] at hl0 hg hlt
  unfold mq at hlt hg
  by_cases hb : a + m ≤ 9223372036854775807
  · have HA := Lib.hid (sum_yes a m hg.1 h0 hb)
    have hd : decide (1125899906842624 < a + m) = true := by simp; omega
    clear h hg ha hlt hki h0 hm hb
    go_enter Try.func27, Try.ntmps27
    go_wp2_with fail
    refine (HA.out _).mono ?_
    rintro e w1 ⟨rfl, rfl⟩
    go_wp2_with fail
    go_ret
    exact ⟨rfl, Below.refl _ _⟩
  · have HA := Lib.hid (sum_no a m hg.1 h0 (by omega) hm (by omega))
    clear h hg ha hlt hki h0 hm hb
    go_enter Try.func27, Try.ntmps27
    go_wp2_with fail
    refine (HA.out _).mono ?_
    rintro e w1 ⟨rfl, rfl⟩
    go_wp2_with fail
    go_ret
    exact ⟨rfl, Below.refl _ _⟩
end Go.Proofs.Ytbhhofeflajpoaa.Goods.Im
