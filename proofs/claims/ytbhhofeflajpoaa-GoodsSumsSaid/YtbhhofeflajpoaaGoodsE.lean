/- The document's Times. -/
import Derived.Test.YtbhhofeflajpoaaGoodsC
import Derived.IntWalk
import Derived.Deep.RegionLaw
namespace Go.Proofs.Ytbhhofeflajpoaa.Goods
open Go.RowKit Go.Lib

open Classical in
noncomputable def errT (l : List St) (n : Int) : Int := if errN l = 0 then (if n < 0 then 1 else if ∃ s ∈ nl l, mq / s.qty < n then 5 else 0) else errN l
noncomputable def valT (l : List St) (n : Int) : List St := if errT l n = 0 then timesL (nl l) n else []
theorem timesL_succ {l : List St} {i : Nat} {t : St} (h : l[i]? = some t) (n : Int) : timesL (l.take (i + 1)) n = timesL (l.take i) n ++ (if n = 0 then [] else [⟨t.kind, n * t.qty⟩]) := by
  unfold timesL
  split
  · rfl
  · rw [List.take_add_one, h]
    simp
theorem len_timesL (l : List St) (n : Int) : (timesL l n).length ≤ l.length := by
  unfold timesL
  split <;> simp
set_option maxRecDepth 100000 in
set_option maxHeartbeats 4000000 in
theorem dtimes (a : Option Addr) (n c : Nat) (l : List St) (k : Int) (w : World) (hl : l.length = n) (hs : Sts w a l) (hn : n ≤ 4096) :
    Calls Try.prog 22 #[.slice a n c, .int .i64 k] w fun e w' => ∃ v, e = .returned (.tuple #[v, .int .i64 (errT l k)]) ∧ OwnS w' w.heap.size v (valT l k) ∧ Below w.heap.size w w' := by
  have HN := Lib.hid (dnorm2 a n c l w hl hs hn)
  by_cases h0 : errN l = 0
  · have hv := valN_ok h0
    have hq := norm_valN l
    have hm := valN_le l
    have hlen := len_valN l
    rw [hv] at hq hm hlen
    rw [h0, hv] at HN
    by_cases hk : k < 0
    · have hE : errT l k = 1 := by unfold errT; rw [if_pos h0, if_pos hk]
      have hV : valT l k = [] := by unfold valT; rw [hE]; rfl
      rw [hE, hV]
      clear hl hs hn h0 hv hq hm hlen hE hV
      go_enter Try.func22, Try.ntmps22
      go_wp2_with fail
      refine HN.out.mono ?_
      rintro e w1 ⟨a', m, c', rfl, _, HV⟩
      go_wp2_with fail
      go_ret2
      exact ⟨_, rfl, World.ownsRow_nil _ _ _ _, HV.out.2.2.2⟩
    · have hE : (errT l k = 5 ∧ ∃ s ∈ nl l, mq / s.qty < k) ∨ (errT l k = 0 ∧ ∀ s ∈ nl l, k ≤ mq / s.qty) := by
        unfold errT
        rw [if_pos h0, if_neg hk]
        by_cases h : ∃ s ∈ nl l, mq / s.qty < k
        · left; rw [if_pos h]; exact ⟨rfl, h⟩
        · right
          rw [if_neg h]
          exact ⟨rfl, fun s hs => by
            by_cases h1 : mq / s.qty < k
            · exact absurd ⟨s, hs, h1⟩ h
            · omega⟩
      have HE := Lib.hid hE
      have HQ : Hid (∀ t ∈ nl l, 1 ≤ t.qty ∧ t.qty ≤ 1125899906842624) := Lib.hid (fun t ht => ⟨hq.qty t ht, hm t ht⟩)
      have hl4 : (nl l).length ≤ 4096 := by omega
      have HL4 := Lib.hid hl4
      have HV0 : Hid (errT l k = 5 → valT l k = []) := Lib.hid (fun h => by unfold valT; rw [h]; rfl)
      have HV1 : Hid (errT l k = 0 → valT l k = timesL (nl l) k) := Lib.hid (fun h => by unfold valT; rw [if_pos h])
      clear hl hs hn h0 hv hq hm hlen hE
      go_enter Try.func22, Try.ntmps22
      go_wp2_with fail
      refine HN.out.mono ?_
      rintro e w1 ⟨a', m, c', rfl, _, HV⟩
      have HT := sts_at HV.out.2.1
      have HM := Lib.hid HV.out.1
      have HB1 := Lib.hid HV.out.2.2.2
      have hm1 : (m : Int) ≤ 1048576 := by have := HM.out; omega
      clear hl4 HV
      go_wp2_with fail
      go_loopw [8, 9] (fun s t wr => ∃ i : Nat, t = .int .i64 i ∧ i ≤ m ∧ Hid (OwnS wr w1.heap.size s (timesL ((nl l).take i) k)) ∧ Hid (Below w1.heap.size w1 wr) ∧ Hid (∀ s ∈ (nl l).take i, k ≤ mq / s.qty)) (fun _ t _ => m - (RowKit.intOf t).toNat)
      case atStart => exact ⟨0, rfl, by omega, Lib.hid (by
        have : timesL ((nl l).take 0) k = [] := by unfold timesL; split <;> simp
        rw [this]
        exact World.ownsRow_nil _ _ _ _), Lib.hid (Below.refl _ _), Lib.hid (fun s hs => by simp at hs)⟩
      case round =>
        obtain ⟨i, rfl, hi, HO, HB, HI⟩ := hrel
        have hi0 : (0 : Int) ≤ (i : Int) := by omega
        by_cases hlt : i < m
        · have hlt2 : (i : Int) < (m : Int) := by omega
          obtain ⟨g, off, t, rfl, ht, k0, k1⟩ := HT.out _ i HB.out (by rw [HM.out]; exact hlt)
          obtain ⟨q0, q1⟩ := HQ.out t (List.mem_of_getElem? ht.out)
          obtain ⟨d, hd⟩ : ∃ d, mq / t.qty = d := ⟨_, rfl⟩
          have hd2 : (1125899906842624 : Int).tdiv t.qty = d := by rw [← hd, Int.tdiv_eq_ediv_of_nonneg (by omega)]; rfl
          have hd0 : 0 ≤ d := by rw [← hd]; exact Int.ediv_nonneg (by unfold mq; omega) (by omega)
          have hd1 : d ≤ 1125899906842624 := by rw [← hd]; exact Int.ediv_le_self _ (by unfold mq; omega)
          have hwd : IntKind.i64.wrap d = d := IntWalk.i64_in _ (by omega)
          have hwd2 : wrap64 d = d := IntWalk.wrap64_in _ (by omega)
          have hq2 : ¬ t.qty = 0 := by omega
          have hq3 : (t.qty == 0) = false := by simpa using hq2
          by_cases c1 : d < k
          · have HF : Hid (errT l k = 5) := Lib.hid (by
              rcases HE.out with h | h
              · exact h.1
              · have := h.2 t (List.mem_of_getElem? ht.out)
                omega)
            have HFV := Lib.hid (HV0.out HF.out)
            clear hd
            go_wp2_with fail
            go_ret2
            exact ⟨_, by rw [HF.out]; rfl, by rw [HFV.out]; exact World.ownsRow_nil _ _ _ _, below_then HB1.out HB.out⟩
          · have HI2 : Hid (∀ s ∈ (nl l).take (i + 1), k ≤ mq / s.qty) := Lib.hid (fun s hs => by
              rcases (mem_take_succ ht.out).1 hs with hs | rfl
              · exact HI.out s hs
              · omega)
            by_cases c2 : 0 < k
            · have HU : Hid (timesL ((nl l).take (i + 1)) k = timesL ((nl l).take i) k ++ [⟨t.kind, k * t.qty⟩]) := Lib.hid (by rw [timesL_succ ht.out, if_neg (by omega)])
              obtain ⟨z, hz⟩ : ∃ z, k * t.qty = z := ⟨_, rfl⟩
              have hz1 : z ≤ 2 ^ 50 := by
                have h1 : k ≤ mq / t.qty := by omega
                have := (Int.le_ediv_iff_mul_le (by omega : 0 < t.qty)).1 h1
                unfold mq at this
                omega
              have hz0 : 0 ≤ z := by rw [← hz]; exact Int.mul_nonneg (by omega) (by omega)
              have hw : IntKind.i64.wrap (k * t.qty) = z := by rw [hz]; exact IntWalk.i64_in _ (by omega)
              rw [hz] at HU
              have HA : Hid (∀ W s, Below w1.heap.size w1 W → OwnS W w1.heap.size s (timesL ((nl l).take i) k) → ∃ v' w', (Builtin.append_ #[22, 22] 22 #[s, .slice (some ⟨W.heap.size, 0, none⟩) 1 1]).run Try.prog (W.alloc (.cells #[.int .i64 t.kind, .int .i64 z] 39)).drew = .ok v' w' ∧
                  Hid (OwnS w' w1.heap.size v' (timesL ((nl l).take (i + 1)) k) ∧ Below w1.heap.size w1 w')) := Lib.hid (fun W s hW ho => by
                have hal := (hW.alloc hW.size (.cells #[.int .i64 t.kind, .int .i64 z] 39)).drew
                obtain ⟨v', w', hr, h2, h3⟩ := app_st (W.alloc (.cells #[.int .i64 t.kind, .int .i64 z] 39)).drew w1.heap.size s (timesL ((nl l).take i) k) [⟨t.kind, z⟩] (World.ownsRow.drew (ho.alloc _)) (some ⟨W.heap.size, 0, none⟩) 1 1 rfl (fun j u hj => ⟨_, rfl, by
                  have hblk := heap_alloc_new W (.cells #[.int .i64 t.kind, .int .i64 z] 39)
                  rw [addr_add, Nat.zero_add]
                  refine cell_block (j := j) hblk ?_
                  rw [← Array.getElem?_toList]
                  exact hj⟩) (by
                  have h1 := len_timesL ((nl l).take i) k
                  rw [List.length_take] at h1
                  have := HL4.out
                  simp only [List.length_singleton]
                  omega) hal.size
                rw [← HU.out] at h2
                exact ⟨v', w', hr, Lib.hid ⟨h2, below_cat hal h3⟩⟩)
              obtain ⟨v', w2, hr, HE2⟩ := HA.out _ _ HB.out HO.out
              have HR := Lib.hid hr
              have HO2 := Lib.hid HE2.out.1; have HB2 := Lib.hid HE2.out.2
              clear hr hd hz
              go_wp2_with fail
              go_region_law (refine step_run (v' := v') (w' := w2) (by rfl) _ _ _ _ (by rfl) _ _ (by rfl) (by rfl) HR.out ?_)
              all_goals
                go_wp2_with fail
                go_roundw
                case rel => exact ⟨i + 1, by go_num, by omega, HO2, HB2, HI2⟩
                case measure => simp [RowKit.intOf]; omega
            · have HU : Hid (timesL ((nl l).take (i + 1)) k = timesL ((nl l).take i) k) := Lib.hid (by rw [timesL_succ ht.out, if_pos (by omega), List.append_nil])
              have HO2 : Hid (OwnS _ w1.heap.size _ (timesL ((nl l).take (i + 1)) k)) := Lib.hid (by rw [HU.out]; exact HO.out)
              clear hd
              go_wp2_with fail
              go_roundw
              case rel => exact ⟨i + 1, by go_num, by omega, HO2, HB, HI2⟩
              case measure => simp [RowKit.intOf]; omega
        · obtain rfl : i = m := by omega
          have htk : (nl l).take i = nl l := List.take_of_length_le (by rw [HM.out]; exact Nat.le_refl _)
          have HF : Hid (errT l k = 0) := Lib.hid (by
            rcases HE.out with ⟨_, s, hs, h⟩ | h
            · have := HI.out s (by rw [htk]; exact hs)
              omega
            · exact h.1)
          have HOV : Hid (OwnS _ w1.heap.size _ (valT l k)) := Lib.hid (by
            rw [HV1.out HF.out]
            have := HO.out
            rw [htk] at this
            exact this)
          clear htk
          go_wp2_with fail
          go_ret2
          exact ⟨_, by rw [HF.out]; rfl, World.ownsRow.mono HOV.out HB1.out.size, below_then HB1.out HB.out⟩
  · have hE : errT l k = errN l := by unfold errT; rw [if_neg h0]
    have hV : valT l k = [] := by unfold valT; rw [hE, if_neg h0]
    rw [hE, hV]
    obtain ⟨er, her⟩ : ∃ er, errN l = er := ⟨_, rfl⟩
    rw [her] at HN h0 ⊢
    have hne : (er == 0) = false := by simpa using h0
    clear hl hs hn hE hV her h0
    go_enter Try.func22, Try.ntmps22
    go_wp2_with fail
    refine HN.out.mono ?_
    rintro e w1 ⟨a', m, c', rfl, _, HV⟩
    go_wp2_with fail
    go_ret2
    exact ⟨_, rfl, World.ownsRow_nil _ _ _ _, HV.out.2.2.2⟩
end Go.Proofs.Ytbhhofeflajpoaa.Goods
