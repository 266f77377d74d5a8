/- The document's Sub. -/
import Derived.Test.YtohlkaoophbinaaZGoodsD
import Derived.Test.YtohlkaoophbinaaZCatMath
import Derived.IntWalk
import Derived.Deep.RegionHeld3
namespace Go.Proofs.Ytohlkaoophbinaa.Goods
open Go.RowKit Go.Lib

open Classical in
noncomputable def errS (a b : List St) : Int := if errB a b = 0 then (if ∃ s ∈ nl b, cnt (nl a) s.kind < s.qty then 7 else 0) else errB a b
noncomputable def valS (a b : List St) : List St := if errS a b = 0 then subL (nl a) (nl b) else []
theorem valN_nl {l : List St} (h : errN l = 0) : valN (nl l) = nl l := by
  obtain ⟨h1, h2⟩ := errN_zero h
  have hn := norm_nl h1
  have h3 : errN (nl l) = 0 := errN_ok (fine_norm hn) fun e => h2 ((over_same fun k => cnt_nl k l).1 e)
  rw [valN_ok h3, nl_norm hn]
theorem subL_succ {l : List St} {i : Nat} {t : St} (h : l[i]? = some t) (b : List St) : subL (l.take (i + 1)) b = subL (l.take i) b ++ (if 0 < t.qty - cnt b t.kind then [⟨t.kind, t.qty - cnt b t.kind⟩] else []) := by
  unfold subL
  rw [List.take_add_one, h, List.map_append, List.filter_append]
  congr 1
  simp only [Option.toList_some, List.map_cons, List.map_nil, List.filter_cons, List.filter_nil]
  by_cases h1 : 0 < t.qty - cnt b t.kind
  · rw [if_pos h1, decide_eq_true h1, if_pos rfl]
  · rw [if_neg h1, decide_eq_false h1, if_neg (by decide)]
theorem len_subL (l b : List St) : (subL l b).length ≤ l.length := by
  unfold subL
  exact Nat.le_trans (List.length_filter_le _ _) (by rw [List.length_map]; exact Nat.le_refl _)
theorem cnt_bound {l : List St} (h : errN l = 0) (k : Int) : 0 ≤ cnt (nl l) k ∧ cnt (nl l) k ≤ 1125899906842624 := by
  obtain ⟨h1, h2⟩ := errN_zero h
  refine ⟨cnt_nonneg (fun s hs => by have := (norm_nl h1).qty s hs; omega) k, ?_⟩
  rw [cnt_nl]
  by_cases h3 : mq < cnt l k
  · exact absurd ⟨k, h3⟩ h2
  · unfold mq at h3; omega
set_option maxRecDepth 100000 in
set_option maxHeartbeats 8000000 in
theorem dsub (a : Option Addr) (n c : Nat) (l : List St) (b : Option Addr) (m d : Nat) (k : List St) (w : World) (hl : l.length = n) (hs : Sts w a l) (hn : n ≤ 4096) (hk : k.length = m) (ht : Sts w b k) (hm : m ≤ 4096) :
    Calls Try.prog 19 #[.slice a n c, .slice b m d] w fun e w' => ∃ v, e = .returned (.tuple #[v, .int .i64 (errS l k)]) ∧ OwnS w' w.heap.size v (valS l k) ∧ Below w.heap.size w w' := by
  by_cases he : errB l k = 0
  · have HB := Lib.hid (dboth_yes a n c l b m d k w hl hs hn hk ht hm he)
    obtain ⟨e1, e2⟩ := errB_zero he
    have hE : (errS l k = 7 ∧ ∃ s ∈ nl k, cnt (nl l) s.kind < s.qty) ∨ (errS l k = 0 ∧ ∀ s ∈ nl k, s.qty ≤ cnt (nl l) s.kind) := by
      unfold errS
      rw [if_pos he]
      by_cases h : ∃ s ∈ nl k, cnt (nl l) s.kind < s.qty
      · left; rw [if_pos h]; exact ⟨rfl, h⟩
      · right
        rw [if_neg h]
        exact ⟨rfl, fun s hs => by
          by_cases h1 : cnt (nl l) s.kind < s.qty
          · exact absurd ⟨s, hs, h1⟩ h
          · omega⟩
    have HE := Lib.hid hE
    have HV0 : Hid (errS l k = 7 → valS l k = []) := Lib.hid (fun h => by unfold valS; rw [h]; rfl)
    have HV1 : Hid (errS l k = 0 → valS l k = subL (nl l) (nl k)) := Lib.hid (fun h => by unfold valS; rw [if_pos h])
    have h3 := len_nl l
    have h4 := len_nl k
    have HLX : Hid ((nl l).length ≤ 4096) := Lib.hid (by omega)
    have HLY : Hid ((nl k).length ≤ 4096) := Lib.hid (by omega)
    have HCX : Hid (∀ W a1 m1 c1, (nl l).length = m1 → Sts W a1 (nl l) → ∀ V kd, Below W.heap.size W V → Calls Try.prog 30 #[.slice a1 m1 c1, .int .i64 kd] V fun e w' => e = .returned (.int .i64 (cnt (nl l) kd)) ∧ Hid (Below W.heap.size W w')) := Lib.hid (fun W a1 m1 c1 hm1 hst V kd hV => by
      have := dcount a1 m1 c1 (nl l) kd V hm1 (hst.under hV) (by omega)
      rw [valN_nl e1] at this
      exact this.mono fun _ _ ⟨e, h⟩ => ⟨e, Lib.hid (below_then hV h)⟩)
    have HCY : Hid (∀ W a1 m1 c1, (nl k).length = m1 → Sts W a1 (nl k) → ∀ V kd, Below W.heap.size W V → Calls Try.prog 30 #[.slice a1 m1 c1, .int .i64 kd] V fun e w' => e = .returned (.int .i64 (cnt (nl k) kd)) ∧ Hid (Below W.heap.size W w') ∧ Hid (Below V.heap.size V w')) := Lib.hid (fun W a1 m1 c1 hm1 hst V kd hV => by
      have := dcount a1 m1 c1 (nl k) kd V hm1 (hst.under hV) (by omega)
      rw [valN_nl e2] at this
      exact this.mono fun _ _ ⟨e, h⟩ => ⟨e, Lib.hid (below_then hV h), Lib.hid h⟩)
    have HBX : Hid (∀ t ∈ nl l, 0 ≤ t.qty ∧ t.qty ≤ 1125899906842624) := Lib.hid (fun t ht => by
      have h1 := cnt_bound e1 t.kind
      have hn := norm_nl (errN_zero e1).1
      rw [cnt_at hn.rise ht] at h1
      exact h1)
    have HBY : Hid (∀ kd, 0 ≤ cnt (nl k) kd ∧ cnt (nl k) kd ≤ 1125899906842624) := Lib.hid (cnt_bound e2)
    clear hl hs hn hk ht hm he e1 e2 hE h3 h4
    go_enter Try.func19, Try.ntmps19
    go_wp2_with fail
    refine HB.out.mono ?_
    rintro e w1 ⟨a1, m1, c1, a2, m2, c2, rfl, HV⟩
    have HSX : Hid (Sts w1 a1 (nl l)) := Lib.hid (by
      obtain ⟨_, _, q, s⟩ := sts_own HV.out.2.1
      injection q with q _ _
      subst q
      exact s)
    have HSY : Hid (Sts w1 a2 (nl k)) := Lib.hid (by
      obtain ⟨_, _, q, s⟩ := sts_own HV.out.2.2.2.1
      injection q with q _ _
      subst q
      exact s)
    have HM1 := Lib.hid HV.out.1
    have HM2 := Lib.hid HV.out.2.2.1
    have HW1 := Lib.hid HV.out.2.2.2.2
    have HTX := sts_at HSX.out
    have HTY := sts_at HSY.out
    have HCX1 : Hid (∀ V kd, Below w1.heap.size w1 V → Calls Try.prog 30 #[.slice a1 m1 c1, .int .i64 kd] V fun e w' => e = .returned (.int .i64 (cnt (nl l) kd)) ∧ Hid (Below w1.heap.size w1 w')) := Lib.hid (HCX.out w1 a1 m1 c1 HM1.out HSX.out)
    have HCY1 : Hid (∀ V kd, Below w1.heap.size w1 V → Calls Try.prog 30 #[.slice a2 m2 c2, .int .i64 kd] V fun e w' => e = .returned (.int .i64 (cnt (nl k) kd)) ∧ Hid (Below w1.heap.size w1 w') ∧ Hid (Below V.heap.size V w')) := Lib.hid (HCY.out w1 a2 m2 c2 HM2.out HSY.out)
    have hm1 : (m1 : Int) ≤ 1048576 := by have := HM1.out; have := HLX.out; omega
    have hm2 : (m2 : Int) ≤ 1048576 := by have := HM2.out; have := HLY.out; omega
    clear HV HCX HCY HB
    go_wp2_with fail
    go_loopw [9] (fun t wr => ∃ i : Nat, t = .int .i64 i ∧ i ≤ m2 ∧ Hid (Below w1.heap.size w1 wr) ∧ Hid (∀ s ∈ (nl k).take i, s.qty ≤ cnt (nl l) s.kind)) (fun t _ => m2 - (RowKit.intOf t).toNat)
    case atStart => exact ⟨0, rfl, by omega, Lib.hid (Below.refl _ _), Lib.hid (fun s hs => by simp at hs)⟩
    case round =>
      obtain ⟨i, rfl, hi, HB, HI⟩ := hrel
      have hi0 : (0 : Int) ≤ (i : Int) := by omega
      by_cases hlt : i < m2
      · have hlt2 : (i : Int) < (m2 : Int) := by omega
        obtain ⟨g, off, t, rfl, hti, k0, k1⟩ := HTY.out wr i HB.out (by rw [HM2.out]; exact hlt)
        have HS : Hid (∀ V, Below w1.heap.size w1 V → V.cell? ⟨g, off + i * 2, none⟩ = some (.int .i64 t.kind) ∧ V.cell? ⟨g, off + i * 2 + 1, none⟩ = some (.int .i64 t.qty)) := Lib.hid (fun V hV => by
          obtain ⟨g', off', t', e, h1, h2, h3⟩ := HTY.out V i hV (by rw [HM2.out]; exact hlt)
          injection e with e
          injection e with e1 e2
          subst e1; subst e2
          have h4 := h1.out
          rw [hti.out] at h4
          cases h4
          exact ⟨h2, h3⟩)
        have D0 : Below w1.heap.size w1 wr.drew := HB.out.drew
        obtain ⟨z, hz⟩ : ∃ z, cnt (nl l) t.kind = z := ⟨_, rfl⟩
        have HC1 : Hid (Calls Try.prog 30 #[.slice a1 m1 c1, .int .i64 t.kind] wr.drew fun e w' => e = .returned (.int .i64 z) ∧ Hid (Below w1.heap.size w1 w')) := Lib.hid (by rw [← hz]; exact HCX1.out _ t.kind D0)
        have HZ := Lib.hid hz
        clear hz
        by_cases c1 : z < t.qty
        · have c1d : decide (z < t.qty) = true := decide_eq_true c1
          have HF : Hid (errS l k = 7) := Lib.hid (by
            rcases HE.out with h | h
            · exact h.1
            · have := h.2 t (List.mem_of_getElem? hti.out)
              have := HZ.out
              omega)
          go_wp2_with fail
          go_region_held3 (fun V => V.cell? ⟨g, off + i * 2, none⟩ = some (.int .i64 t.kind) ∧ V.cell? ⟨g, off + i * 2 + 1, none⟩ = some (.int .i64 t.qty))
            (first | exact HS.out _ D0 | exact HS.out _ h3.out)
            (first | (go_at_call 30; refine HC1.out.mono ?_; rintro e w3 ⟨rfl, h3⟩))
          all_goals
            go_wp2_with fail
            go_ret2
            exact ⟨_, by rw [HF.out]; rfl, by rw [HV0.out HF.out]; exact World.ownsRow_nil _ _ _ _, below_then HW1.out h3.out⟩
        · have c1d : decide (z < t.qty) = false := decide_eq_false c1
          have HI2 : Hid (∀ s ∈ (nl k).take (i + 1), s.qty ≤ cnt (nl l) s.kind) := Lib.hid (fun s hs => by
            rcases (mem_take_succ hti.out).1 hs with hs | rfl
            · exact HI.out s hs
            · have := HZ.out; omega)
          go_wp2_with fail
          go_region_held3 (fun V => V.cell? ⟨g, off + i * 2, none⟩ = some (.int .i64 t.kind) ∧ V.cell? ⟨g, off + i * 2 + 1, none⟩ = some (.int .i64 t.qty))
            (first | exact HS.out _ D0 | exact HS.out _ h3.out)
            (first | (go_at_call 30; refine HC1.out.mono ?_; rintro e w3 ⟨rfl, h3⟩))
          all_goals
            go_wp2_with fail
            go_roundw
            case rel => exact ⟨i + 1, by go_num, by omega, h3, HI2⟩
            case measure => simp [RowKit.intOf]; omega
      · obtain rfl : i = m2 := by omega
        have HF : Hid (errS l k = 0) := Lib.hid (by
          rcases HE.out with ⟨_, s, hs, h⟩ | h
          · have := HI.out s (by rw [List.take_of_length_le (by rw [HM2.out]; exact Nat.le_refl _)]; exact hs)
            omega
          · exact h.1)
        have HO0 : Hid (OwnS wr w1.heap.size (.slice none 0 0) (subL ((nl l).take 0) (nl k))) := Lib.hid (World.ownsRow_nil _ _ _ _)
        clear HI HE HV0 HTY hi0
        go_wp2_with fail
        go_loopw [10, 11] (fun s t wx => ∃ j : Nat, t = .int .i64 j ∧ j ≤ m1 ∧ Hid (Below w1.heap.size w1 wx) ∧ Hid (OwnS wx w1.heap.size s (subL ((nl l).take j) (nl k)))) (fun _ t _ => m1 - (RowKit.intOf t).toNat)
        case atStart => exact ⟨0, rfl, by omega, HB, HO0⟩
        case round =>
          clear HB HO0
          obtain ⟨j, rfl, hj, HB, HO⟩ := hrel
          have hj0 : (0 : Int) ≤ (j : Int) := by omega
          by_cases hlt : j < m1
          · have hlt2 : (j : Int) < (m1 : Int) := by omega
            obtain ⟨g, off, t, rfl, hti, k0, k1⟩ := HTX.out _ j HB.out (by rw [HM1.out]; exact hlt)
            have HS : Hid (∀ V, Below w1.heap.size w1 V → V.cell? ⟨g, off + j * 2, none⟩ = some (.int .i64 t.kind) ∧ V.cell? ⟨g, off + j * 2 + 1, none⟩ = some (.int .i64 t.qty)) := Lib.hid (fun V hV => by
              obtain ⟨g', off', t', e, h1, h2, h3⟩ := HTX.out V j hV (by rw [HM1.out]; exact hlt)
              injection e with e
              injection e with e1 e2
              subst e1; subst e2
              have h4 := h1.out
              rw [hti.out] at h4
              cases h4
              exact ⟨h2, h3⟩)
            obtain ⟨z, hz⟩ : ∃ z, cnt (nl k) t.kind = z := ⟨_, rfl⟩
            have hb1 := HBY.out t.kind
            have hb2 := HBX.out t (List.mem_of_getElem? hti.out)
            rw [hz] at hb1
            obtain ⟨y, hy⟩ : ∃ y, t.qty - z = y := ⟨_, rfl⟩
            have hw : IntKind.i64.wrap (t.qty - z) = y := by rw [hy]; exact IntWalk.i64_in _ (by omega)
            have HC1 : Hid (∀ V, Below w1.heap.size w1 V → Calls Try.prog 30 #[.slice a2 i c2, .int .i64 t.kind] V fun e w' => e = .returned (.int .i64 z) ∧ Hid (Below w1.heap.size w1 w') ∧ Hid (Below V.heap.size V w')) := Lib.hid (fun V hV => by rw [← hz]; exact HCY1.out V t.kind hV)
            have HU : Hid (subL ((nl l).take (j + 1)) (nl k) = subL ((nl l).take j) (nl k) ++ (if 0 < y then [⟨t.kind, y⟩] else [])) := Lib.hid (by rw [subL_succ hti.out, hz, hy])
            have hlen : Hid ((subL ((nl l).take j) (nl k)).length ≤ 4096) := Lib.hid (by
              have h1 := len_subL ((nl l).take j) (nl k)
              rw [List.length_take] at h1
              have := HLX.out
              omega)
            clear hz hy hb1 hb2
            go_wp2_with fail
            go_region_held3 (fun V => V.cell? ⟨g, off + j * 2, none⟩ = some (.int .i64 t.kind) ∧ V.cell? ⟨g, off + j * 2 + 1, none⟩ = some (.int .i64 t.qty))
              (first | exact HS.out _ HB.out.drew | exact HS.out _ h3.out)
              (first | (go_at_call 30; refine (HC1.out _ HB.out.drew).mono ?_; rintro e w3 ⟨rfl, h3, h4⟩))
            all_goals
              by_cases c2 : 0 < y
              · have HA : Hid (∀ W s, Below w1.heap.size w1 W → OwnS W w1.heap.size s (subL ((nl l).take j) (nl k)) → ∃ v' w', (Builtin.append_ #[30, 30] 30 #[s, .slice (some ⟨W.heap.size, 0, none⟩) 1 1]).run Try.prog (W.alloc (.cells #[.int .i64 t.kind, .int .i64 y] 51)) = .ok v' w' ∧
                    Hid (OwnS w' w1.heap.size v' (subL ((nl l).take (j + 1)) (nl k)) ∧ Below w1.heap.size w1 w')) := Lib.hid (fun W s hW ho => by
                  have hal := hW.alloc hW.size (.cells #[.int .i64 t.kind, .int .i64 y] 51)
                  obtain ⟨v', w', hr, h2, h3⟩ := app_st (W.alloc (.cells #[.int .i64 t.kind, .int .i64 y] 51)) w1.heap.size s (subL ((nl l).take j) (nl k)) [⟨t.kind, y⟩] (ho.alloc _) (some ⟨W.heap.size, 0, none⟩) 1 1 rfl (fun j u hj => ⟨_, rfl, by
                    have hblk := heap_alloc_new W (.cells #[.int .i64 t.kind, .int .i64 y] 51)
                    rw [addr_add, Nat.zero_add]
                    refine cell_block (j := j) hblk ?_
                    rw [← Array.getElem?_toList]
                    exact hj⟩) (by
                    have h1 := hlen.out
                    simp only [List.length_singleton]
                    omega) hal.size
                  have hu := HU.out
                  rw [if_pos c2] at hu
                  rw [← hu] at h2
                  exact ⟨v', w', hr, Lib.hid ⟨h2, below_cat hal h3⟩⟩)
                have HO3 : Hid (OwnS w3 w1.heap.size _ (subL ((nl l).take j) (nl k))) := Lib.hid (own_under (World.ownsRow.drew HO.out) h4.out)
                obtain ⟨v', w4, hr, HE2⟩ := HA.out _ _ h3.out HO3.out
                have HR := Lib.hid hr
                have HO4 := Lib.hid HE2.out.1; have HB4 := Lib.hid HE2.out.2
                clear HU hlen hr
                go_wp2_with (at_builtin; refine walk_run (v' := v') (w' := w4) rfl _ _ _ _ rfl _ _ rfl rfl ?_ ?_; exact HR.out)
                go_roundw
                case rel => exact ⟨j + 1, by go_num, by omega, HB4, HO4⟩
                case measure => simp [RowKit.intOf]; omega
              · have HU0 : Hid (subL ((nl l).take (j + 1)) (nl k) = subL ((nl l).take j) (nl k)) := Lib.hid (by rw [HU.out, if_neg c2, List.append_nil])
                have HO4 : Hid (OwnS w3 w1.heap.size _ (subL ((nl l).take (j + 1)) (nl k))) := Lib.hid (by rw [HU0.out]; exact own_under (World.ownsRow.drew HO.out) h4.out)
                clear HU hlen
                go_wp2_with fail
                go_roundw
                case rel => exact ⟨j + 1, by go_num, by omega, h3, HO4⟩
                case measure => simp [RowKit.intOf]; omega
          · obtain rfl : j = m1 := by omega
            have HOV : Hid (OwnS _ w1.heap.size _ (valS l k)) := Lib.hid (by
              rw [HV1.out HF.out]
              have := HO.out
              rw [List.take_of_length_le (by rw [HM1.out]; exact Nat.le_refl _)] at this
              exact this)
            go_wp2_with fail
            go_ret2
            exact ⟨_, by rw [HF.out]; rfl, World.ownsRow.mono HOV.out HW1.out.size, below_then HW1.out HB.out⟩
  · have HB := Lib.hid (dboth_no a n c l b m d k w hl hs hn hk ht hm he)
    have hA : errS l k = errB l k := by unfold errS; rw [if_neg he]
    have hV : valS l k = [] := by unfold valS; rw [hA, if_neg he]
    rw [hA, hV]
    obtain ⟨er, her⟩ : ∃ er, errB l k = er := ⟨_, rfl⟩
    rw [her] at he HB ⊢
    have hne : (er == 0) = false := by simpa using he
    clear hl hs hn hk ht hm hA hV her he
    go_enter Try.func19, Try.ntmps19
    go_wp2_with fail
    refine HB.out.mono ?_
    rintro e w1 ⟨rfl, hb⟩
    have HBB := Lib.hid hb
    clear hb
    go_wp2_with fail
    go_ret2
    exact ⟨_, rfl, World.ownsRow_nil _ _ _ _, HBB.out⟩
end Go.Proofs.Ytohlkaoophbinaa.Goods
