/- Lists of keys: two behind one another, one that lacks an item. -/
import Derived.Test.YtkljaaeeocghjaaTinImG
namespace Go.Proofs.Ytkljaaeeocghjaa.Tab.Im
open Go.RowKit Go.Lib

def parts_key (xs ys : List Key) : Nat → List Key
  | 0 => []
  | 1 => xs
  | _ => xs ++ ys
set_option maxRecDepth 100000 in
set_option maxHeartbeats 4000000 in
theorem concat_key (b : Nat) (a1 a2 : Option Addr) (c1 c2 : Nat) (xs ys : List Key) (m1 m2 : Nat) (w : World) (hb : w.heap[b]? = some (.cells #[.slice a1 m1 c1, .slice a2 m2 c2] 57 (0, 0))) (hm1 : xs.length = m1) (hm2 : ys.length = m2)
    (h1 : ∀ j u, (kcells xs)[j]? = some u → ∃ ad, a1 = some ad ∧ ad.block < w.heap.size ∧ w.cell? (ad.add j) = some u) (h2 : ∀ j u, (kcells ys)[j]? = some u → ∃ ad, a2 = some ad ∧ ad.block < w.heap.size ∧ w.cell? (ad.add j) = some u) (hl : m1 + m2 ≤ 1000) :
    Calls Try.prog 68 #[.slice (some ⟨b, 0, none⟩) 2 2] w fun e w' => ∃ v, e = .returned v ∧ OwnK w' w.heap.size v (xs ++ ys) ∧ Below w.heap.size w w' := by
  have hlt := (Array.getElem?_eq_some_iff.1 hb).1
  have HG := Lib.hid (grow_key none [] (m1 + m2) w (.inl rfl) (fun j u hj => by simp [kcells] at hj) (.inr rfl) (by simp; omega))
  rw [show ((m1 + m2 : Nat) : Int) = (m1 : Int) + (m2 : Int) by omega, List.length_nil] at HG
  have d0 : w.cell? ⟨b, 0, none⟩ = some (.slice a1 m1 c1) := cell_block (j := 0) hb rfl; have d1 : w.cell? ⟨b, 1, none⟩ = some (.slice a2 m2 c2) := cell_block (j := 1) hb rfl
  have HS : Hid (∀ W, Below w.heap.size w W → W.cell? ⟨b, 0, none⟩ = some (.slice a1 m1 c1) ∧ W.cell? ⟨b, 1, none⟩ = some (.slice a2 m2 c2)) := Lib.hid (fun W hW => by
    have := (hW.block b hlt).trans hb
    exact ⟨cell_block (j := 0) this rfl, cell_block (j := 1) this rfl⟩)
  have HQ : Hid (∀ W, Below w.heap.size w W → (∀ j u, (kcells xs)[j]? = some u → ∃ ad, a1 = some ad ∧ W.cell? (ad.add j) = some u) ∧ (∀ j u, (kcells ys)[j]? = some u → ∃ ad, a2 = some ad ∧ W.cell? (ad.add j) = some u)) := Lib.hid (fun W hW => ⟨fun j u hj => by
      obtain ⟨ad, e1, h3, h4⟩ := h1 j u hj
      exact ⟨ad, e1, (hW.cell (p := ad.add j) (by rw [addr_block]; exact h3)).trans h4⟩, fun j u hj => by
      obtain ⟨ad, e1, h3, h4⟩ := h2 j u hj
      exact ⟨ad, e1, (hW.cell (p := ad.add j) (by rw [addr_block]; exact h3)).trans h4⟩⟩)
  have hz1 : (0 : Int) ≤ (m1 : Int) := by omega
  have hz2 : (0 : Int) ≤ (m2 : Int) := by omega
  have hz3 : (m1 : Int) ≤ 1048576 := by omega
  have hz4 : (m2 : Int) ≤ 1048576 := by omega
  have hz5 : ¬ ((m1 : Int) + (m2 : Int) < 0) := by omega
  have HL := Lib.hid hl; have HM1 := Lib.hid hm1; have HM2 := Lib.hid hm2
  clear hb hlt h1 h2 hl hm1 hm2
  go_enter Try.func68, Try.ntmps68
  go_wp2_with fail
  go_loopw [3, 11] (fun s t wr => ∃ i : Nat, i ≤ 2 ∧ t = .int .i64 i ∧ s = .int .i64 ((if i = 0 then 0 else (m1 : Int)) + (if i = 2 then (m2 : Int) else 0)) ∧ w = wr) (fun _ t _ => 2 - (RowKit.intOf t).toNat)
  case atStart => exact ⟨0, by omega, rfl, rfl, rfl⟩
  case round =>
    obtain ⟨i, hi, rfl, rfl, rfl⟩ := hrel
    by_cases hi2 : i < 2
    · rcases (show i = 0 ∨ i = 1 by omega) with rfl | rfl
      · go_wp2_with fail
        go_roundw
        case rel => exact ⟨1, by omega, rfl, by simp, (by first | rfl | trivial)⟩
        case measure => simp [RowKit.intOf]
      · go_wp2_with fail
        go_roundw
        case rel => exact ⟨2, by omega, rfl, by simp, (by first | rfl | trivial)⟩
        case measure => simp [RowKit.intOf]
    · obtain rfl : i = 2 := by omega
      go_wp2_with fail
      refine HG.out.mono ?_
      rintro e w1 ⟨v1, rfl, ho1, hb1⟩
      have HO := Lib.hid ho1; have HB := Lib.hid hb1
      clear ho1 hb1
      go_wp2_with fail
      go_loopw [6, 27] (fun v t wx => ∃ i : Nat, i ≤ 2 ∧ t = .int .i64 i ∧ Hid (OwnK wx w.heap.size v (parts_key xs ys i)) ∧ Hid (Below w.heap.size w wx)) (fun _ t _ => 2 - (RowKit.intOf t).toNat)
      case atStart => exact ⟨0, by omega, rfl, HO, HB⟩
      case round =>
        obtain ⟨i, hi, rfl, HV, HW⟩ := hrel
        by_cases hi2 : i < 2
        · have hsz := HW.out.size
          obtain ⟨e0, e1⟩ := HS.out _ HW.out
          rcases (show i = 0 ∨ i = 1 by omega) with rfl | rfl
          · obtain ⟨v2, w2, hr, ho, hbel⟩ := app_key wr w.heap.size u6 [] xs HV.out a1 m1 c1 HM1.out.symm (HQ.out _ HW.out).1 (by rw [HM1.out]; simp; omega) hsz
            have HR := Lib.hid hr
            have HO2 : Hid (OwnK w2 w.heap.size v2 (parts_key xs ys 1)) := Lib.hid (by rw [List.nil_append] at ho; exact ho)
            have HB2 := Lib.hid (below_cat HW.out hbel)
            clear hr ho hbel
            go_wp2_with (at_builtin; refine walk_run rfl _ _ _ _ rfl _ _ rfl rfl HR.out ?_)
            go_roundw
            case rel => exact ⟨1, by omega, rfl, HO2, HB2⟩
            case measure => simp [RowKit.intOf]
          · obtain ⟨v2, w2, hr, ho, hbel⟩ := app_key wr w.heap.size u6 xs ys HV.out a2 m2 c2 HM2.out.symm (HQ.out _ HW.out).2 (by rw [HM1.out, HM2.out]; have := HL.out; omega) hsz
            have HR := Lib.hid hr
            have HO2 : Hid (OwnK w2 w.heap.size v2 (parts_key xs ys 2)) := Lib.hid ho
            have HB2 := Lib.hid (below_cat HW.out hbel)
            clear hr ho hbel
            go_wp2_with (at_builtin; refine walk_run rfl _ _ _ _ rfl _ _ rfl rfl HR.out ?_)
            go_roundw
            case rel => exact ⟨2, by omega, rfl, HO2, HB2⟩
            case measure => simp [RowKit.intOf]
        · obtain rfl : i = 2 := by omega
          go_wp2_with fail
          go_ret
          exact ⟨_, rfl, HV.out, HW.out⟩
set_option maxRecDepth 100000 in
set_option maxHeartbeats 4000000 in
theorem without_key (v : Value) (l : List Key) (i : Nat) (w : World) (h : OwnK w 0 v l) (h1 : i < l.length) (hl : l.length ≤ 1000) :
    Calls Try.prog 60 #[v, .int .i64 (i : Nat)] w fun e w' => ∃ v', e = .returned v' ∧ OwnK w' w.heap.size v' (l.take i ++ l.drop (i + 1)) ∧ Below w.heap.size w w' := by
  obtain ⟨i0, hi, hz0, hz1, hz2⟩ := info_parts info_key
  obtain ⟨a, c, rfl, hlc, hcm, ha, _⟩ := rowK h
  obtain ⟨n, hn⟩ : ∃ n, l.length = n := ⟨_, rfl⟩
  have hs1 : ∀ W, (Instr.slice 57 (.slice a n c) none (some (.int .i64 (i : Nat))) none).run Try.prog W = .ok (.slice a i c) W := fun W => run_take (P := Try.prog) W elem_key under_key hi a n c i ha (by omega)
  have hs2 : ∀ W, (Instr.slice 57 (.slice a n c) (some (.int .i64 ((i : Int) + 1))) none none).run Try.prog W = .ok (.slice (atAddr a 4 (i + 1) c) (n - (i + 1)) (c - (i + 1))) W := fun W => by
    have := run_rest (P := Try.prog) W elem_key under_key hi hz1 a n c (i + 1) (by omega)
    rw [show ((i + 1 : Nat) : Int) = (i : Int) + 1 by omega] at this
    exact this
  have HC : Hid (Calls Try.prog 68 #[.slice (some ⟨w.heap.size, 0, none⟩) 2 2] (w.drew.alloc (.cells #[.slice a i c, .slice (atAddr a 4 (i + 1) c) (n - (i + 1)) (c - (i + 1))] 57)) fun e w' => ∃ v, e = .returned v ∧ Hid (OwnK w' w.heap.size v (l.take i ++ l.drop (i + 1)) ∧ Below w.heap.size w w')) := Lib.hid (by
    have hal := (Below.refl w.heap.size w).drew.alloc (Nat.le_refl _) (.cells #[.slice a i c, .slice (atAddr a 4 (i + 1) c) (n - (i + 1)) (c - (i + 1))] 57)
    have hX := own_under h hal
    refine (concat_key w.heap.size a (atAddr a 4 (i + 1) c) c (c - (i + 1)) (l.take i) (l.drop (i + 1)) i (n - (i + 1)) _ (by rw [show w.heap.size = w.drew.heap.size from rfl]; exact heap_alloc_new _ _) (by rw [List.length_take]; omega) (by rw [List.length_drop, hn]) (fun j u hj => ?_) (fun j u hj => ?_) (by omega)).mono ?_
    · obtain ⟨ad, e1, h3⟩ := src_take_key hX i j u hj
      exact ⟨ad, e1, by have := World.block_lt_of_cell? _ _ h3; rw [addr_block] at this; exact this, h3⟩
    · obtain ⟨ad, e1, h3⟩ := src_drop_key hX (i + 1) j u hj
      exact ⟨ad, e1, by have := World.block_lt_of_cell? _ _ h3; rw [addr_block] at this; exact this, h3⟩
    · rintro e w' ⟨v, rfl, ho, hb⟩
      exact ⟨v, rfl, Lib.hid ⟨World.ownsRow.mono ho hal.size, below_then hal hb⟩⟩)
  have hi1 : (i : Int) ≤ 1048576 := by omega
  have hi0 : (0 : Int) ≤ (i : Int) := by omega
  have hwr : IntKind.i64.wrap ((i : Int) + 1) = (i : Int) + 1 := IntWalk.i64_in _ (by omega)
  rw [hn]
  clear h hn hl h1 hlc hcm ha hi hz0 hz1 hz2
  go_enter Try.func60, Try.ntmps60
  go_wp2_with fail
  go_region_with (go_at_call 68; refine HC.out.mono ?_; rintro e w3 ⟨v3, rfl, H3⟩)
  all_goals
    go_wp2_with fail
    go_ret
    exact ⟨_, rfl, H3.out⟩
end Go.Proofs.Ytkljaaeeocghjaa.Tab.Im
