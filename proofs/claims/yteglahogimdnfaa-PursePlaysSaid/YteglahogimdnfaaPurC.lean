/- The document's put, with. -/
import Derived.Test.YteglahogimdnfaaPurB
import Derived.Deep.CutRange
namespace Go.Proofs.Yteglahogimdnfaa.Purse
open Go.RowKit Go.Lib

/-- What stands ahead of i, one, and what stands from j on: three appends. -/
theorem three (W1 : World) (a : Option Addr) (n c : Nat) (l : List Ac) (hr : OwnA W1 0 (.slice a n c) l) (t : Ac) (i j : Nat) (hi : i ≤ n) (hj : j ≤ n) (hn : n ≤ 4096) :
    ∃ a1 c1 W2 a2 c2 W3 a3 c3 W4, (Builtin.append_ #[22, 22] 22 #[.slice none 0 0, .slice a i c]).run Try.prog W1 = .ok (.slice a1 i c1) W2 ∧
      (Builtin.append_ #[22, 22] 22 #[.slice a1 i c1, .slice (some ⟨W2.heap.size, 0, none⟩) 1 1]).run Try.prog (W2.alloc (.cells #[.int .i64 t.own, .int .i64 t.mon] 63)) = .ok (.slice a2 (i + 1) c2) W3 ∧
      (Builtin.append_ #[22, 22] 22 #[.slice a2 (i + 1) c2, .slice (atAddr a 2 j c) (n - j) (c - j)]).run Try.prog W3 = .ok (.slice a3 (i + 1 + (n - j)) c3) W4 ∧
      Below W1.heap.size W1 W2 ∧ Below W1.heap.size W1 W3 ∧ Below W1.heap.size W1 W4 ∧ OwnA W4 W1.heap.size (.slice a3 (i + 1 + (n - j)) c3) (l.take i ++ t :: l.drop j) := by
  obtain ⟨hl, hlc, _, _, _⟩ := own_form hr
  subst hl
  obtain ⟨v1, W2, r1, o1, b1⟩ := app_ac W1 W1.heap.size (.slice none 0 0) [] (l.take i) (World.ownsRow_nil _ _ _ _) a i c (by rw [List.length_take]; omega) (src_take_ac hr i) (by rw [List.length_take]; simp; omega) (Nat.le_refl _)
  rw [List.nil_append] at o1
  obtain ⟨a1, c1, rfl, _⟩ := rowA o1
  have hA := b1.alloc b1.size (.cells #[.int .i64 t.own, .int .i64 t.mon] 63)
  obtain ⟨v2, W3, r2, o2, b2⟩ := app_ac (W2.alloc (.cells #[.int .i64 t.own, .int .i64 t.mon] 63)) W1.heap.size _ (l.take i) [t] (o1.alloc _) (some ⟨W2.heap.size, 0, none⟩) 1 1 rfl (fun j u hj => ⟨_, rfl, by
    have hblk := heap_alloc_new W2 (.cells #[.int .i64 t.own, .int .i64 t.mon] 63)
    rw [addr_add, Nat.zero_add]
    refine cell_block (j := j) hblk ?_
    rw [← Array.getElem?_toList]
    exact hj⟩) (by rw [List.length_take]; simp; omega) hA.size
  obtain ⟨a2, c2, rfl, _⟩ := rowA o2
  have hb3 := below_cat hA b2
  have hr3 := own_under hr hb3
  obtain ⟨v3, W4, r3, o3, b3⟩ := app_ac W3 W1.heap.size _ (l.take i ++ [t]) (l.drop j) o2 (atAddr a 2 j c) (l.length - j) (c - j) (by rw [List.length_drop]) (src_drop_ac hr3 j) (by simp only [List.length_append, List.length_take, List.length_drop, List.length_singleton]; omega) hb3.size
  obtain ⟨a3, c3, rfl, _⟩ := rowA o3
  have hb4 := below_cat hb3 b3
  have e1 : (l.take i).length = i := by rw [List.length_take]; omega
  have e2 : (l.take i ++ [t]).length = i + 1 := by rw [List.length_append, e1]; rfl
  have e3 : (l.take i ++ [t] ++ l.drop j).length = i + 1 + (l.length - j) := by rw [List.length_append, e2, List.length_drop]
  have e4 : l.take i ++ [t] ++ l.drop j = l.take i ++ t :: l.drop j := by rw [List.append_assoc, List.singleton_append]
  rw [e1] at r1 r2
  rw [e2] at r2 r3
  rw [e3] at r3
  rw [e3, e4] at o3
  exact ⟨a1, c1, W2, a2, c2, W3, a3, c3, W4, r1, r2, r3, b1, hb3, hb4, o3⟩
set_option maxRecDepth 100000 in
set_option maxHeartbeats 4000000 in
theorem dput {a : Option Addr} {n c : Nat} {l : List Ac} (t : Ac) (w : World) (hr : OwnA w 0 (.slice a n c) l) (hn : n ≤ 4000) :
    Calls Try.prog 27 #[.slice a n c, .agg #[.int .i64 t.own, .int .i64 t.mon]] w fun e w' => ∃ a' c', e = .returned (.slice a' (n + 1) c') ∧ Hid (OwnA w' w.heap.size (.slice a' (n + 1) c') (put l t) ∧ Below w.heap.size w w') := by
  obtain ⟨i0, hi, hz0, hz1, hz2⟩ := info_parts info_ac
  obtain ⟨hl, hlc, hcm, ha, hs⟩ := own_form hr
  obtain ⟨V, hV⟩ : ∃ V, w.heap.size = V := ⟨_, rfl⟩
  obtain ⟨X, hX⟩ : ∃ X, w.alloc (.cells #[.int .i64 t.own, .int .i64 t.mon] 63) = X := ⟨_, rfl⟩
  have hbX : Below w.heap.size w X := by rw [← hX]; exact (Below.refl _ w).alloc (Nat.le_refl _) _
  have hkX : X.heap[V]? = some (.cells t.cells 63 (0, 0)) := by rw [← hX, ← hV]; exact heap_alloc_new w _
  have HT := accs_at hs
  have HL := Lib.hid hl
  have HP : Hid (∀ W, Below X.heap.size X W → (W.cell? ⟨V, 0, none⟩ = some (.int .i64 t.own) ∧ W.cell? ⟨V, 1, none⟩ = some (.int .i64 t.mon)) ∧ Hid (Below w.heap.size w W)) := Lib.hid (fun W hW => by
    have h1 := (hW.block V (Array.getElem?_eq_some_iff.1 hkX).1).trans hkX
    exact ⟨⟨cell_block (j := 0) h1 rfl, cell_block (j := 1) h1 rfl⟩, Lib.hid (below_then hbX hW)⟩)
  have hs1 : ∀ W i, i ≤ n → (Instr.slice 22 (.slice a n c) none (some (.int .i64 (i : Nat))) none).run Try.prog W = .ok (.slice a i c) W := fun W i hin => run_take (P := Try.prog) W elem_ac under_ac hi a n c i ha (by omega)
  have hs2 : ∀ W i, i ≤ n → (Instr.slice 22 (.slice a n c) (some (.int .i64 (i : Nat))) none none).run Try.prog W = .ok (.slice (atAddr a 2 i c) (n - i) (c - i)) W := fun W i hin => run_rest (P := Try.prog) W elem_ac under_ac hi hz1 a n c i hin
  have HALL : Hid (∀ W1, Below X.heap.size X W1 → ∀ i, i ≤ n → putK t.own l = i → ∃ a1 c1 W2 a2 c2 W3 a3 c3 W4,
      Hid ((Builtin.append_ #[22, 22] 22 #[.slice none 0 0, .slice a i c]).run Try.prog W1 = .ok (.slice a1 i c1) W2) ∧
      Hid ((Builtin.append_ #[22, 22] 22 #[.slice a1 i c1, .slice (some ⟨W2.heap.size, 0, none⟩) 1 1]).run Try.prog (W2.alloc (.cells #[.int .i64 t.own, .int .i64 t.mon] 63)) = .ok (.slice a2 (i + 1) c2) W3) ∧
      Hid ((Builtin.append_ #[22, 22] 22 #[.slice a2 (i + 1) c2, .slice (atAddr a 2 i c) (n - i) (c - i)]).run Try.prog W3 = .ok (.slice a3 (n + 1) c3) W4) ∧
      (Instr.slice 22 (.slice a n c) none (some (.int .i64 (i : Nat))) none).run Try.prog W1 = .ok (.slice a i c) W1 ∧
      (Instr.slice 22 (.slice a n c) (some (.int .i64 (i : Nat))) none none).run Try.prog W3 = .ok (.slice (atAddr a 2 i c) (n - i) (c - i)) W3 ∧
      (W2.cell? ⟨V, 0, none⟩ = some (.int .i64 t.own) ∧ W2.cell? ⟨V, 1, none⟩ = some (.int .i64 t.mon)) ∧
      Hid (OwnA W4 w.heap.size (.slice a3 (n + 1) c3) (put l t) ∧ Below w.heap.size w W4)) := Lib.hid (fun W1 hW1 i hin hik => by
    have hb1 := below_then hbX hW1
    obtain ⟨a1, c1, W2, a2, c2, W3, a3, c3, W4, r1, r2, r3, b2, b3, b4, o4⟩ := three W1 a n c l (own_under hr hb1) t i i hin hin (by omega)
    rw [show i + 1 + (n - i) = n + 1 by omega] at r3 o4
    have hput : put l t = l.take i ++ t :: l.drop i := by unfold put; rw [hik]
    rw [← hput] at o4
    exact ⟨a1, c1, W2, a2, c2, W3, a3, c3, W4, Lib.hid r1, Lib.hid r2, Lib.hid r3, hs1 W1 i hin, hs2 W3 i hin, (HP.out W2 (below_then hW1 b2)).1, Lib.hid ⟨World.ownsRow.mono o4 hb1.size, below_then hb1 b4⟩⟩)
  have hn1 : (n : Int) ≤ 1048576 := by omega
  obtain ⟨⟨x0, x1⟩, _⟩ := HP.out X (Below.refl _ _)
  clear hr hl hlc hcm ha hs hn hs1 hs2 hbX hkX hi hz0 hz1 hz2
  go_enter Try.func27, Try.ntmps27
  go_wp2_with fail
  clear hX hV
  go_loopw [5] (fun s wr => ∃ i : Nat, s = .int .i64 i ∧ i ≤ n ∧ Hid (Below X.heap.size X wr) ∧ Hid (∀ j x, j < i → l[j]? = some x → x.own < t.own)) (fun s _ => n - (RowKit.intOf s).toNat)
  case atStart => exact ⟨0, rfl, by omega, Lib.hid (Below.refl _ _), Lib.hid (fun j x hj => by omega)⟩
  case round =>
    clear x0 x1
    obtain ⟨i, rfl, hi, HB, HI⟩ := hrel
    obtain ⟨⟨y0, y1⟩, HBW⟩ := HP.out wr HB.out
    have hi0 : (0 : Int) ≤ (i : Int) := by omega
    by_cases hlt : i < n
    · have hlt2 : (i : Int) < (n : Int) := by omega
      have dlt : decide ((i : Int) < (n : Int)) = true := decide_eq_true hlt2
      obtain ⟨g, off, p, rfl, hp, k0, k1⟩ := HT.out wr i HBW.out (by rw [HL.out]; exact hlt)
      by_cases hah : p.own < t.own
      · have HI2 : Hid (∀ j x, j < i + 1 → l[j]? = some x → x.own < t.own) := Lib.hid (fun j x hj hx => by
          rcases Nat.lt_or_ge j i with h1 | h1
          · exact HI.out j x h1 hx
          · obtain rfl : j = i := by omega
            rw [hp.out] at hx
            cases hx
            exact hah)
        have e1 : decide (p.own < t.own) = true := decide_eq_true hah
        clear hah
        go_wp2_with fail
        go_quiet (fail)
        go_wp2_with fail
        go_roundw
        case rel => exact ⟨i + 1, by go_num, by omega, Lib.hid (below_drewN HB.out _), HI2⟩
        case measure => simp [RowKit.intOf]; omega
      · have HK : Hid (putK t.own l = i) := Lib.hid (putK_of t.own l i (by have := HL.out; omega) HI.out (fun x hx => by rw [hp.out] at hx; cases hx; exact hah))
        have e1 : decide (p.own < t.own) = false := decide_eq_false hah
        clear hah
        go_wp2_with fail
        go_quiet (fail)
        generalize hw3 : wr.drewN _ = w3
        have H3 : Hid (Below X.heap.size X w3) := Lib.hid (by rw [← hw3]; exact below_drewN HB.out _)
        obtain ⟨a1, c1, W2, a2, c2, W3, a3, c3, W4, HR1, HR2, HR3, s1, s2, ⟨z0, z1⟩, HE⟩ := HALL.out w3 H3.out i hi HK.out
        clear hw3
        go_upto_region 6 with (at_builtin; refine walk_run (v' := .slice a1 i c1) (w' := W2) rfl _ _ _ _ rfl _ _ rfl rfl ?_ ?_; exact HR1.out)
        clear s1 HR1
        go_upto_region 7 with (at_builtin; refine walk_run (v' := .slice a2 (i + 1) c2) (w' := W3) rfl _ _ _ _ rfl _ _ rfl rfl ?_ ?_; exact HR2.out)
        clear z0 z1 HR2
        go_wp2_with (at_builtin; refine walk_run (v' := .slice a3 (n + 1) c3) (w' := W4) rfl _ _ _ _ rfl _ _ rfl rfl ?_ ?_; exact HR3.out)
        go_ret
        exact ⟨a3, c3, rfl, HE⟩
    · obtain rfl : i = n := by omega
      have HK : Hid (putK t.own l = i) := Lib.hid (putK_of t.own l i (by have := HL.out; omega) HI.out (fun x hx => by have := (List.getElem?_eq_some_iff.1 hx).1; have := HL.out; omega))
      have dlt : decide ((i : Int) < (i : Int)) = false := by simp
      go_wp2_with fail
      go_quiet (fail)
      generalize hw3 : wr.drewN _ = w3
      have H3 : Hid (Below X.heap.size X w3) := Lib.hid (by rw [← hw3]; exact below_drewN HB.out _)
      obtain ⟨a1, c1, W2, a2, c2, W3, a3, c3, W4, HR1, HR2, HR3, s1, s2, ⟨z0, z1⟩, HE⟩ := HALL.out w3 H3.out i hi HK.out
      rw [Nat.sub_self] at s2 HR3
      clear hw3
      go_upto_region 6 with (at_builtin; refine walk_run (v' := .slice a1 i c1) (w' := W2) rfl _ _ _ _ rfl _ _ rfl rfl ?_ ?_; exact HR1.out)
      clear s1 HR1
      go_upto_region 7 with (at_builtin; refine walk_run (v' := .slice a2 (i + 1) c2) (w' := W3) rfl _ _ _ _ rfl _ _ rfl rfl ?_ ?_; exact HR2.out)
      clear z0 z1 HR2
      go_wp2_with (at_builtin; refine walk_run (v' := .slice a3 (i + 1) c3) (w' := W4) rfl _ _ _ _ rfl _ _ rfl rfl ?_ ?_; exact HR3.out)
      go_ret
      exact ⟨a3, c3, rfl, HE⟩
set_option maxRecDepth 100000 in
set_option maxHeartbeats 4000000 in
theorem dwith {a : Option Addr} {n c : Nat} {l : List Ac} (k : Nat) (m : Int) (w : World) (hr : OwnA w 0 (.slice a n c) l) (hn : n ≤ 4000) (hk : k < n) :
    Calls Try.prog 39 #[.slice a n c, .int .i64 (k : Nat), .int .i64 m] w fun e w' => ∃ a' c', e = .returned (.slice a' n c') ∧ Hid (OwnA w' w.heap.size (.slice a' n c') (setM l k m) ∧ Below w.heap.size w w') := by
  obtain ⟨i0, hi, hz0, hz1, hz2⟩ := info_parts info_ac
  obtain ⟨hl, hlc, hcm, ha, hs⟩ := own_form hr
  have hs1 : (Instr.slice 22 (.slice a n c) none (some (.int .i64 (k : Nat))) none).run Try.prog w = .ok (.slice a k c) w := run_take (P := Try.prog) w elem_ac under_ac hi a n c k ha (by omega)
  have hs2 : ∀ W, (Instr.slice 22 (.slice a n c) (some (.int .i64 ((k : Int) + 1))) none none).run Try.prog W = .ok (.slice (atAddr a 2 (k + 1) c) (n - (k + 1)) (c - (k + 1))) W := fun W => run_rest (P := Try.prog) W elem_ac under_ac hi hz1 a n c (k + 1) (by omega)
  obtain ⟨a1, c1, W2, a2, c2, W3, a3, c3, W4, r1, r2, r3, b2, b3, b4, o4⟩ := three w a n c l hr ⟨ownAt l k, m⟩ k (k + 1) (by omega) (by omega) (by omega)
  rw [show k + 1 + (n - (k + 1)) = n by omega] at r3 o4
  have HE : Hid (OwnA W4 w.heap.size (.slice a3 n c3) (setM l k m) ∧ Below w.heap.size w W4) := Lib.hid ⟨o4, b4⟩
  obtain ⟨g, off, t, rfl, ht, k0, k1⟩ := (accs_at hs).out W2 k b2 (by rw [hl]; exact hk)
  have ho : ownAt l k = t.own := ownAt_of ht.out
  rw [ho] at r2
  have HR1 := Lib.hid r1; have HR2 := Lib.hid r2; have HR3 := Lib.hid r3
  have hk0 : (0 : Int) ≤ (k : Int) := by omega
  have hk1 : (k : Int) < (n : Int) := by omega
  have hk2 : (k : Int) ≤ 1048576 := by omega
  have s2 := hs2 W3
  clear hr hl hlc hcm ha hs hn hk hs2 hi hz0 hz1 hz2 r1 r2 r3 b2 b3 b4 o4 ho ht
  go_enter Try.func39, Try.ntmps39
  go_upto_region 3 with (at_builtin; refine walk_run (v' := .slice a1 k c1) (w' := W2) rfl _ _ _ _ rfl _ _ rfl rfl ?_ ?_; exact HR1.out)
  clear hs1 HR1
  go_upto_region 4 with (at_builtin; refine walk_run (v' := .slice a2 (k + 1) c2) (w' := W3) rfl _ _ _ _ rfl _ _ rfl rfl ?_ ?_; exact HR2.out)
  clear k0 k1 HR2
  go_wp2_with (at_builtin; refine walk_run (v' := .slice a3 n c3) (w' := W4) rfl _ _ _ _ rfl _ _ rfl rfl ?_ ?_; exact HR3.out)
  go_ret
  exact ⟨a3, c3, rfl, HE⟩
end Go.Proofs.Yteglahogimdnfaa.Purse
