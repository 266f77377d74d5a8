/- The document's put. -/
import Derived.Test.YtfbdkafpfminlaaHeapA
import Derived.Test.YtfbdkafpfminlaaHeapArr
import Derived.Test.YtfbdkafpfminlaaStep
import Derived.StillTailTactics
import Derived.Deep.CutRange
namespace Go.Proofs.Ytfbdkafpfminlaa.Heap
open Go.RowKit Go.Lib

/-- The queue's block alone has turned, to another list. -/
theorem rturned {w W : World} {Q : Nat} {q : QS} {lv v2 : Value} {l2 : List Tm} (h : RQ w Q q lv) (hb : Below w.heap.size w W) (hv : OwnT W 0 v2 l2) (hn : ∀ k, v2.ownBlock = some k → lv.ownBlock = some k ∨ w.heap.size ≤ k) :
    RQ (W.setCell ⟨Q, 0, none⟩ v2) Q ⟨l2, q.most, q.next⟩ v2 ∧ w.grownBy (W.setCell ⟨Q, 0, none⟩ v2) (some Q) := by
  have hh := (hb.block Q h.lt).trans h.head
  have hne : v2.ownBlock ≠ some Q := fun e => by
    rcases hn Q e with h1 | h1
    · exact h.apart h1
    · have := h.lt; omega
  have hg := only_setCell (only_refl W (some Q)) 0 v2
  refine ⟨⟨heap_setCell_same W Q 0 _ _ v2 hh, own_same hv (fun k hk => hg.block k (hv.lt k hk).2 (fun e => hne (by rw [hk, e]))), hne⟩, ?_⟩
  exact ⟨hg.os.trans hb.os, hg.tape.trans hb.tape, hg.output.trans hb.output, Nat.le_trans hb.size hg.size, fun i hi he => (hg.block i (Nat.lt_of_lt_of_le hi hb.size) he).trans (hb.block i hi)⟩
theorem below_cat {B : Nat} {a b c : World} (h : Below B a b) (k : Below B b c) : Below B a c := ⟨k.os.trans h.os, k.tape.trans h.tape, k.output.trans h.output, Nat.le_trans h.size k.size, fun q hq => (k.block q hq).trans (h.block q hq)⟩
theorem below_drewN {B : Nat} {w w' : World} (h : Below B w w') (k : Nat) : Below B w (w'.drewN k) := ⟨h.os, h.tape, h.output, h.size, h.block⟩
set_option maxRecDepth 100000 in
set_option maxHeartbeats 8000000 in
theorem rput_any {Q : Nat} {q : QS} {lv : Value} (t : Tm) (w : World) (h : RQ w Q q lv) (hl : q.l.length ≤ 4096) :
    Calls Try.prog 32 #[ptr Q, tV t] w fun e w' => e = .returned (.tuple #[]) ∧ ∃ lv', RQ w' Q ⟨put q.l t, q.most, q.next⟩ lv' ∧ w.grownBy w' (some Q) ∧ ∀ k, lv'.ownBlock = some k → w.heap.size ≤ k := by
  obtain ⟨i0, hi, hz0, hz1, hz2⟩ := info_parts info_tm
  obtain ⟨X, hX⟩ : ∃ X, w.alloc (.cells #[.int .i64 t.due, .int .i64 t.id, .int .i64 t.what] 45) = X := ⟨_, rfl⟩
  have hbX : Below w.heap.size w X := by rw [← hX]; exact (Below.refl _ w).alloc (Nat.le_refl _) _
  have hkX : X.heap[w.heap.size]? = some (.cells t.cells 45 (0, 0)) := by rw [← hX]; exact heap_alloc_new w _
  have hq := h.under hbX
  obtain ⟨a, c, rfl, hlc, hcm, ha, _⟩ := rowT hq.row
  obtain ⟨_, _, e1, _, hat⟩ := row_tm hq.row
  injection e1 with e1 _ e3
  subst e1; subst e3
  obtain ⟨n, hn⟩ : ∃ n, q.l.length = n := ⟨_, rfl⟩
  have HN := Lib.hid hn; have HAT := Lib.hid hat; have HQ := Lib.hid h; have HQX := Lib.hid hq; have HBX := Lib.hid hbX
  have hXs := hbX.size
  have hkl := (Array.getElem?_eq_some_iff.1 hkX).1
  have HS : Hid (∀ W, Below X.heap.size X W → W.cell? ⟨Q, 0, none⟩ = some (.slice a n c) ∧ W.cell? ⟨w.heap.size, 0, none⟩ = some (.int .i64 t.due) ∧ W.cell? ⟨w.heap.size, 1, none⟩ = some (.int .i64 t.id) ∧ W.cell? ⟨w.heap.size, 2, none⟩ = some (.int .i64 t.what)) := Lib.hid (fun W hW => by
    have h1 := (hW.block Q HQX.out.lt).trans HQX.out.head
    obtain ⟨k0, k1, k2⟩ := tm_at ((hW.block _ hkl).trans hkX)
    have h2 : W.cell? ⟨Q, 0, none⟩ = some (.slice a q.l.length c) := cell_block (j := 0) h1 rfl
    rw [hn] at h2
    exact ⟨h2, k0, k1, k2⟩)
  have HP : Hid (∀ W (i : Nat) (p : Tm), Below X.heap.size X W → q.l[i]? = some p → ∃ g, a = some ⟨g, 0, none⟩ ∧ W.cell? ⟨g, i * 3, none⟩ = some (.int .i64 p.due) ∧ W.cell? ⟨g, i * 3 + 1, none⟩ = some (.int .i64 p.id) ∧ W.cell? ⟨g, i * 3 + 2, none⟩ = some (.int .i64 p.what)) := Lib.hid (fun W i p hW hp => by
    obtain ⟨g, e, hg, k0, k1, k2⟩ := HAT.out i p hp
    exact ⟨g, e, ((bcell hW).1 g _ hg).trans k0, ((bcell hW).1 g _ hg).trans k1, ((bcell hW).1 g _ hg).trans k2⟩)
  have HT : Hid (∀ W1, Below X.heap.size X W1 → ∀ i, putK t q.l = i → ∃ a1 n1 c1 W2 a2 n2 c2 W3 a3 n3 c3 W4, (Builtin.append_ #[37, 37] 37 #[.slice none 0 0, .slice a i c]).run Try.prog W1 = .ok (.slice a1 n1 c1) W2 ∧
      (Builtin.append_ #[37, 37] 37 #[.slice a1 n1 c1, .slice (some ⟨W2.heap.size, 0, none⟩) 1 1]).run Try.prog (W2.alloc (.cells #[.int .i64 t.due, .int .i64 t.id, .int .i64 t.what] 45)) = .ok (.slice a2 n2 c2) W3 ∧
      (Builtin.append_ #[37, 37] 37 #[.slice a2 n2 c2, .slice (atAddr a 3 i c) (n - i) (c - i)]).run Try.prog W3 = .ok (.slice a3 n3 c3) W4 ∧
      Below X.heap.size X W2 ∧ Below X.heap.size X W3 ∧ (W4.cell? ⟨Q, 0, none⟩ = some (.slice a n c) ∧ W4.frozen? ⟨Q, 0, none⟩ = false) ∧
      Hid (RQ (W4.setCell ⟨Q, 0, none⟩ (.slice a3 n3 c3)) Q ⟨put q.l t, q.most, q.next⟩ (.slice a3 n3 c3) ∧ w.grownBy (W4.setCell ⟨Q, 0, none⟩ (.slice a3 n3 c3)) (some Q) ∧ ∀ k, (Value.slice a3 n3 c3).ownBlock = some k → w.heap.size ≤ k)) := Lib.hid (fun W1 hW1 i hik => by
    have hle := putK_le t q.l
    have hq1 := HQX.out.under hW1
    obtain ⟨v1, W2, r1, o1, b1⟩ := app_tm W1 W1.heap.size (.slice none 0 0) [] (q.l.take i) (World.ownsRow_nil _ _ _ _) a i c (by rw [List.length_take]; omega) (src_take_tm hq1.row i) (by rw [List.length_take]; simp; omega) (Nat.le_refl _)
    rw [List.nil_append] at o1
    obtain ⟨a1, c1, rfl, _⟩ := rowT o1
    have hA := b1.alloc b1.size (.cells #[.int .i64 t.due, .int .i64 t.id, .int .i64 t.what] 45)
    obtain ⟨v2, W3, r2, o2, b2⟩ := app_tm (W2.alloc (.cells #[.int .i64 t.due, .int .i64 t.id, .int .i64 t.what] 45)) W1.heap.size _ (q.l.take i) [t] (o1.alloc _) (some ⟨W2.heap.size, 0, none⟩) 1 1 rfl (fun j u hj => ⟨_, rfl, by
      have hblk := heap_alloc_new W2 (.cells #[.int .i64 t.due, .int .i64 t.id, .int .i64 t.what] 45)
      rw [addr_add, Nat.zero_add]
      refine cell_block (j := j) hblk ?_
      rw [← Array.getElem?_toList]
      exact hj⟩) (by rw [List.length_take]; simp; omega) hA.size
    obtain ⟨a2, c2, rfl, _⟩ := rowT o2
    have hb3 := below_cat hA b2
    obtain ⟨v3, W4, r3, o3, b3⟩ := app_tm W3 W1.heap.size _ (q.l.take i ++ [t]) (q.l.drop i) o2 (atAddr a 3 i c) (n - i) (c - i) (by rw [List.length_drop, hn]) (src_drop_tm (hq1.under hb3).row i) (by simp only [List.length_append, List.length_take, List.length_drop, List.length_singleton]; omega) hb3.size
    obtain ⟨a3, c3, rfl, _⟩ := rowT o3
    have hb4 := below_cat hb3 b3
    have hX4 := below_then hW1 hb4
    have hw4 := below_then HBX.out hX4
    have hh4 := (hw4.block Q HQ.out.lt).trans HQ.out.head
    have hcell : W4.cell? ⟨Q, 0, none⟩ = some (.slice a q.l.length c) := cell_block (j := 0) hh4 rfl
    rw [hn] at hcell
    have hown : OwnT W4 0 (.slice a3 (q.l.take i ++ [t] ++ q.l.drop i).length c3) (put q.l t) := by
      have : put q.l t = q.l.take i ++ [t] ++ q.l.drop i := by unfold put; rw [hik, List.append_assoc, List.singleton_append]
      rw [this]
      exact World.ownsRow.mono o3 (Nat.zero_le _)
    have hnew : ∀ k, (Value.slice a3 (q.l.take i ++ [t] ++ q.l.drop i).length c3).ownBlock = some k → w.heap.size ≤ k := fun k hk => by
      have := (o3.lt k hk).1
      have := hW1.size
      omega
    obtain ⟨h5, h6⟩ := rturned HQ.out hw4 hown (fun k hk => .inr (hnew k hk))
    exact ⟨a1, _, c1, W2, a2, _, c2, W3, a3, _, c3, W4, r1, r2, r3, below_then hW1 ⟨b1.os, b1.tape, b1.output, b1.size, b1.block⟩, below_then hW1 hb3, ⟨hcell, free_block 0 hh4⟩, Lib.hid ⟨h5, h6, hnew⟩⟩)
  have hs1 : ∀ W i, i ≤ n → (Instr.slice 37 (.slice a n c) none (some (.int .i64 (i : Nat))) none).run Try.prog W = .ok (.slice a i c) W := fun W i hin => run_take (P := Try.prog) W elem_tm under_tm hi a n c i ha (by omega)
  have hs2 : ∀ W i, i ≤ n → (Instr.slice 37 (.slice a n c) (some (.int .i64 (i : Nat))) none none).run Try.prog W = .ok (.slice (atAddr a 3 i c) (n - i) (c - i)) W := fun W i hin => run_rest (P := Try.prog) W elem_tm under_tm hi hz1 a n c i hin
  have HALL : Hid (∀ w3, Below X.heap.size X w3 → ∀ i, i ≤ n → putK t q.l = i → ∃ a1 n1 c1 W2 a2 n2 c2 W3 a3 n3 c3 W4,
      Hid ((Builtin.append_ #[37, 37] 37 #[.slice none 0 0, .slice a i c]).run Try.prog w3 = .ok (.slice a1 n1 c1) W2) ∧
      Hid ((Builtin.append_ #[37, 37] 37 #[.slice a1 n1 c1, .slice (some ⟨W2.heap.size, 0, none⟩) 1 1]).run Try.prog (W2.alloc (.cells #[.int .i64 t.due, .int .i64 t.id, .int .i64 t.what] 45)) = .ok (.slice a2 n2 c2) W3) ∧
      Hid ((Builtin.append_ #[37, 37] 37 #[.slice a2 n2 c2, .slice (atAddr a 3 i c) (n - i) (c - i)]).run Try.prog W3 = .ok (.slice a3 n3 c3) W4) ∧
      (w3.cell? ⟨Q, 0, none⟩ = some (.slice a n c) ∧ w3.cell? ⟨w.heap.size, 0, none⟩ = some (.int .i64 t.due) ∧ w3.cell? ⟨w.heap.size, 1, none⟩ = some (.int .i64 t.id) ∧ w3.cell? ⟨w.heap.size, 2, none⟩ = some (.int .i64 t.what)) ∧
      (W2.cell? ⟨Q, 0, none⟩ = some (.slice a n c) ∧ W2.cell? ⟨w.heap.size, 0, none⟩ = some (.int .i64 t.due) ∧ W2.cell? ⟨w.heap.size, 1, none⟩ = some (.int .i64 t.id) ∧ W2.cell? ⟨w.heap.size, 2, none⟩ = some (.int .i64 t.what)) ∧
      (W3.cell? ⟨Q, 0, none⟩ = some (.slice a n c) ∧ W4.cell? ⟨Q, 0, none⟩ = some (.slice a n c) ∧ W4.frozen? ⟨Q, 0, none⟩ = false) ∧
      ((Instr.slice 37 (.slice a n c) none (some (.int .i64 (i : Nat))) none).run Try.prog w3 = .ok (.slice a i c) w3 ∧ (Instr.slice 37 (.slice a n c) (some (.int .i64 (i : Nat))) none none).run Try.prog W3 = .ok (.slice (atAddr a 3 i c) (n - i) (c - i)) W3) ∧
      Hid (RQ (W4.setCell ⟨Q, 0, none⟩ (.slice a3 n3 c3)) Q ⟨put q.l t, q.most, q.next⟩ (.slice a3 n3 c3) ∧ w.grownBy (W4.setCell ⟨Q, 0, none⟩ (.slice a3 n3 c3)) (some Q) ∧ ∀ k, (Value.slice a3 n3 c3).ownBlock = some k → w.heap.size ≤ k)) := Lib.hid (fun w3 hw3 i hin hik => by
    obtain ⟨a1, n1, c1, W2, a2, n2, c2, W3, a3, n3, c3, W4, r1, r2, r3, b2, b3, ⟨u0, u1⟩, HE⟩ := HT.out w3 hw3 i hik
    exact ⟨a1, n1, c1, W2, a2, n2, c2, W3, a3, n3, c3, W4, Lib.hid r1, Lib.hid r2, Lib.hid r3, HS.out w3 hw3, HS.out W2 b2, ⟨(HS.out W3 b3).1, u0, u1⟩, ⟨hs1 w3 i hin, hs2 W3 i hin⟩, HE⟩)
  have hn4 : (n : Int) ≤ 1048576 := by omega
  clear h hq hat hn hl hbX hkX hs1 hs2 hi hz0 hz1 hz2 hlc hcm ha HT
  obtain ⟨x0, x1, x2, x3⟩ := HS.out X (Below.refl _ _)
  go_enter Try.func32, Try.ntmps32
  go_wp2_with fail
  clear hX
  go_loopw [4] (fun s wr => ∃ i : Nat, s = .int .i64 i ∧ i ≤ n ∧ Hid (Below X.heap.size X wr) ∧ Hid (∀ j x, j < i → q.l[j]? = some x → ahead x t)) (fun s _ => n - (RowKit.intOf s).toNat)
  case atStart => exact ⟨0, rfl, by omega, Lib.hid (Below.refl _ _), Lib.hid (fun j x hj => by omega)⟩
  case round =>
    obtain ⟨i, rfl, hi, HB, HI⟩ := hrel
    obtain ⟨y0, y1, y2, y3⟩ := HS.out wr HB.out
    have hi0 : (0 : Int) ≤ (i : Int) := by omega
    by_cases hlt : i < n
    · obtain ⟨p, hp⟩ : ∃ p, q.l[i]? = some p := ⟨q.l[i]'(by have := HN.out; omega), List.getElem?_eq_getElem (by have := HN.out; omega)⟩
      obtain ⟨g, rfl, k0, k1, k2⟩ := HP.out wr i p HB.out hp
      have hlt2 : (i : Int) < (n : Int) := by omega
      have HC : Hid (∀ b, decide (ahead p t) = b → Calls Try.prog 40 #[tV p, tV t] wr.drew fun e w' => e = .returned (.bool b) ∧ Hid (Below X.heap.size X w')) := Lib.hid (fun b hb => by
        refine (ahead_any p t wr.drew).mono ?_
        rintro e w' ⟨rfl, h2⟩
        rw [hb]
        exact ⟨rfl, Lib.hid (below_then HB.out ⟨h2.os, h2.tape, h2.output, h2.size, h2.block⟩)⟩)
      by_cases hah : ahead p t
      · have HC1 := Lib.hid (HC.out true (decide_eq_true hah))
        have HI2 : Hid (∀ j x, j < i + 1 → q.l[j]? = some x → ahead x t) := Lib.hid (fun j x hj hx => by
          rcases Nat.lt_or_ge j i with h1 | h1
          · exact HI.out j x h1 hx
          · obtain rfl : j = i := by omega
            rw [hp] at hx
            cases hx
            exact hah)
        clear hp hah
        go_wp2_with fail
        go_still_tail 16, (by kernel_rfl)
        change wpList _ _ _ _ _ wr.drew
        go_wp2_with (go_at_call 40; refine HC1.out.mono ?_; rintro e w3 ⟨rfl, H3⟩)
        go_roundw
        case rel => exact ⟨i + 1, by go_num, by omega, H3, HI2⟩
        case measure => simp [RowKit.intOf]; omega
      · have HC1 := Lib.hid (HC.out false (decide_eq_false hah))
        have HK : Hid (putK t q.l = i) := Lib.hid (putK_of t q.l i (by have := HN.out; omega) HI.out (fun x hx => by rw [hp] at hx; cases hx; exact hah))
        clear hp hah
        go_wp2_with fail
        go_still_tail 16, (by kernel_rfl)
        change wpList _ _ _ _ _ wr.drew
        go_upto_region 4 with (go_at_call 40; refine HC1.out.mono ?_; rintro e w3 ⟨rfl, H3⟩)
        obtain ⟨a1, n1, c1, W2, a2, n2, c2, W3, a3, n3, c3, W4, HR1, HR2, HR3, ⟨z0, z1, z2, z3⟩, ⟨m0, m1, m2, m3⟩, ⟨l0, q0, q1⟩, ⟨s1, s2⟩, HE⟩ := HALL.out w3 H3.out i hi HK.out
        go_upto_region 6 with (at_builtin; refine walk_run (v' := .slice a1 n1 c1) (w' := W2) rfl _ _ _ _ rfl _ _ rfl rfl ?_ ?_; exact HR1.out)
        clear z0 z1 z2 z3 s1 HR1
        go_upto_region 7 with (at_builtin; refine walk_run (v' := .slice a2 n2 c2) (w' := W3) rfl _ _ _ _ rfl _ _ rfl rfl ?_ ?_; exact HR2.out)
        clear m0 m1 m2 m3 HR2
        go_wp2_with (at_builtin; refine walk_run (v' := .slice a3 n3 c3) (w' := W4) rfl _ _ _ _ rfl _ _ rfl rfl ?_ ?_; exact HR3.out)
        go_end0
        exact ⟨rfl, _, HE.out⟩
    · obtain rfl : i = n := by omega
      have HK : Hid (putK t q.l = i) := Lib.hid (putK_of t q.l i (by have := HN.out; omega) HI.out (fun x hx => by have := (List.getElem?_eq_some_iff.1 hx).1; have := HN.out; omega))
      go_wp2_with fail
      go_quiet (fail)
      generalize hw3 : wr.drewN _ = w3
      have H3 : Hid (Below X.heap.size X w3) := Lib.hid (by rw [← hw3]; exact below_drewN HB.out _)
      obtain ⟨a1, n1, c1, W2, a2, n2, c2, W3, a3, n3, c3, W4, HR1, HR2, HR3, ⟨z0, z1, z2, z3⟩, ⟨m0, m1, m2, m3⟩, ⟨l0, q0, q1⟩, ⟨s1, s2⟩, HE⟩ := HALL.out w3 H3.out i hi HK.out
      rw [Nat.sub_self] at s2 HR3
      clear hw3
      go_upto_region 6 with (at_builtin; refine walk_run (v' := .slice a1 n1 c1) (w' := W2) rfl _ _ _ _ rfl _ _ rfl rfl ?_ ?_; exact HR1.out)
      clear z0 z1 z2 z3 s1 HR1
      go_upto_region 7 with (at_builtin; refine walk_run (v' := .slice a2 n2 c2) (w' := W3) rfl _ _ _ _ rfl _ _ rfl rfl ?_ ?_; exact HR2.out)
      clear m0 m1 m2 m3 HR2
      go_wp2_with (at_builtin; refine walk_run (v' := .slice a3 n3 c3) (w' := W4) rfl _ _ _ _ rfl _ _ rfl rfl ?_ ?_; exact HR3.out)
      go_end0
      exact ⟨rfl, _, HE.out⟩
end Go.Proofs.Ytfbdkafpfminlaa.Heap
