/- The program's Load. -/
import Derived.Test.YteglahogimdnfaaPurImE
import Derived.StillTailTactics
namespace Go.Proofs.Yteglahogimdnfaa.Purse
open Go.RowKit Go.Lib

theorem ld_ok {out l : List Ac} {i : Nat} {a : Ac} (ha : l[i]? = some a) (h : AcOk out a) : ld out (l.drop i) = ld (put out a) (l.drop (i + 1)) := by
  obtain ⟨h1, h2⟩ := List.getElem?_eq_some_iff.1 ha
  rw [List.drop_eq_getElem_cons h1, h2]
  show (if _ then _ else _) = _
  rw [if_pos h]
theorem ld_no {out l : List Ac} {i : Nat} {a : Ac} (ha : l[i]? = some a) (h : ¬ AcOk out a) : ld out (l.drop i) = none := by
  obtain ⟨h1, h2⟩ := List.getElem?_eq_some_iff.1 ha
  rw [List.drop_eq_getElem_cons h1, h2]
  show (if _ then _ else _) = _
  rw [if_neg h]
theorem upto_still (n m : Int) (b : Bool) (h : (b = true ∧ 0 ≤ n ∧ n ≤ m) ∨ (b = false ∧ (n < 0 ∨ m < n))) (W : World) : Calls Try.prog 23 #[.int .i64 n, .int .i64 m] W fun e w' => e = .returned (.bool b) ∧ w' = W := by
  rcases h with ⟨rfl, h1, h2⟩ | ⟨rfl, h1⟩
  · exact (upto_yes n m W h1 h2).mono fun _ _ ⟨e, hw⟩ => ⟨e, hw.symm⟩
  · exact (upto_no n m W h1).mono fun _ _ ⟨e, hw⟩ => ⟨e, hw.symm⟩
theorem Accs.at {w : World} {a : Option Addr} {l : List Ac} (h : Accs w a l) {wr : World} (hb : Below w.heap.size w wr) {i : Nat} {t : Ac} (ht : l[i]? = some t) : ∃ g off, a = some ⟨g, off, none⟩ ∧ wr.cell? ⟨g, off + i * 2, none⟩ = some (.int .i64 t.own) ∧ wr.cell? ⟨g, off + i * 2 + 1, none⟩ = some (.int .i64 t.mon) := by
  obtain ⟨g, off, e, _, k0, k1⟩ := (h.under hb) i t ht
  exact ⟨g, off, e, k0, k1⟩
/-- What stands ahead of each account. -/
structure Filling (w W : World) (Q : Nat) (l : List Ac) (i : Nat) : Prop where
  below : Below w.heap.size w W
  new : w.heap.size ≤ Q
  pt : ∃ R out, PT W Q R out ∧ ld [] l = ld out (l.drop i) ∧ Rise out ∧ out.length = i
theorem Filling.under {w W W' : World} {Q : Nat} {l : List Ac} {i : Nat} (h : Filling w W Q l i) (hb : Below W.heap.size W W') : Filling w W' Q l i := by
  obtain ⟨R, out, h1, h2⟩ := h.pt
  exact ⟨below_then h.below hb, h.new, R, out, h1.under hb, h2⟩
/-- One account more, if its numbers may be: it is new, and put in, or there already. -/
theorem fill_one {w W : World} {Q : Nat} {l : List Ac} {i : Nat} {a : Ac} (h : Filling w W Q l i) (ha : l[i]? = some a) (hi : i < 1000) (h1 : 0 ≤ a.own ∧ a.own ≤ 1099511627776) (h2 : 0 ≤ a.mon ∧ a.mon ≤ 1152921504606846976) :
    ∃ b : Bool, (b = true ∨ (b = false ∧ loadE l = 1)) ∧ Hid (∀ W1, Below W.heap.size W W1 → Calls Try.prog 24 #[ptr Q, .int .i64 a.own, .int .i64 a.mon] W1 fun e w' => e = .returned (.bool b) ∧ Hid (Below w.heap.size w w' ∧ (b = true → Filling w w' Q l (i + 1)))) := by
  obtain ⟨R, out, g1, g2, g3, g4⟩ := h.pt
  by_cases hp : pos out a.own < out.length
  · refine ⟨false, .inr ⟨rfl, ?_⟩, Lib.hid fun W1 hb => ?_⟩
    · unfold loadE
      rw [g2, ld_no ha (fun e => e.2.2 hp)]
    · refine (put_there a.own a.mon W1 (g1.under hb) g3 (by omega) hp).mono ?_
      rintro e w' ⟨rfl, R', _, q⟩
      exact ⟨rfl, Lib.hid ⟨below_of_only (below_then h.below hb) h.new q.grown, fun e => by cases e⟩⟩
  · refine ⟨true, .inl rfl, Lib.hid fun W1 hb => ?_⟩
    refine (put_fresh a.own a.mon W1 (g1.under hb) g3 (by omega) hp).mono ?_
    rintro e w' ⟨rfl, R', p, q⟩
    have hb2 := below_of_only (below_then h.below hb) h.new q.grown
    exact ⟨rfl, Lib.hid ⟨hb2, fun _ => ⟨hb2, h.new, R', _, p, by rw [g2, ld_ok ha ⟨h1, h2, hp⟩], rise_put g3 (pos_not hp), by rw [put_length, g4]⟩⟩⟩
theorem fill_bad {w W : World} {Q : Nat} {l : List Ac} {i : Nat} {a : Ac} (h : Filling w W Q l i) (ha : l[i]? = some a) (hx : ¬ ((0 ≤ a.own ∧ a.own ≤ 1099511627776) ∧ (0 ≤ a.mon ∧ a.mon ≤ 1152921504606846976))) : loadE l = 1 := by
  obtain ⟨R, out, _, g2, _, _⟩ := h.pt
  unfold loadE
  rw [g2, ld_no ha (fun e => hx ⟨e.1, e.2.1⟩)]
/-- All are in: what they have together. -/
structure Full (w W : World) (Q : Nat) (l : List Ac) : Prop where
  below : Below w.heap.size w W
  new : w.heap.size ≤ Q
  pt : ∃ R out, PT W Q R out ∧ ld [] l = some out
theorem Full.under {w W W' : World} {Q : Nat} {l : List Ac} (h : Full w W Q l) (hb : Below W.heap.size W W') : Full w W' Q l := by
  obtain ⟨R, out, h1, h2⟩ := h.pt
  exact ⟨below_then h.below hb, h.new, R, out, h1.under hb, h2⟩
theorem Filling.full {w W : World} {Q : Nat} {l : List Ac} {n : Nat} (h : Filling w W Q l n) (hn : l.length = n) : Full w W Q l := by
  obtain ⟨R, out, h1, h2, _, _⟩ := h.pt
  refine ⟨h.below, h.new, R, out, h1, ?_⟩
  rw [h2, List.drop_of_length_le (by omega)]
  rfl
theorem Full.mon {w W : World} {Q : Nat} {l : List Ac} (h : Full w W Q l) : ∀ a ∈ l, 0 ≤ a.mon ∧ a.mon ≤ mm := by
  obtain ⟨R, out, _, h2⟩ := h.pt
  exact (tot_ld h2).2
theorem Full.over {w W : World} {Q : Nat} {l : List Ac} (h : Full w W Q l) (ho : mm < tot l) : loadE l = 5 := by
  obtain ⟨R, out, _, h2⟩ := h.pt
  have h3 := (tot_ld h2).1
  unfold loadE
  rw [h2]
  show (if _ then _ else _) = _
  rw [if_pos (by simp only [tot] at h3; omega)]
theorem Full.fine {w W : World} {Q : Nat} {l : List Ac} (h : Full w W Q l) (ho : tot l ≤ mm) : loadE l = 0 ∧ ∃ R, PT W Q R (loadL l) := by
  obtain ⟨R, out, h1, h2⟩ := h.pt
  have h3 := (tot_ld h2).1
  have h4 : ¬ mm < tot out := by simp only [tot] at h3; omega
  have e1 : loadE l = 0 := by
    unfold loadE
    rw [h2]
    show (if _ then _ else _) = _
    rw [if_neg h4]
  have e2 : loadL l = out := by
    unfold loadL
    rw [h2]
    show (if _ then _ else _) = _
    rw [if_neg h4]
  exact ⟨e1, R, by rw [e2]; exact h1⟩
set_option maxRecDepth 100000 in
set_option maxHeartbeats 4000000 in
theorem load_im (a : Option Addr) (n c : Nat) (l : List Ac) (w : World) (hacc : Accs w a l) (hn : l.length = n) (hn2 : n ≤ 1000) :
    Calls Try.prog 8 #[.slice a n c] w fun e w' => ∃ p, e = .returned (.tuple #[.pointer p, .int .i64 (loadE l)]) ∧ Hid (Below w.heap.size w w' ∧ (loadE l ≠ 0 → p = none) ∧ (loadE l = 0 → ∃ Q R, p = some ⟨Q, 0, none⟩ ∧ PT w' Q R (loadL l) ∧ w.heap.size ≤ Q)) := by
  obtain ⟨X, hX⟩ : ∃ X, w.alloc (.cells #[.slice none 0 0, .slice none 0 0] 59) = X := ⟨_, rfl⟩
  obtain ⟨Q, hQ⟩ : ∃ Q, w.heap.size = Q := ⟨_, rfl⟩
  have H0 : Hid (Filling w X Q l 0) := Lib.hid (by
    refine ⟨by rw [← hX]; exact (Below.refl _ w).alloc (Nat.le_refl _) _, by omega, fun k => k = Q, [], ?_, rfl, .nil, rfl⟩
    rw [← hX, ← hQ]
    exact ⟨_, _, ⟨_, heap_alloc_new w _⟩, World.ownsRow_nil _ _ _ _, World.ownsRow_nil _ _ _ _, rfl, fun q hq => (by cases hq), fun q hq => (by cases hq), fun k hk => by subst hk; simp⟩)
  have HA := Lib.hid hacc; have HN := Lib.hid hn
  have hn3 : (n : Int) ≤ 1048576 := by omega
  clear hacc hn
  go_enter Try.func8, Try.ntmps8
  go_wp2_with fail
  clear hX hQ
  go_loopw [16] (fun t wr => ∃ i : Nat, t = .int .i64 i ∧ i ≤ n ∧ Hid (Filling w wr Q l i)) (fun t _ => n - (RowKit.intOf t).toNat)
  case atStart => exact ⟨0, rfl, by omega, H0⟩
  case round =>
    clear H0
    obtain ⟨i, rfl, hi, HF⟩ := hrel
    have hi0 : (0 : Int) ≤ (i : Int) := by omega
    by_cases hlt : i < n
    · have hlt2 : (i : Int) < (n : Int) := by omega
      obtain ⟨t, ht⟩ : ∃ t, l[i]? = some t := ⟨l[i]'(by have := HN.out; omega), List.getElem?_eq_getElem (by have := HN.out; omega)⟩
      obtain ⟨g, off, rfl, k0, k1⟩ := HA.out.at HF.out.below ht
      obtain ⟨V, hV⟩ : ∃ V, wr.heap.size = V := ⟨_, rfl⟩
      obtain ⟨Y, hY⟩ : ∃ Y, wr.alloc (.cells #[.int .i64 t.own, .int .i64 t.mon] 63) = Y := ⟨_, rfl⟩
      have hbY : Below wr.heap.size wr Y := by rw [← hY]; exact (Below.refl _ wr).alloc (Nat.le_refl _) _
      have hVY : Y.heap[V]? = some (.cells #[.int .i64 t.own, .int .i64 t.mon] 63 (0, 0)) := by rw [← hY, ← hV]; exact heap_alloc_new wr _
      have v0 : Y.cell? ⟨V, 0, none⟩ = some (.int .i64 t.own) := cell_block (j := 0) hVY rfl
      have v1 : Y.cell? ⟨V, 1, none⟩ = some (.int .i64 t.mon) := cell_block (j := 1) hVY rfl
      have HFY := Lib.hid (HF.out.under hbY)
      clear hbY hVY
      by_cases c1 : 0 ≤ t.own ∧ t.own ≤ 1099511627776
      · have HU1 := Lib.hid (upto_still t.own 1099511627776 true (.inl ⟨rfl, c1⟩))
        by_cases c2 : 0 ≤ t.mon ∧ t.mon ≤ 1152921504606846976
        · have HU2 := Lib.hid (upto_still t.mon 1152921504606846976 true (.inl ⟨rfl, c2⟩))
          obtain ⟨b, hb, HP⟩ := fill_one HFY.out ht (by omega) c1 c2
          have HPY := Lib.hid (HP.out Y.drew ((Below.refl _ Y).drew))
          clear HP ht c1 c2
          rcases hb with rfl | ⟨rfl, hb⟩
          · go_wp2_with fail
            clear hY hV k0 k1
            go_still_tail 18, (by kernel_rfl)
            still_call (HU1.out _)
            repeat still_step
            still_call (HU2.out _)
            repeat still_step
            refine wpStill_nil ?_
            change wpList _ _ _ _ _ Y.drew
            go_wp2_with (go_at_call 24; refine HPY.out.mono ?_; rintro e w2 ⟨rfl, H2⟩)
            have H3 := Lib.hid (H2.out.2 (by first | rfl | trivial))
            go_roundw
            case rel => exact ⟨i + 1, by go_num, by omega, H3⟩
            case measure => simp [RowKit.intOf]; omega
          · have HE := Lib.hid hb
            clear hb
            go_wp2_with fail
            clear hY hV k0 k1
            go_still_tail 18, (by kernel_rfl)
            still_call (HU1.out _)
            repeat still_step
            still_call (HU2.out _)
            repeat still_step
            refine wpStill_nil ?_
            change wpList _ _ _ _ _ Y.drew
            go_wp2_with (go_at_call 24; refine HPY.out.mono ?_; rintro e w2 ⟨rfl, H2⟩)
            go_ret2
            exact ⟨none, by rw [HE.out]; rfl, Lib.hid ⟨H2.out.1, fun _ => rfl, fun h => by rw [HE.out] at h; cases h⟩⟩
        · have HU2 := Lib.hid (fun W => upto_no t.mon 1152921504606846976 W (by omega))
          have HU1' := Lib.hid (fun W => upto_yes t.own 1099511627776 W c1.1 c1.2)
          have HE := Lib.hid (fill_bad HFY.out ht (fun e => c2 e.2))
          have HB := Lib.hid HFY.out.below
          clear ht c1 c2
          go_wp2_with fail
          clear hY hV k0 k1
          have Q1 := Lib.hid (fun k => quiet_same (HU1'.out (Y.drewN k)))
          have Q2 := Lib.hid (fun k => quiet_same (HU2.out (Y.drewN k)))
          go_quiet (first | (go_at_call 23; with_reducible (exact Q1.out _)) | (go_at_call 23; with_reducible (exact Q2.out _)))
          go_wp2_with fail
          go_ret2
          exact ⟨none, by rw [HE.out]; rfl, Lib.hid ⟨below_drewN HB.out _, fun _ => rfl, fun h => by rw [HE.out] at h; cases h⟩⟩
      · have HU1 := Lib.hid (fun W => upto_no t.own 1099511627776 W (by omega))
        have HE := Lib.hid (fill_bad HFY.out ht (fun e => c1 e.1))
        have HB := Lib.hid HFY.out.below
        clear ht c1
        go_wp2_with fail
        clear hY hV k0 k1
        have Q1 := Lib.hid (fun k => quiet_same (HU1.out (Y.drewN k)))
        go_quiet (first | (go_at_call 23; with_reducible (exact Q1.out _)))
        go_wp2_with fail
        go_ret2
        exact ⟨none, by rw [HE.out]; rfl, Lib.hid ⟨below_drewN HB.out _, fun _ => rfl, fun h => by rw [HE.out] at h; cases h⟩⟩
    · obtain rfl : i = n := by omega
      have HFU := Lib.hid (HF.out.full HN.out)
      clear HF
      go_wp2_with fail
      go_loopw [44, 7] (fun t s wx => ∃ j : Nat, t = .int .i64 j ∧ j ≤ i ∧ Hid (Full w wx Q l) ∧ ∃ z : Int, s = .int .i64 z ∧ Hid (tot (l.take j) = z ∧ z ≤ mm)) (fun t _ _ => i - (RowKit.intOf t).toNat)
      case atStart => exact ⟨0, rfl, by omega, HFU, 0, rfl, Lib.hid ⟨rfl, by decide⟩⟩
      case round =>
        clear HFU
        obtain ⟨j, rfl, hj, HF, z, rfl, HZ⟩ := hrel
        have hj0 : (0 : Int) ≤ (j : Int) := by omega
        by_cases hlt : j < i
        · have hlt2 : (j : Int) < (i : Int) := by omega
          obtain ⟨t, ht⟩ : ∃ t, l[j]? = some t := ⟨l[j]'(by have := HN.out; omega), List.getElem?_eq_getElem (by have := HN.out; omega)⟩
          obtain ⟨g, off, rfl, k0, k1⟩ := HA.out.at HF.out.below ht
          obtain ⟨V, hV⟩ : ∃ V, wr.heap.size = V := ⟨_, rfl⟩
          obtain ⟨Y, hY⟩ : ∃ Y, wr.alloc (.cells #[.int .i64 t.own, .int .i64 t.mon] 63) = Y := ⟨_, rfl⟩
          have hbY : Below wr.heap.size wr Y := by rw [← hY]; exact (Below.refl _ wr).alloc (Nat.le_refl _) _
          have hVY : Y.heap[V]? = some (.cells #[.int .i64 t.own, .int .i64 t.mon] 63 (0, 0)) := by rw [← hY, ← hV]; exact heap_alloc_new wr _
          have v1 : Y.cell? ⟨V, 1, none⟩ = some (.int .i64 t.mon) := cell_block (j := 1) hVY rfl
          have HFY := Lib.hid (HF.out.under hbY)
          have hmon := HF.out.mon t (List.mem_of_getElem? ht)
          have hz1 := HZ.out.2
          have hz0 : 0 ≤ z := by rw [← HZ.out.1]; exact (tot_take_le (fun a ha => (HF.out.mon a ha).1) j).1
          have hts := tot_take_succ ht
          rw [HZ.out.1] at hts
          have htl := (tot_take_le (fun a ha => (HF.out.mon a ha).1) (j + 1)).2
          rw [hts] at htl
          have hmm : mm = 1152921504606846976 := rfl
          by_cases c1 : z + t.mon ≤ mm
          · have HT := Lib.hid (together_yes z t.mon Y hz0 hmon.1 (by omega))
            obtain ⟨s, hs⟩ : ∃ s, z + t.mon = s := ⟨_, rfl⟩
            have HZ2 : Hid (tot (l.take (j + 1)) = s ∧ s ≤ mm) := Lib.hid ⟨by rw [hts, hs], by omega⟩
            rw [hs] at HT
            clear hbY hVY hmon hz1 hz0 hts htl hmm c1 hs ht
            go_wp2_with fail
            clear hY hV k0 k1
            refine HT.out.mono ?_
            rintro e w2 ⟨rfl, rfl⟩
            go_wp2_with fail
            go_roundw
            case rel => exact ⟨j + 1, by go_num, by omega, HFY, s, rfl, HZ2⟩
            case measure => simp [RowKit.intOf]; omega
          · have HT := Lib.hid (together_no z t.mon Y hz0 hmon.1 (by omega) (by omega) (by omega))
            have HE := Lib.hid (HF.out.over (by omega))
            have HB := Lib.hid HFY.out.below
            clear hbY hVY hmon hz1 hz0 hts htl hmm c1 ht
            go_wp2_with fail
            clear hY hV k0 k1
            refine HT.out.mono ?_
            rintro e w2 ⟨rfl, rfl⟩
            go_wp2_with fail
            go_ret2
            exact ⟨none, by rw [HE.out]; rfl, Lib.hid ⟨HB.out, fun _ => rfl, fun h => by rw [HE.out] at h; cases h⟩⟩
        · obtain rfl : j = i := by omega
          have HE := Lib.hid (HF.out.fine (by have := HZ.out; rw [List.take_of_length_le (by rw [HN.out]; exact Nat.le_refl _)] at this; omega))
          go_wp2_with fail
          go_ret2
          obtain ⟨e1, R, e2⟩ := HE.out
          exact ⟨some ⟨Q, 0, none⟩, by rw [e1]; rfl, Lib.hid ⟨HF.out.below, fun h => absurd e1 h, fun _ => ⟨Q, R, rfl, e2, HF.out.new⟩⟩⟩
end Go.Proofs.Yteglahogimdnfaa.Purse
