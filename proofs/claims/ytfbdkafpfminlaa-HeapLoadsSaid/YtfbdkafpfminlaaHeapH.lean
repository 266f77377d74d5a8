/- The laws' own same; HeapPlays. -/
import Derived.Test.YtfbdkafpfminlaaHeapG
namespace Go.Proofs.Ytfbdkafpfminlaa.Heap
open Go.RowKit Go.Lib Go.Proofs.Ytfbdkafpfminlaa.Heap.Im

set_option maxRecDepth 100000 in
set_option maxHeartbeats 4000000 in
theorem same_in {w W : World} {Q X : Nat} {q : QS} (h : TW w W Q X q q []) (hg : Good q) :
    Calls Try.prog 11 #[ptr Q, ptr X] W fun e w' => e = .returned (.bool true) ∧ TW w w' Q X q q [] := by
  obtain ⟨u, hu⟩ : ∃ u, first q = u := ⟨_, rfl⟩
  obtain ⟨t, b⟩ := u
  obtain ⟨n, hn⟩ : ∃ n, q.l.length = n := ⟨_, rfl⟩
  have hle := good_len hg
  have hm0 : 0 < q.most := by have := hg.most; omega
  have HW := Lib.hid h
  have H1 : Hid (Calls Try.prog 18 #[ptr Q] W fun e w' => e = .returned (.tuple #[tV t, .bool b]) ∧ Hid (Below W.heap.size W w')) := Lib.hid (by
    obtain ⟨F, G, h⟩ := h
    have := first_im W h.hq hg
    rw [hu] at this
    exact this.mono fun _ _ ⟨e, hb⟩ => ⟨e, Lib.hid hb⟩)
  obtain ⟨nx, hnx⟩ : ∃ nx, q.next = nx := ⟨_, rfl⟩
  obtain ⟨a, c, hcell⟩ : ∃ a c, (∀ V, Below W.heap.size W V → V.cell? ⟨X, 0, none⟩ = some (.slice a n c) ∧ V.cell? ⟨X, 2, none⟩ = some (.int .i64 nx) ∧ Row3 V (.slice a n c) q.l) := by
    obtain ⟨F, G, h⟩ := h
    obtain ⟨lv, hd, _⟩ := h.dq
    obtain ⟨a, c, rfl, _⟩ := rowT hd.row
    refine ⟨a, c, fun V hV => ?_⟩
    have hd2 := hd.under hV
    rw [← hn, ← hnx]
    exact ⟨hd2.c.1, hd2.c.2.2, row3_own hd2.row⟩
  have HC : Hid (∀ V, Below W.heap.size W V → V.cell? ⟨X, 0, none⟩ = some (.slice a n c) ∧ V.cell? ⟨X, 2, none⟩ = some (.int .i64 nx)) := Lib.hid (fun V hV => ⟨(hcell V hV).1, (hcell V hV).2.1⟩)
  have HLI : Hid (∀ V, Below W.heap.size W V → Calls Try.prog 21 #[ptr Q] V fun e w' => ∃ a1 c1, e = .returned (.slice a1 n c1) ∧ Hid (Row3 w' (.slice a1 n c1) q.l ∧ Below W.heap.size W w')) := Lib.hid (fun V hV => by
    obtain ⟨F, G, h⟩ := h.under hV
    refine (list_im V h.hq hg).mono ?_
    rintro e w' ⟨v, rfl, h1, h2⟩
    obtain ⟨a1, c1, rfl, _⟩ := rowT h1
    rw [← hn]
    exact ⟨a1, c1, rfl, Lib.hid ⟨row3_own h1, below_then hV h2⟩⟩)
  have HSA : Hid (∀ V a1 c1, Below W.heap.size W V → Row3 V (.slice a1 n c1) q.l → Calls Try.prog 28 #[.slice a1 n c1, .slice a n c] V fun e w' => e = .returned (.bool true) ∧ Hid (Below W.heap.size W w')) := Lib.hid (fun V a1 c1 hV h1 => by
    refine (same_yes _ _ q.l V h1 (hcell V hV).2.2 (by omega)).mono ?_
    rintro e w' ⟨rfl, h2⟩
    exact ⟨rfl, Lib.hid (below_then hV h2)⟩)
  have HLE : Hid (∀ V, Below W.heap.size W V → Calls Try.prog 16 #[ptr Q] V fun e w' => e = .returned (.int .i64 n) ∧ V = w') := Lib.hid (fun V hV => by
    obtain ⟨F, G, h⟩ := h.under hV
    have := len_im V h.hq hm0
    rw [hn] at this
    exact this)
  have HNE : Hid (∀ V, Below W.heap.size W V → Calls Try.prog 22 #[ptr Q] V fun e w' => e = .returned (.int .i64 nx) ∧ V = w') := Lib.hid (fun V hV => by
    obtain ⟨F, G, h⟩ := h.under hV
    have := next_im V h.hq hm0
    rw [hnx] at this
    exact this)
  have HF : Hid (∀ V, Below W.heap.size W V → (n = 0 ∧ b = false) ∨ (0 < n ∧ b = true ∧ ∃ g, a = some ⟨g, 0, none⟩ ∧ V.cell? ⟨g, 0, none⟩ = some (.int .i64 t.due) ∧ V.cell? ⟨g, 1, none⟩ = some (.int .i64 t.id) ∧ V.cell? ⟨g, 2, none⟩ = some (.int .i64 t.what))) := Lib.hid (fun V hV => by
    rcases hq : q.l with _ | ⟨x, r⟩
    · left
      rw [first_nil hq] at hu
      cases hu
      exact ⟨by rw [← hn, hq]; rfl, rfl⟩
    · right
      rw [first_cons hq] at hu
      cases hu
      obtain ⟨a', c', e, hat⟩ := (hcell V hV).2.2
      injection e with e1 _ _
      subst e1
      obtain ⟨g, e, _, k0, k1, k2⟩ := hat 0 t (by rw [hq]; rfl)
      exact ⟨by rw [← hn, hq]; simp, rfl, g, e, by simpa using k0, by simpa using k1, by simpa using k2⟩)
  have hn1 : (n : Int) ≤ 1048576 := by omega
  have HA : Hid (∀ V, Below W.heap.size W V → ∃ Y U, V.alloc (.cells #[.int .i64 t.due, .int .i64 t.id, .int .i64 t.what] 45) = Y ∧ V.heap.size = U ∧ (Y.cell? ⟨U, 0, none⟩ = some (.int .i64 t.due) ∧ Y.cell? ⟨U, 1, none⟩ = some (.int .i64 t.id) ∧ Y.cell? ⟨U, 2, none⟩ = some (.int .i64 t.what)) ∧ Hid (Below W.heap.size W Y)) := Lib.hid (fun V hV => ⟨_, _, rfl, rfl, tm_at (t := t) (heap_alloc_new V _), Lib.hid (hV.alloc hV.size _)⟩)
  clear h hg hu hn hle hm0 hnx hcell
  go_enter Try.func11, Try.ntmps11
  go_wp2_with fail
  refine H1.out.mono ?_
  rintro e w1 ⟨rfl, B1⟩
  obtain ⟨Y, U, hY, hU, ⟨u0, u1, u2⟩, B2⟩ := HA.out w1 B1.out
  have hz := HF.out Y B2.out
  obtain ⟨x0, x2⟩ := HC.out Y B2.out
  have hee : ((n : Int) == (n : Int)) = true := by simp
  have hee2 : (nx == nx) = true := by simp
  rcases hz with ⟨rfl, rfl⟩ | ⟨hn0, rfl, g, rfl, g0, g1, g2⟩
  · go_wp2_with fail
    clear hY hU
    go_quiet (fail)
    generalize hV : Y.drewN _ = V
    have BV : Hid (Below W.heap.size W V) := Lib.hid (by rw [← hV]; exact below_drewN B2.out _)
    obtain ⟨y0, y2⟩ := HC.out V BV.out
    have D0 : Below W.heap.size W V.drew := BV.out.drew
    clear hV x0 x2 u0 u1 u2
    go_wp2_with fail
    go_region_held3 (fun V => V.cell? ⟨X, 0, none⟩ = some (.slice a 0 c) ∧ V.cell? ⟨X, 2, none⟩ = some (.int .i64 nx))
      (first | exact HC.out _ D0 | exact HC.out _ h3.out.2 | exact HC.out _ h4.out)
      (first
        | (go_at_call 21; refine (HLI.out _ D0).mono ?_; rintro e w3 ⟨a1, c1, rfl, h3⟩)
        | (go_at_call 28; refine (HSA.out _ _ _ h3.out.2 h3.out.1).mono ?_; rintro e w4 ⟨rfl, h4⟩)
        | (go_at_call 16; refine (HLE.out _ h4.out).mono ?_; rintro e w5 ⟨rfl, rfl⟩)
        | (go_at_call 22; refine (HNE.out _ h4.out).mono ?_; rintro e w6 ⟨rfl, rfl⟩))
    all_goals
      go_wp2_with fail
      go_ret
      exact ⟨rfl, HW.out.under h4.out⟩
  · have hn2 : (0 : Int) < (n : Int) := by omega
    have hn3 : decide ((0 : Int) < (n : Int)) = true := decide_eq_true hn2
    go_wp2_with fail
    clear hY hU
    go_quiet (fail)
    generalize hV : Y.drewN _ = V
    have BV : Hid (Below W.heap.size W V) := Lib.hid (by rw [← hV]; exact below_drewN B2.out _)
    obtain ⟨y0, y2⟩ := HC.out V BV.out
    have D0 : Below W.heap.size W V.drew := BV.out.drew
    clear hV x0 x2 u0 u1 u2 g0 g1 g2
    go_wp2_with fail
    go_region_held3 (fun V => V.cell? ⟨X, 0, none⟩ = some (.slice (some ⟨g, 0, none⟩) n c) ∧ V.cell? ⟨X, 2, none⟩ = some (.int .i64 nx))
      (first | exact HC.out _ D0 | exact HC.out _ h3.out.2 | exact HC.out _ h4.out)
      (first
        | (go_at_call 21; refine (HLI.out _ D0).mono ?_; rintro e w3 ⟨a1, c1, rfl, h3⟩)
        | (go_at_call 28; refine (HSA.out _ _ _ h3.out.2 h3.out.1).mono ?_; rintro e w4 ⟨rfl, h4⟩)
        | (go_at_call 16; refine (HLE.out _ h4.out).mono ?_; rintro e w5 ⟨rfl, rfl⟩)
        | (go_at_call 22; refine (HNE.out _ h4.out).mono ?_; rintro e w6 ⟨rfl, rfl⟩))
    all_goals
      go_wp2_with fail
      go_ret
      exact ⟨rfl, HW.out.under h4.out⟩
end Go.Proofs.Ytfbdkafpfminlaa.Heap
