/- The side of a bay; the line of a job: of bays that there are. -/
import Derived.Test.YtokkefokodcphaaBayImG
namespace Go.Proofs.Ytokkefokodcphaa.Bay
open Go.RowKit Go.Lib IRows

/-- Bays with good lines: a line as walks want it. -/
theorem PBX.line {W : World} {Q : Nat} {lv : Value} {xs : List XL} (h : PBX W Q lv xs xs) (hg : Good (xs.map XL.pl)) : ∃ a c, lv = .slice a xs.length c ∧ ∀ (k : Nat) (x : XL), xs[k]? = some x → ∃ g, a = some ⟨g, 0, none⟩ ∧ LineAt W g k x := by
  obtain ⟨a, c, e, h2⟩ := h.cells
  refine ⟨a, c, e, fun k x hx => ?_⟩
  obtain ⟨g, e2, h3, h4, _⟩ := h2 k x hx
  have o := hg.ok k x.pl (pl_at hx)
  have h5 := o.room
  have h6 := o.s8
  exact ⟨g, e2, h4, (h.rows.row k x false hx).irow, (h.rows.row k x true hx).irow, by show x.r.length ≤ 8; have : (x.r.length : Int) ≤ 8 := Int.le_trans h5 h6; omega, o.q8, ⟨o.s0, h6⟩, h3⟩
theorem len_pl (xs : List XL) : (xs.map XL.pl).length = xs.length := List.length_map ..
set_option maxRecDepth 100000 in
theorem of_im {Q : Nat} {lv : Value} {xs : List XL} (j : Int) (w : World) (h : PBX w Q lv xs xs) (hg : Good (xs.map XL.pl)) :
    Calls Try.prog 34 #[.pointer (some ⟨Q, 0, none⟩), .int .i64 j] w fun e w' => e = .returned (.tuple #[.int .i64 (if fnd (xs.map XL.pl) j < xs.length then (fnd (xs.map XL.pl) j : Int) else 0), .int .i64 (if fnd (xs.map XL.pl) j < xs.length then 0 else 3)]) ∧ Below w.heap.size w w' := by
  obtain ⟨a, c, rfl, hln⟩ := h.line hg
  obtain ⟨k0, k1, hQ⟩ := h.mem
  have hfew := hg.few
  rw [len_pl] at hfew
  obtain ⟨Y, hY⟩ : ∃ Y, w.alloc (.cells #[.int .i64 j] 3) = Y := ⟨_, rfl⟩
  have HB : Below w.heap.size w Y := by rw [← hY]; exact (Below.refl _ _).alloc (Nat.le_refl _) _
  have hn : Y.heap[w.heap.size]? = some (.cells #[.int .i64 j] 3 (0, 0)) := by rw [← hY]; exact heap_alloc_new w _
  have q0 : Y.cell? ⟨Q, 0, none⟩ = some (.bool true) := ((bcell HB).1 Q _ hQ).trans k0
  have q1 : Y.cell? ⟨Q, 1, none⟩ = some (.slice a xs.length c) := ((bcell HB).1 Q _ hQ).trans k1
  have H1 := Lib.hid (idxl_im a xs.length c xs j w.heap.size Y rfl (fun k x hx => by
    obtain ⟨g, e, h1⟩ := hln k x hx
    exact ⟨g, e, h1.under HB⟩) (by omega) (cell_block (j := 0) hn rfl) (Array.getElem?_eq_some_iff.1 hn).1)
  have HB2 := Lib.hid HB
  obtain ⟨p, hp⟩ : ∃ p, fnd (xs.map XL.pl) j = p := ⟨_, rfl⟩
  obtain ⟨n, hnn⟩ : ∃ n, xs.length = n := ⟨_, rfl⟩
  rw [hp, hnn] at H1 ⊢
  rw [hnn] at q1
  by_cases hlt : p < n
  · rw [if_pos hlt] at H1
    rw [if_pos hlt, if_pos hlt]
    have hneg : ¬ ((p : Int) < 0) := by omega
    clear h hg hln k0 k1 hQ hfew HB hn hp hnn hlt
    go_enter Try.func34, Try.ntmps34
    go_wp2_with fail
    clear hY
    refine H1.out.mono ?_
    rintro e w' ⟨rfl, hb⟩
    have HB3 := Lib.hid (below_then HB2.out hb)
    clear hb
    go_wp2_with fail
    go_ret2
    exact ⟨rfl, HB3.out⟩
  · rw [if_neg hlt] at H1
    rw [if_neg hlt, if_neg hlt]
    clear h hg hln k0 k1 hQ hfew HB hn hp hnn hlt
    go_enter Try.func34, Try.ntmps34
    go_wp2_with fail
    clear hY
    refine H1.out.mono ?_
    rintro e w' ⟨rfl, hb⟩
    have HB3 := Lib.hid (below_then HB2.out hb)
    clear hb
    go_wp2_with fail
    go_ret2
    exact ⟨rfl, HB3.out⟩
set_option maxRecDepth 100000 in
set_option maxHeartbeats 1000000 in
theorem at_no {Q : Nat} {lv : Value} {xs : List XL} (b s : Int) (w : World) (h : PBX w Q lv xs xs) (hn : xs.length ≤ 1000) (hs : ¬ Side (xs.map XL.pl) b s) :
    Calls Try.prog 33 #[.pointer (some ⟨Q, 0, none⟩), .int .i64 b, .int .i64 s] w fun e w' => e = .returned (.tuple #[.pointer none, .int .i64 3]) ∧ w = w' := by
  obtain ⟨a, c, rfl, _⟩ := h.cells
  obtain ⟨k0, k1, hQ⟩ := h.mem
  unfold Side at hs
  rw [len_pl] at hs
  obtain ⟨n, hnn⟩ : ∃ n, xs.length = n := ⟨_, rfl⟩
  rw [hnn] at hs k1 hn
  have w1 : (n : Int).tdiv 2 = ((n / 2 : Nat) : Int) := by rw [Int.tdiv_eq_ediv_of_nonneg (by omega)]; omega
  by_cases h1 : 1 ≤ b ∧ b ≤ ((n / 2 : Nat) : Int)
  · have h2 : ¬ (0 ≤ s ∧ s ≤ 1) := fun h2 => hs ⟨h1, h2⟩
    have H1 := Lib.hid (in_yes b 1 ((n / 2 : Nat) : Int) w h1)
    have H2 := Lib.hid (in_no s 0 1 w h2)
    clear h hs h1 h2 hQ hnn
    go_enter Try.func33, Try.ntmps33
    go_wp2_with fail
    refine H1.out.mono ?_
    rintro e w' ⟨rfl, rfl⟩
    go_wp2_with fail
    refine H2.out.mono ?_
    rintro e w' ⟨rfl, rfl⟩
    go_wp2_with fail
    go_ret2
    exact ⟨rfl, rfl⟩
  · have H1 := Lib.hid (in_no b 1 ((n / 2 : Nat) : Int) w h1)
    clear h hs h1 hQ hnn
    go_enter Try.func33, Try.ntmps33
    go_wp2_with fail
    refine H1.out.mono ?_
    rintro e w' ⟨rfl, rfl⟩
    go_wp2_with fail
    go_ret2
    exact ⟨rfl, rfl⟩
set_option maxRecDepth 100000 in
set_option maxHeartbeats 1000000 in
theorem at_yes {Q g c k : Nat} {xs : List XL} (b s : Int) (w : World) (h : PBX w Q (.slice (some ⟨g, 0, none⟩) xs.length c) xs xs) (hn : xs.length ≤ 1000) (hs : Side (xs.map XL.pl) b s) (hk : kk b s = k) (hkl : k < xs.length) :
    Calls Try.prog 33 #[.pointer (some ⟨Q, 0, none⟩), .int .i64 b, .int .i64 s] w fun e w' => e = .returned (.tuple #[.pointer (some ⟨g, k * 3, none⟩), .int .i64 0]) ∧ w = w' := by
  obtain ⟨k0, k1, hQ⟩ := h.mem
  obtain ⟨h1, h2⟩ := hs
  rw [len_pl] at h1
  obtain ⟨n, hnn⟩ : ∃ n, xs.length = n := ⟨_, rfl⟩
  rw [hnn] at h1 k1 hn hkl
  have hk2 : 2 * (b - 1) + s = (k : Int) := by
    unfold kk at hk
    omega
  have w1 : (n : Int).tdiv 2 = ((n / 2 : Nat) : Int) := by rw [Int.tdiv_eq_ediv_of_nonneg (by omega)]; omega
  have w2 : IntKind.i64.wrap (b - 1) = b - 1 := IntWalk.i64_in _ (by omega)
  have w3 : IntKind.i64.wrap (2 * (b - 1)) = 2 * (b - 1) := IntWalk.i64_in _ (by omega)
  have w4 : IntKind.i64.wrap (2 * (b - 1) + s) = (k : Int) := by rw [hk2]; exact IntWalk.i64_in _ (by omega)
  have H1 := Lib.hid (in_yes b 1 ((n / 2 : Nat) : Int) w h1)
  have H2 := Lib.hid (in_yes s 0 1 w h2)
  clear h h1 h2 hQ hnn hk hk2
  go_enter Try.func33, Try.ntmps33
  go_wp2_with fail
  refine H1.out.mono ?_
  rintro e w' ⟨rfl, rfl⟩
  go_wp2_with fail
  refine H2.out.mono ?_
  rintro e w' ⟨rfl, rfl⟩
  go_wp2_with fail
  go_ret2
  exact ⟨rfl, rfl⟩
end Go.Proofs.Ytokkefokodcphaa.Bay
