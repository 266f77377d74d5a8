/- BayFair: nobody waits while there is room; jobs begin in the order in which they came. -/
import Derived.Test.YtokkefokodcphaaBayAwake
import Derived.Test.YtokkefokodcphaaBayFm
namespace Go.Proofs.Ytokkefokodcphaa.Bay
open Go.RowKit Go.Lib IRows

theorem slots_of (z : Int) (hz : 0 ≤ z ∧ z ≤ 255) : ∃ t n, IntKind.i64.wrap z = z ∧ z.tmod 4 = t ∧ IntKind.i64.wrap t = t ∧ IntKind.i64.wrap (1 + t) = n ∧ 1 ≤ n ∧ n ≤ 4 := by
  have e : z.tmod 4 = z % 4 := Int.tmod_eq_emod_of_nonneg hz.1
  exact ⟨z % 4, 1 + z % 4, IntWalk.i64_in _ (by omega), e, IntWalk.i64_in _ (by omega), IntWalk.i64_in _ (by omega), by omega, by omega⟩
/-- What the loop has. -/
def FS (w W : World) (Q : Nat) (n nx la : Int) : Prop := ∃ L F, PS w W Q L F ∧ FI n L nx la
theorem fs_ask {w W : World} {Q : Nat} {n nx la : Int} (h : FS w W Q n nx la) (h1 : 1 ≤ nx) (h2 : nx ≤ 100) : Calls Try.prog 16 #[ptr Q, .int .i64 1, .int .i64 0, .int .i64 nx] W fun e w' =>
    (e = .returned (.tuple #[.bool false, .int .i64 10]) ∧ Hid (FS w w' Q n nx la)) ∨ (e = .returned (.tuple #[.bool true, .int .i64 0]) ∧ Hid (FS w w' Q n (nx + 1) nx)) ∨ (e = .returned (.tuple #[.bool false, .int .i64 0]) ∧ Hid (FS w w' Q n (nx + 1) la)) := by
  obtain ⟨L, F, hp, hf⟩ := h
  refine (ps_ask 1 0 nx hp).mono ?_
  rintro e w' ⟨rfl, H⟩
  obtain ⟨F', g1, _⟩ := H.out
  rcases fi_ask hf h1 h2 with ⟨e1, e2⟩ | ⟨e1, e2⟩ | ⟨e1, e2⟩
  · rw [e2] at g1
    exact .inl ⟨by rw [e1], Lib.hid ⟨_, _, g1, hf⟩⟩
  · exact .inr (.inl ⟨by rw [e1], Lib.hid ⟨_, _, g1, e2⟩⟩)
  · exact .inr (.inr ⟨by rw [e1], Lib.hid ⟨_, _, g1, e2⟩⟩)
theorem fs_leave {w W : World} {Q : Nat} {n nx la : Int} (j : Int) (h : FS w W Q n nx la) : Calls Try.prog 17 #[ptr Q, .int .i64 j] W fun e w' =>
    (∃ m, e = .returned (.tuple #[.int .i64 m, .int .i64 0]) ∧ 0 < m ∧ la < m ∧ Hid (FS w w' Q n nx m)) ∨ (∃ f, e = .returned (.tuple #[.int .i64 0, .int .i64 f]) ∧ Hid (FS w w' Q n nx la)) := by
  obtain ⟨L, F, hp, hf⟩ := h
  refine (ps_leave j hp).mono ?_
  rintro e w' ⟨rfl, H⟩
  obtain ⟨F', g1, _⟩ := H.out
  rcases fi_leave hf j with ⟨e1, e2, e3, e4⟩ | ⟨e1, e2⟩
  · exact .inl ⟨_, by rw [e1], e2, e3, Lib.hid ⟨_, _, g1, e4⟩⟩
  · exact .inr ⟨_, by rw [e1], Lib.hid ⟨_, _, g1, e2⟩⟩
theorem fs_lines {w W : World} {Q : Nat} {n nx la : Int} (h : FS w W Q n nx la) : Calls Try.prog 15 #[ptr Q] W fun e w' =>
    ∃ (g off c : Nat) (ra qa : Option Addr) (rn rc qn qc : Nat), e = .returned (.slice (some ⟨g, off, none⟩) 2 c) ∧ w'.cell? ⟨g, off, none⟩ = some (.slice ra rn rc) ∧ w'.cell? ⟨g, off + 1, none⟩ = some (.slice qa qn qc) ∧ Hid (FS w w' Q n nx la ∧ (0 < qn → (rn : Int) = n) ∧ (rn : Int) ≤ n ∧ rn ≤ 8 ∧ qn ≤ 8) := by
  obtain ⟨L, F, hp, hf⟩ := h
  refine (ps_lines hp).mono ?_
  rintro e w' ⟨a, k, c, rfl, B, H⟩
  obtain ⟨ds, g1, g2, g3, g4, g5, _⟩ := H.out
  obtain ⟨h2, r, q, h3, h4, h5, h6, h7⟩ := fi_lines hf
  obtain rfl : k = 2 := g5.trans h2
  have hx := List.getElem?_eq_getElem (l := ds) (i := 0) (by omega)
  have hp2 : ds[0].r = r ∧ ds[0].q = q := by
    have e1 := congrArg (fun l => l[0]?) g2
    simp only [List.getElem?_map, hx, h3, Option.map_some] at e1
    have e2 := Option.some.inj e1
    simp [Dn.p, Ln.p] at e2
    exact e2
  obtain ⟨g, off, rfl, _, _, k0, k1⟩ := g3.cells 0 _ hx
  rw [hp2.1] at k0
  rw [hp2.2] at k1
  rw [Nat.zero_mul, Nat.add_zero] at k0 k1
  exact ⟨g, off, c, _, _, _, _, _, _, rfl, k0, k1, Lib.hid ⟨⟨L, F, hp.under B.out, hf⟩, h4, h5, h6, h7⟩⟩
set_option maxRecDepth 100000 in
set_option maxHeartbeats 16000000 in
theorem bayFair_in (s : Nat) (a : Option Addr) (m c : Nat) (Z : Nat → Int) (w : World) (hs : s ≤ 255) (_ : m ≤ maxLen) (hc : ∀ j, j < m → ∃ b off, a = some ⟨b, off, none⟩ ∧ b < w.heap.size ∧ w.cell? ⟨b, off + j, none⟩ = some (.int .u8 (Z j))) (hz : ∀ j, j < m → 0 ≤ Z j ∧ Z j ≤ 255) :
    Calls Try.prog 4 #[.int .u8 (s : Int), .slice a m c] w fun e w' => e = .returned (.bool true) ∧ Below w.heap.size w w' := by
  have HAW := awake_at w
  obtain ⟨t, n, w0, w1, w2, w3, n1, n4⟩ := slots_of (s : Int) (by omega)
  have HN : Hid (∀ W, Below w.heap.size w W → Calls Try.prog 11 #[.slice (some ⟨W.heap.size, 0, none⟩) 1 1] (W.alloc (.cells #[.int .i64 0, .int .i64 n, .int .i64 0, .int .i64 0] 46)) fun e w' => ∃ Q, e = .returned (.tuple #[ptr Q, .int .i64 0]) ∧ Hid (FS w w' Q n 1 0 ∧ Below w.heap.size w w')) := Lib.hid (fun W hW => (new_one n (by omega) (by omega) W hW).mono fun e w' ⟨Q, e1, H⟩ => ⟨Q, e1, Lib.hid (by
    obtain ⟨F, g1, g2⟩ := H.out
    exact ⟨⟨_, F, g1, fi_new g1.good (by omega)⟩, g2⟩)⟩)
  by_cases hm60 : (60 : Int) < (m : Int)
  · have d1 : decide ((60 : Int) < (m : Int)) = true := decide_eq_true hm60
    clear hs hc hz
    go_enter Try.func4, Try.ntmps4
    go_wp2_with fail
    refine (HN.out _ (Below.refl _ _)).mono ?_
    rintro e v1 ⟨Q, rfl, P1⟩
    have H0 := Lib.hid (HAW.out _ P1.out.2)
    go_wp2_with fail
    refine H0.out.mono ?_
    rintro e w2 ⟨rfl, B1⟩
    go_wp2_with fail
    go_ret
    exact ⟨rfl, B1.out⟩
  have d1 : decide ((60 : Int) < (m : Int)) = false := decide_eq_false hm60
  have hm : m ≤ 60 := by omega
  have hm3 : (m : Int) ≤ 60 := by omega
  have HC : Hid (∀ W i, Below w.heap.size w W → i < m → ∃ b off, a = some ⟨b, off, none⟩ ∧ W.cell? ⟨b, off + i, none⟩ = some (.int .u8 (Z i)) ∧ 0 ≤ Z i ∧ Z i ≤ 255) := Lib.hid (fun W i hW hi => by
    obtain ⟨b, off, e, hb, k⟩ := hc i hi
    exact ⟨b, off, e, ((bcell hW).1 b _ hb).trans k, hz i hi⟩)
  clear hs hc hz hm60
  go_enter Try.func4, Try.ntmps4
  go_wp2_with fail
  refine (HN.out _ (Below.refl _ _)).mono ?_
  rintro e v1 ⟨Q, rfl, P1⟩
  have P2 := Lib.hid P1.out.1
  clear P1 HN
  go_wp2_with fail
  go_loopw [8, 9, 10] (fun sn sl si wr => ∃ (i : Nat) (nx la : Int), sn = .int .i64 nx ∧ sl = .int .i64 la ∧ si = .int .i64 i ∧ i ≤ m ∧ 1 ≤ nx ∧ nx ≤ i + 1 ∧ Hid (FS w wr Q n nx la)) (fun _ _ si _ => m - (RowKit.intOf si).toNat)
  case atStart => exact ⟨0, 1, 0, rfl, rfl, rfl, by omega, by omega, by omega, P2⟩
  case round =>
    clear P2
    obtain ⟨i, nx, la, rfl, rfl, rfl, hi, hx1, hx2, HP⟩ := hrel
    have hi0 : (0 : Int) ≤ (i : Int) := by omega
    by_cases hlt : i < m
    · have hlt2 : (i : Int) < (m : Int) := by omega
      have wi : IntKind.i64.wrap ((i : Int) + 1) = (i : Int) + 1 := IntWalk.i64_in _ (by omega)
      have wn : IntKind.i64.wrap (nx + 1) = nx + 1 := IntWalk.i64_in _ (by omega)
      obtain ⟨g, off, rfl, k0, z0, z1⟩ := HC.out wr i (by obtain ⟨L, F, h, _⟩ := HP.out; exact h.below) hlt
      have HA := Lib.hid (fs_ask HP.out hx1 (by omega))
      have HLA : Hid (la < nx ∧ 0 ≤ la) := Lib.hid (by obtain ⟨L, F, _, h⟩ := HP.out; exact ⟨h.lt, h.la0⟩)
      go_wp2_with fail
      · refine HA.out.mono ?_
        rintro e w2 (⟨rfl, H⟩ | ⟨rfl, H⟩ | ⟨rfl, H⟩)
        · clear HA HLA
          go_wp2_with fail
          exact ⟨⟨i + 1, nx, la, rfl, rfl, by go_num, by omega, by omega, by omega, H⟩, by simp [RowKit.intOf]; omega⟩
        · have dl : decide (nx < la) = false := decide_eq_false (by have := HLA.out.1; omega)
          clear HA HLA
          go_wp2_with fail
          exact ⟨⟨i + 1, nx + 1, nx, rfl, rfl, by go_num, by omega, by omega, by omega, H⟩, by simp [RowKit.intOf]; omega⟩
        · clear HA HLA
          go_wp2_with fail
          exact ⟨⟨i + 1, nx + 1, la, rfl, rfl, by go_num, by omega, by omega, by omega, H⟩, by simp [RowKit.intOf]; omega⟩
      · refine (fs_leave _ HP.out).mono ?_
        rintro e w2 (⟨v, rfl, h1, h2, H⟩ | ⟨f, rfl, H⟩)
        · have HL := Lib.hid (fs_lines H.out)
          have b1 : decide (0 < v) = true := decide_eq_true h1
          have b2 : decide (v ≤ la) = false := decide_eq_false (by omega)
          have HV : Hid (v ≤ v) := Lib.hid (by omega)
          clear h1 h2 HA HLA HP
          go_wp2_with fail
          refine HL.out.mono ?_
          rintro e w3 ⟨g2, off2, c2, ra, qa, rn, rc, qn, qc, rfl, x0, x1, H2⟩
          have H3 := Lib.hid H2.out.1
          have hq := H2.out.2.1
          have hr : decide (n < (rn : Int)) = false := decide_eq_false (by have := H2.out.2.2.1; omega)
          have hrn : ¬ n < (rn : Int) := by have := H2.out.2.2.1; omega
          rcases Nat.eq_zero_or_pos qn with rfl | hq0
          · clear hq H2 HL H
            go_wp2_with fail
            exact ⟨⟨i + 1, nx, v, rfl, rfl, by go_num, by omega, by omega, by omega, H3⟩, by simp [RowKit.intOf]; omega⟩
          · have hrn2 : (rn : Int) = n := hq hq0
            have hq1 : decide (0 < (qn : Int)) = true := decide_eq_true (by omega)
            have hne : ((rn : Int) != n) = false := by simp [hrn2]
            clear hq H2 HL H
            go_wp2_with fail
            exact ⟨⟨i + 1, nx, v, rfl, rfl, by go_num, by omega, by omega, by omega, H3⟩, by simp [RowKit.intOf]; omega⟩
        · have HL := Lib.hid (fs_lines H.out)
          by_cases hf : f = 0
          · subst hf
            clear HA HLA HP
            go_wp2_with fail
            refine HL.out.mono ?_
            rintro e w3 ⟨g2, off2, c2, ra, qa, rn, rc, qn, qc, rfl, x0, x1, H2⟩
            have H3 := Lib.hid H2.out.1
            have hq := H2.out.2.1
            have hr : decide (n < (rn : Int)) = false := decide_eq_false (by have := H2.out.2.2.1; omega)
            have hrn : ¬ n < (rn : Int) := by have := H2.out.2.2.1; omega
            rcases Nat.eq_zero_or_pos qn with rfl | hq0
            · clear hq H2 HL H
              go_wp2_with fail
              exact ⟨⟨i + 1, nx, la, rfl, rfl, by go_num, by omega, by omega, by omega, H3⟩, by simp [RowKit.intOf]; omega⟩
            · have hrn2 : (rn : Int) = n := hq hq0
              have hq1 : decide (0 < (qn : Int)) = true := decide_eq_true (by omega)
              have hne : ((rn : Int) != n) = false := by simp [hrn2]
              clear hq H2 HL H
              go_wp2_with fail
              exact ⟨⟨i + 1, nx, la, rfl, rfl, by go_num, by omega, by omega, by omega, H3⟩, by simp [RowKit.intOf]; omega⟩
          · have b1 : (f == 0) = false := by simpa using hf
            clear HA HLA HP
            go_wp2_with fail
            refine HL.out.mono ?_
            rintro e w3 ⟨g2, off2, c2, ra, qa, rn, rc, qn, qc, rfl, x0, x1, H2⟩
            have H3 := Lib.hid H2.out.1
            have hq := H2.out.2.1
            have hr : decide (n < (rn : Int)) = false := decide_eq_false (by have := H2.out.2.2.1; omega)
            have hrn : ¬ n < (rn : Int) := by have := H2.out.2.2.1; omega
            rcases Nat.eq_zero_or_pos qn with rfl | hq0
            · clear hq H2 HL H
              go_wp2_with fail
              exact ⟨⟨i + 1, nx, la, rfl, rfl, by go_num, by omega, by omega, by omega, H3⟩, by simp [RowKit.intOf]; omega⟩
            · have hrn2 : (rn : Int) = n := hq hq0
              have hq1 : decide (0 < (qn : Int)) = true := decide_eq_true (by omega)
              have hne : ((rn : Int) != n) = false := by simp [hrn2]
              clear hq H2 HL H
              go_wp2_with fail
              exact ⟨⟨i + 1, nx, la, rfl, rfl, by go_num, by omega, by omega, by omega, H3⟩, by simp [RowKit.intOf]; omega⟩
    · obtain rfl : m = i := by omega
      have H0 := Lib.hid (HAW.out wr (by obtain ⟨L, F, h, _⟩ := HP.out; exact h.below))
      go_wp2_with fail
      refine H0.out.mono ?_
      rintro e w2 ⟨rfl, B1⟩
      go_wp2_with fail
      go_ret
      exact ⟨rfl, B1.out⟩
end Go.Proofs.Ytokkefokodcphaa.Bay
