/- The program's Below. -/
import Derived.Test.YtghjcefigdkhnaaGraphImD
namespace Go.Proofs.Ytghjcefigdkhnaa.Graph.Im
open Go.RowKit Go.Lib IRows

abbrev lookV (C B D : Nat) : Value := .func (.func 23) #[] #[.pointer (some ⟨C, 0, none⟩), .pointer (some ⟨B, 0, none⟩), .pointer (some ⟨D, 0, none⟩)]
set_option maxRecDepth 100000 in
set_option maxHeartbeats 4000000 in
theorem look_im (w0 : World) (N : Nat) (a : Option Addr) (m c : Nat) (l : List Nd) (hl : l.length = m) (hs : Nds w0 a l) (hm : m ≤ 1048576) (hok : ∀ t ∈ l, OkNd N t) (hN : N ≤ 64) (C B D : Nat) :
    ∀ (d : Nat) (x : Int) (b : Nat → Bool) (w : World), cnt b = d → Ev w0 w C D B B (.slice a m c) (lookV C B D) → RB w B b →
      Calls Try.prog 23 #[.int .i64 x, .pointer (some ⟨C, 0, none⟩), .pointer (some ⟨B, 0, none⟩), .pointer (some ⟨D, 0, none⟩)] w fun e w' => e = .returned (.tuple #[]) ∧ Hid (∃ b', RB w' B b' ∧ Gr w w' B B ∧ Saw l x b b' ∧ Shut l x b') := by
  have HL := Lib.hid hl
  have HT := nds_at hs
  have HOK := Lib.hid hok
  have HNN := Lib.hid hN
  have hm1 : (m : Int) ≤ 1048576 := by omega
  clear hl hs hok hm hN
  intro d
  induction d using Nat.strongRecOn with
  | _ d ih =>
    intro x b w hd he hb
    have HIH : Hid (∀ (y : Int) (b1 : Nat → Bool) (w1 : World), cnt b1 < d → Ev w0 w1 C D B B (.slice a m c) (lookV C B D) → RB w1 B b1 →
      Calls Try.prog 23 #[.int .i64 y, .pointer (some ⟨C, 0, none⟩), .pointer (some ⟨B, 0, none⟩), .pointer (some ⟨D, 0, none⟩)] w1 fun e w' => e = .returned (.tuple #[]) ∧ Hid (∃ b', RB w' B b' ∧ Gr w1 w' B B ∧ Saw l y b1 b' ∧ Shut l y b')) := Lib.hid fun y b1 w1 h1 h2 h3 => ih (cnt b1) h1 y b1 w1 rfl h2 h3
    have HD := Lib.hid hd
    have HE := Lib.hid he
    have HB := Lib.hid hb
    have c0 := he.atC
    clear ih hd he hb
    go_enter Try.func23, Try.ntmps23
    go_wp2_with fail
    clear c0
    go_loopw [9] (fun s wr => ∃ (i : Nat) (b1 : Nat → Bool), s = .int .i64 i ∧ i ≤ m ∧ Hid (RB wr B b1 ∧ Gr w wr B B) ∧ Hid (Saw l x b b1 ∧ ∀ t ∈ l.take i, t.a = x → b1 t.b.toNat = true)) (fun s _ => m - (RowKit.intOf s).toNat)
    case atStart => exact ⟨0, b, rfl, by omega, Lib.hid ⟨HB.out, Gr.refl _ _ _⟩, Lib.hid ⟨saw_refl _ _ _, fun t h => by simp at h⟩⟩
    case round =>
      obtain ⟨i, b1, rfl, hi, HR, HS⟩ := hrel
      have hi0 : (0 : Int) ≤ (i : Int) := by omega
      by_cases hlt : i < m
      · have hlt2 : (i : Int) < (m : Int) := by omega
        have HEW := Lib.hid (HE.out.gr HR.out.2)
        obtain ⟨g, off, t, rfl, ht, q0, q1⟩ := HT.out wr i HEW.out.below (by rw [HL.out]; exact hlt)
        obtain ⟨U, Y, hU, hY, u0, u1, HU⟩ := box_nd wr t
        have HEY := Lib.hid (HEW.out.under HU.out.1)
        have HRY : Hid (RB Y B b1 ∧ Gr w Y B B) := Lib.hid ⟨HR.out.1.under HEW.out.hiP HU.out.1, HR.out.2.trans (gr_below HU.out.1)⟩
        have hok := HOK.out t (List.mem_of_getElem? ht.out)
        obtain ⟨y, hy⟩ := Int.eq_ofNat_of_zero_le (show 0 ≤ t.b by have := hok.2.1; omega)
        have HYB : Hid (t.b = (y : Int)) := Lib.hid hy
        have hy0 : (0 : Int) ≤ (y : Int) := by omega
        have hy65 : (y : Int) < 65 := by have := hok.2.2; have := HNN.out; omega
        have HY65 : Hid (y < 65) := Lib.hid (by omega)
        obtain ⟨x0, x1⟩ := HRY.out.1 y (by omega)
        rw [hy] at q1 u1 hY
        have HUB : Hid (U ≠ B ∧ U < Y.heap.size) := Lib.hid ⟨by have := HEW.out.hiP; omega, by have := HU.out.2; omega⟩
        clear hok hy
        have HSK : Hid ((t.a = x → b1 y = true) → ∀ u ∈ l.take (i + 1), u.a = x → b1 u.b.toNat = true) := Lib.hid fun h u hu e => by
          rcases (mem_take_succ ht.out).1 hu with hu | rfl
          · exact HS.out.2 u hu e
          · rw [HYB.out]
            exact h e
        by_cases ca : t.a = x
        · have ca2 : (t.a == x) = true := by simpa using ca
          cases hb1 : b1 y with
          | true =>
            have HS2 : Hid (Saw l x b b1 ∧ ∀ u ∈ l.take (i + 1), u.a = x → b1 u.b.toNat = true) := Lib.hid ⟨HS.out.1, HSK.out fun _ => hb1⟩
            rw [hb1] at x0
            clear ca hb1
            go_wp2_with fail
            clear hY hU
            go_roundw
            case rel => exact ⟨i + 1, b1, by go_num, by omega, HRY, HS2⟩
            case measure => simp [RowKit.intOf]; omega
          | false =>
            have HC : Hid (Calls Try.prog 23 #[.int .i64 y, .pointer (some ⟨C, 0, none⟩), .pointer (some ⟨B, 0, none⟩), .pointer (some ⟨D, 0, none⟩)] (Y.setCell ⟨B, y, none⟩ (.bool true)) fun e w' => e = .returned (.tuple #[]) ∧ Hid (∃ b', (RB w' B b' ∧ Gr w w' B B) ∧ Saw l x b b' ∧ ∀ u ∈ l.take (i + 1), u.a = x → b' u.b.toNat = true)) := Lib.hid (by
              refine (HIH.out y (up b1 y true) (Y.setCell ⟨B, y, none⟩ (.bool true)) (by
                have h1 := cnt_up HY65.out hb1
                have h2 := cnt_mono HS.out.1.more
                have h3 := HD.out
                omega) (HEY.out.gr (gr_setP _ _ _ _ _)) (HRY.out.1.set y true)).mono ?_
              rintro e w' ⟨rfl, H⟩
              obtain ⟨b', k1, k2, k3, k4⟩ := H.out
              obtain ⟨s1, s2⟩ := HS.out.1.step (List.mem_of_getElem? ht.out) ca HYB.out k3 k4
              refine ⟨rfl, Lib.hid ⟨b', ⟨k1, (HRY.out.2.trans (gr_setP _ _ _ _ _)).trans k2⟩, s1, fun u hu e => ?_⟩⟩
              rcases (mem_take_succ ht.out).1 hu with hu | rfl
              · refine k3.more _ ?_
                unfold up
                split
                · rfl
                · exact HS.out.2 u hu e
              · rw [HYB.out]
                exact s2)
            have d0 := HEY.out.atD
            have d1 : (Y.setCell ⟨B, y, none⟩ (.bool true)).cell? ⟨D, 0, none⟩ = some (lookV C B D) := (HEY.out.gr (gr_setP Y B B y (.bool true))).atD
            have v1 : (Y.setCell ⟨B, y, none⟩ (.bool true)).cell? ⟨U, 1, none⟩ = some (.int .i64 y) := ((gr_setP Y B B y (.bool true)).cell 1 HUB.out.2 HUB.out.1 HUB.out.1).trans u1
            rw [hb1] at x0
            clear ca hb1
            go_wp2_with fail
            refine HC.out.mono ?_
            rintro e w' ⟨rfl, H⟩
            obtain ⟨b2, HR2, HS2⟩ : ∃ b2, Hid (RB w' B b2 ∧ Gr w w' B B) ∧ Hid (Saw l x b b2 ∧ ∀ u ∈ l.take (i + 1), u.a = x → b2 u.b.toNat = true) := by
              obtain ⟨b', h1, h2⟩ := H.out
              exact ⟨b', Lib.hid h1, Lib.hid h2⟩
            clear H hY hU
            go_wp2_with fail
            go_roundw
            case rel => exact ⟨i + 1, b2, by go_num, by omega, HR2, HS2⟩
            case measure => simp [RowKit.intOf]; omega
        · have ca2 : (t.a == x) = false := by simpa using ca
          have HS2 : Hid (Saw l x b b1 ∧ ∀ u ∈ l.take (i + 1), u.a = x → b1 u.b.toNat = true) := Lib.hid ⟨HS.out.1, HSK.out fun e => absurd e ca⟩
          clear ca
          go_wp2_with fail
          clear hY hU
          go_roundw
          case rel => exact ⟨i + 1, b1, by go_num, by omega, HRY, HS2⟩
          case measure => simp [RowKit.intOf]; omega
      · obtain rfl : i = m := by omega
        have HF : Hid (∃ b', RB wr B b' ∧ Gr w wr B B ∧ Saw l x b b' ∧ Shut l x b') := Lib.hid ⟨b1, HR.out.1, HR.out.2, HS.out.1, fun t ht e => HS.out.2 t (by rw [List.take_of_length_le (by rw [HL.out]; exact Nat.le_refl _)]; exact ht) e⟩
        go_wp2_with fail
        go_end0
        exact ⟨rfl, HF⟩
end Go.Proofs.Ytghjcefigdkhnaa.Graph.Im
