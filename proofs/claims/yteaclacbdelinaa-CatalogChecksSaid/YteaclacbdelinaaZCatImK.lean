/- The program's list of blueprints, as a reader reads it. -/
import Derived.Test.YteaclacbdelinaaZCatImJ
namespace Go.Proofs.Yteaclacbdelinaa.Cat.Im
open Go.RowKit Go.Lib
open Goods (St Sts OwnS)
open Recipe (Bl BlIn blV)
open Pen (uiN uiS tmN tmS)

/-- Blueprints in a row of one's own, each with a row of needs. -/
structure Bluz (w : World) (B : Nat) (v : Value) (bs : List Bl) : Prop where
  own : OwnB w B v bs
  needs : NeedsAt w B bs
  few : ∀ b ∈ bs, b.sm ≤ 8
theorem Bluz.past {w w' : World} {B g : Nat} {v : Value} {bs : List Bl} (h : Bluz w B v bs) (hg : w.grownBy w' (some g)) (hb : g < B) : Bluz w' B v bs := ⟨own_past h.own hg hb, fun b hm => own_past (h.needs b hm) hg hb, h.few⟩
theorem Bluz.more {w w' : World} {B : Nat} {a a' : Option Addr} {m c c' : Nat} {bs : List Bl} {b : Bl} (h : Bluz w B (.slice a m c) bs) (ho : OwnB w' B (.slice a' (m + 1) c') (bs ++ [b])) (hg : w.grownBy w' (Value.slice a m c).ownBlock) (hs : OwnS w B (.slice b.sa b.sm b.sc) b.s) (h8 : b.sm ≤ 8) : Bluz w' B (.slice a' (m + 1) c') (bs ++ [b]) := by
  have hk : ∀ {v : Value} {l : List St}, OwnS w B v l → OwnS w' B v l := fun k => own_by k hg fun g cur e h3 => by
    obtain ⟨_, _, c4, h4⟩ := own_type h.own e
    rw [h4] at h3
    injection h3 with h3
    injection h3 with _ h5
    exact absurd h5 (by decide)
  refine ⟨ho, fun x hx => ?_, fun x hx => ?_⟩
  · rcases List.mem_append.1 hx with hx | hx
    · exact hk (h.needs x hx)
    · rw [List.mem_singleton.1 hx]
      exact hk hs
  · rcases List.mem_append.1 hx with hx | hx
    · exact h.few x hx
    · rw [List.mem_singleton.1 hx]
      exact h8
set_option maxRecDepth 100000 in
set_option maxHeartbeats 4000000 in
theorem list_bl (R : Nat) (st : RS) (w : World) (h : Pen.Rd w R st) (hf : Pen.Fit st) (l : List PB) (st' : RS) (hl : ltq bluq 16 st = (l, st')) :
    Calls Try.prog 61 #[rdV R, .int .i64 16, .func (.func 62) #[rdV R] #[]] w fun e w' => ∃ a n c bs, e = .returned (.slice a n c) ∧ Hid (bs.map pOf = l ∧ bs.length = n ∧ n ≤ 16 ∧ Bluz w' w.heap.size (.slice a n c) bs ∧ Went w w' R st') := by
  obtain ⟨n, hn⟩ : ∃ n : Nat, tmN st 16 = n := ⟨_, rfl⟩
  obtain ⟨s0, hs⟩ : ∃ s : RS, tmS st 16 = s := ⟨_, rfl⟩
  obtain ⟨B, X, hB, hX, k0, HX⟩ := begin_list w R st h hf
  have hR := h.lt
  have HR : Hid (R < w.heap.size) := Lib.hid hR
  have HT := times_at 16 HX.out.1 (by omega)
  have hn8 : (n : Int) ≤ 16 := by rw [← hn]; exact tm_le (by omega)
  have HQ : Hid (lsq bluq n s0 = (l, st')) := Lib.hid (by rw [← hl, ← hn, ← hs]; rfl)
  rw [hn, hs] at HT
  have HT := Lib.hid HT
  clear h hf hl hn hs hR
  go_enter Try.func61, Try.ntmps61
  go_wp2_with fail
  clear hB hX k0
  refine HT.out.mono ?_
  rintro e w1 ⟨rfl, H1⟩
  go_wp2_with fail
  go_loopw [7, 12] (fun v t wr => ∃ (i : Nat) (a : Option Addr) (c : Nat) (o : List Bl) (s1 : RS), v = .slice a i c ∧ t = .int .i64 (i : Int) ∧ i ≤ n ∧ Hid (Bluz wr w.heap.size (.slice a i c) o ∧ o.length = i) ∧ Hid (Went w wr R s1) ∧ Hid (lsq bluq n s0 = (o.map pOf ++ (lsq bluq (n - i) s1).1, (lsq bluq (n - i) s1).2))) (fun _ t _ => n - (RowKit.intOf t).toNat)
  case atStart => exact ⟨0, none, 0, [], s0, rfl, rfl, by omega, Lib.hid ⟨⟨World.ownsRow_nil _ _ _ _, fun b hb => (by cases hb), fun b hb => (by cases hb)⟩, rfl⟩, H1, Lib.hid rfl⟩
  case round =>
    clear H1 HT
    obtain ⟨i, a, c, o, s1, rfl, rfl, hi, HO, HW, HI⟩ := hrel
    obtain ⟨W0, rfl⟩ : ∃ W0, W0 = wr := ⟨_, rfl⟩
    have hi0 : (0 : Int) ≤ (i : Int) := by omega
    by_cases hlt : i < n
    · have hlt2 : (i : Int) < (n : Int) := by omega
      have wi : IntKind.i64.wrap ((i : Int) + 1) = (i : Int) + 1 := IntWalk.i64_in _ (by omega)
      obtain ⟨x, s2, hx⟩ : ∃ x s2, bluq s1 = (x, s2) := ⟨_, _, rfl⟩
      have HC := Lib.hid (rblue_im R s1 W0 HW.out.rd HW.out.fit x s2 hx)
      have HI2 := Lib.hid (lsq_more HI.out hlt (x := x) (st' := s2) (by rw [hx]) (by rw [hx]))
      clear hx HI
      go_wp2_with fail
      refine HC.out.mono ?_
      rintro e w2 ⟨b, rfl, H2⟩
      have HW2 := Lib.hid (HW.out.then H2.out.2.2.2)
      have hz2 := HO.out.1.past H2.out.2.2.2.grown HR.out
      have ho2 := hz2.own
      have hbz : w.heap.size ≤ w2.heap.size := HW2.out.grown.size
      obtain ⟨a3, c3, w3, hr3, ho3, hg3⟩ := app_b w2 b ho2 (by omega) hbz
      have HR3 := hr3
      have HO3 : Hid (Bluz w3 w.heap.size (.slice a3 (i + 1) c3) (o ++ [b]) ∧ (o ++ [b]).length = i + 1) := Lib.hid ⟨hz2.more ho3 hg3 (World.ownsRow.mono H2.out.2.2.1 HW.out.grown.size) H2.out.2.1, by have := HO.out.2; simp [this]⟩
      have HI3 : Hid (lsq bluq n s0 = ((o ++ [b]).map pOf ++ (lsq bluq (n - (i + 1)) s2).1, (lsq bluq (n - (i + 1)) s2).2)) := Lib.hid (by
        have h1 := HI2.out
        rw [← H2.out.1] at h1
        rw [List.map_append]
        exact h1)
      have HW3 : Hid (Went w w3 R s2) := Lib.hid (HW2.out.grew hg3 (fun g e => (own_type ho2 e).1) HR.out)
      clear hr3 ho3 hg3 ho2 hbz hz2
      go_wp2_with (at_builtin; refine walk_run (v' := .slice a3 (i + 1) c3) (w' := w3) rfl _ _ _ _ rfl _ _ rfl rfl ?_ ?_; exact HR3.out)
      go_roundw
      case rel => exact ⟨i + 1, a3, c3, o ++ [b], s2, rfl, by go_num, by omega, HO3, HW3, HI3⟩
      case measure => simp [RowKit.intOf]; omega
    · obtain rfl : i = n := by omega
      have HF : Hid (o.map pOf = l ∧ s1 = st') := Lib.hid (by
        have h1 := lsq_end HI.out
        rw [HQ.out] at h1
        injection h1 with h1 h2
        exact ⟨h1.symm, h2.symm⟩)
      have HE : Hid (o.map pOf = l ∧ o.length = i ∧ i ≤ 16 ∧ Bluz W0 w.heap.size (.slice a i c) o ∧ Went w W0 R st') := Lib.hid (by
        rw [← HF.out.2]
        exact ⟨HF.out.1, HO.out.2, by omega, HO.out.1, HW.out⟩)
      go_wp2_with fail
      go_ret
      exact ⟨a, i, c, o, rfl, HE⟩
end Go.Proofs.Yteaclacbdelinaa.Cat.Im
