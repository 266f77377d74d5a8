/- The program's reader of a catalogue: a blueprint, a list of blueprints. -/
import Derived.Test.YteaclacbdelinaaZCatImG
namespace Go.Proofs.Yteaclacbdelinaa.Cat.Im
open Go.RowKit Go.Lib
open Goods (St Sts OwnS)
open Recipe (Bl BlIn blV)
open Pen (uiN uiS tmN tmS)

theorem ret_bl {fn : Func} {R : Ending → World → Prop} {a : Act} {w : World} {p : Tmp} {g : Nat} {c0 c1 c2 c3 c4 c5 c6 : Value} {T : TypeId} (h : fn.results = #[.cell p 35]) (hd : a.defers = [])
    (ht : a.tmps.getD p undef = .pointer (some ⟨g, 0, none⟩)) (hb : w.heap[g]? = some (.cells #[c0, c1, c2, c3, c4, c5, c6] T (0, 0))) (hR : R (.returned (.agg #[c0, c1, c2, c3, c4, c5, c6])) w) : bodyPost Try.prog fn R .ret a w :=
  bodyPost_ret (v := .agg #[c0, c1, c2, c3, c4, c5, c6]) (results_cell_row h _ w g T #[c0, c1, c2, c3, c4, c5, c6] (0, 0) _ ht hb Try.underlying35 rfl (by kernel_rfl)) hd hR
/-- The needs that a reader has read, while it goes on. -/
def RowS (w : World) (B0 R G : Nat) (a : Option Addr) (m c : Nat) (l : List St) : Prop := ∃ base, OwnS w base (.slice a m c) l ∧ R < base ∧ G < base ∧ B0 ≤ base ∧ l.length = m ∧ m ≤ 8
theorem RowS.by {w w' : World} {B0 R G : Nat} {a : Option Addr} {m c : Nat} {l : List St} (h : RowS w B0 R G a m c l) (hg : w.grownBy w' (some R)) : RowS w' B0 R G a m c l := by
  obtain ⟨base, h1, h2, h3, h4, h5⟩ := h
  exact ⟨base, own_past h1 hg h2, h2, h3, h4, h5⟩
theorem RowS.set {w w' : World} {B0 R G : Nat} {a : Option Addr} {m c : Nat} {l : List St} (h : RowS w B0 R G a m c l) (hg : w.grownBy w' (some G)) : RowS w' B0 R G a m c l := by
  obtain ⟨base, h1, h2, h3, h4, h5⟩ := h
  exact ⟨base, own_past h1 hg h3, h2, h3, h4, h5⟩
theorem RowS.own {w : World} {B0 R G : Nat} {a : Option Addr} {m c : Nat} {l : List St} (h : RowS w B0 R G a m c l) : OwnS w B0 (.slice a m c) l ∧ l.length = m ∧ m ≤ 8 := by
  obtain ⟨base, h1, h2, h3, h4, h5⟩ := h
  exact ⟨World.ownsRow.mono h1 h4, h5⟩
theorem list_at (W0 : World) (R B G : Nat) (cs : Array Value) (T : TypeId) : Hid (∀ W st l st', ltq stq 8 st = (l, st') → RQ W0 W R B G st cs T → Calls Try.prog 79 #[.agg #[.pointer (some ⟨R, 0, none⟩)], .int .i64 8, .func (.func 80) #[.agg #[.pointer (some ⟨R, 0, none⟩)]] #[]] W fun e w' => ∃ a m c, e = .returned (.slice a m c) ∧ Hid (RQ W0 w' R B G st' cs T ∧ RowS w' W0.heap.size R G a m c l)) := Lib.hid fun W st l st' hl h => by
  refine (list_st R st W h.went.rd h.went.fit l st' hl).mono ?_
  rintro e w' ⟨a, m, c, rfl, H⟩
  exact ⟨a, m, c, rfl, Lib.hid ⟨h.step H.out.2.2.2, W.heap.size, H.out.2.2.1, h.went.rd.lt, (Array.getElem?_eq_some_iff.1 h.blk).1, h.went.grown.size, H.out.1, H.out.2.1⟩⟩
set_option maxRecDepth 100000 in
set_option maxHeartbeats 8000000 in
theorem rblue_im (R : Nat) (st : RS) (w : World) (h : Pen.Rd w R st) (hf : Pen.Fit st) (x : PB) (st' : RS) (hx : bluq st = (x, st')) :
    Calls Try.prog 62 #[rdV R] w fun e w' => ∃ b : Bl, e = .returned (blV b) ∧ Hid (pOf b = x ∧ b.sm ≤ 8 ∧ OwnS w' w.heap.size (.slice b.sa b.sm b.sc) b.s ∧ Went w w' R st') := by
  obtain ⟨n1, hn⟩ : ∃ n : Nat, uiN st MX = n := ⟨_, rfl⟩
  obtain ⟨s1, hs⟩ : ∃ s : RS, uiS st MX = s := ⟨_, rfl⟩
  have N1 := Lib.hid hn
  have S1 := Lib.hid hs
  clear hn hs
  obtain ⟨n2, hn⟩ : ∃ n : Nat, uiN s1 MX = n := ⟨_, rfl⟩
  obtain ⟨s2, hs⟩ : ∃ s : RS, uiS s1 MX = s := ⟨_, rfl⟩
  have N2 := Lib.hid hn
  have S2 := Lib.hid hs
  clear hn hs
  obtain ⟨n3, hn⟩ : ∃ n : Nat, uiN s2 MX = n := ⟨_, rfl⟩
  obtain ⟨s3, hs⟩ : ∃ s : RS, uiS s2 MX = s := ⟨_, rfl⟩
  have N3 := Lib.hid hn
  have S3 := Lib.hid hs
  clear hn hs
  obtain ⟨l4, s4, hl⟩ : ∃ l s, ltq stq 8 s3 = (l, s) := ⟨_, _, rfl⟩
  have L4 := Lib.hid hl
  clear hl
  obtain ⟨n5, hn⟩ : ∃ n : Nat, uiN s4 MX = n := ⟨_, rfl⟩
  obtain ⟨s5, hs⟩ : ∃ s : RS, uiS s4 MX = s := ⟨_, rfl⟩
  have N5 := Lib.hid hn
  have S5 := Lib.hid hs
  clear hn hs
  obtain ⟨n6, hn⟩ : ∃ n : Nat, uiN s5 MX = n := ⟨_, rfl⟩
  obtain ⟨s6, hs⟩ : ∃ s : RS, uiS s5 MX = s := ⟨_, rfl⟩
  have N6 := Lib.hid hn
  have S6 := Lib.hid hs
  clear hn hs
  obtain ⟨n7, hn⟩ : ∃ n : Nat, uiN s6 MX = n := ⟨_, rfl⟩
  obtain ⟨s7, hs⟩ : ∃ s : RS, uiS s6 MX = s := ⟨_, rfl⟩
  have N7 := Lib.hid hn
  have S7 := Lib.hid hs
  clear hn hs
  have HE : Hid (x = ⟨(n1 : Int), (n2 : Int), (n3 : Int), l4, (n5 : Int), (n6 : Int), (n7 : Int)⟩ ∧ st' = s7) := Lib.hid (by
    have h1 := blu_of N1.out S1.out N2.out S2.out N3.out S3.out L4.out N5.out S5.out N6.out S6.out N7.out S7.out
    rw [hx] at h1
    injection h1 with h1 h2
    exact ⟨h1, h2⟩)
  obtain ⟨B, X, G, Z, hB, hX, hG, hZ, HZ⟩ := begin_rq w R st #[.int .i64 0, .int .i64 0, .int .i64 0, .slice none 0 0, .int .i64 0, .int .i64 0, .int .i64 0] 35 h hf
  have HN := number_at w R B G #[.int .i64 0, .int .i64 0, .int .i64 0, .slice none 0 0, .int .i64 0, .int .i64 0, .int .i64 0] 35
  have HLS := list_at w R B G #[.int .i64 0, .int .i64 0, .int .i64 0, .slice none 0 0, .int .i64 0, .int .i64 0, .int .i64 0] 35
  clear h hf hx
  go_enter Try.func62, Try.ntmps62
  go_wp2_with fail
  clear hB hX hG hZ
  go_region_held3 (fun W => W.cell? ⟨B, 0, none⟩ = some (.pointer (some ⟨R, 0, none⟩)))
    (first | with_reducible exact G7.out.1.cell | with_reducible exact G6.out.1.cell | with_reducible exact G5.out.1.cell | with_reducible exact G4.out.1.cell | with_reducible exact G3.out.1.cell | with_reducible exact G2.out.1.cell | with_reducible exact G1.out.1.cell | with_reducible exact HZ.out.drew.cell | exact G7.out.1.kept (only_setCell (only_setCell (only_setCell (only_setCell (only_setCell (only_setCell (only_setCell (only_refl _ _) _ _) _ _) _ _) _ _) _ _) _ _) _ _))
    (first
      | (go_at_call 60; (with_reducible refine (HN.out _ _ n7 s7 N7.out S7.out G6.out.1).mono ?_); rintro e w7 ⟨rfl, G7⟩; obtain ⟨⟨d0, d1, d2, d3, d4, d5, d6⟩, f0, f1, f2, f3, f4, f5, f6⟩ := blk7 G7.out.1.blk)
      | (go_at_call 60; (with_reducible refine (HN.out _ _ n6 s6 N6.out S6.out G5.out.1).mono ?_); rintro e w6 ⟨rfl, G6⟩)
      | (go_at_call 60; (with_reducible refine (HN.out _ _ n5 s5 N5.out S5.out G4.out.1).mono ?_); rintro e w5 ⟨rfl, G5⟩)
      | (go_at_call 79; (with_reducible refine (HLS.out _ _ l4 s4 L4.out G3.out.1).mono ?_); rintro e w4 ⟨a4, m4, c4, rfl, G4⟩)
      | (go_at_call 60; (with_reducible refine (HN.out _ _ n3 s3 N3.out S3.out G2.out.1).mono ?_); rintro e w3 ⟨rfl, G3⟩)
      | (go_at_call 60; (with_reducible refine (HN.out _ _ n2 s2 N2.out S2.out G1.out.1).mono ?_); rintro e w2 ⟨rfl, G2⟩)
      | (go_at_call 60; (with_reducible refine (HN.out _ _ n1 s1 N1.out S1.out HZ.out.drew).mono ?_); rintro e w1 ⟨rfl, G1⟩)
    )
  all_goals
    go_wp2_with fail
    have HR7 : Hid (RowS w7 w.heap.size R G a4 m4 c4 l4) := Lib.hid (((G4.out.2.by G5.out.2).by G6.out.2).by G7.out.2)
    exact ret_bl rfl rfl rfl (bl_set G7.out.1.blk) ⟨⟨(n1 : Int), (n2 : Int), (n3 : Int), a4, m4, c4, l4, (n5 : Int), (n6 : Int), (n7 : Int)⟩, rfl, Lib.hid (by
      obtain ⟨k1, k2, k3⟩ := (HR7.out.set (only_setCell (only_setCell (only_setCell (only_setCell (only_setCell (only_setCell (only_setCell (only_refl _ _) _ _) _ _) _ _) _ _) _ _) _ _) _ _)).own
      exact ⟨HE.out.1.symm, k3, k1, by rw [HE.out.2]; exact G7.out.1.done (only_setCell (only_setCell (only_setCell (only_setCell (only_setCell (only_setCell (only_setCell (only_refl _ _) _ _) _ _) _ _) _ _) _ _) _ _) _ _)⟩)⟩
end Go.Proofs.Yteaclacbdelinaa.Cat.Im
