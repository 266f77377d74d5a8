/- The program's reader of a catalogue: the whole. -/
import Derived.Test.YteaclacbdelinaaZCatImK
import Derived.Test.YteaclacbdelinaaZCatOrd
namespace Go.Proofs.Yteaclacbdelinaa.Cat.Im
open Go.RowKit Go.Lib
open Goods (St Sts OwnS)
open Recipe (Bl BlIn blV)
open Pen (uiN uiS tmN tmS)

/-- The lists that a reader has read, while it goes on. -/
def RowB (w : World) (B0 R G : Nat) (a : Option Addr) (m c : Nat) (l : List Bl) : Prop := ∃ base, Bluz w base (.slice a m c) l ∧ R < base ∧ G < base ∧ B0 ≤ base ∧ l.length = m ∧ m ≤ 16
theorem RowB.by {w w' : World} {B0 R G : Nat} {a : Option Addr} {m c : Nat} {l : List Bl} (h : RowB w B0 R G a m c l) (hg : w.grownBy w' (some R)) : RowB w' B0 R G a m c l := by
  obtain ⟨base, h1, h2, h3, h4, h5⟩ := h
  exact ⟨base, h1.past hg h2, h2, h3, h4, h5⟩
theorem RowB.set {w w' : World} {B0 R G : Nat} {a : Option Addr} {m c : Nat} {l : List Bl} (h : RowB w B0 R G a m c l) (hg : w.grownBy w' (some G)) : RowB w' B0 R G a m c l := by
  obtain ⟨base, h1, h2, h3, h4, h5⟩ := h
  exact ⟨base, h1.past hg h3, h2, h3, h4, h5⟩
def RowY (w : World) (B0 R G : Nat) (a : Option Addr) (m c : Nat) (l : List Ba) : Prop := ∃ base, OwnY w base (.slice a m c) l ∧ R < base ∧ G < base ∧ B0 ≤ base ∧ l.length = m ∧ m ≤ 8
theorem RowY.by {w w' : World} {B0 R G : Nat} {a : Option Addr} {m c : Nat} {l : List Ba} (h : RowY w B0 R G a m c l) (hg : w.grownBy w' (some R)) : RowY w' B0 R G a m c l := by
  obtain ⟨base, h1, h2, h3, h4, h5⟩ := h
  exact ⟨base, own_past h1 hg h2, h2, h3, h4, h5⟩
theorem RowY.set {w w' : World} {B0 R G : Nat} {a : Option Addr} {m c : Nat} {l : List Ba} (h : RowY w B0 R G a m c l) (hg : w.grownBy w' (some G)) : RowY w' B0 R G a m c l := by
  obtain ⟨base, h1, h2, h3, h4, h5⟩ := h
  exact ⟨base, own_past h1 hg h3, h2, h3, h4, h5⟩
theorem rows_of {w : World} {B0 R G : Nat} {a u : Option Addr} {m c n d : Nat} {bs : List Bl} {ys : List Ba} (h : RowB w B0 R G a m c bs) (k : RowY w B0 R G u n d ys) : Rows w B0 (.slice a m c) bs (.slice u n d) ys ∧ m ≤ 16 ∧ n ≤ 8 := by
  obtain ⟨base, h1, _, _, h4, _, h6⟩ := h
  obtain ⟨base2, k1, _, _, k4, _, k6⟩ := k
  exact ⟨⟨World.ownsRow.mono h1.own h4, fun b hb => World.ownsRow.mono (h1.needs b hb) h4, h1.few, World.ownsRow.mono k1 k4⟩, h6, k6⟩
theorem lbl_at (W0 : World) (R B G : Nat) (cs : Array Value) (T : TypeId) : Hid (∀ W st l st', ltq bluq 16 st = (l, st') → RQ W0 W R B G st cs T → Calls Try.prog 61 #[.agg #[.pointer (some ⟨R, 0, none⟩)], .int .i64 16, .func (.func 62) #[.agg #[.pointer (some ⟨R, 0, none⟩)]] #[]] W fun e w' => ∃ a m c, e = .returned (.slice a m c) ∧ Hid (RQ W0 w' R B G st' cs T ∧ ∃ bs, bs.map pOf = l ∧ RowB w' W0.heap.size R G a m c bs)) := Lib.hid fun W st l st' hl h => by
  refine (list_bl R st W h.went.rd h.went.fit l st' hl).mono ?_
  rintro e w' ⟨a, m, c, bs, rfl, H⟩
  exact ⟨a, m, c, rfl, Lib.hid ⟨h.step H.out.2.2.2.2, bs, H.out.1, W.heap.size, H.out.2.2.2.1, h.went.rd.lt, (Array.getElem?_eq_some_iff.1 h.blk).1, h.went.grown.size, H.out.2.1, H.out.2.2.1⟩⟩
theorem lba_at (W0 : World) (R B G : Nat) (cs : Array Value) (T : TypeId) : Hid (∀ W st l st', ltq bayP 8 st = (l, st') → RQ W0 W R B G st cs T → Calls Try.prog 63 #[.agg #[.pointer (some ⟨R, 0, none⟩)], .int .i64 8, .func (.func 64) #[.agg #[.pointer (some ⟨R, 0, none⟩)]] #[]] W fun e w' => ∃ a m c, e = .returned (.slice a m c) ∧ Hid ((RQ W0 w' R B G st' cs T ∧ W.grownBy w' (some R)) ∧ RowY w' W0.heap.size R G a m c l)) := Lib.hid fun W st l st' hl h => by
  refine (list_ba R st W h.went.rd h.went.fit l st' hl).mono ?_
  rintro e w' ⟨a, m, c, rfl, H⟩
  exact ⟨a, m, c, rfl, Lib.hid ⟨⟨h.step H.out.2.2.2, H.out.2.2.2.grown⟩, W.heap.size, H.out.2.2.1, h.went.rd.lt, (Array.getElem?_eq_some_iff.1 h.blk).1, h.went.grown.size, H.out.1, H.out.2.1⟩⟩
set_option maxRecDepth 100000 in
set_option maxHeartbeats 8000000 in
theorem catalog_im (R : Nat) (st : RS) (w : World) (h : Pen.Rd w R st) (hf : Pen.Fit st) (K : Cat) (st' : RS) (hx : catq st = (K, st')) :
    Calls Try.prog 45 #[rdV R] w fun e w' => ∃ D : CM, e = .returned D.v ∧ Hid (D.p = K ∧ (Rows w' w.heap.size (.slice D.ba D.bn D.bc) D.bs (.slice D.ya D.yn D.yc) D.ys ∧ D.bn ≤ 16 ∧ D.yn ≤ 8) ∧ Went w w' R st') := by
  obtain ⟨n1, hn⟩ : ∃ n : Nat, uiN st MX = n := ⟨_, rfl⟩
  obtain ⟨s1, hs⟩ : ∃ s : RS, uiS st MX = s := ⟨_, rfl⟩
  have N1 := Lib.hid hn
  have S1 := Lib.hid hs
  clear hn hs
  obtain ⟨l2, s2, hl⟩ : ∃ l s, ltq bluq 16 s1 = (l, s) := ⟨_, _, rfl⟩
  have L2 := Lib.hid hl
  clear hl
  obtain ⟨n3, hn⟩ : ∃ n : Nat, uiN s2 MX = n := ⟨_, rfl⟩
  obtain ⟨s3, hs⟩ : ∃ s : RS, uiS s2 MX = s := ⟨_, rfl⟩
  have N3 := Lib.hid hn
  have S3 := Lib.hid hs
  clear hn hs
  obtain ⟨l4, s4, hl⟩ : ∃ l s, ltq bayP 8 s3 = (l, s) := ⟨_, _, rfl⟩
  have L4 := Lib.hid hl
  clear hl
  obtain ⟨n5, hn⟩ : ∃ n : Nat, uiN s4 MX = n := ⟨_, rfl⟩
  obtain ⟨s5, hs⟩ : ∃ s : RS, uiS s4 MX = s := ⟨_, rfl⟩
  have N5 := Lib.hid hn
  have S5 := Lib.hid hs
  clear hn hs
  obtain ⟨n6, hn⟩ : ∃ n : Nat, uiN s5 MX = n := ⟨_, rfl⟩
  obtain ⟨s6, hs⟩ : ∃ s : RS, uiS s5 MX = s := ⟨_, rfl⟩
  have N6 := Lib.hid hn
  have S6 := Lib.hid hs
  clear hn hs
  obtain ⟨n7, hn⟩ : ∃ n : Nat, uiN s6 MX = n := ⟨_, rfl⟩
  obtain ⟨s7, hs⟩ : ∃ s : RS, uiS s6 MX = s := ⟨_, rfl⟩
  have N7 := Lib.hid hn
  have S7 := Lib.hid hs
  clear hn hs
  obtain ⟨n8, hn⟩ : ∃ n : Nat, uiN s7 MX = n := ⟨_, rfl⟩
  obtain ⟨s8, hs⟩ : ∃ s : RS, uiS s7 MX = s := ⟨_, rfl⟩
  have N8 := Lib.hid hn
  have S8 := Lib.hid hs
  clear hn hs
  have HE : Hid (K = ⟨(n1 : Int), l2, (n3 : Int), l4, (n5 : Int), ⟨(n6 : Int), (n7 : Int), (n8 : Int)⟩⟩ ∧ st' = s8) := Lib.hid (by
    have h1 := cat_of N1.out S1.out L2.out N3.out S3.out L4.out N5.out S5.out N6.out S6.out N7.out S7.out N8.out S8.out
    rw [hx] at h1
    injection h1 with h1 h2
    exact ⟨h1, h2⟩)
  obtain ⟨B, X, G, Z, hB, hX, hG, hZ, HZ⟩ := begin_rq w R st #[.int .i64 0, .slice none 0 0, .int .i64 0, .slice none 0 0, .int .i64 0, .int .i64 0, .int .i64 0, .int .i64 0] 27 h hf
  have HN := number_at w R B G #[.int .i64 0, .slice none 0 0, .int .i64 0, .slice none 0 0, .int .i64 0, .int .i64 0, .int .i64 0, .int .i64 0] 27
  have HLB := lbl_at w R B G #[.int .i64 0, .slice none 0 0, .int .i64 0, .slice none 0 0, .int .i64 0, .int .i64 0, .int .i64 0, .int .i64 0] 27
  have HLY := lba_at w R B G #[.int .i64 0, .slice none 0 0, .int .i64 0, .slice none 0 0, .int .i64 0, .int .i64 0, .int .i64 0, .int .i64 0] 27
  clear h hf hx
  go_enter Try.func45, Try.ntmps45
  go_wp2_with fail
  clear hB hX hG hZ
  go_region_held3 (fun W => W.cell? ⟨B, 0, none⟩ = some (.pointer (some ⟨R, 0, none⟩)))
    (first | with_reducible exact G8.out.1.cell | with_reducible exact G7.out.1.cell | with_reducible exact G6.out.1.cell | with_reducible exact G5.out.1.cell | with_reducible exact G4.out.1.1.cell | with_reducible exact G3.out.1.cell | with_reducible exact G2.out.1.cell | with_reducible exact G1.out.1.cell | with_reducible exact HZ.out.drew.cell | exact G8.out.1.kept (only_setCell (only_setCell (only_setCell (only_setCell (only_setCell (only_setCell (only_setCell (only_setCell (only_refl _ _) _ _) _ _) _ _) _ _) _ _) _ _) _ _) _ _))
    (first
      | (go_at_call 60; (with_reducible refine (HN.out _ _ n8 s8 N8.out S8.out G7.out.1).mono ?_); rintro e w8 ⟨rfl, G8⟩; obtain ⟨⟨d0, d1, d2, d3, d4, d5, d6, d7⟩, f0, f1, f2, f3, f4, f5, f6, f7⟩ := blk8 G8.out.1.blk)
      | (go_at_call 60; (with_reducible refine (HN.out _ _ n7 s7 N7.out S7.out G6.out.1).mono ?_); rintro e w7 ⟨rfl, G7⟩)
      | (go_at_call 60; (with_reducible refine (HN.out _ _ n6 s6 N6.out S6.out G5.out.1).mono ?_); rintro e w6 ⟨rfl, G6⟩)
      | (go_at_call 60; (with_reducible refine (HN.out _ _ n5 s5 N5.out S5.out G4.out.1.1).mono ?_); rintro e w5 ⟨rfl, G5⟩)
      | (go_at_call 63; (with_reducible refine (HLY.out _ _ l4 s4 L4.out G3.out.1).mono ?_); rintro e w4 ⟨a4, m4, c4, rfl, G4⟩)
      | (go_at_call 60; (with_reducible refine (HN.out _ _ n3 s3 N3.out S3.out G2.out.1).mono ?_); rintro e w3 ⟨rfl, G3⟩)
      | (go_at_call 61; (with_reducible refine (HLB.out _ _ l2 s2 L2.out G1.out.1).mono ?_); rintro e w2 ⟨a2, m2, c2, rfl, G2⟩)
      | (go_at_call 60; (with_reducible refine (HN.out _ _ n1 s1 N1.out S1.out HZ.out.drew).mono ?_); rintro e w1 ⟨rfl, G1⟩)
    )
  all_goals
    go_wp2_with fail
    obtain ⟨bs, HBS, HRB⟩ : ∃ bs, Hid (bs.map pOf = l2) ∧ Hid (RowB w8 w.heap.size R G a2 m2 c2 bs) := by
      obtain ⟨_, bs, h1, h2⟩ := G2.out
      exact ⟨bs, Lib.hid h1, Lib.hid ((((((h2.by G3.out.2).by G4.out.1.2).by G5.out.2).by G6.out.2).by G7.out.2).by G8.out.2)⟩
    have HRY : Hid (RowY w8 w.heap.size R G a4 m4 c4 l4) := Lib.hid ((((G4.out.2.by G5.out.2).by G6.out.2).by G7.out.2).by G8.out.2)
    exact ret_cat rfl rfl rfl (ca_set G8.out.1.blk) ⟨⟨(n1 : Int), a2, m2, c2, bs, (n3 : Int), a4, m4, c4, l4, (n5 : Int), ⟨(n6 : Int), (n7 : Int), (n8 : Int)⟩⟩, rfl, Lib.hid (by
      exact ⟨by rw [HE.out.1, ← HBS.out]; rfl, rows_of (HRB.out.set (only_setCell (only_setCell (only_setCell (only_setCell (only_setCell (only_setCell (only_setCell (only_setCell (only_refl _ _) _ _) _ _) _ _) _ _) _ _) _ _) _ _) _ _)) (HRY.out.set (only_setCell (only_setCell (only_setCell (only_setCell (only_setCell (only_setCell (only_setCell (only_setCell (only_refl _ _) _ _) _ _) _ _) _ _) _ _) _ _) _ _) _ _)), by rw [HE.out.2]; exact G8.out.1.done (only_setCell (only_setCell (only_setCell (only_setCell (only_setCell (only_setCell (only_setCell (only_setCell (only_refl _ _) _ _) _ _) _ _) _ _) _ _) _ _) _ _) _ _)⟩)⟩
end Go.Proofs.Yteaclacbdelinaa.Cat.Im
