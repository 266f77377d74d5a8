/- The program's waits, jobsOf. -/
import Derived.Test.YtdbhdlgoecpeaaaZQuoImA
import Derived.Test.YtdbhdlgoecpeaaaZCatImA
import Derived.Test.YtdbhdlgoecpeaaaZCalcScaleP
namespace Go.Proofs.Ytdbhdlgoecpeaaa.Quo.Im
open Go.RowKit Go.Lib IRows
open Goods (St Sts)
open Cat (Cat PB Ba CM CatAt Lim box_cat pOf I64 mkr)
open Bom (RunsOk tim tim_blue tim_le tim_nonneg fm mkr_fm)
open Recipe (BlIn)

/-- The makers, that have runs, of what is needed. -/
def wsL (bs : List PB) (rs : List Int) : List St → List Int
  | [] => []
  | s :: l => if 0 < mkr s.kind bs 0 ∧ 0 < rs.getD (mkr s.kind bs 0 - 1).toNat 0 then (mkr s.kind bs 0 - 1) :: wsL bs rs l else wsL bs rs l
theorem wsL_append (bs : List PB) (rs : List Int) : ∀ a b : List St, wsL bs rs (a ++ b) = wsL bs rs a ++ wsL bs rs b
  | [], _ => rfl
  | s :: a, b => by
    rw [List.cons_append, wsL, wsL, wsL_append bs rs a b]
    split <;> rfl
theorem wsL_take {bs : List PB} {rs : List Int} {l : List St} {i : Nat} {s : St} (h : l[i]? = some s) : wsL bs rs (l.take (i + 1)) = if 0 < mkr s.kind bs 0 ∧ 0 < rs.getD (mkr s.kind bs 0 - 1).toNat 0 then wsL bs rs (l.take i) ++ [mkr s.kind bs 0 - 1] else wsL bs rs (l.take i) := by
  rw [List.take_add_one, h]
  show wsL bs rs (l.take i ++ [s]) = _
  rw [wsL_append, wsL, wsL]
  split
  · rfl
  · rw [List.append_nil]
theorem wsL_len (bs : List PB) (rs : List Int) : ∀ l : List St, (wsL bs rs l).length ≤ l.length
  | [] => Nat.le_refl _
  | s :: l => by
    have := wsL_len bs rs l
    rw [wsL]
    split <;> simp <;> omega
theorem wsL_mem {bs : List PB} {rs : List Int} : ∀ {l : List St} {x : Int}, x ∈ wsL bs rs l ↔ ∃ s ∈ l, (0 < mkr s.kind bs 0 ∧ 0 < rs.getD (mkr s.kind bs 0 - 1).toNat 0) ∧ x = mkr s.kind bs 0 - 1
  | [], x => by simp [wsL]
  | s :: l, x => by
    have ih := @wsL_mem bs rs l x
    rw [wsL]
    split
    · rename_i h
      rw [List.mem_cons, ih]
      constructor
      · rintro (h1 | ⟨t, h1, h2⟩)
        · exact ⟨s, List.mem_cons_self .., h, h1⟩
        · exact ⟨t, List.mem_cons_of_mem _ h1, h2⟩
      · rintro ⟨t, h1, h2⟩
        rcases List.mem_cons.1 h1 with rfl | h1
        · exact .inl h2.2
        · exact .inr ⟨t, h1, h2⟩
    · rename_i h
      rw [ih]
      constructor
      · rintro ⟨t, h1, h2⟩
        exact ⟨t, List.mem_cons_of_mem _ h1, h2⟩
      · rintro ⟨t, h1, h2⟩
        rcases List.mem_cons.1 h1 with rfl | h1
        · exact absurd h2.1 h
        · exact ⟨t, h1, h2⟩
/-- What a row of waits says of another job. -/
theorem wsL_is {bs : List PB} {rs : List Int} {k x : Nat} {b : PB} (hb : bs[k]? = some b) (hrs : ∀ r ∈ rs, 0 ≤ r) : ((x : Int) ∈ wsL bs rs b.s) ↔ waitsB bs rs k x = true := by
  rw [wsL_mem]
  unfold waitsB
  rw [hb, Bool.and_eq_true, decide_eq_true_iff]
  show _ ↔ rs.getD x 0 ≠ 0 ∧ (b.s.any fun s => isMk bs s.kind x) = true
  rw [List.any_eq_true]
  have hnn : ∀ i, 0 ≤ rs.getD i 0 := fun i => by
    rw [List.getD_eq_getElem?_getD]
    cases h : rs[i]? with
    | none => simp
    | some r => exact hrs r (List.mem_of_getElem? h)
  constructor
  · rintro ⟨s, h1, ⟨h2, h3⟩, h4⟩
    have hm : mkr s.kind bs 0 = (x : Int) + 1 := by omega
    refine ⟨?_, s, h1, ?_⟩
    · rw [hm, show ((x : Int) + 1 - 1).toNat = x by omega] at h3
      omega
    · rw [← mk_test, hm]
      simp
  · rintro ⟨h1, s, h2, h3⟩
    rw [← mk_test] at h3
    have hm : mkr s.kind bs 0 = (x : Int) + 1 := by simpa using h3
    refine ⟨s, h2, ⟨by omega, ?_⟩, by omega⟩
    rw [hm, show ((x : Int) + 1 - 1).toNat = x by omega]
    have := hnn x
    omega
theorem wsL_bd {bs : List PB} {rs : List Int} {l : List St} {x : Int} (h : x ∈ wsL bs rs l) : 0 ≤ x ∧ x < bs.length := by
  obtain ⟨s, _, h2, h3⟩ := wsL_mem.1 h
  have := Cat.Im.mkr_bd s.kind bs 0 (by omega)
  omega
set_option maxRecDepth 100000 in
set_option maxHeartbeats 16000000 in
theorem waits_im (C : CM) (b : Recipe.Bl) (a : Option Addr) (c : Nat) (rs : List Int) (w : World) (h : CatAt w C) (hl : Lim C) (hr : rs.length = C.bn) (hs : IRow w a rs) (hb : BlIn w b) (h12 : b.sm ≤ 12) :
    Calls Try.prog 60 #[.agg #[.int .i64 C.ty, .slice C.ba C.bn C.bc, .int .i64 C.pl, .slice C.ya C.yn C.yc, .int .i64 C.ch, .int .i64 C.f.broker, .int .i64 C.f.least, .int .i64 C.f.sales], .agg #[.int .i64 b.ot, .int .i64 b.per, .int .i64 b.tm, .slice b.sa b.sm b.sc, .int .i64 b.cp, .int .i64 b.st, .int .i64 b.mo], .slice a C.bn c] w fun e w' => ∃ a' c', e = .returned (.slice a' (wsL C.p.bs rs b.s).length c') ∧ Hid (KS w' w.heap.size (.slice a' (wsL C.p.bs rs b.s).length c') (wsL C.p.bs rs b.s) ∧ Below w.heap.size w w') := by
  obtain ⟨V, X, hV, hX, HXB, HP⟩ := box_cat w C
  obtain ⟨U, Y, hU, hY, HYB, HUC⟩ := Recipe.box_blue X b
  have HXY : Hid (Below w.heap.size w Y) := Lib.hid (below_then HXB.out HYB.out)
  have HPE : Hid (∀ W, Below Y.heap.size Y W → W.cell? ⟨V, 0, none⟩ = some (.int .i64 C.ty) ∧ W.cell? ⟨V, 1, none⟩ = some (.slice C.ba C.bn C.bc) ∧ W.cell? ⟨V, 2, none⟩ = some (.int .i64 C.pl) ∧ W.cell? ⟨V, 3, none⟩ = some (.slice C.ya C.yn C.yc) ∧ W.cell? ⟨V, 4, none⟩ = some (.int .i64 C.ch) ∧ W.cell? ⟨V, 5, none⟩ = some (.int .i64 C.f.broker) ∧ W.cell? ⟨V, 6, none⟩ = some (.int .i64 C.f.least) ∧ W.cell? ⟨V, 7, none⟩ = some (.int .i64 C.f.sales)) := Lib.hid fun W hW => HP.out W (below_then HYB.out hW)
  obtain ⟨u0, u1, u2, u3, u4, u5, u6⟩ := HUC.out Y (Below.refl _ _)
  have HMK : Hid (∀ W t z, Below Y.heap.size Y W → mkr t C.p.bs 0 = z → Calls Try.prog 82 #[.agg #[.int .i64 C.ty, .slice C.ba C.bn C.bc, .int .i64 C.pl, .slice C.ya C.yn C.yc, .int .i64 C.ch, .int .i64 C.f.broker, .int .i64 C.f.least, .int .i64 C.f.sales], .int .i64 t] W fun e w' => e = .returned (.int .i64 z) ∧ Hid (Below W.heap.size W w')) := Lib.hid fun W t z hW hz => by
    subst hz
    exact (Cat.Im.maker_im C t W ((h.under HXY.out).under hW) (by have := hl.2.1; omega)).mono fun _ _ ⟨e, h⟩ => ⟨e, Lib.hid h⟩
  have HBI : Hid (BlIn Y b) := Lib.hid (hb.under HXY.out)
  have HT := irow_at (hs.under HXY.out)
  have HL := Lib.hid hr
  have hb1 : C.bn ≤ 20 := hl.2.1
  have hb2 : (C.bn : Int) ≤ 20 := by omega
  have hsm : (b.sm : Int) ≤ 12 := by omega
  have HBN := Lib.hid (blues_len C w h)
  have HBS := Lib.hid hb.1
  clear h hl hr hs hb
  go_enter Try.func60, Try.ntmps60
  go_wp2_with fail
  clear hU hX hV hY u0 u1 u2 u3 u4 u5 u6
  go_loopw [7, 14] (fun v t wr => ∃ (i j : Nat) (a1 : Option Addr) (c1 : Nat), v = .slice a1 j c1 ∧ t = .int .i64 (i : Int) ∧ i ≤ b.sm ∧ j ≤ i ∧ Hid ((wsL C.p.bs rs (b.s.take i)).length = j) ∧ Hid (KS wr Y.heap.size (.slice a1 j c1) (wsL C.p.bs rs (b.s.take i))) ∧ Hid (Below Y.heap.size Y wr)) (fun _ t _ => b.sm - (RowKit.intOf t).toNat)
  case atStart => exact ⟨0, 0, none, 0, rfl, rfl, by omega, by omega, Lib.hid rfl, Lib.hid (World.ownsRow_nil _ _ _ _), Lib.hid (Below.refl _ _)⟩
  case round =>
    obtain ⟨i, j, a1, c1, rfl, rfl, hi, hji, HJ, HK, HW⟩ := hrel
    have hi0 : (0 : Int) ≤ (i : Int) := by omega
    by_cases hlt : i < b.sm
    case neg =>
      obtain rfl : i = b.sm := by omega
      have hd1 : decide (b.sm < b.sm) = false := by simp
      have HE : Hid (b.s.take b.sm = b.s) := Lib.hid (List.take_of_length_le (by rw [HBS.out]; exact Nat.le_refl _))
      rw [HE.out] at HJ HK
      have HF : Hid (KS wr w.heap.size (.slice a1 j c1) (wsL C.p.bs rs b.s)) := Lib.hid (World.ownsRow.mono HK.out HXY.out.size)
      go_wp2_with fail
      go_ret
      refine ⟨a1, c1, by rw [HJ.out]; rfl, Lib.hid ⟨?_, below_then HXY.out HW.out⟩⟩
      rw [HJ.out]
      exact HF.out
    have hlt2 : (i : Int) < (b.sm : Int) := by omega
    have hd1 : decide (i < b.sm) = true := decide_eq_true hlt
    have wi : IntKind.i64.wrap ((i : Int) + 1) = (i : Int) + 1 := IntWalk.i64_in _ (by omega)
    have hil : i < b.s.length := by rw [HBS.out]; exact hlt
    obtain ⟨t, hti⟩ : ∃ t, b.s[i]? = some t := ⟨_, List.getElem?_eq_getElem hil⟩
    obtain ⟨g3, off3, hsa, _, q0, q1⟩ := (HBI.out.under HW.out).2.1 i t hti
    have HTI := Lib.hid (wsL_take (bs := C.p.bs) (rs := rs) hti)
    obtain ⟨Q, Z, hQ, hZ, HZB, HZC⟩ : ∃ Q Z, wr.heap.size = Q ∧ wr.alloc (.cells #[.int .i64 t.kind, .int .i64 t.qty] 79) = Z ∧ Hid (Below wr.heap.size wr Z) ∧ Hid (Z.cell? ⟨Q, 0, none⟩ = some (.int .i64 t.kind)) :=
      ⟨_, _, rfl, rfl, Lib.hid ((Below.refl _ _).alloc (Nat.le_refl _) _), Lib.hid (cell_block (j := 0) (heap_alloc_new _ _) rfl)⟩
    have HYZ : Hid (Below Y.heap.size Y Z) := Lib.hid (below_then HW.out HZB.out)
    obtain ⟨y0, y1, y2, y3, y4, y5, y6, y7⟩ := HPE.out Z HYZ.out
    have z0 := HZC.out
    obtain ⟨mz, hmz⟩ : ∃ mz, mkr t.kind C.p.bs 0 = mz := ⟨_, rfl⟩
    have hmb := Cat.Im.mkr_bd t.kind C.p.bs 0 (by omega)
    rw [hmz, HBN.out] at hmb
    have HMC := Lib.hid (HMK.out Z t.kind mz HYZ.out hmz)
    rw [hmz] at HTI
    clear hmz
    by_cases hm0 : 0 < mz
    case neg =>
      have dm : decide (0 < mz) = false := decide_eq_false hm0
      have HT2 : Hid (wsL C.p.bs rs (b.s.take (i + 1)) = wsL C.p.bs rs (b.s.take i)) := Lib.hid (by rw [HTI.out, if_neg fun h => hm0 h.1])
      rw [← HT2.out] at HJ HK
      rw [hsa]
      clear hm0 hsa hti hil
      go_wp2_with fail
      clear hQ hZ
      refine HMC.out.mono ?_
      rintro e w1 ⟨rfl, H1⟩
      have HW1 : Hid (Below Y.heap.size Y w1) := Lib.hid (below_then HYZ.out H1.out)
      have HK1 : Hid (KS w1 Y.heap.size (.slice a1 j c1) (wsL C.p.bs rs (b.s.take (i + 1)))) := Lib.hid ((HK.out.under HZB.out).under H1.out)
      clear y0 y1 y2 y3 y4 y5 y6 y7 z0 q0 q1
      go_wp2_with fail
      go_roundw
      case rel => exact ⟨i + 1, j, a1, c1, rfl, by go_num, by omega, by omega, HJ, HK1, HW1⟩
      case measure => simp [RowKit.intOf]; omega
    obtain ⟨x, hx⟩ := Int.eq_ofNat_of_zero_le (show 0 ≤ mz - 1 by omega)
    obtain rfl : mz = (x : Int) + 1 := by omega
    have dm : decide (0 < (x : Int) + 1) = true := decide_eq_true hm0
    have hxn : x < C.bn := by omega
    have hx0 : (0 : Int) ≤ (x : Int) := by omega
    have hx1 : (x : Int) < (C.bn : Int) := by omega
    have wx : IntKind.i64.wrap ((x : Int) + 1 - 1) = (x : Int) := by rw [hx]; exact IntWalk.i64_in _ (by omega)
    have HXT : Hid (((x : Int) + 1 - 1).toNat = x ∧ (x : Int) + 1 - 1 = (x : Int)) := Lib.hid ⟨by omega, by omega⟩
    rw [HXT.out.1, HXT.out.2] at HTI
    obtain ⟨g2, off2, r, rfl, hr, r0⟩ := HT.out wr x HW.out (by rw [HL.out]; exact hxn)
    have hgd : rs.getD x 0 = r := by rw [List.getD_eq_getElem?_getD, hr.out]; rfl
    rw [hgd] at HTI
    have HRC : Hid (∀ W, Below Y.heap.size Y W → W.cell? ⟨g2, off2 + x, none⟩ = some (.int .i64 r)) := Lib.hid fun W hW => by
      obtain ⟨g5, off5, r5, e5, hr5, c5⟩ := HT.out W x hW (by rw [HL.out]; exact hxn)
      cases e5
      have e6 := hr5.out
      rw [hr.out] at e6
      cases e6
      exact c5
    by_cases hr0 : 0 < r
    case neg =>
      have dr : decide (0 < r) = false := decide_eq_false hr0
      have HT2 : Hid (wsL C.p.bs rs (b.s.take (i + 1)) = wsL C.p.bs rs (b.s.take i)) := Lib.hid (by rw [HTI.out, if_neg fun h => hr0 h.2])
      rw [← HT2.out] at HJ HK
      rw [hsa]
      clear hm0 hsa hti hil hr0 hgd r0 hx hmb
      go_wp2_with fail
      clear hQ hZ
      refine HMC.out.mono ?_
      rintro e w1 ⟨rfl, H1⟩
      have HW1 : Hid (Below Y.heap.size Y w1) := Lib.hid (below_then HYZ.out H1.out)
      have HK1 : Hid (KS w1 Y.heap.size (.slice a1 j c1) (wsL C.p.bs rs (b.s.take (i + 1)))) := Lib.hid ((HK.out.under HZB.out).under H1.out)
      clear y0 y1 y2 y3 y4 y5 y6 y7 z0 q0 q1
      have r1 := HRC.out w1 HW1.out
      go_wp2_with fail
      go_roundw
      case rel => exact ⟨i + 1, j, a1, c1, rfl, by go_num, by omega, by omega, HJ, HK1, HW1⟩
      case measure => simp [RowKit.intOf]; omega
    have dr : decide (0 < r) = true := decide_eq_true hr0
    have HT2 : Hid (wsL C.p.bs rs (b.s.take (i + 1)) = wsL C.p.bs rs (b.s.take i) ++ [(x : Int)]) := Lib.hid (by rw [HTI.out, if_pos ⟨hm0, hr0⟩])
    have HJ2 : Hid ((wsL C.p.bs rs (b.s.take (i + 1))).length = j + 1) := Lib.hid (by rw [HT2.out, List.length_append, HJ.out]; rfl)
    rw [hsa]
    clear hm0 hsa hti hil hr0 hgd r0 hx hmb
    go_wp2_with fail
    clear hQ hZ
    refine HMC.out.mono ?_
    rintro e w1 ⟨rfl, H1⟩
    have HW1 : Hid (Below Y.heap.size Y w1) := Lib.hid (below_then HYZ.out H1.out)
    obtain ⟨bb, cap, W2, hrn, h2, h3, _⟩ := app_int w1 Y.heap.size _ _ (x : Int) ((HK.out.under HZB.out).under H1.out) (by rw [HJ.out]; omega) HW1.out.size
    rw [HJ.out] at hrn
    have HR := Lib.hid hrn
    have HK2 : Hid (KS W2 Y.heap.size (.slice (some ⟨bb, 0, none⟩) (j + 1) cap) (wsL C.p.bs rs (b.s.take (i + 1)))) := Lib.hid (by rw [HT2.out, ← HJ.out]; exact h2)
    have HB2 : Hid (Below Y.heap.size Y W2) := Lib.hid (HW1.out.trans h3)
    clear hrn h2 h3 y0 y1 y2 y3 y4 y5 y6 y7 z0 q0 q1
    have r1 := HRC.out w1 HW1.out
    go_wp2_with (at_builtin; refine walk_run (v' := .slice (some ⟨bb, 0, none⟩) (j + 1) cap) (w' := W2) rfl _ _ _ _ rfl _ _ rfl rfl ?_ ?_; exact HR.out)
    go_roundw
    case rel => exact ⟨i + 1, j + 1, _, cap, rfl, by go_num, by omega, by omega, HJ2, HK2, HB2⟩
    case measure => simp [RowKit.intOf]; omega
end Go.Proofs.Ytdbhdlgoecpeaaa.Quo.Im
