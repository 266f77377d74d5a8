/- The program's Fits: the walk. -/
import Derived.Test.YtohlkaoophbinaaZBomImG
import Derived.Test.YtohlkaoophbinaaZBomImW
import Derived.Deep.RegionWith
namespace Go.Proofs.Ytohlkaoophbinaa.Bom.Im
open Go.RowKit Go.Lib IRows
open Goods (St Sts OwnS cnt)
open Cat (Cat PB CM CatAt Lim I64 pOf box_cat)
open Recipe (needsE needsL needL up nd BlIn)
open Graph.Im (Gr gr_below gr_setP gr_drew)

open Classical in
set_option maxRecDepth 100000 in
set_option maxHeartbeats 16000000 in
theorem fits_im (C : CM) (k n lv : Int) (a : Option Addr) (m c : Nat) (raw : List St) (ra : Option Addr) (rm rc : Nat) (rs : List Int) (w : World) (h : CatAt w C) (hl : Lim C) (hm : raw.length = m) (hs : Sts w a raw) (h4 : m ≤ 1000) (hr : rs.length = rm) (hrs : IRow w ra rs) (hrm : rm ≤ 1000) :
    Calls Try.prog 16 #[C.v, .int .i64 k, .int .i64 n, .int .i64 lv, .slice a m c, .slice ra rm rc] w fun e w' => e = .returned (.bool (decide (FitsP C.p k n lv raw rs))) ∧ Below w.heap.size w w' := by
  obtain ⟨V, X, hV, hX, HXB, HP⟩ := box_cat w C
  have HPE : Hid (∀ W, Below X.heap.size X W → W.cell? ⟨V, 0, none⟩ = some (.int .i64 C.ty) ∧ W.cell? ⟨V, 1, none⟩ = some (.slice C.ba C.bn C.bc) ∧ W.cell? ⟨V, 2, none⟩ = some (.int .i64 C.pl) ∧ W.cell? ⟨V, 3, none⟩ = some (.slice C.ya C.yn C.yc) ∧ W.cell? ⟨V, 4, none⟩ = some (.int .i64 C.ch) ∧ W.cell? ⟨V, 5, none⟩ = some (.int .i64 C.f.broker) ∧ W.cell? ⟨V, 6, none⟩ = some (.int .i64 C.f.least) ∧ W.cell? ⟨V, 7, none⟩ = some (.int .i64 C.f.sales)) := Lib.hid fun W hW => HP.out W hW
  obtain ⟨k0, k1, k2, k3, k4, k5, k6, k7⟩ := HPE.out X (Below.refl _ _)
  obtain ⟨er, her⟩ : ∃ er, Cat.chkC C.p = er := ⟨_, rfl⟩
  have HM : Hid (Calls Try.prog 43 #[.agg #[.int .i64 C.ty, .slice C.ba C.bn C.bc, .int .i64 C.pl, .slice C.ya C.yn C.yc, .int .i64 C.ch, .int .i64 C.f.broker, .int .i64 C.f.least, .int .i64 C.f.sales]] X fun e w' => e = .returned (.int .i64 er) ∧ Hid (Below X.heap.size X w')) := Lib.hid (by
    rw [← her]
    exact (Cat.Im.check_im C X (h.under HXB.out) hl).mono fun _ _ ⟨e, h⟩ => ⟨e, Lib.hid h⟩)
  have HNO : Hid (∀ W, Below X.heap.size X W → Below w.heap.size w W) := Lib.hid fun W hW => below_then HXB.out hW
  obtain ⟨ta, HA0, EA⟩ := ask_at C k n lv a m c raw X hm (hs.under HXB.out) h4
  have HAS : Hid (∀ W, Below X.heap.size X W → Calls Try.prog 23 #[.agg #[.int .i64 C.ty, .slice C.ba C.bn C.bc, .int .i64 C.pl, .slice C.ya C.yn C.yc, .int .i64 C.ch, .int .i64 C.f.broker, .int .i64 C.f.least, .int .i64 C.f.sales], .int .i64 k, .int .i64 n, .int .i64 lv, .slice a m c] W fun e w' => e = .returned (.bool ta) ∧ Hid (Below X.heap.size X w')) := Lib.hid fun W hW => (HA0.out W hW).mono fun _ _ ⟨e, h⟩ => ⟨e, Lib.hid (below_then hW h.out)⟩
  obtain ⟨tr, HR0, ER⟩ := runs_at C ra rm rc rs X h.1.1 hl.2.1 hr (hrs.under HXB.out) hrm
  have HRU : Hid (∀ W, Below X.heap.size X W → Calls Try.prog 37 #[.agg #[.int .i64 C.ty, .slice C.ba C.bn C.bc, .int .i64 C.pl, .slice C.ya C.yn C.yc, .int .i64 C.ch, .int .i64 C.f.broker, .int .i64 C.f.least, .int .i64 C.f.sales], .slice ra rm rc] W fun e w' => e = .returned (.bool tr) ∧ Hid (Below X.heap.size X w')) := Lib.hid fun W hW => (HR0.out W hW).mono fun _ _ ⟨e, h⟩ => ⟨e, Lib.hid (below_then hW h.out)⟩
  have HB := Cat.blue_at (h.under HXB.out)
  have HSM : Hid (∀ b ∈ C.bs, b.sm ≤ 12) := Lib.hid hl.1
  have HBN : Hid (C.p.bs.length = C.bn) := Lib.hid (by unfold CM.p; rw [List.length_map]; exact h.1.1)
  have HBP : Hid (∀ (i : Nat) (b : Recipe.Bl), C.bs[i]? = some b → C.p.bs[i]? = some (pOf b)) := Lib.hid fun i b h => by unfold CM.p; simp [h]
  have hb1 : C.bn ≤ 20 := hl.2.1
  have HT := irow_at (hrs.under HXB.out)
  have HL := Lib.hid hr
  have HSX : Hid (raw.length = m ∧ Sts X a raw ∧ m ≤ 1000) := Lib.hid ⟨hm, hs.under HXB.out, h4⟩
  clear h hl hs hrs hr HR0 HA0
  by_cases he : er = 0
  case neg =>
    have n1 : (er == 0) = false := by simpa using he
    have n2 : (er != 0) = true := by simpa using he
    have HF : Hid (¬ FitsP C.p k n lv raw rs) := Lib.hid fun h => he (by rw [← her]; exact (mayE_zero h.1).1)
    clear her
    go_enter Try.func16, Try.ntmps16
    go_wp2_with fail
    clear hX hV
    refine HM.out.mono ?_
    rintro e w1 ⟨rfl, H1⟩
    go_wp2_with fail
    go_ret
    exact ⟨by rw [decide_eq_false HF.out]; rfl, HNO.out _ H1.out⟩
  subst he
  rcases ta with _ | _
  · have HF : Hid (¬ FitsP C.p k n lv raw rs) := Lib.hid fun h => by
      have hz := mayE_zero h.1
      have := EA.out.2 ⟨hz.2.1, h.2.1, hz.2.2.1, hz.2.2.2⟩
      cases this
    clear her
    go_enter Try.func16, Try.ntmps16
    go_wp2_with fail
    clear hX hV
    refine HM.out.mono ?_
    rintro e w1 ⟨rfl, H1⟩
    obtain ⟨y0, y1, y2, y3, y4, y5, y6, y7⟩ := HPE.out w1 H1.out
    clear k0 k1 k2 k3 k4 k5 k6 k7
    go_wp2_with fail
    refine (HAS.out w1 H1.out).mono ?_
    rintro e w2 ⟨rfl, H2⟩
    go_wp2_with fail
    go_ret
    exact ⟨by rw [decide_eq_false HF.out]; rfl, HNO.out _ H2.out⟩
  rcases tr with _ | _
  · have HF : Hid (¬ FitsP C.p k n lv raw rs) := Lib.hid fun h => by
      have := ER.out.2 h.2.2.1
      cases this
    clear her
    go_enter Try.func16, Try.ntmps16
    go_wp2_with fail
    clear hX hV
    refine HM.out.mono ?_
    rintro e w1 ⟨rfl, H1⟩
    obtain ⟨y0, y1, y2, y3, y4, y5, y6, y7⟩ := HPE.out w1 H1.out
    clear k0 k1 k2 k3 k4 k5 k6 k7
    go_wp2_with fail
    refine (HAS.out w1 H1.out).mono ?_
    rintro e w2 ⟨rfl, H2⟩
    clear y0 y1 y2 y3 y4 y5 y6 y7
    obtain ⟨y0, y1, y2, y3, y4, y5, y6, y7⟩ := HPE.out w2 H2.out
    go_wp2_with fail
    refine (HRU.out w2 H2.out).mono ?_
    rintro e w3 ⟨rfl, H3⟩
    go_wp2_with fail
    go_ret
    exact ⟨by rw [decide_eq_false HF.out]; rfl, HNO.out _ H3.out⟩
  have hk : RunsOk C.p rs := ER.out.1 rfl
  have hask := EA.out.1 rfl
  have HOK := Lib.hid (Cat.chk_zero her)
  have HMAY : Hid (mayE C.p k lv raw = 0) := Lib.hid (mayE_ok her hask.1 hask.2.2.1 hask.2.2.2)
  have HLVB : Hid (0 ≤ lv ∧ lv ≤ 10) := Lib.hid hask.2.2.1
  have HNB : Hid (1 ≤ n ∧ n ≤ Recipe.mq) := Lib.hid hask.2.1
  have hnb : 1 ≤ n ∧ n ≤ 1125899906842624 := hask.2.1
  have HLI : Hid (Goods.Listed raw C.ty) := Lib.hid hask.2.2.2
  have HRK := Lib.hid hk
  have HNN : Hid (∀ r ∈ rs, 0 ≤ r ∧ r ≤ 1000) := Lib.hid hk.2
  have hty : C.ty ≤ 32 := HOK.out.1.1.2
  obtain ⟨K, rfl⟩ := Int.eq_ofNat_of_zero_le (show 0 ≤ k by have := hask.1; omega)
  have HK33 : Hid (K < 33) := Lib.hid (by have := hask.1; omega)
  have hK0 : (0 : Int) ≤ (K : Int) := by omega
  have hK33 : (K : Int) < 33 := by have := hask.1; omega
  obtain rfl : rm = C.bn := by rw [← HL.out, hk.1, HBN.out]
  have HCO : Hid (∀ W, Below X.heap.size X W → Calls Try.prog 24 #[.slice a m c] W fun e w' => e = .returned (.agg (rowL (cnt raw)).toArray) ∧ Hid (Below X.heap.size X w')) := Lib.hid fun W hW => (count_im a m c raw C.ty W HSX.out.1 (HSX.out.2.1.under hW) HLI.out HOK.out.1.1.2).mono fun _ _ ⟨e, h⟩ => ⟨e, Lib.hid (below_then hW h.out)⟩
  obtain ⟨cs, hcs⟩ : ∃ cs, rowL (cnt raw) = cs := ⟨_, rfl⟩
  rw [hcs] at HCO
  have HCS := Lib.hid hcs
  have hz := (zero_of_info info33).1
  obtain ⟨Z, hZ⟩ : ∃ Z, (Array.replicate 33 (.int .i64 0) : Array Value) = Z := ⟨_, rfl⟩
  rw [hZ] at hz
  have hZs : Z.size = 33 := by rw [← hZ]; exact Array.size_replicate
  have hlen : cs.length = 33 := by rw [← hcs]; exact rowL_len _
  have hone : cs.toArray.all (·.oneCell') = true := all_oneCell_toArray (by rw [← hcs]; exact rowL_one _)
  have hcz : cs.toArray.size = 33 := by rw [List.size_toArray]; exact hlen
  have HST : Hid (∀ W : World, (storeCells ⟨W.heap.size, 0, none⟩ cs 0).run Try.prog (W.alloc (.cells Z 62)) = .ok () (W.alloc (.cells cs.toArray 62))) := Lib.hid fun W => by
    have := run_storeCells_new (P := Try.prog) W 62 Z cs.toArray (by rw [hcz]; exact size33) (by rw [hZs, hcz]) hone
    exact this
  clear her hk hask hty hZ hcs hone
  go_enter Try.func16, Try.ntmps16
  go_wp2_with fail
  clear hX hV
  refine HM.out.mono ?_
  rintro e w1 ⟨rfl, H1⟩
  obtain ⟨y0, y1, y2, y3, y4, y5, y6, y7⟩ := HPE.out w1 H1.out
  clear k0 k1 k2 k3 k4 k5 k6 k7
  go_wp2_with fail
  refine (HAS.out w1 H1.out).mono ?_
  rintro e w2 ⟨rfl, H2⟩
  clear y0 y1 y2 y3 y4 y5 y6 y7
  obtain ⟨y0, y1, y2, y3, y4, y5, y6, y7⟩ := HPE.out w2 H2.out
  go_wp2_with fail
  refine (HRU.out w2 H2.out).mono ?_
  rintro e w3 ⟨rfl, H3⟩
  clear y0 y1 y2 y3 y4 y5 y6 y7
  go_wp2_with fail
  refine (HCO.out w3 H3.out).mono ?_
  rintro e w4 ⟨rfl, H4⟩
  obtain ⟨A, W5, hA, hW5, H5⟩ := box_rw w4 (cnt raw) cs HCS.out 62
  have hst := HST.out w4
  rw [hW5, hA] at hst
  have HSZ : Hid (w4.heap.size = A ∧ W5.heap.size = A + 1 ∧ X.heap.size ≤ A) := Lib.hid ⟨hA, H5.out.2.1, by rw [← hA]; exact H4.out.size⟩
  have HX5 : Hid (Below X.heap.size X W5) := Lib.hid (below_then H4.out H5.out.1)
  obtain ⟨x0, x1⟩ := H5.out.2.2 K HK33.out
  rw [Nat.zero_add] at x0 x1
  obtain ⟨cv, hcv⟩ : ∃ cv, cnt raw (K : Int) = cv := ⟨_, rfl⟩
  rw [hcv] at x0
  have hcvb : 0 ≤ cv ∧ cv ≤ 1125899906842624 := by
    rw [← hcv]
    refine ⟨Goods.cnt_nonneg (qty_listed HLI.out) _, ?_⟩
    by_cases hx : 0 < cnt raw (K : Int)
    · by_cases hq : ∃ s ∈ raw, s.kind = (K : Int)
      · obtain ⟨s, hs, e⟩ := hq
        rw [← e, Goods.cnt_at (listed_norm HLI.out).rise hs]
        exact (Goods.Im.listed_iff.1 HLI.out).2.2.1 s hs
      · rw [Goods.cnt_none fun s hs e => hq ⟨s, hs, e⟩]
        omega
    · omega
  have wcv : IntKind.i64.wrap (cv - n) = cv - n := IntWalk.i64_in _ (by omega)
  have HW6 : Hid (Below X.heap.size X (W5.setCell ⟨A, K, none⟩ (.int .i64 (cv - n))) ∧ A < (W5.setCell ⟨A, K, none⟩ (.int .i64 (cv - n))).heap.size ∧ RI (W5.setCell ⟨A, K, none⟩ (.int .i64 (cv - n))) A 0 (spF C.p.bs raw (K : Int) n lv rs 0)) := Lib.hid (by
    have hz := HSZ.out
    refine ⟨HX5.out.setCell (p := ⟨A, K, none⟩) hz.2.2 _, by simp [World.setCell]; omega, ?_⟩
    have h5 := H5.out.2.2.set K (cv - n)
    rw [Nat.zero_add] at h5
    refine h5.congr fun x _ => ?_
    rw [sp_zero, hcv])
  clear hcv hcvb
  go_upto_region 5 with fail
  clear hW5 hA hz hZs hst hcz hlen x0 x1 wcv
  obtain ⟨W6, hW6⟩ : ∃ W6, W5.setCell ⟨A, K, none⟩ (.int .i64 (cv - n)) = W6 := ⟨_, rfl⟩
  rw [hW6] at HW6 ⊢
  clear hW6
  obtain ⟨y0, y1, y2, y3, y4, y5, y6, y7⟩ := HPE.out W6 HW6.out.1
  have HBD0 : Hid (Bd 0 (spF C.p.bs raw (K : Int) n lv rs 0)) := Lib.hid fun t => by
    have hn := HNB.out
    have hq : 0 ≤ cnt raw t ∧ cnt raw t ≤ 1125899906842624 := by
      refine ⟨Goods.cnt_nonneg (qty_listed HLI.out) _, ?_⟩
      by_cases hq : ∃ s ∈ raw, s.kind = t
      · obtain ⟨s, hs, e⟩ := hq
        rw [← e, Goods.cnt_at (listed_norm HLI.out).rise hs]
        exact (Goods.Im.listed_iff.1 HLI.out).2.2.1 s hs
      · rw [Goods.cnt_none fun s hs e => hq ⟨s, hs, e⟩]
        omega
    have h2 : n ≤ 1125899906842624 := hn.2
    unfold spF
    simp only [List.take_zero, mS, nS]
    split <;> omega
  go_wp2_with fail
  clear y0 y1 y2 y3 y4 y5 y6 y7
  go_loopw [50] (fun v wr => ∃ i : Nat, v = .int .i64 (i : Int) ∧ i ≤ C.bn ∧ Hid (Below X.heap.size X wr ∧ A < wr.heap.size ∧ RI wr A 0 (spF C.p.bs raw (K : Int) n lv rs i)) ∧ Hid (Bd i (spF C.p.bs raw (K : Int) n lv rs i) ∧ ∀ (j : Nat) (b : PB) (r : Int), j < i → C.p.bs[j]? = some b → rs[j]? = some r → r ≠ 0 → needsE b.b lv r = 0)) (fun v _ => C.bn - (RowKit.intOf v).toNat)
  case atStart => exact ⟨0, rfl, by omega, HW6, Lib.hid ⟨HBD0.out, fun j b r h => absurd h (by omega)⟩⟩
  case round =>
    obtain ⟨i, rfl, hi, HI, HJ⟩ := hrel
    have hi0 : (0 : Int) ≤ (i : Int) := by omega
    by_cases hlt : i < C.bn
    · have hlt2 : (i : Int) < (C.bn : Int) := by omega
      have hd1 : decide (i < C.bn) = true := decide_eq_true hlt
      have wi : IntKind.i64.wrap ((i : Int) + 1) = (i : Int) + 1 := IntWalk.i64_in _ (by omega)
      obtain ⟨y0, y1, y2, y3, y4, y5, y6, y7⟩ := HPE.out wr HI.out.1
      obtain ⟨g, off, b, hba, ht, q0, q1, q2, q3, q4, q5, q6⟩ := HB.out wr i HI.out.1 hlt
      obtain ⟨U, Y, hU, hY, HUY, HUC⟩ := box_at wr b
      have HUW : Hid (A < U ∧ U < Y.heap.size) := Lib.hid ⟨by have := HI.out.2.1; omega, HUY.out.2⟩
      have HY1 : Hid (Below X.heap.size X Y) := Lib.hid (below_then HI.out.1 HUY.out.1)
      have HYI : Hid (∀ W, Below Y.heap.size Y W → RI W A 0 (spF C.p.bs raw (K : Int) n lv rs i) ∧ Below X.heap.size X W ∧ A < W.heap.size) := Lib.hid fun W hW => by
        have hb := below_then HUY.out.1 hW
        exact ⟨HI.out.2.2.under HI.out.2.1 hb, below_then HI.out.1 hb, Nat.lt_of_lt_of_le HI.out.2.1 hb.size⟩
      obtain ⟨g2, off2, r, rfl, hr, z0⟩ := HT.out Y i HY1.out (by rw [HL.out]; exact hlt)
      have hrb := HNN.out r (List.mem_of_getElem? hr.out)
      have HPB := Lib.hid (HBP.out i b ht.out.1)
      by_cases c1 : r = 0
      · have d1 : (r == 0) = true := by simpa using c1
        have HI2 : Hid (Below X.heap.size X Y ∧ A < Y.heap.size ∧ RI Y A 0 (spF C.p.bs raw (K : Int) n lv rs (i + 1))) := Lib.hid ⟨HY1.out, (HYI.out Y (Below.refl _ _)).2.2, (HYI.out Y (Below.refl _ _)).1.congr fun x _ => by
          rw [sp_skip HPB.out (by rw [← c1]; exact hr.out)]⟩
        have HJ2 : Hid (Bd (i + 1) (spF C.p.bs raw (K : Int) n lv rs (i + 1)) ∧ ∀ (j : Nat) (b : PB) (r : Int), j < i + 1 → C.p.bs[j]? = some b → rs[j]? = some r → r ≠ 0 → needsE b.b lv r = 0) := Lib.hid ⟨fun t => by
          rw [sp_skip HPB.out (by rw [← c1]; exact hr.out)]
          exact HJ.out.1.more t, fun j b2 r2 hj h1 h2 h3 => by
          by_cases e : j = i
          · subst e
            rw [hr.out] at h2
            injection h2 with h2
            exact absurd (h2.symm.trans c1) h3
          · exact HJ.out.2 j b2 r2 (by omega) h1 h2 h3⟩
        rw [hba]
        clear hba c1
        go_wp2_with fail
        clear hY hU
        go_roundw
        case rel => exact ⟨i + 1, by go_num, by omega, HI2, HJ2⟩
        case measure => simp [RowKit.intOf]; omega
      have d1 : (r == 0) = false := by simpa using c1
      have h12 : b.sm ≤ 12 := HSM.out b (List.mem_of_getElem? ht.out.1)
      have HBI : Hid (BlIn Y b) := Lib.hid (by
        have h1 : BlIn wr b := ⟨ht.out.2.1, ht.out.2.2, by omega⟩
        exact h1.under HUY.out.1)
      have HBK : Hid (Recipe.BlOk b C.ty) := Lib.hid (HOK.out.2.1 (pOf b) (List.mem_of_getElem? HPB.out))
      have HR0 : Hid (1 ≤ r ∧ r ≤ 1000) := Lib.hid ⟨by omega, hrb.2⟩
      obtain ⟨ne, hne⟩ : ∃ ne, needsE b lv r = ne := ⟨_, rfl⟩
      have HNE2 := Lib.hid hne
      have HTI : Hid (Calls Try.prog 45 #[.agg #[.int .i64 b.ot, .int .i64 b.per, .int .i64 b.tm, .slice b.sa b.sm b.sc, .int .i64 b.cp, .int .i64 b.st, .int .i64 b.mo], .int .i64 lv, .int .i64 r] Y.drew fun e w' => ∃ a' m' c', e = .returned (.tuple #[.slice a' m' c', .int .i64 ne]) ∧ Hid (OwnS w' Y.heap.size (.slice a' m' c') (Recipe.needsL b lv r) ∧ Below Y.heap.size Y w')) := Lib.hid (by
        rw [← hne]
        refine (Recipe.Im.needs_im b lv r Y.drew (HBI.out.under (Below.refl _ Y).drew)).mono ?_
        rintro e w' ⟨a', m', c', rfl, H⟩
        exact ⟨a', m', c', rfl, Lib.hid ⟨H.out.1, ((Below.refl _ Y).drew).trans H.out.2⟩⟩)
      have HCS2 : Hid (∀ W, Below Y.heap.size Y W → (W.cell? ⟨U, 0, none⟩ = some (.int .i64 b.ot) ∧ W.cell? ⟨U, 1, none⟩ = some (.int .i64 b.per) ∧ W.cell? ⟨U, 2, none⟩ = some (.int .i64 b.tm) ∧ W.cell? ⟨U, 3, none⟩ = some (.slice b.sa b.sm b.sc) ∧ W.cell? ⟨U, 4, none⟩ = some (.int .i64 b.cp) ∧ W.cell? ⟨U, 5, none⟩ = some (.int .i64 b.st) ∧ W.cell? ⟨U, 6, none⟩ = some (.int .i64 b.mo)) ∧ W.cell? ⟨g2, off2 + i, none⟩ = some (.int .i64 r)) := Lib.hid (fun W hW => by
        obtain ⟨g5, off5, r5, e5, hr5, c5⟩ := HT.out W i (below_then HY1.out hW) (by rw [HL.out]; exact hlt)
        cases e5
        have e6 := hr5.out
        rw [hr.out] at e6
        cases e6
        exact ⟨HUC.out W hW, c5⟩)
      rw [hba]
      clear c1 hrb hba hne
      go_upto_region 9 with fail
      clear hY hU y0 y1 y2 y3 y4 y5 y6 y7 q0 q1 q2 q3 q4 q5 q6 z0
      go_region_held3 (fun W => (W.cell? ⟨U, 0, none⟩ = some (.int .i64 b.ot) ∧ W.cell? ⟨U, 1, none⟩ = some (.int .i64 b.per) ∧ W.cell? ⟨U, 2, none⟩ = some (.int .i64 b.tm) ∧ W.cell? ⟨U, 3, none⟩ = some (.slice b.sa b.sm b.sc) ∧ W.cell? ⟨U, 4, none⟩ = some (.int .i64 b.cp) ∧ W.cell? ⟨U, 5, none⟩ = some (.int .i64 b.st) ∧ W.cell? ⟨U, 6, none⟩ = some (.int .i64 b.mo)) ∧ W.cell? ⟨g2, off2 + i, none⟩ = some (.int .i64 r))
        (first | exact HCS2.out _ (Below.refl _ Y).drew | exact HCS2.out _ H6.out.2)
        (first
          | (go_at_call 45; refine HTI.out.mono ?_; rintro e w6 ⟨a6, n6, c6, rfl, H6⟩))
      by_cases e1 : ne = 0
      case neg =>
        have e2 : (ne == 0) = false := by simpa using e1
        have e3 : (ne != 0) = true := by simpa using e1
        have HF : Hid (¬ FitsP C.p (K : Int) n lv raw rs) := Lib.hid fun h => e1 (by
          rw [← HNE2.out]
          exact h.2.2.2.1 i (pOf b) r HPB.out hr.out (by have := HR0.out; omega))
        have HXE := Lib.hid (below_then HY1.out H6.out.2)
        clear e1
        go_wp2_with fail
        go_ret
        exact ⟨by rw [decide_eq_false HF.out]; rfl, HNO.out _ HXE.out⟩
      subst e1
      obtain ⟨mq, hmq⟩ : ∃ mq, b.per * r = mq := ⟨_, rfl⟩
      have HMQ := Lib.hid hmq
      have HMA : Hid (∀ W, Below w6.heap.size w6 W → Calls Try.prog 46 #[.agg #[.int .i64 b.ot, .int .i64 b.per, .int .i64 b.tm, .slice b.sa b.sm b.sc, .int .i64 b.cp, .int .i64 b.st, .int .i64 b.mo], .int .i64 r] W fun e w' => e = .returned (.tuple #[.agg #[.int .i64 b.ot, .int .i64 mq], .int .i64 0]) ∧ Hid (Below W.heap.size W w')) := Lib.hid fun W hW => by
        have h1 := Recipe.Im.makes_im b r W (HBI.out.under (below_then H6.out.2 hW))
        obtain ⟨e1, e2⟩ := Recipe.makes_ok (blok_32 HBK.out) HR0.out
        rw [e1, e2] at h1
        rw [← hmq]
        exact h1.mono fun _ _ ⟨e, h⟩ => ⟨e, Lib.hid h⟩
      clear hmq
      have HCS6 : Hid (∀ W, Below w6.heap.size w6 W → (W.cell? ⟨U, 0, none⟩ = some (.int .i64 b.ot) ∧ W.cell? ⟨U, 1, none⟩ = some (.int .i64 b.per) ∧ W.cell? ⟨U, 2, none⟩ = some (.int .i64 b.tm) ∧ W.cell? ⟨U, 3, none⟩ = some (.slice b.sa b.sm b.sc) ∧ W.cell? ⟨U, 4, none⟩ = some (.int .i64 b.cp) ∧ W.cell? ⟨U, 5, none⟩ = some (.int .i64 b.st) ∧ W.cell? ⟨U, 6, none⟩ = some (.int .i64 b.mo)) ∧ W.cell? ⟨g2, off2 + i, none⟩ = some (.int .i64 r)) := Lib.hid fun W hW => HCS2.out W (below_then H6.out.2 hW)
      have HDR : Hid (Below w6.heap.size w6 w6.drew) := Lib.hid (Below.refl _ w6).drew
      have HDA : Hid (∀ o, Below w6.heap.size w6 (w6.alloc o).drew) := Lib.hid fun o => ((Below.refl _ w6).alloc (Nat.le_refl _) o).drew
      have HZ2 : Hid (∀ w7, Below (w6.alloc (.cells #[.int .i64 0, .int .i64 0] 51)).drew.heap.size (w6.alloc (.cells #[.int .i64 0, .int .i64 0] 51)).drew w7 → w7.cell? ⟨w6.heap.size, 0, none⟩ = some (.int .i64 0) ∧ w7.cell? ⟨w6.heap.size, 1, none⟩ = some (.int .i64 0) ∧ w7.frozen? ⟨w6.heap.size, 0, none⟩ = false ∧ w7.frozen? ⟨w6.heap.size, 1, none⟩ = false) := Lib.hid fun w7 h7 => by
        have h0 : (w6.alloc (.cells #[.int .i64 0, .int .i64 0] 51)).drew.heap[w6.heap.size]? = some (.cells #[.int .i64 0, .int .i64 0] 51 (0, 0)) := heap_alloc_new w6 (.cells #[.int .i64 0, .int .i64 0] 51)
        have h1 := (h7.block _ (Array.getElem?_eq_some_iff.1 h0).1).trans h0
        exact ⟨cell_block (j := 0) h1 rfl, cell_block (j := 1) h1 rfl, free_block 0 h1, free_block 1 h1⟩
      go_upto_region 12 with fail
      go_region_held3 (fun W => (W.cell? ⟨U, 0, none⟩ = some (.int .i64 b.ot) ∧ W.cell? ⟨U, 1, none⟩ = some (.int .i64 b.per) ∧ W.cell? ⟨U, 2, none⟩ = some (.int .i64 b.tm) ∧ W.cell? ⟨U, 3, none⟩ = some (.slice b.sa b.sm b.sc) ∧ W.cell? ⟨U, 4, none⟩ = some (.int .i64 b.cp) ∧ W.cell? ⟨U, 5, none⟩ = some (.int .i64 b.st) ∧ W.cell? ⟨U, 6, none⟩ = some (.int .i64 b.mo)) ∧ W.cell? ⟨g2, off2 + i, none⟩ = some (.int .i64 r))
        (first | exact HCS6.out _ HDR.out | exact HCS6.out _ (HDA.out _) | exact HCS6.out _ (below_then HDR.out H7.out) | exact HCS6.out _ (below_then (HDA.out _) H7.out) | exact HCS6.out _ ((below_then HDR.out H7.out).alloc (below_then HDR.out H7.out).size _) | exact HCS6.out _ ((below_then (HDA.out _) H7.out).setCell (p := ⟨w6.heap.size, 0, none⟩) (Nat.le_refl _) _) | exact HCS6.out _ (((below_then (HDA.out _) H7.out).setCell (p := ⟨w6.heap.size, 0, none⟩) (Nat.le_refl _) _).setCell (p := ⟨w6.heap.size, 1, none⟩) (Nat.le_refl _) _))
        (first
          | (go_at_call 46; with_reducible (refine (HMA.out _ HDR.out).mono ?_); rintro e w7 ⟨rfl, H7⟩)
          | (go_at_call 46; with_reducible (refine (HMA.out _ (HDA.out _)).mono ?_); rintro e w7 ⟨rfl, H7⟩; obtain ⟨v0, v1, v2, v3⟩ := HZ2.out w7 H7.out))
      all_goals
        first
          | (obtain ⟨D, W9, HD, hD, hW9⟩ : ∃ D W9, Hid (Below w6.heap.size w6 W9 ∧ w6.heap.size ≤ D ∧ D < W9.heap.size ∧ W9.cell? ⟨D, 0, none⟩ = some (.int .i64 b.ot) ∧ W9.cell? ⟨D, 1, none⟩ = some (.int .i64 mq)) ∧ w7.heap.size = D ∧ w7.alloc (.cells #[.int .i64 b.ot, .int .i64 mq] 51) = W9 := by
               have hb := below_then HDR.out H7.out
               have h0 := heap_alloc_new w7 (.cells #[.int .i64 b.ot, .int .i64 mq] 51)
               exact ⟨w7.heap.size, w7.alloc (.cells #[.int .i64 b.ot, .int .i64 mq] 51), Lib.hid ⟨hb.alloc hb.size _, hb.size, by simp, cell_block (j := 0) h0 rfl, cell_block (j := 1) h0 rfl⟩, rfl, rfl⟩
             rw [hW9, hD]
             clear hW9 hD)
          | (obtain ⟨D, W9, HD, hD, hW9⟩ : ∃ D W9, Hid (Below w6.heap.size w6 W9 ∧ w6.heap.size ≤ D ∧ D < W9.heap.size ∧ W9.cell? ⟨D, 0, none⟩ = some (.int .i64 b.ot) ∧ W9.cell? ⟨D, 1, none⟩ = some (.int .i64 mq)) ∧ w6.heap.size = D ∧ (w7.setCell ⟨w6.heap.size, 0, none⟩ (.int .i64 b.ot)).setCell ⟨w6.heap.size, 1, none⟩ (.int .i64 mq) = W9 := by
               have h7 := HZ2.out w7 H7.out
               have hb := below_then (HDA.out _) H7.out
               have h75 : (w7.setCell ⟨w6.heap.size, 0, none⟩ (.int .i64 b.ot)).cell? ⟨w6.heap.size, 1, none⟩ = some (.int .i64 0) := by
                 rw [World.cell?_setCell_other (h := addr_ne (.inr (by decide)))]
                 exact h7.2.1
               refine ⟨w6.heap.size, (w7.setCell ⟨w6.heap.size, 0, none⟩ (.int .i64 b.ot)).setCell ⟨w6.heap.size, 1, none⟩ (.int .i64 mq), Lib.hid ⟨(hb.setCell (p := ⟨w6.heap.size, 0, none⟩) (Nat.le_refl _) (.int .i64 b.ot)).setCell (p := ⟨w6.heap.size, 1, none⟩) (Nat.le_refl _) (.int .i64 mq), Nat.le_refl _, ?_, ?_, ?_⟩, rfl, rfl⟩
               · have h8 := H7.out.size
                 simp [World.setCell] at h8 ⊢
                 omega
               · rw [World.cell?_setCell_other (h := addr_ne (.inr (by decide))), World.cell?_setCell_same (h := h7.1)]
               · rw [World.cell?_setCell_same (h := h75)]
             rw [hW9, hD]
             clear hW9 hD v0 v1 v2 v3)
        have HDD : Hid (D ≠ A) := Lib.hid (by have h1 := HD.out.2.1; have h2 := H6.out.2.size; have h3 := HUW.out; omega)
        have HBW9 := Lib.hid HD.out.1
        obtain ⟨-, -, -, d0, d1'⟩ := HD.out
        obtain ⟨p, hp⟩ := Int.eq_ofNat_of_zero_le (show 0 ≤ b.ot by have := HBK.out.2.1; omega)
        have HPO : Hid (b.ot = (p : Int) ∧ p < 33) := Lib.hid ⟨hp, by have h1 := HBK.out.2.1; have h2 := HOK.out.1.1.2; have h2 : C.ty ≤ 32 := h2; omega⟩
        rw [hp] at d0
        have hp0 : (0 : Int) ≤ (p : Int) := by omega
        have hp33 : (p : Int) < 33 := by have := HPO.out.2; omega
        have HI9 : Hid (RI W9 A 0 (spF C.p.bs raw (K : Int) n lv rs i)) := Lib.hid (HYI.out W9 (below_then H6.out.2 HBW9.out)).1
        obtain ⟨x0, x1⟩ := HI9.out p HPO.out.2
        rw [Nat.zero_add] at x0 x1
        obtain ⟨v, hv⟩ : ∃ v, spF C.p.bs raw (K : Int) n lv rs i (p : Int) = v := ⟨_, rfl⟩
        rw [hv] at x0
        have HMB : Hid (0 ≤ mq ∧ mq ≤ 1048576000) := Lib.hid (by
          rw [← HMQ.out]
          have h1 := HBK.out.2.2.1
          have h2 := HR0.out
          refine ⟨Int.mul_nonneg (by omega) (by omega), ?_⟩
          have h3 : b.per * r ≤ 1048576 * 1000 := Int.mul_le_mul h1.2 h2.2 (by omega) (by omega)
          omega)
        have HBDI : Hid (∀ t, -29273397577908224 ≤ spF C.p.bs raw (K : Int) n lv rs i t ∧ spF C.p.bs raw (K : Int) n lv rs i t ≤ 29273397577908224) := Lib.hid fun t => HJ.out.1.in (by omega) t
        have wv : IntKind.i64.wrap (v + mq) = v + mq := by
          have h1 := HBDI.out (p : Int)
          have h2 := HMB.out
          rw [hv] at h1
          exact IntWalk.i64_in _ (by omega)
        obtain ⟨f1, hf1⟩ : ∃ f1, upd (spF C.p.bs raw (K : Int) n lv rs i) (p : Int) (v + mq) = f1 := ⟨_, rfl⟩
        have HF1 : Hid (∀ t, f1 t = spF C.p.bs raw (K : Int) n lv rs i t + (if b.ot = t then mq else 0)) := Lib.hid fun t => by
          rw [← hf1]
          by_cases e : t = (p : Int)
          · subst e
            rw [upd_same, hv, if_pos HPO.out.1]
          · rw [upd_other _ _ e, if_neg fun h => e (by rw [← h, HPO.out.1])]
            omega
        have HW10 : Hid (Gr w6 (W9.setCell ⟨A, p, none⟩ (.int .i64 (v + mq))) A A ∧ RI (W9.setCell ⟨A, p, none⟩ (.int .i64 (v + mq))) A 0 f1) := Lib.hid (by
          refine ⟨(gr_below HBW9.out).trans (gr_setP W9 A A p _), ?_⟩
          have h5 := HI9.out.set p (v + mq)
          rw [Nat.zero_add, hf1] at h5
          exact h5)
        obtain ⟨hL6, HOC⟩ := own_cells (A := A) H6.out.1 (by have := HUW.out; omega)
        have HL6 : Hid ((Recipe.needsL b lv r).length = n6) := Lib.hid hL6
        have HNL : Hid (Recipe.needsL b lv r = needL b.s lv r) := Lib.hid (Recipe.needsE_zero HNE2.out).2.2
        clear hp hv hf1 hL6
        go_upto_region 15 with fail
        go_region
        go_wp2_with fail
        clear d0 d1' x0 x1 wv
        obtain ⟨W10, hW10⟩ : ∃ W10, W9.setCell ⟨A, p, none⟩ (.int .i64 (v + mq)) = W10 := ⟨_, rfl⟩
        rw [hW10] at HW10 ⊢
        clear hW10
        go_loopw [93] (fun x wq => ∃ q : Nat, x = .int .i64 (q : Int) ∧ q ≤ n6 ∧ Hid (Gr w6 wq A A ∧ RI wq A 0 (fun t => f1 t - cnt ((needL b.s lv r).take q) t))) (fun x _ => n6 - (RowKit.intOf x).toNat)
        case atStart =>
          refine ⟨0, rfl, by omega, Lib.hid ⟨HW10.out.1.trans (gr_drew W10 A A), ?_⟩⟩
          refine RI.congr (f := f1) (RI.same HW10.out.2 rfl) fun x _ => ?_
          show f1 (x : Int) = f1 (x : Int) - 0
          omega
        case round =>
          obtain ⟨q, rfl, hq, HG⟩ := hrel
          have hq0 : (0 : Int) ≤ (q : Int) := by omega
          by_cases hqt : q < n6
          · have hqt2 : (q : Int) < (n6 : Int) := by omega
            have wq : IntKind.i64.wrap ((q : Int) + 1) = (q : Int) + 1 := IntWalk.i64_in _ (by
              have h1 := HL6.out
              rw [HNL.out] at h1
              have h2 : (needL b.s lv r).length = b.s.length := List.length_map ..
              have h3 := HBI.out.1
              omega)
            obtain ⟨g5, u, rfl, hu0, s0, s1⟩ := HOC.out _ q HG.out.1 hqt
            have HUL : Hid ((needL b.s lv r)[q]? = some u) := Lib.hid (by rw [← HNL.out]; exact hu0.out)
            have hku := needL_kind (s := b.s) (lv := lv) (r := r) (ty := C.ty) (kind_listed HBK.out.2.2.2.2.2.2.2.1) u (List.mem_of_getElem? HUL.out)
            have hty : C.ty ≤ 32 := HOK.out.1.1.2
            obtain ⟨uk, huk⟩ := Int.eq_ofNat_of_zero_le (show 0 ≤ u.kind by omega)
            have HUK : Hid (u.kind = (uk : Int) ∧ uk < 33) := Lib.hid ⟨huk, by omega⟩
            obtain ⟨S2, Z2, hS2, hZ2, t0, t1, HZ2'⟩ := Cat.Im.box_st _ u
            have HGZ := Lib.hid (HG.out.1.trans (gr_below HZ2'.out))
            have HAZ : Hid (A < w6.heap.size) := Lib.hid (HYI.out w6 H6.out.2).2.2
            have HRZ : Hid (RI Z2 A 0 (fun t => f1 t - cnt ((needL b.s lv r).take q) t)) := Lib.hid (HG.out.2.under (Nat.lt_of_lt_of_le HAZ.out HG.out.1.size) HZ2'.out)
            obtain ⟨x0', x1⟩ := HRZ.out uk HUK.out.2
            rw [Nat.zero_add] at x0' x1
            obtain ⟨v2, hv2⟩ : ∃ v2, f1 (uk : Int) - cnt ((needL b.s lv r).take q) (uk : Int) = v2 := ⟨_, rfl⟩
            have x0 : Z2.cell? ⟨A, uk, none⟩ = some (.int .i64 v2) := by rw [← hv2]; exact x0'
            have hqy : 0 ≤ u.qty ∧ u.qty ≤ 1125899906842624 := by
              refine ⟨needL_qty (by have := HR0.out; omega) u (List.mem_of_getElem? HUL.out), ?_⟩
              have h1 := ((needs_norm HNE2.out).2 u.kind).2
              have h2 := Goods.cnt_mem (needL_qty (s := b.s) (lv := lv) (r := r) (by have := HR0.out; omega)) (List.mem_of_getElem? HUL.out)
              omega
            have wv2 : IntKind.i64.wrap (v2 - u.qty) = v2 - u.qty := by
              have h1 := HBDI.out (uk : Int)
              have h2 := HMB.out
              have h3 := HF1.out (uk : Int)
              have h4 := take_le (needL_qty (s := b.s) (lv := lv) (r := r) (by have := HR0.out; omega)) q (uk : Int)
              have h5 := (needs_norm HNE2.out).2 (uk : Int)
              refine IntWalk.i64_in _ ?_
              split at h3 <;> omega
            have HN : Hid (Gr w6 (Z2.setCell ⟨A, uk, none⟩ (.int .i64 (v2 - u.qty))).drew A A ∧ RI (Z2.setCell ⟨A, uk, none⟩ (.int .i64 (v2 - u.qty))).drew A 0 (fun t => f1 t - cnt ((needL b.s lv r).take (q + 1)) t)) := Lib.hid (by
              refine ⟨(HGZ.out.trans (gr_setP Z2 A A uk _)).trans (gr_drew _ A A), ?_⟩
              refine RI.same (W := Z2.setCell ⟨A, uk, none⟩ (.int .i64 (v2 - u.qty))) ?_ rfl
              have h5 := HRZ.out.set uk (v2 - u.qty)
              rw [Nat.zero_add] at h5
              refine h5.congr fun x _ => ?_
              rw [Goods.cnt_take_succ HUL.out]
              by_cases e : (x : Int) = (uk : Int)
              · rw [e, upd_same, if_pos HUK.out.1]
                omega
              · rw [upd_other _ _ e, if_neg fun h => e (by rw [← h, HUK.out.1])]
                omega)
            rw [huk] at s0 t0 hZ2
            have huk0 : (0 : Int) ≤ (uk : Int) := by omega
            have huk3 : (uk : Int) < 33 := by have := HUK.out.2; omega
            clear huk hku hty hqy hv2 x0'
            go_upto_region 19 with fail
            clear hS2 hZ2
            go_region
            go_wp2_with fail
            go_roundw
            case rel => exact ⟨q + 1, by go_num, by omega, HN⟩
            case measure => simp [RowKit.intOf]; omega
          · obtain rfl : q = n6 := by omega
            have hd2 : decide (q < q) = false := by simp
            have HI2 : Hid (Below X.heap.size X wr ∧ A < wr.heap.size ∧ RI wr A 0 (spF C.p.bs raw (K : Int) n lv rs (i + 1))) := Lib.hid (by
              have hx6 := below_then HY1.out H6.out.2
              refine ⟨below_gr hx6 HG.out.1 HSZ.out.2.2, Nat.lt_of_lt_of_le (HYI.out w6 H6.out.2).2.2 HG.out.1.size, HG.out.2.congr fun x _ => ?_⟩
              rw [List.take_of_length_le (by rw [← HNL.out, HL6.out]; exact Nat.le_refl _), HF1.out, sp_next HPB.out hr.out, if_pos (show 0 < r by have := HR0.out; omega), ← HMQ.out, Int.mul_comm]
              rfl)
            have HJ2 : Hid (Bd (i + 1) (spF C.p.bs raw (K : Int) n lv rs (i + 1)) ∧ ∀ (j : Nat) (b : PB) (r : Int), j < i + 1 → C.p.bs[j]? = some b → rs[j]? = some r → r ≠ 0 → needsE b.b lv r = 0) := Lib.hid ⟨fun t => by
              have h1 := HJ.out.1 t
              have h2 := HMB.out
              have h5 := (needs_norm HNE2.out).2 t
              have h6 : 0 ≤ cnt (needL (pOf b).s lv r) t ∧ cnt (needL (pOf b).s lv r) t ≤ 1125899906842624 := h5
              rw [sp_next HPB.out hr.out, if_pos (show 0 < r by have := HR0.out; omega), Int.mul_comm r, show (pOf b).per * r = mq from HMQ.out, show (((i + 1 : Nat) : Int) + 1) = ((i : Int) + 1) + 1 by omega, Int.add_mul ((i : Int) + 1) 1]
              split <;> omega, fun j b2 r2 hj h1 h2 h3 => by
              by_cases e : j = i
              · subst e
                rw [hr.out] at h2
                injection h2 with h2
                subst h2
                rw [HPB.out] at h1
                injection h1 with h1
                subst h1
                exact HNE2.out
              · exact HJ.out.2 j b2 r2 (by omega) h1 h2 h3⟩
            go_wp2_with fail
            go_roundw
            case rel => exact ⟨i + 1, by go_num, by omega, HI2, HJ2⟩
            case measure => simp [RowKit.intOf]; omega
    · obtain rfl : i = C.bn := by omega
      have hd1 : decide (C.bn < C.bn) = false := by simp
      have hne : ∀ (j : Nat) (b : PB) (r : Int), C.p.bs[j]? = some b → rs[j]? = some r → r ≠ 0 → needsE b.b lv r = 0 := fun j b r h1 h2 h3 => HJ.out.2 j b r (by
        rw [← HBN.out]
        exact (List.getElem?_eq_some_iff.1 h1).1) h1 h2 h3
      have HSF := Lib.hid (sp_fits HMAY.out HNB.out HRK.out hne)
      obtain ⟨z, hz⟩ : ∃ z, minF (spF C.p.bs raw (K : Int) n lv rs C.bn) 32 = z := ⟨_, rfl⟩
      have HMI := Lib.hid (fun c => min_im (spF C.p.bs raw (K : Int) n lv rs C.bn) A c wr HI.out.2.2)
      rw [hz] at HMI
      have HZZ : Hid (0 ≤ z ↔ FitsP C.p (K : Int) n lv raw rs) := Lib.hid (by
        rw [← hz]
        have := HSF.out
        rw [HBN.out] at this
        exact this)
      clear hz hne
      have e1 : Program.elem Try.prog 62 = 3 := by kernel_rfl
      by_cases hzz : 0 ≤ z
      · have d0 : decide (0 ≤ z) = true := decide_eq_true hzz
        go_wp2_with fail
        refine (HMI.out _).mono ?_
        rintro e w9 ⟨rfl, rfl⟩
        go_wp2_with fail
        go_ret
        exact ⟨by rw [decide_eq_true (HZZ.out.1 hzz)]; rfl, HNO.out _ HI.out.1⟩
      · have d0 : decide (0 ≤ z) = false := decide_eq_false hzz
        have HZN := Lib.hid hzz
        clear hzz
        go_wp2_with fail
        refine (HMI.out _).mono ?_
        rintro e w9 ⟨rfl, rfl⟩
        go_wp2_with fail
        go_ret
        exact ⟨by rw [decide_eq_false fun h => by have h1 := HZN.out; have h2 := HZZ.out.2 h; omega]; rfl, HNO.out _ HI.out.1⟩
end Go.Proofs.Ytohlkaoophbinaa.Bom.Im
