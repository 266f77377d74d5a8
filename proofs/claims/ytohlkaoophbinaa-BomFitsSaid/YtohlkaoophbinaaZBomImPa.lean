/- The program's Path: the walk. The program's bills answer in the document's words. -/
import Derived.Test.YtohlkaoophbinaaZBomImP
import Derived.Test.YtohlkaoophbinaaZBomImR
import Derived.Test.YtohlkaoophbinaaZBomImH
import Derived.Test.YtohlkaoophbinaaZBomImW
namespace Go.Proofs.Ytohlkaoophbinaa.Bom.Im
open Go.RowKit Go.Lib IRows
open Goods (St Sts OwnS cnt)
open Cat (Cat PB CM CatAt Lim I64 pOf box_cat)
open Recipe (needsE needsL needL up nd BlIn)

set_option maxRecDepth 100000 in
set_option maxHeartbeats 16000000 in
theorem path_im (C : CM) (k : Int) (a : Option Addr) (m c : Nat) (rs : List Int) (lv : Int) (w : World) (h : CatAt w C) (hl : Lim C) (hr : rs.length = m) (hs : IRow w a rs) (hm : m ≤ 1000) :
    Calls Try.prog 12 #[C.v, .int .i64 k, .slice a m c, .int .i64 lv] w fun e w' => e = .returned (.tuple #[.int .i64 (pathA C.p k rs lv), .int .i64 (pathE C.p k rs lv)]) ∧ Below w.heap.size w w' := by
  obtain ⟨V, X, hV, hX, HXB, HP⟩ := box_cat w C
  have HPE : Hid (∀ W, Below X.heap.size X W → W.cell? ⟨V, 0, none⟩ = some (.int .i64 C.ty) ∧ W.cell? ⟨V, 1, none⟩ = some (.slice C.ba C.bn C.bc) ∧ W.cell? ⟨V, 2, none⟩ = some (.int .i64 C.pl) ∧ W.cell? ⟨V, 3, none⟩ = some (.slice C.ya C.yn C.yc) ∧ W.cell? ⟨V, 4, none⟩ = some (.int .i64 C.ch) ∧ W.cell? ⟨V, 5, none⟩ = some (.int .i64 C.f.broker) ∧ W.cell? ⟨V, 6, none⟩ = some (.int .i64 C.f.least) ∧ W.cell? ⟨V, 7, none⟩ = some (.int .i64 C.f.sales)) := Lib.hid fun W hW => HP.out W hW
  obtain ⟨k0, k1, k2, k3, k4, k5, k6, k7⟩ := HPE.out X (Below.refl _ _)
  obtain ⟨er, her⟩ : ∃ er, Cat.chkC C.p = er := ⟨_, rfl⟩
  obtain ⟨O, hO⟩ : ∃ O, Graph.ordV C.ty (Cat.ndL C.p.bs) = O := ⟨_, rfl⟩
  have HTO : Hid (topV C.p = O.reverse) := Lib.hid (by unfold topV; show (Graph.ordV C.ty (Cat.ndL C.p.bs)).reverse = _; rw [hO])
  have HM : Hid (Calls Try.prog 22 #[.agg #[.int .i64 C.ty, .slice C.ba C.bn C.bc, .int .i64 C.pl, .slice C.ya C.yn C.yc, .int .i64 C.ch, .int .i64 C.f.broker, .int .i64 C.f.least, .int .i64 C.f.sales]] X fun e w' => ∃ a n c, e = .returned (.tuple #[.slice a n c, .int .i64 er]) ∧ Hid ((er = 0 → O.length = n ∧ IRow w' a O) ∧ Below X.heap.size X w')) := Lib.hid (by
    refine (order_of C X (h.under HXB.out) hl).mono ?_
    rintro e w' ⟨a2, n2, c2, rfl, H⟩
    have := H.out
    rw [her, hO] at this
    rw [her]
    refine ⟨a2, n2, c2, rfl, Lib.hid ⟨fun hz => ?_, this.2⟩⟩
    obtain ⟨h1, h2⟩ := this.1 hz
    obtain ⟨a3, c3, e3, h3⟩ := irow_own h2
    injection e3 with e3 _ _
    subst e3
    exact ⟨h1, h3⟩)
  have HNO : Hid (∀ W, Below X.heap.size X W → Below w.heap.size w W) := Lib.hid fun W hW => below_then HXB.out hW
  obtain ⟨tk, HK, EK⟩ := kind_at C k
  have HKD : Hid (∀ W, Below X.heap.size X W → Calls Try.prog 36 #[.agg #[.int .i64 C.ty, .slice C.ba C.bn C.bc, .int .i64 C.pl, .slice C.ya C.yn C.yc, .int .i64 C.ch, .int .i64 C.f.broker, .int .i64 C.f.least, .int .i64 C.f.sales], .int .i64 k] W fun e w' => e = .returned (.bool tk) ∧ Hid (Below W.heap.size W w')) := Lib.hid fun W _ => HK.out W
  obtain ⟨tr, HR0, ER⟩ := runs_at C a m c rs X h.1.1 hl.2.1 hr (hs.under HXB.out) hm
  have HRU : Hid (∀ W, Below X.heap.size X W → Calls Try.prog 37 #[.agg #[.int .i64 C.ty, .slice C.ba C.bn C.bc, .int .i64 C.pl, .slice C.ya C.yn C.yc, .int .i64 C.ch, .int .i64 C.f.broker, .int .i64 C.f.least, .int .i64 C.f.sales], .slice a m c] W fun e w' => e = .returned (.bool tr) ∧ Hid (Below W.heap.size W w')) := Lib.hid fun W hW => HR0.out W hW
  obtain ⟨tl, HLV, EL⟩ := level_at lv
  have HMK : Hid (∀ W t z, Below X.heap.size X W → Cat.mkr t C.p.bs 0 = z → Calls Try.prog 39 #[.agg #[.int .i64 C.ty, .slice C.ba C.bn C.bc, .int .i64 C.pl, .slice C.ya C.yn C.yc, .int .i64 C.ch, .int .i64 C.f.broker, .int .i64 C.f.least, .int .i64 C.f.sales], .int .i64 t] W fun e w' => e = .returned (.int .i64 z) ∧ Hid (Below W.heap.size W w')) := Lib.hid fun W t z hW hz => by
    subst hz
    exact (Cat.Im.maker_im C t W ((h.under HXB.out).under hW) (by have := hl.2.1; omega)).mono fun _ _ ⟨e, h⟩ => ⟨e, Lib.hid h⟩
  have HB := Cat.blue_at (h.under HXB.out)
  have HSM : Hid (∀ b ∈ C.bs, b.sm ≤ 12) := Lib.hid hl.1
  have HBN : Hid (C.p.bs.length = C.bn) := Lib.hid (by unfold CM.p; rw [List.length_map]; exact h.1.1)
  have HBP : Hid (∀ (i : Nat) (b : Recipe.Bl), C.bs[i]? = some b → C.p.bs[i]? = some (pOf b)) := Lib.hid fun i b h => by unfold CM.p; simp [h]
  have hb1 : C.bn ≤ 20 := hl.2.1
  have HT := irow_at (hs.under HXB.out)
  have HL := Lib.hid hr
  clear h hl hs hr HR0 HK hO
  by_cases he : er = 0
  case neg =>
    have n1 : (er == 0) = false := by simpa using he
    have n2 : (er != 0) = true := by simpa using he
    have hme : mayE C.p k lv [] = er := by rw [mayE_err (by rw [her]; exact he), her]
    have e1 : pathE C.p k rs lv = er := by unfold pathE; rw [hme, if_neg he]
    have e2 : pathA C.p k rs lv = 0 := by unfold pathA; rw [hme, if_neg fun h => he h.1]
    rw [e1, e2]
    clear e1 e2 her hme
    go_enter Try.func12, Try.ntmps12
    go_wp2_with fail
    clear hX hV
    refine HM.out.mono ?_
    rintro e w1 ⟨a9, n9, c9, rfl, H1⟩
    go_wp2_with fail
    go_ret2
    exact ⟨rfl, HNO.out _ H1.out.2⟩
  subst he
  rcases tk with _ | _
  · obtain ⟨e1, e2⟩ := path_ill (k := k) (lv := lv) (rs := rs) her fun h => by have := EK.out.2 h.1; cases this
    rw [e1, e2]
    clear e1 e2 her
    go_enter Try.func12, Try.ntmps12
    go_wp2_with fail
    clear hX hV
    refine HM.out.mono ?_
    rintro e w1 ⟨a9, n9, c9, rfl, H1⟩
    obtain ⟨y0, y1, y2, y3, y4, y5, y6, y7⟩ := HPE.out w1 H1.out.2
    clear k0 k1 k2 k3 k4 k5 k6 k7
    go_wp2_with fail
    refine (HKD.out w1 H1.out.2).mono ?_
    rintro e w2 ⟨rfl, H2'⟩
    have H2 := Lib.hid (below_then H1.out.2 H2'.out)
    go_wp2_with fail
    go_ret2
    exact ⟨rfl, HNO.out _ H2.out⟩
  rcases tr with _ | _
  · obtain ⟨e1, e2⟩ := path_ill (k := k) (lv := lv) (rs := rs) her fun h => by have := ER.out.2 h.2.2; cases this
    rw [e1, e2]
    clear e1 e2 her
    go_enter Try.func12, Try.ntmps12
    go_wp2_with fail
    clear hX hV
    refine HM.out.mono ?_
    rintro e w1 ⟨a9, n9, c9, rfl, H1⟩
    obtain ⟨y0, y1, y2, y3, y4, y5, y6, y7⟩ := HPE.out w1 H1.out.2
    clear k0 k1 k2 k3 k4 k5 k6 k7
    go_wp2_with fail
    refine (HKD.out w1 H1.out.2).mono ?_
    rintro e w2 ⟨rfl, H2'⟩
    have H2 := Lib.hid (below_then H1.out.2 H2'.out)
    clear y0 y1 y2 y3 y4 y5 y6 y7
    obtain ⟨y0, y1, y2, y3, y4, y5, y6, y7⟩ := HPE.out w2 H2.out
    go_wp2_with fail
    refine (HRU.out w2 H2.out).mono ?_
    rintro e w3 ⟨rfl, H3'⟩
    have H3 := Lib.hid (below_then H2.out H3'.out)
    go_wp2_with fail
    go_ret2
    exact ⟨rfl, HNO.out _ H3.out⟩
  rcases tl with _ | _
  · obtain ⟨e1, e2⟩ := path_ill (k := k) (lv := lv) (rs := rs) her fun h => by have := EL.out.2 h.2.1; cases this
    rw [e1, e2]
    clear e1 e2 her
    go_enter Try.func12, Try.ntmps12
    go_wp2_with fail
    clear hX hV
    refine HM.out.mono ?_
    rintro e w1 ⟨a9, n9, c9, rfl, H1⟩
    obtain ⟨y0, y1, y2, y3, y4, y5, y6, y7⟩ := HPE.out w1 H1.out.2
    clear k0 k1 k2 k3 k4 k5 k6 k7
    go_wp2_with fail
    refine (HKD.out w1 H1.out.2).mono ?_
    rintro e w2 ⟨rfl, H2'⟩
    have H2 := Lib.hid (below_then H1.out.2 H2'.out)
    clear y0 y1 y2 y3 y4 y5 y6 y7
    obtain ⟨y0, y1, y2, y3, y4, y5, y6, y7⟩ := HPE.out w2 H2.out
    go_wp2_with fail
    refine (HRU.out w2 H2.out).mono ?_
    rintro e w3 ⟨rfl, H3'⟩
    have H3 := Lib.hid (below_then H2.out H3'.out)
    clear y0 y1 y2 y3 y4 y5 y6 y7
    go_wp2_with fail
    refine (HLV.out _).mono ?_
    rintro e w4 ⟨rfl, rfl⟩
    go_wp2_with fail
    go_ret2
    exact ⟨rfl, HNO.out _ H3.out⟩
  have hkk : 1 ≤ k ∧ k ≤ C.ty := EK.out.1 rfl
  have hlv : 0 ≤ lv ∧ lv ≤ 10 := EL.out.1 rfl
  have hk : RunsOk C.p rs := ER.out.1 rfl
  have hmo : mayE C.p k lv [] = 0 := mayE_ok her hkk hlv (listed_nil C.ty)
  have e1 : pathE C.p k rs lv = 0 := by unfold pathE; rw [if_pos hmo, if_pos hk]
  have HEV : Hid (pathA C.p k rs lv = pathV C.p rs lv k) := Lib.hid (by unfold pathA; rw [if_pos ⟨hmo, hk⟩])
  have HNN : Hid (∀ r ∈ rs, 0 ≤ r ∧ r ≤ 1000) := Lib.hid hk.2
  have HLVB := Lib.hid hlv
  have HOK := Lib.hid (Cat.chk_zero her)
  have HTOP : Hid (Top C.p.ty (Cat.ndL C.p.bs) O.reverse ∧ O.reverse.length ≤ 32 ∧ O.reverse.length ≤ C.p.ty.toNat) := Lib.hid (by
    have := chk_top her
    rw [HTO.out] at this
    exact this)
  have hty : C.ty ≤ 32 := HOK.out.1.1.2
  obtain ⟨K, rfl⟩ := Int.eq_ofNat_of_zero_le (show 0 ≤ k by omega)
  have HKO : Hid (((K : Nat) : Int) ∈ O) := Lib.hid (List.mem_reverse.1 ((HTOP.out.1.all _).2 hkk))
  have HK33 : Hid (K < 33) := Lib.hid (by omega)
  have hK0 : (0 : Int) ≤ (K : Int) := by omega
  have hK33 : (K : Int) < 33 := by omega
  obtain rfl : m = C.bn := by rw [← HL.out, hk.1, HBN.out]
  have hz := (zero_of_info info33).1
  obtain ⟨Z, hZ⟩ : ∃ Z, (Array.replicate 33 (.int .i64 0) : Array Value) = Z := ⟨_, rfl⟩
  rw [hZ] at hz
  have hZs : Z.size = 33 := by rw [← hZ]; exact Array.size_replicate
  have hZn : ¬ Z = #[] := fun e => by rw [e] at hZs; cases hZs
  have HZ := Lib.hid hZ
  rw [e1]
  clear e1 her hk hmo hlv hkk hty hZ
  go_enter Try.func12, Try.ntmps12
  go_wp2_with fail
  clear hX hV
  refine HM.out.mono ?_
  rintro e w1 ⟨a9, n9, c9, rfl, H1⟩
  obtain ⟨y0, y1, y2, y3, y4, y5, y6, y7⟩ := HPE.out w1 H1.out.2
  clear k0 k1 k2 k3 k4 k5 k6 k7
  go_wp2_with fail
  refine (HKD.out w1 H1.out.2).mono ?_
  rintro e w2 ⟨rfl, H2'⟩
  have H2 := Lib.hid (below_then H1.out.2 H2'.out)
  clear y0 y1 y2 y3 y4 y5 y6 y7
  obtain ⟨y0, y1, y2, y3, y4, y5, y6, y7⟩ := HPE.out w2 H2.out
  go_wp2_with fail
  refine (HRU.out w2 H2.out).mono ?_
  rintro e w3 ⟨rfl, H3'⟩
  have H3 := Lib.hid (below_then H2.out H3'.out)
  clear y0 y1 y2 y3 y4 y5 y6 y7
  go_wp2_with fail
  refine (HLV.out _).mono ?_
  rintro e w4 ⟨rfl, rfl⟩
  obtain ⟨A, W5, hA, hW5, H5⟩ := box33 w3 Z HZ.out 62
  have HSZ : Hid (w3.heap.size = A ∧ W5.heap.size = A + 1) := Lib.hid ⟨hA, H5.out.2.1⟩
  have HB13 : Hid (Below w1.heap.size w1 w3) := Lib.hid (below_then H2'.out H3'.out)
  have HB15 : Hid (Below w1.heap.size w1 W5) := Lib.hid (below_then HB13.out H5.out.1)
  have HA1 : Hid (w1.heap.size ≤ A) := Lib.hid (by have := HB13.out.size; have := HSZ.out.1; omega)
  have H9 : Hid (O.length = n9 ∧ IRow w1 a9 O) := Lib.hid (H1.out.1 (by first | rfl | trivial))
  have HTR := irow_at H9.out.2
  have hn9 : n9 ≤ 32 := by rw [← H9.out.1]; have := HTOP.out.2.1; rw [List.length_reverse] at this; exact this
  have hn9i : (n9 : Int) ≤ 32 := by omega
  have HX1 : Hid (∀ W, Below w1.heap.size w1 W → Below X.heap.size X W) := Lib.hid fun W hW => below_then H1.out.2 hW
  have HNE := Lib.hid H1.out.2
  clear H1 H2' H3' H2 H3
  go_wp2_with fail
  clear hA hW5 hz hZs hZn
  go_loopw [45] (fun v wr => ∃ i : Nat, v = .int .i64 (i : Int) ∧ i ≤ n9 ∧ Hid (Below w1.heap.size w1 wr ∧ A < wr.heap.size ∧ RI wr A 0 (knF C.p rs lv (O.take i)))) (fun v _ => n9 - (RowKit.intOf v).toNat)
  case atStart => exact ⟨0, rfl, by omega, Lib.hid ⟨HB15.out, by have := HSZ.out.2; omega, H5.out.2.2.congr fun x _ => by unfold knF; simp⟩⟩
  case round =>
    obtain ⟨i, rfl, hi, HI⟩ := hrel
    have hi0 : (0 : Int) ≤ (i : Int) := by omega
    have HXR : Hid (Below X.heap.size X wr) := Lib.hid (HX1.out wr HI.out.1)
    by_cases hlt : i < n9
    · have hlt2 : (i : Int) < (n9 : Int) := by omega
      obtain ⟨g, off, t, rfl, ht, q0⟩ := HTR.out wr i HI.out.1 (by rw [H9.out.1]; exact hlt)
      have hti := (HTOP.out.1.all t).1 (List.mem_reverse.2 (List.mem_of_getElem? ht.out))
      have htb : C.p.ty ≤ 32 := HOK.out.1.1.2
      obtain ⟨p, rfl⟩ := Int.eq_ofNat_of_zero_le (show 0 ≤ t by omega)
      have HP33 : Hid (p < 33) := Lib.hid (by omega)
      have hp0 : (0 : Int) ≤ (p : Int) := by omega
      have hp33 : (p : Int) < 33 := by omega
      have wi : IntKind.i64.wrap ((i : Int) + 1) = (i : Int) + 1 := IntWalk.i64_in _ (by omega)
      obtain ⟨pre, post, hsp, -, hpo⟩ := rev_split (T := O.reverse) (i := i) (t := (p : Int)) (by rw [List.reverse_reverse]; exact ht.out)
      rw [List.reverse_reverse] at hpo
      have hpq := path_eq (rs := rs) (lv := lv) HTOP.out.1 HTOP.out.2.2 hsp
      have HNI : Hid ((p : Int) ∉ O.take i) := Lib.hid (by
        rw [hpo]
        have := HTOP.out.1.nodup
        rw [hsp] at this
        exact fun h => (List.nodup_cons.1 (List.nodup_append.1 this).2.1).1 (List.mem_reverse.1 h))
      have HND : Hid (∀ j b, fm (p : Int) C.p.bs = some (j, b) → ∀ u ∈ b.s, u.kind ∈ O.take i) := Lib.hid fun j b hf u hu => by
        obtain ⟨hb, hot⟩ := fm_some hf
        rw [hpo]
        exact List.mem_reverse.2 (HTOP.out.1.ahead pre _ post hsp _ (nd_mem (List.mem_of_getElem? hb) hu) hot)
      have HTK : Hid (O.take (i + 1) = O.take i ++ [(p : Int)]) := Lib.hid (take_snoc ht.out)
      obtain ⟨z, hz⟩ : ∃ z, Cat.mkr (p : Int) C.p.bs 0 = z := ⟨_, rfl⟩
      have HMK1 := Lib.hid (HMK.out wr p z HXR.out hz)
      rw [mkr_fm] at hz
      obtain ⟨y0, y1, y2, y3, y4, y5, y6, y7⟩ := HPE.out wr HXR.out
      have HSAME : Hid (pathV C.p rs lv (p : Int) = 0 → ∀ W, Below wr.heap.size wr W → Below w1.heap.size w1 W ∧ A < W.heap.size ∧ RI W A 0 (knF C.p rs lv (O.take (i + 1)))) := Lib.hid fun h0 W hW => ⟨below_then HI.out.1 hW, Nat.lt_of_lt_of_le HI.out.2.1 hW.size, (HI.out.2.2.under HI.out.2.1 hW).congr fun x _ => by rw [HTK.out]; exact (kn_zero HNI.out h0 _).symm⟩
      clear hti htb hsp hpo
      cases hf : fm (p : Int) C.p.bs with
      | none =>
        rw [hf] at hz hpq
        obtain rfl : z = 0 := hz.symm
        have HP0 := Lib.hid (HSAME.out hpq)
        clear hf hpq hz
        go_wp2_with fail
        refine HMK1.out.mono ?_
        rintro e w6 ⟨rfl, H6⟩
        have HN := Lib.hid (HP0.out w6 H6.out)
        clear y0 y1 y2 y3 y4 y5 y6 y7
        go_wp2_with fail
        go_roundw
        case rel => exact ⟨i + 1, by go_num, by omega, HN⟩
        case measure => simp [RowKit.intOf]; omega
      | some jb =>
        obtain ⟨j, pb⟩ := jb
        rw [hf] at hz hpq
        have hz : (0 : Int) + (j : Int) + 1 = z := hz
        obtain ⟨hpb, hot⟩ := fm_some hf
        have hjl : j < C.bn := by rw [← HBN.out]; exact (List.getElem?_eq_some_iff.1 hpb).1
        have hj0 : (0 : Int) ≤ (j : Int) := by omega
        have hjl2 : (j : Int) < (C.bn : Int) := by omega
        have z0 : (z == 0) = false := by simp; omega
        have wz : IntKind.i64.wrap (z - 1) = (j : Int) := by rw [IntWalk.i64_in _ (by omega)]; omega
        have HF := Lib.hid hf
        have HPB := Lib.hid hpb
        have HPQ : Hid (pathV C.p rs lv (p : Int) = if rs.getD j 0 = 0 then 0 else tim lv pb (rs.getD j 0) + maxL (pb.s.map fun s => pathV C.p rs lv s.kind)) := Lib.hid hpq
        clear hf hpq hz hpb hot
        go_wp2_with fail
        refine HMK1.out.mono ?_
        rintro e w6 ⟨rfl, H6⟩
        have HX6 : Hid (Below X.heap.size X w6) := Lib.hid (below_then HXR.out H6.out)
        clear y0 y1 y2 y3 y4 y5 y6 y7
        obtain ⟨y0, y1, y2, y3, y4, y5, y6, y7⟩ := HPE.out w6 HX6.out
        obtain ⟨g2, off2, r, rfl, hr, r0⟩ := HT.out w6 j HX6.out (by rw [HL.out]; exact hjl)
        have HRJ : Hid (rs.getD j 0 = r) := Lib.hid (by rw [List.getD_eq_getElem?_getD, hr.out]; rfl)
        have hrb := HNN.out r (List.mem_of_getElem? hr.out)
        by_cases c1 : r = 0
        · have d1 : (r == 0) = true := by simpa using c1
          have HN := Lib.hid (HSAME.out (by rw [HPQ.out, HRJ.out, if_pos c1]) w6 H6.out)
          clear c1 hrb
          go_wp2_with fail
          clear y0 y1 y2 y3 y4 y5 y6 y7
          go_roundw
          case rel => exact ⟨i + 1, by go_num, by omega, HN⟩
          case measure => simp [RowKit.intOf]; omega
        have d1 : (r == 0) = false := by simpa using c1
        obtain ⟨g3, off3, b, hba, hbt, b0, b1, b2, b3, b4, b5, b6⟩ := HB.out w6 j HX6.out hjl
        obtain ⟨U, Y, hU, hY, HUY, HUC⟩ := box_at w6 b
        have HUA : Hid (A < U ∧ U < Y.heap.size) := Lib.hid ⟨by have h1 := HI.out.2.1; have h2 := H6.out.size; omega, HUY.out.2⟩
        have HPO : Hid (pb = pOf b) := Lib.hid (by
          have := HBP.out j b hbt.out.1
          rw [HPB.out] at this
          injection this)
        have h12 : b.sm ≤ 12 := HSM.out b (List.mem_of_getElem? hbt.out.1)
        have h12i : (b.sm : Int) ≤ 12 := by omega
        have HBI : Hid (BlIn Y b) := Lib.hid (by
          have h1 : BlIn w6 b := ⟨hbt.out.2.1, hbt.out.2.2, by omega⟩
          exact h1.under HUY.out.1)
        have HQT := Goods.sts_at HBI.out.2.1
        have HQL : Hid (b.s.length = b.sm) := Lib.hid HBI.out.1
        obtain ⟨u0, u1, u2, u3, u4, u5, u6⟩ := HUC.out Y (Below.refl _ _)
        have HYR : Hid (Below wr.heap.size wr Y) := Lib.hid (below_then H6.out HUY.out.1)
        have HYI : Hid (∀ W, Below Y.heap.size Y W → RI W A 0 (knF C.p rs lv (O.take i)) ∧ Below w1.heap.size w1 W ∧ Below X.heap.size X W ∧ A < W.heap.size) := Lib.hid fun W hW => by
          have hb := below_then HYR.out hW
          exact ⟨HI.out.2.2.under HI.out.2.1 hb, below_then HI.out.1 hb, below_then HXR.out hb, Nat.lt_of_lt_of_le HI.out.2.1 hb.size⟩
        have HPS : Hid (∀ u ∈ b.s, ∃ q : Nat, u.kind = (q : Int) ∧ q < 33 ∧ knF C.p rs lv (O.take i) u.kind = pathV C.p rs lv u.kind ∧ 0 ≤ pathV C.p rs lv u.kind ∧ pathV C.p rs lv u.kind ≤ 3355443200000) := Lib.hid fun u hu => by
          have hm := HND.out j pb HF.out u (by rw [HPO.out]; exact hu)
          have hm2 : u.kind ∈ O.reverse := List.mem_reverse.2 (List.mem_of_mem_take hm)
          have hk := (HTOP.out.1.all _).1 hm2
          have htb : C.p.ty ≤ 32 := HOK.out.1.1.2
          obtain ⟨q, hq⟩ := Int.eq_ofNat_of_zero_le (show 0 ≤ u.kind by omega)
          refine ⟨q, hq, by omega, ?_, path_in HTOP.out.1 HTOP.out.2.1 hm2⟩
          unfold knF
          rw [if_pos hm]
        obtain ⟨tv, htv⟩ : ∃ tv, Recipe.timeV b lv r = tv := ⟨_, rfl⟩
        have HTV : Hid (tim lv (pOf b) r = tv) := Lib.hid (by rw [← htv]; exact tim_blue b lv c1)
        have HTE : Hid (Recipe.timeE b lv r = 0) := Lib.hid (Recipe.time_ok (blok_32 (HOK.out.2.1 (pOf b) (List.mem_of_getElem? (HBP.out j b hbt.out.1)))) ⟨HLVB.out, by omega, hrb.2⟩).1
        have HTT : Hid (Recipe.timeV b lv r = tv ∧ 0 ≤ tv ∧ tv ≤ 104857600000) := Lib.hid ⟨htv, by rw [← htv]; exact time_nonneg _ _ _, by rw [← htv]; exact time_le _ _ _⟩
        have HPV : Hid (pathV C.p rs lv (p : Int) = tv + maxL (b.s.map fun s => pathV C.p rs lv s.kind)) := Lib.hid (by
          rw [HPQ.out, HRJ.out, if_neg c1, HPO.out, HTV.out]
          rfl)
        have HZR : Hid (∀ W, Below Y.heap.size Y W → W.cell? ⟨g2, off2 + j, none⟩ = some (.int .i64 r)) := Lib.hid fun W hW => by
          obtain ⟨g6, off6, r6, e6, hr6, c6⟩ := HT.out W j (HYI.out W hW).2.2.1 (by rw [HL.out]; exact hjl)
          cases e6
          have e7 := hr6.out
          rw [hr.out] at e7
          cases e7
          exact c6
        obtain ⟨sa, hsa⟩ : ∃ x, b.sa = x := ⟨_, rfl⟩
        have hq0 : Sts Y b.sa b.s := HBI.out.2.1
        rw [hba] at y1
        have hyb : Y = w6.alloc (.cells #[.int .i64 b.ot, .int .i64 b.per, .int .i64 b.tm, .slice b.sa b.sm b.sc, .int .i64 b.cp, .int .i64 b.st, .int .i64 b.mo] 54) := hY.symm
        rw [hsa] at u3 hq0
        have HQT := Goods.sts_at hq0
        have HSA := Lib.hid hsa
        clear hyb hq0 c1 hrb htv hba hsa
        go_upto_region 13 with fail
        clear hY hU y0 y1 y2 y3 y4 y5 y6 y7 b0 b1 b2 b3 b4 b5 b6 r0
        go_wp2_with fail
        clear u0 u1 u2 u3 u4 u5 u6
        go_loopw [17, 71] (fun v x wq => ∃ (q : Nat) (z2 : Int), v = .int .i64 z2 ∧ x = .int .i64 (q : Int) ∧ q ≤ b.sm ∧ (0 ≤ z2 ∧ z2 ≤ 3355443200000) ∧ Hid (maxL ((b.s.map fun u => pathV C.p rs lv u.kind).take q) = z2) ∧ Hid (Below Y.heap.size Y wq)) (fun _ x _ => b.sm - (RowKit.intOf x).toNat)
        case atStart => exact ⟨0, 0, rfl, rfl, by omega, by omega, Lib.hid (by simp [maxL]), Lib.hid (Below.refl _ _)⟩
        case round =>
          obtain ⟨q, z2, rfl, rfl, hq, hzb, HMX, HBY⟩ := hrel
          have hq0 : (0 : Int) ≤ (q : Int) := by omega
          by_cases hqt : q < b.sm
          · have hqt2 : (q : Int) < (b.sm : Int) := by omega
            have wq : IntKind.i64.wrap ((q : Int) + 1) = (q : Int) + 1 := IntWalk.i64_in _ (by omega)
            obtain ⟨g5, off5, u, rfl, hut, s0, s1⟩ := HQT.out _ q HBY.out (by rw [HQL.out]; exact hqt)
            obtain ⟨uk, huk, huk33, hkn, hpb⟩ := HPS.out u (List.mem_of_getElem? hut.out)
            obtain ⟨S2, Z2, hS2, hZ2, t0, t1, HZ2⟩ := Cat.Im.box_st _ u
            have HYZ := Lib.hid (below_then HBY.out HZ2.out)
            obtain ⟨pv, hpv⟩ : ∃ pv, pathV C.p rs lv u.kind = pv := ⟨_, rfl⟩
            obtain ⟨M2, hM2⟩ : ∃ M2, max z2 pv = M2 := ⟨_, rfl⟩
            have hM3 : (if z2 < pv then pv else z2) = M2 := by rw [← hM2]; split <;> omega
            have hM4 : (if pv < z2 then z2 else pv) = M2 := by rw [← hM2]; split <;> omega
            have HM3 := Lib.hid hM3
            have HI2 : Hid (maxL ((b.s.map fun u => pathV C.p rs lv u.kind).take (q + 1)) = M2) := Lib.hid (by
              rw [maxL_take (x := pathV C.p rs lv u.kind) (by rw [List.getElem?_map, hut.out]; rfl), HMX.out, hpv, hM2])
            obtain ⟨x0, -⟩ := (HYI.out Z2 HYZ.out).1 uk huk33
            rw [Nat.zero_add, ← huk, hkn, hpv] at x0
            rw [hpv] at hpb
            have hM5 : 0 ≤ M2 ∧ M2 ≤ 3355443200000 := by omega
            rw [huk] at s0 t0 hZ2
            have huk0 : (0 : Int) ≤ (uk : Int) := by omega
            have huk3 : (uk : Int) < 33 := by omega
            clear hpv hkn huk hpb
            go_wp2_with fail
            clear hS2 hZ2
            go_roundw
            case rel => exact ⟨q + 1, M2, by first | rfl | rw [HM3.out], by go_num, by omega, hM5, HI2, HYZ⟩
            case measure => simp [RowKit.intOf]; omega
          · obtain rfl : q = b.sm := by omega
            have HML : Hid (maxL (b.s.map fun u => pathV C.p rs lv u.kind) = z2) := Lib.hid (by
              have := HMX.out
              rw [List.take_of_length_le (by rw [List.length_map, HQL.out]; exact Nat.le_refl _)] at this
              exact this)
            have HTI : Hid (Calls Try.prog 40 #[.int .i64 z2, .agg #[.int .i64 b.ot, .int .i64 b.per, .int .i64 b.tm, .slice b.sa b.sm b.sc, .int .i64 b.cp, .int .i64 b.st, .int .i64 b.mo], .int .i64 lv, .int .i64 r] wr.drew fun e w' => e = .returned (.tuple #[.int .i64 (z2 + tv), .int .i64 0]) ∧ Hid (Below wr.heap.size wr w')) := Lib.hid (by
              have ht := HTT.out
              have h1 := longer_im b z2 lv r wr.drew (HBI.out.under HBY.out.drew) HTE.out hzb.1 (by rw [ht.1]; omega) (by rw [ht.1]; exact ht.2.1)
              rw [ht.1] at h1
              exact h1.mono fun _ _ ⟨e, h⟩ => ⟨e, Lib.hid (((Below.refl _ wr).drew).trans h)⟩)
            have HPV2 : Hid (pathV C.p rs lv (p : Int) = z2 + tv) := Lib.hid (by rw [HPV.out, HML.out]; omega)
            have HCS : Hid (∀ W, Below wr.heap.size wr W → (W.cell? ⟨U, 0, none⟩ = some (.int .i64 b.ot) ∧ W.cell? ⟨U, 1, none⟩ = some (.int .i64 b.per) ∧ W.cell? ⟨U, 2, none⟩ = some (.int .i64 b.tm) ∧ W.cell? ⟨U, 3, none⟩ = some (.slice b.sa b.sm b.sc) ∧ W.cell? ⟨U, 4, none⟩ = some (.int .i64 b.cp) ∧ W.cell? ⟨U, 5, none⟩ = some (.int .i64 b.st) ∧ W.cell? ⟨U, 6, none⟩ = some (.int .i64 b.mo)) ∧ W.cell? ⟨g2, off2 + j, none⟩ = some (.int .i64 r)) := Lib.hid fun W hW => ⟨HUC.out W (below_then HBY.out hW), HZR.out W (below_then HBY.out hW)⟩
            have HG2 : Hid (g2 ≠ A) := Lib.hid (by
              obtain ⟨g6, off6, r6, e6, hr6, c6⟩ := HT.out X j (Below.refl _ _) (by rw [HL.out]; exact hjl)
              cases e6
              have h1 := World.block_lt_of_cell? X _ c6
              have h2 := HNE.out.size
              have h3 := HA1.out
              have h1 : g2 < X.heap.size := h1
              omega)
            have HCT : Hid (∀ W v, Below wr.heap.size wr W → ((W.setCell ⟨A, p, none⟩ v).cell? ⟨U, 0, none⟩ = some (.int .i64 b.ot) ∧ (W.setCell ⟨A, p, none⟩ v).cell? ⟨U, 1, none⟩ = some (.int .i64 b.per) ∧ (W.setCell ⟨A, p, none⟩ v).cell? ⟨U, 2, none⟩ = some (.int .i64 b.tm) ∧ (W.setCell ⟨A, p, none⟩ v).cell? ⟨U, 3, none⟩ = some (.slice b.sa b.sm b.sc) ∧ (W.setCell ⟨A, p, none⟩ v).cell? ⟨U, 4, none⟩ = some (.int .i64 b.cp) ∧ (W.setCell ⟨A, p, none⟩ v).cell? ⟨U, 5, none⟩ = some (.int .i64 b.st) ∧ (W.setCell ⟨A, p, none⟩ v).cell? ⟨U, 6, none⟩ = some (.int .i64 b.mo)) ∧ (W.setCell ⟨A, p, none⟩ v).cell? ⟨g2, off2 + j, none⟩ = some (.int .i64 r)) := Lib.hid fun W v hW => by
              obtain ⟨⟨c0, c1, c2, c3, c4, c5, c6⟩, c7⟩ := HCS.out W hW
              have h1 := HUA.out.1
              have h2 := HG2.out
              have key : ∀ (B o : Nat) (x : Value), B ≠ A → W.cell? ⟨B, o, none⟩ = some x → (W.setCell ⟨A, p, none⟩ v).cell? ⟨B, o, none⟩ = some x := fun B o x hB hx => by
                rw [World.cell?_setCell_other (h := addr_ne (.inl hB.symm))]
                exact hx
              exact ⟨⟨key _ _ _ (by omega) c0, key _ _ _ (by omega) c1, key _ _ _ (by omega) c2, key _ _ _ (by omega) c3, key _ _ _ (by omega) c4, key _ _ _ (by omega) c5, key _ _ _ (by omega) c6⟩, key _ _ _ h2 c7⟩
            obtain ⟨xv, hxv⟩ : ∃ xv, knF C.p rs lv (O.take i) (p : Int) = xv := ⟨_, rfl⟩
            have HCX : Hid (∀ W, Below wr.heap.size wr W → W.cell? ⟨A, p, none⟩ = some (.int .i64 xv) ∧ W.frozen? ⟨A, p, none⟩ = false) := Lib.hid fun W hW => by
              have := (HYI.out W (below_then HBY.out hW)).1 p HP33.out
              rw [Nat.zero_add, hxv] at this
              exact this
            have HEND : Hid (∀ W, Below wr.heap.size wr W → Below w1.heap.size w1 (W.setCell ⟨A, p, none⟩ (.int .i64 (z2 + tv))) ∧ A < (W.setCell ⟨A, p, none⟩ (.int .i64 (z2 + tv))).heap.size ∧ RI (W.setCell ⟨A, p, none⟩ (.int .i64 (z2 + tv))) A 0 (knF C.p rs lv (O.take (i + 1)))) := Lib.hid fun W hW => by
              obtain ⟨h1, h2, h3, h4⟩ := HYI.out W (below_then HBY.out hW)
              refine ⟨h2.setCell (p := ⟨A, p, none⟩) HA1.out _, by simp [World.setCell]; exact h4, ?_⟩
              have h5 := h1.set p (z2 + tv)
              rw [Nat.zero_add] at h5
              refine h5.congr fun x _ => ?_
              rw [HTK.out]
              exact (kn_set HPV2.out _).symm
            clear hxv
            go_upto_region 19 with fail
            go_region_held3 (fun W => (W.cell? ⟨U, 0, none⟩ = some (.int .i64 b.ot) ∧ W.cell? ⟨U, 1, none⟩ = some (.int .i64 b.per) ∧ W.cell? ⟨U, 2, none⟩ = some (.int .i64 b.tm) ∧ W.cell? ⟨U, 3, none⟩ = some (.slice b.sa b.sm b.sc) ∧ W.cell? ⟨U, 4, none⟩ = some (.int .i64 b.cp) ∧ W.cell? ⟨U, 5, none⟩ = some (.int .i64 b.st) ∧ W.cell? ⟨U, 6, none⟩ = some (.int .i64 b.mo)) ∧ W.cell? ⟨g2, off2 + j, none⟩ = some (.int .i64 r))
              (first | exact HCS.out _ (Below.refl _ wr).drew | exact HCT.out _ _ H8.out | exact HCS.out _ H8.out)
              (first
                | (go_at_call 40; refine HTI.out.mono ?_; rintro e w8 ⟨rfl, H8⟩; obtain ⟨x0, x1⟩ := HCX.out w8 H8.out))
            all_goals
              have HN := Lib.hid (HEND.out w8 H8.out)
              go_wp2_with fail
              go_roundw
              case rel => exact ⟨i + 1, by go_num, by omega, HN⟩
              case measure => simp [RowKit.intOf]; omega
    · obtain rfl : i = n9 := by omega
      have hd1 : decide (i < i) = false := by simp
      obtain ⟨x0, -⟩ := HI.out.2.2 K HK33.out
      rw [Nat.zero_add] at x0
      have HF : Hid (knF C.p rs lv (O.take i) (K : Int) = pathA C.p (K : Int) rs lv) := Lib.hid (by
        rw [List.take_of_length_le (by rw [H9.out.1]; exact Nat.le_refl _), HEV.out]
        unfold knF
        rw [if_pos HKO.out])
      rw [HF.out] at x0
      go_wp2_with fail
      go_ret2
      exact ⟨rfl, HNO.out _ HXR.out⟩
end Go.Proofs.Ytohlkaoophbinaa.Bom.Im
namespace Go.Proofs.Ytohlkaoophbinaa.Bom
open Classical in
theorem impl : Impl where
  expand C k n lv a m c hv w h hm hs h4 _ _ _ _ := by
    by_cases ho : Cat.chkC C.p = 0 ∧ Im.AskOk C k n lv hv
    · exact Im.exp_go C k n lv a m c hv w h.1 h.2.1 hm hs h4 ho.1 ho.2
    · exact Im.exp_bad C k n lv a m c hv w h.1 h.2.1 hm hs h4 ho
  path C k a m c rs lv w h hr hs hm _ _ _ := Im.path_im C k a m c rs lv w h.1 h.2.1 hr hs hm
  whole C a m c rs lv w h hr hs hm _ _ := Im.whole_im C a m c rs lv w h.1 h.2.1 hr hs hm
  fits C k n lv a m c raw ra rm rc rs w h hm hs h4 _ hr hrs hrm _ _ _ _ := Im.fits_im C k n lv a m c raw ra rm rc rs w h.1 h.2.1 hm hs h4 hr hrs hrm
end Go.Proofs.Ytohlkaoophbinaa.Bom
