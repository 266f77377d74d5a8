/- The program's Expand: the walk. -/
import Derived.Test.YtohlkaoophbinaaZBomImO
import Derived.Deep.RegionHeld3
namespace Go.Proofs.Ytohlkaoophbinaa.Bom.Im
open Go.RowKit Go.Lib Go.Shelf IRows
open Goods (St Sts OwnS cnt)
open Cat (Cat PB CM CatAt Lim I64 pOf box_cat)
open Recipe (needsE needsL needL up nd BlIn)
open Graph.Im (Gr gr_below gr_setP gr_setQ gr_drew)
attribute [local go_sem] Oper.semAt_some

set_option maxRecDepth 100000 in
set_option maxHeartbeats 16000000 in
theorem exp_go (C : CM) (kind n lv : Int) (a : Option Addr) (m c : Nat) (hv : List St) (w : World) (h : CatAt w C) (hl : Lim C) (hm : hv.length = m) (hs : Sts w a hv) (h4 : m ≤ 1000) (hc0 : Cat.chkC C.p = 0) (hask : AskOk C kind n lv hv) :
    Calls Try.prog 9 #[C.v, .int .i64 kind, .int .i64 n, .int .i64 lv, .slice a m c] w fun e w' => ∃ b : BM, e = .returned (.tuple #[b.v, .int .i64 (expE C.p kind n lv hv)]) ∧ Hid (BomAt w' b ∧ Says b (bill C.p kind n lv hv) ∧ Below w.heap.size w w') := by
  obtain ⟨V, X1, L, X2, R, X3, E, X, hV, hX1, hL, hX2, hR, hX3, hE, hX, HS, HC⟩ := four_boxes w C lv
  obtain ⟨⟨k0, k1, k2, k3, k4, k5, k6, k7⟩, kl, -⟩ := HC.out X (Below.refl _ _)
  have hcX := h.under HS.out.1
  have HCX : Hid (CatAt X C) := Lib.hid hcX
  have HLIM := Lib.hid hl
  obtain ⟨O, hO⟩ : ∃ O, Graph.ordV C.ty (Cat.ndL C.p.bs) = O := ⟨_, rfl⟩
  have HTO : Hid (topV C.p = O.reverse) := Lib.hid (by unfold topV; show (Graph.ordV C.ty (Cat.ndL C.p.bs)).reverse = _; rw [hO])
  have HM : Hid (Calls Try.prog 22 #[.agg #[.int .i64 C.ty, .slice C.ba C.bn C.bc, .int .i64 C.pl, .slice C.ya C.yn C.yc, .int .i64 C.ch, .int .i64 C.f.broker, .int .i64 C.f.least, .int .i64 C.f.sales]] X fun e w' => ∃ a n c, e = .returned (.tuple #[.slice a n c, .int .i64 0]) ∧ Hid ((O.length = n ∧ KS w' X.heap.size (.slice a n c) O) ∧ Below X.heap.size X w')) := Lib.hid (by
    refine (order_of C X hcX hl).mono ?_
    rintro e w' ⟨a2, n2, c2, rfl, H⟩
    have := H.out
    rw [hO] at this
    rw [hc0]
    exact ⟨a2, n2, c2, rfl, Lib.hid ⟨this.1 hc0, this.2⟩⟩)
  obtain ⟨ta, HA0, EA⟩ := ask_at C kind n lv a m c hv X hm (hs.under HS.out.1) h4
  obtain rfl : ta = true := EA.out.2 hask
  have HTOP : Hid (Top C.p.ty (Cat.ndL C.p.bs) O.reverse ∧ O.reverse.length ≤ 32) := Lib.hid (by
    have := chk_top hc0
    rw [HTO.out] at this
    exact ⟨this.1, this.2.1⟩)
  have HOK := Lib.hid (Cat.chk_zero hc0)
  have HCK := Lib.hid hc0
  have HAK := Lib.hid hask
  have hty : C.ty ≤ 32 := HOK.out.1.1.2
  have HSX : Hid (hv.length = m ∧ Sts X a hv) := Lib.hid ⟨hm, hs.under HS.out.1⟩
  have HCO : Hid (∀ W, Below X.heap.size X W → Calls Try.prog 24 #[.slice a m c] W fun e w' => e = .returned (.agg (rowL (cnt hv)).toArray) ∧ Hid (Below W.heap.size W w')) := Lib.hid fun W hW => count_im a m c hv C.ty W HSX.out.1 (HSX.out.2.under hW) HAK.out.2.2.2 HOK.out.1.1.2
  obtain ⟨K, rfl⟩ := Int.eq_ofNat_of_zero_le (show 0 ≤ kind by have := hask.1; omega)
  have HK33 : Hid (K < 33) := Lib.hid (by have := hask.1; omega)
  have hK0 : (0 : Int) ≤ (K : Int) := by omega
  have hK33 : (K : Int) < 33 := by have := hask.1; omega
  have hnb : 1 ≤ n ∧ n ≤ 1125899906842624 := hask.2.1
  have HBN : Hid (C.p.bs.length = C.bn) := Lib.hid (by unfold CM.p; rw [List.length_map]; exact h.1.1)
  have hbn : C.bn ≤ 20 := hl.2.1
  obtain ⟨cs, hcs⟩ : ∃ cs, rowL (cnt hv) = cs := ⟨_, rfl⟩
  rw [hcs] at HCO
  have HCS := Lib.hid hcs
  have hz := (zero_of_info info33).1
  obtain ⟨Z, hZ⟩ : ∃ Z, (Array.replicate 33 (.int .i64 0) : Array Value) = Z := ⟨_, rfl⟩
  rw [hZ] at hz
  have hZs : Z.size = 33 := by rw [← hZ]; exact Array.size_replicate
  have hlen : cs.length = 33 := by rw [← hcs]; exact rowL_len _
  have hone : cs.toArray.all (·.oneCell') = true := all_oneCell_toArray (by rw [← hcs]; exact rowL_one _)
  have hcz : cs.toArray.size = 33 := by rw [List.size_toArray]; exact hlen
  have HST : Hid (∀ W : World, (storeCells ⟨W.heap.size, 0, none⟩ cs 0).run Try.prog (W.alloc (.cells Z 62)) = .ok () (W.alloc (.cells cs.toArray 62))) := Lib.hid fun W => by
    have := run_storeCells_new (P := Try.prog) W 62 Z cs.toArray (by rw [hcz]; exact size33) (by rw [hZs, hcz]) hone
    exact this
  have hmk := run_make_row' (P := Try.prog) 33 3 (.int .i64 0) 8 Try.underlying33 info_int rfl .i64 .i64 C.bn (by omega) (by omega)
  clear h hl hm hs h4 hc0 hask hO hty hZ hcs hone hcX
  refine (callsIn_wide (n := 6)).1 ?_
  refine callsIn_of_wp_marks Try.func9 rfl trivial ?_ rfl
  simp only [Try.ntmps9, List.size_toArray, List.length_cons, List.length_nil, Nat.reduceAdd, Nat.reduceSub, Array.replicate_succ, Array.replicate_zero, List.push_toArray, List.append_toArray, List.nil_append, List.cons_append]
  refine wpIn_wide.2 ?_
  go_wp2_with fail
  clear hX hV hX1 hX2 hX3 hL hR hE
  refine HM.out.mono ?_
  rintro e w1 ⟨a9, n9, c9, rfl, H1⟩
  clear k0 k1 k2 k3 k4 k5 k6 k7 kl
  obtain ⟨⟨y0, y1, y2, y3, y4, y5, y6, y7⟩, yl, -⟩ := HC.out w1 H1.out.2
  have HAK1 := Lib.hid (HA0.out w1 H1.out.2)
  go_wp2_with fail
  refine HAK1.out.mono ?_
  rintro e w2 ⟨rfl, H2⟩
  have H2' : Hid (Below X.heap.size X w2) := Lib.hid (below_then H1.out.2 H2.out)
  clear y0 y1 y2 y3 y4 y5 y6 y7 yl
  go_wp2_with fail
  refine (HCO.out w2 H2'.out).mono ?_
  rintro e w3 ⟨rfl, H3⟩
  have H3' : Hid (Below X.heap.size X w3) := Lib.hid (below_then H2'.out H3.out)
  obtain ⟨Th, W4, hTh, hW4, H4⟩ := box_rw w3 (cnt hv) cs HCS.out 62
  have hst := HST.out w3
  rw [hW4, hTh] at hst
  have HX4 : Hid (Below X.heap.size X W4) := Lib.hid (below_then H3'.out H4.out.1)
  obtain ⟨⟨y0, y1, y2, y3, y4, y5, y6, y7⟩, -⟩ := HC.out W4 HX4.out
  go_upto_region 7 with fail
  clear hst hW4 hTh hz hZs
  obtain ⟨G, W5, A, W6, hG, hW5, hA, hW6, H6⟩ := bb_new W4 C.bn C.p.bs HBN.out
  have hzb := (zero_of_info infoB).1
  obtain ⟨Zb, hZb⟩ : ∃ Zb, ((Array.replicate 99 (.int .i64 0)).push (.slice none 0 0) : Array Value) = Zb := ⟨_, rfl⟩
  rw [hZb] at hzb
  have hZbs : Zb.size = 100 := by rw [← hZb]; simp
  obtain ⟨Vb, hVb⟩ : ∃ Vb, billV G C.bn = Vb := ⟨_, rfl⟩
  have hstb : (storeCells ⟨A, 0, none⟩ Vb.toList 0).run Try.prog (W5.alloc (.cells Zb 65)) = .ok () W6 := by
    have := run_storeCells_new (P := Try.prog) W5 65 Zb Vb (by rw [← hVb, billV_size]; exact (zero_of_info infoB).2) (by rw [hZbs, ← hVb, billV_size]) (by rw [← hVb]; exact billV_one _ _)
    rw [hA, hVb.symm] at this
    rw [hW6] at this
    rw [← hVb]
    exact this
  have hVs : Vb.size = 100 := by rw [← hVb]; exact billV_size _ _
  have HVB := Lib.hid hVb
  obtain ⟨⟨x0, x1⟩, -⟩ := H6.out.2.2.2.2.at K HK33.out
  clear hW6 hZb hVb
  go_upto_region 9 with (refine wpList_build_bill rfl rfl G C.bn rfl Vb HVB.out ?_)
  obtain ⟨W7, hW7⟩ : ∃ W7, W6.setCell ⟨A, K, none⟩ (.int .i64 n) = W7 := ⟨_, rfl⟩
  have HB7 : Hid (BB W7 A G C.bn (p0 C.p.bs (K : Int) n) ∧ Below W4.heap.size W4 W7 ∧ W7.heap.size = G + 2) := Lib.hid (by
    rw [← hW7]
    have h6 := H6.out
    refine ⟨h6.2.2.2.2.setW K HK33.out n, h6.2.2.2.1.setCell (p := ⟨A, K, none⟩) (by show W4.heap.size ≤ A; omega) _, by simp [World.setCell]; exact h6.1⟩)
  have HBK := Lib.hid (back_im a9 n9 c9 W7)
  rw [hW7]
  clear hW7 hW5 hA x0 x1 hzb hstb hVs hZbs hmk y0 y1 y2 y3 y4 y5 y6 y7
  go_wp2_with fail
  refine HBK.out.mono ?_
  rintro e W8 ⟨rfl, hW8⟩
  have H8a := heap_alloc_new W7 (.cells #[.slice a9 n9 c9] 33)
  rw [hW8] at H8a
  obtain ⟨Bx, hBx⟩ : ∃ Bx, W7.heap.size = Bx := ⟨_, rfl⟩
  have HB8 : Hid (BB W8 A G C.bn (p0 C.p.bs (K : Int) n) ∧ Below W4.heap.size W4 W8 ∧ W8.heap.size = Bx + 1 ∧ Bx = G + 2 ∧ A = G + 1 ∧ W4.heap.size = G ∧ W8.cell? ⟨Bx, 0, none⟩ = some (.slice a9 n9 c9)) := Lib.hid (by
    have h7 := HB7.out
    have hb : Below W7.heap.size W7 W8 := by rw [← hW8]; exact (Below.refl _ _).alloc (Nat.le_refl _) _
    refine ⟨h7.1.under hb, below_then h7.2.1 hb, by rw [← hW8]; simp; omega, by omega, H6.out.2.1, hG, ?_⟩
    rw [← hBx]
    exact cell_block (j := 0) H8a rfl)
  rw [hBx]
  clear hW8 H8a hBx hG
  go_wp2_with fail
  refine (wpIn_wide (n := 6)).1 ?_
  have H9 : Hid (O.length = n9 ∧ n9 ≤ 64 ∧ ∀ x ∈ O, 1 ≤ x ∧ x ≤ 32) := Lib.hid (by
    have h1 := HTOP.out.2
    rw [List.length_reverse] at h1
    have h2 : C.p.ty ≤ 32 := HOK.out.1.1.2
    refine ⟨H1.out.1.1, by rw [← H1.out.1.1]; omega, fun x hx => ?_⟩
    have := (HTOP.out.1.all x).1 (List.mem_reverse.2 hx)
    omega)
  have HW18 : Hid (Below w1.heap.size w1 W8 ∧ w1.heap.size ≤ G) := Lib.hid (by
    have h1 := below_then H2.out (below_then H3.out H4.out.1)
    have h2 := HB8.out
    exact ⟨below_then h1 h2.2.1, by have := h1.size; omega⟩)
  have HROW : Hid (RowAt W8 a9 O) := Lib.hid (by
    obtain ⟨a3, c3, e3, h3⟩ := irow_own H1.out.1.2
    injection e3 with e3 _ _
    subst e3
    intro i x hx
    obtain ⟨g, off, e, _, h4⟩ := (h3.under HW18.out.1) i x hx
    exact ⟨g, off, e, h4⟩)
  have HRA : Hid (∀ g off, a9 = some ⟨g, off, none⟩ → g < G) := Lib.hid (fun g off e => by
    have h1 := (H1.out.1.2.lt g (by rw [e]; rfl)).2
    have := HW18.out.2
    omega)
  have HPER : Hid (∀ b ∈ C.p.bs, 1 ≤ b.per ∧ b.per ≤ 1048576) := Lib.hid fun b hb => (HOK.out.2.1 b hb).2.2.1
  have HX8 : Hid (Below X.heap.size X W8 ∧ X.heap.size ≤ G) := Lib.hid (by
    have h1 := HW18.out
    exact ⟨below_then H1.out.2 h1.1, Nat.le_trans H1.out.2.size h1.2⟩)
  have HTH : Hid (RI W8 Th 0 (cnt hv) ∧ Th < G) := Lib.hid (by
    have h1 := H4.out
    have h2 := HB8.out
    exact ⟨h1.2.2.under (by omega) h2.2.1, by omega⟩)
  have HQ0 : Hid (∀ x, 0 ≤ cnt hv x ∧ cnt hv x ≤ 1125899906842624) := Lib.hid fun x => by
    refine ⟨Goods.cnt_nonneg (qty_listed HAK.out.2.2.2) _, ?_⟩
    by_cases hq : ∃ s ∈ hv, s.kind = x
    · obtain ⟨s, hs, e⟩ := hq
      rw [← e, Goods.cnt_at (listed_norm HAK.out.2.2.2).rise hs]
      exact (Goods.Im.listed_iff.1 HAK.out.2.2.2).2.2.1 s hs
    · rw [Goods.cnt_none fun s hs e => hq ⟨s, hs, e⟩]
      omega
  have hAG : A < W8.heap.size ∧ G < W8.heap.size ∧ Bx < W8.heap.size ∧ A ≠ Bx ∧ G ≠ Bx ∧ A ≠ G ∧ G ≤ A := by have := HB8.out; omega
  have HAG := Lib.hid hAG
  clear hAG
  have HII : Hid (OwnFrom W8.heap.size (fun (pre : List Ky) (W : World) => Hid (∃ P, prn C.p.bs lv hv (pre.map Ky.n) (p0 C.p.bs (K : Int) n) = some P ∧ PG C.bn P ∧ BB W A G C.bn P ∧ Gr W8 W A G))) := Lib.hid (fun s Y Z row hs hg hr => by
    obtain ⟨P, h1, h2, h3, h4⟩ := hs.out
    have hne : ∀ k, k < W8.heap.size → some k ≠ row := fun k hk e => by have := (hr k e.symm).1; omega
    have hag := HAG.out
    exact Lib.hid ⟨P, h1, h2, h3.same (hg.block A h3.ia (hne A hag.1)) (hg.block G h3.ig (hne G hag.2.1)) hg.size, ⟨hg.os.trans h4.os, hg.tape.trans h4.tape, hg.output.trans h4.output, Nat.le_trans h4.size hg.size, fun k hk n1 n2 => (hg.block k (Nat.lt_of_lt_of_le hk h4.size) (hne k hk)).trans (h4.block k hk n1 n2)⟩⟩)
  have HIX : Hid (∀ c : Code, OwnFrom W8.heap.size (fun (pre : List Ky) (W : World) => Hid (c = .ret ∧ prn C.p.bs lv hv (pre.map Ky.n) (p0 C.p.bs (K : Int) n) = none ∧ (W.cell? ⟨R, 0, none⟩ = some (.slice none 0 0) ∧ W.cell? ⟨R, 1, none⟩ = some (.slice none 0 0) ∧ W.cell? ⟨R, 2, none⟩ = some (.slice none 0 0) ∧ W.cell? ⟨E, 0, none⟩ = some (.int .i64 5)) ∧ Below w.heap.size w W))) := Lib.hid (fun c s Y Z row hs hg hr => by
    obtain ⟨h1, h2, ⟨h3, h4, h5, h6⟩, h7⟩ := hs.out
    have hr2 : ∀ r, row = some r → ∃ o, Y.heap[r]? = some o ∧ o.isCells = false := fun r e => (hr r e).2
    have hsz : w.heap.size ≤ W8.heap.size := Nat.le_trans HS.out.1.size HX8.out.1.size
    exact Lib.hid ⟨h1, h2, ⟨cell_kept h3 hg hr2, cell_kept h4 hg hr2, cell_kept h5 hg hr2, cell_kept h6 hg hr2⟩, h7.grown hg h7.size fun k e => Nat.le_trans hsz (hr k e).1⟩)
  have HI0 : Hid (Hid (∃ P, prn C.p.bs lv hv (([] : List Ky).map Ky.n) (p0 C.p.bs (K : Int) n) = some P ∧ PG C.bn P ∧ BB W8 A G C.bn P ∧ Gr W8 W8 A G)) := Lib.hid (Lib.hid ⟨_, rfl, by
    have := pg_start C.p.bs (kind := (K : Int)) (n := n) (by rw [mq_lit]; omega)
    rw [HBN.out] at this
    exact this, HB8.out.1, Gr.refl _ _ _⟩)
  refine' wpIn_rangeFunc_ownF rfl (by omega) (gf := 54) (lb := #[.pointer (some ⟨Bx, 0, none⟩)]) rfl trivial (enters_of Try.func54 (by kernel_rfl) rfl)
    (back_stops Fence.wide (6 - 1) trivial rfl (by omega) Bx a9 n9 c9 O (fun k => k = Bx ∨ k < G) H9.out.1 H9.out.2.1 H9.out.2.2 (.inl rfl) (fun g off e => .inr (HRA.out g off e)) W8 HB8.out.2.2.2.2.2.2 HAG.out.2.2.1 HROW.out) Keep.trans (keep_b (fun k hk => by have := HAG.out; omega)) (Below.refl _ _) (fun _ => rfl)
    (fun (pre : List Ky) (W : World) => Hid (∃ P, prn C.p.bs lv hv (pre.map Ky.n) (p0 C.p.bs (K : Int) n) = some P ∧ PG C.bn P ∧ BB W A G C.bn P ∧ Gr W8 W A G))
    (fun c (pre : List Ky) (W : World) => Hid (c = .ret ∧ prn C.p.bs lv hv (pre.map Ky.n) (p0 C.p.bs (K : Int) n) = none ∧ (W.cell? ⟨R, 0, none⟩ = some (.slice none 0 0) ∧ W.cell? ⟨R, 1, none⟩ = some (.slice none 0 0) ∧ W.cell? ⟨R, 2, none⟩ = some (.slice none 0 0) ∧ W.cell? ⟨E, 0, none⟩ = some (.int .i64 5)) ∧ Below w.heap.size w W))
    HII.out HIX.out HI0.out _ ?assign ?body ?done ?stop
  case assign =>
    intro lo x W K hK
    gi_wp2
    exact hK
  case body =>
    rintro lo pre ⟨xi, k, hk⟩ W hI hlt
    obtain ⟨P, h1, h2, h3, h4⟩ := hI.out
    have HP1 := Lib.hid h1
    have HPG := Lib.hid h2
    have HBB := Lib.hid h3
    have HGR := Lib.hid h4
    dsimp only [Ky.n]
    have hk0 : (0 : Int) ≤ (k : Int) := by omega
    have hk33 : (k : Int) < 33 := by omega
    have HK3 : Hid (k < 33 ∧ 1 ≤ k) := Lib.hid (by omega)
    obtain ⟨⟨x0, x1⟩, -⟩ := h3.at k HK3.out.1
    obtain ⟨pw, hpw⟩ : ∃ pw, P.w (k : Int) = pw := ⟨_, rfl⟩
    obtain ⟨cv, hcv⟩ : ∃ cv, cnt hv (k : Int) = cv := ⟨_, rfl⟩
    have hth : W.cell? ⟨Th, k, none⟩ = some (.int .i64 cv) := by
      have h5 := HTH.out
      have h6 := HAG.out
      have h7 := (h5.1.same (h4.block Th (by omega) (by omega) (by omega))) k HK3.out.1
      rw [Nat.zero_add, hcv] at h7
      exact h7.1
    rw [hpw] at x0
    have hpb := h2.w (k : Int)
    have hcb := HQ0.out (k : Int)
    rw [hpw, mq_lit] at hpb
    rw [hcv] at hcb
    obtain ⟨lk, hlk⟩ : ∃ lk, pw - cv = lk := ⟨_, rfl⟩
    have wlk : IntKind.i64.wrap (pw - cv) = lk := by rw [hlk]; exact IntWalk.i64_in _ (by omega)
    have wlk2 : wrap64 (pw - cv) = lk := by rw [hlk]; exact IntWalk.wrap64_in _ (by omega)
    have HLK : Hid (P.w (k : Int) - cnt hv (k : Int) = lk ∧ lk ≤ 1125899906842624) := Lib.hid (by rw [hpw, hcv]; exact ⟨hlk, by omega⟩)
    have hSD : W.drew.cell? ⟨A, k, none⟩ = some (.int .i64 pw) ∧ W.drew.cell? ⟨Th, k, none⟩ = some (.int .i64 cv) := ⟨x0, hth⟩
    have HBD : Hid (BB W.drew A G C.bn P ∧ Gr W8 W.drew A G ∧ Gr W W.drew A G) := Lib.hid ⟨h3.under (Below.refl _ W).drew, h4.trans (gr_drew _ _ _), gr_drew _ _ _⟩
    have HPS : Hid (prn C.p.bs lv hv ((pre ++ [(⟨xi, k, hk⟩ : Ky)]).map Ky.n) (p0 C.p.bs (K : Int) n) = pstp C.p.bs lv hv (k : Int) P) := Lib.hid (by
      rw [List.map_append]
      exact prn_snoc _ HP1.out)
    clear h1 h2 h3 h4 hpw hcv hpb hcb hlk x1 hI
    gi_wp2
    refine wpIn_round_held (fun V => V.cell? ⟨A, k, none⟩ = some (.int .i64 pw) ∧ V.cell? ⟨Th, k, none⟩ = some (.int .i64 cv)) (by kernel_rfl) (by kernel_rfl) hSD (fun hHeld => ?_)
    refine wpAnyH_take (i := 0) (v := .int .i64 (k : Int)) rfl (by kernel_rfl) (by kernel_rfl) (by kernel_rfl) (fun _ _ _ h => (by cases h.1)) (Or.inl ⟨by rfl, fun Y hSV => ?_⟩) (by assumption) ?_
    · obtain ⟨y0, y1⟩ := hSV
      go_simp
    (try simp only [Act.put, List.getElem_toArray, List.getElem_cons_zero, List.setIfInBounds_toArray, List.set_cons_zero, List.set_cons_succ])
    refine wpAnyH_take (i := 1) (v := .pointer (some ⟨A, 0, none⟩)) rfl (by kernel_rfl) (by kernel_rfl) (by kernel_rfl) (fun _ _ _ h => (by cases h.1)) (Or.inl ⟨by rfl, fun Y hSV => ?_⟩) (by assumption) ?_
    · obtain ⟨y0, y1⟩ := hSV
      go_simp
    (try simp only [Act.put, List.getElem_toArray, List.getElem_cons_succ, List.getElem_cons_zero, List.setIfInBounds_toArray, List.set_cons_zero, List.set_cons_succ])
    refine wpAnyH_take (i := 2) (v := .pointer (some ⟨A, k, none⟩)) rfl (by kernel_rfl) (by kernel_rfl) (by kernel_rfl) (fun _ _ _ h => (by cases h.1)) (Or.inl ⟨by rfl, fun Y hSV => ?_⟩) (by assumption) ?_
    · obtain ⟨y0, y1⟩ := hSV
      go_simp
    (try simp only [Act.put, List.getElem_toArray, List.getElem_cons_succ, List.getElem_cons_zero, List.setIfInBounds_toArray, List.set_cons_zero, List.set_cons_succ])
    refine wpAnyH_take (i := 3) (v := .int .i64 pw) rfl (by kernel_rfl) (by kernel_rfl) (by kernel_rfl) (fun _ _ _ h => (by cases h.1)) (Or.inl ⟨by rfl, fun Y hSV => ?_⟩) (by assumption) ?_
    · obtain ⟨y0, y1⟩ := hSV
      go_simp
    (try simp only [Act.put, List.getElem_toArray, List.getElem_cons_succ, List.getElem_cons_zero, List.setIfInBounds_toArray, List.set_cons_zero, List.set_cons_succ])
    refine wpAnyH_take (i := 4) (v := .int .i64 (k : Int)) rfl (by kernel_rfl) (by kernel_rfl) (by kernel_rfl) (fun _ _ _ h => (by cases h.1)) (Or.inl ⟨by rfl, fun Y hSV => ?_⟩) (by assumption) ?_
    · obtain ⟨y0, y1⟩ := hSV
      go_simp
    (try simp only [Act.put, List.getElem_toArray, List.getElem_cons_succ, List.getElem_cons_zero, List.setIfInBounds_toArray, List.set_cons_zero, List.set_cons_succ])
    refine wpAnyH_take (i := 5) (v := .pointer (some ⟨Th, k, none⟩)) rfl (by kernel_rfl) (by kernel_rfl) (by kernel_rfl) (fun _ _ _ h => (by cases h.1)) (Or.inl ⟨by rfl, fun Y hSV => ?_⟩) (by assumption) ?_
    · obtain ⟨y0, y1⟩ := hSV
      go_simp
    (try simp only [Act.put, List.getElem_toArray, List.getElem_cons_succ, List.getElem_cons_zero, List.setIfInBounds_toArray, List.set_cons_zero, List.set_cons_succ])
    refine wpAnyH_take (i := 6) (v := .int .i64 cv) rfl (by kernel_rfl) (by kernel_rfl) (by kernel_rfl) (fun _ _ _ h => (by cases h.1)) (Or.inl ⟨by rfl, fun Y hSV => ?_⟩) (by assumption) ?_
    · obtain ⟨y0, y1⟩ := hSV
      go_simp
    (try simp only [Act.put, List.getElem_toArray, List.getElem_cons_succ, List.getElem_cons_zero, List.setIfInBounds_toArray, List.set_cons_zero, List.set_cons_succ])
    refine wpAnyH_take (i := 7) (v := .int .i64 lk) rfl (by kernel_rfl) (by kernel_rfl) (by kernel_rfl) (fun _ _ _ h => (by cases h.1)) (Or.inl ⟨by rfl, fun Y hSV => ?_⟩) (by assumption) ?_
    · obtain ⟨y0, y1⟩ := hSV
      go_simp
    (try simp only [Act.put, List.getElem_toArray, List.getElem_cons_succ, List.getElem_cons_zero, List.setIfInBounds_toArray, List.set_cons_zero, List.set_cons_succ])
    refine wpAnyH_take (i := 8) (v := .int .i64 lk) rfl (by kernel_rfl) (by kernel_rfl) (by kernel_rfl) (fun _ _ _ h => (by cases h.1)) (Or.inl ⟨by rfl, fun Y hSV => ?_⟩) (by assumption) ?_
    · obtain ⟨y0, y1⟩ := hSV
      go_simp
    (try simp only [Act.put, List.getElem_toArray, List.getElem_cons_succ, List.getElem_cons_zero, List.setIfInBounds_toArray, List.set_cons_zero, List.set_cons_succ])
    refine wpAnyH_done (by kernel_rfl) ⟨rfl, ?_⟩ _
    have HNX : Hid (∀ W' Q, Gr W W' A G → pstp C.p.bs lv hv (k : Int) P = some Q → BB W' A G C.bn Q → KeepsOthers W W' ∧ Keep (fun k => k = Bx ∨ k < G) W W' ∧ Hid (∃ P, prn C.p.bs lv hv ((pre ++ [(⟨xi, k, hk⟩ : Ky)]).map Ky.n) (p0 C.p.bs (K : Int) n) = some P ∧ PG C.bn P ∧ BB W' A G C.bn P ∧ Gr W8 W' A G)) := Lib.hid fun W' Q hg hq hb => by
      refine ⟨keeps_gr HBB.out hg, ⟨hg.size, fun j hj => ?_⟩, Lib.hid ⟨Q, by rw [HPS.out]; exact hq, HPG.out.step HPER.out (HQ0.out _).1 hq, hb, HGR.out.trans hg⟩⟩
      have h6 := HAG.out
      have h7 := HGR.out.size
      exact hg.block j (by omega) (by omega) (by omega)
    by_cases c1 : 0 < lk
    case neg =>
      have d1 : decide (0 < lk) = false := decide_eq_false c1
      have HQ : Hid (pstp C.p.bs lv hv (k : Int) P = some P) := Lib.hid (by
        unfold pstp
        rw [HLK.out.1, if_neg c1])
      clear c1
      gi_wp2
      exact HNX.out W.drew P HBD.out.2.2 HQ.out HBD.out.1
    have d1 : decide (0 < lk) = true := decide_eq_true c1
    have HXA : Hid (X.heap.size ≤ A ∧ X.heap.size ≤ G) := Lib.hid (by have h1 := HX8.out.2; have h2 := HAG.out; omega)
    have HXW : Hid (∀ W', Gr W.drew W' A G → Below X.heap.size X W') := Lib.hid fun W' hg => below_gr2 HX8.out.1 (HBD.out.2.1.trans hg) HXA.out.1 HXA.out.2
    have HFI := Lib.hid (fill_im C A G P k lk lv X W.drew HCX.out HLIM.out HCK.out (HXW.out W.drew (Gr.refl _ _ _)) HXA.out.1 HXA.out.2 HBD.out.1 HPG.out ⟨by omega, HLK.out.2⟩ HAK.out.2.2.1 HK3.out.1)
    have HQE : Hid (pstp C.p.bs lv hv (k : Int) P = pfil C.p.bs lv (k : Int) lk P) := Lib.hid (by
      unfold pstp
      rw [HLK.out.1, if_pos c1])
    obtain ⟨⟨y0, y1, y2, y3, y4, y5, y6, y7⟩, yl, -⟩ := HC.out W.drew (HXW.out W.drew (Gr.refl _ _ _))
    have HEND : Hid (∀ W', Gr W.drew W' A G → pfil C.p.bs lv (k : Int) lk P = none → KeepsOthers W ((((W'.setCell ⟨R, 0, none⟩ (.slice none 0 0)).setCell ⟨R, 1, none⟩ (.slice none 0 0)).setCell ⟨R, 2, none⟩ (.slice none 0 0)).setCell ⟨E, 0, none⟩ (.int .i64 5)) ∧ Hid (Code.ret = .ret ∧ prn C.p.bs lv hv ((pre ++ [(⟨xi, k, hk⟩ : Ky)]).map Ky.n) (p0 C.p.bs (K : Int) n) = none ∧ (((((W'.setCell ⟨R, 0, none⟩ (.slice none 0 0)).setCell ⟨R, 1, none⟩ (.slice none 0 0)).setCell ⟨R, 2, none⟩ (.slice none 0 0)).setCell ⟨E, 0, none⟩ (.int .i64 5)).cell? ⟨R, 0, none⟩ = some (.slice none 0 0) ∧ ((((W'.setCell ⟨R, 0, none⟩ (.slice none 0 0)).setCell ⟨R, 1, none⟩ (.slice none 0 0)).setCell ⟨R, 2, none⟩ (.slice none 0 0)).setCell ⟨E, 0, none⟩ (.int .i64 5)).cell? ⟨R, 1, none⟩ = some (.slice none 0 0) ∧ ((((W'.setCell ⟨R, 0, none⟩ (.slice none 0 0)).setCell ⟨R, 1, none⟩ (.slice none 0 0)).setCell ⟨R, 2, none⟩ (.slice none 0 0)).setCell ⟨E, 0, none⟩ (.int .i64 5)).cell? ⟨R, 2, none⟩ = some (.slice none 0 0) ∧ ((((W'.setCell ⟨R, 0, none⟩ (.slice none 0 0)).setCell ⟨R, 1, none⟩ (.slice none 0 0)).setCell ⟨R, 2, none⟩ (.slice none 0 0)).setCell ⟨E, 0, none⟩ (.int .i64 5)).cell? ⟨E, 0, none⟩ = some (.int .i64 5)) ∧ Below w.heap.size w ((((W'.setCell ⟨R, 0, none⟩ (.slice none 0 0)).setCell ⟨R, 1, none⟩ (.slice none 0 0)).setCell ⟨R, 2, none⟩ (.slice none 0 0)).setCell ⟨E, 0, none⟩ (.int .i64 5)))) := Lib.hid fun W' hg hq => by
      have hx := HXW.out W' hg
      obtain ⟨-, -, ⟨r0, r1, r2, -⟩, e0, -⟩ := HC.out W' hx
      have h1 := HS.out
      refine ⟨((((keeps_gr HBB.out (HBD.out.2.2.trans hg)).trans (.setCell _ _ _)).trans (.setCell _ _ _)).trans (.setCell _ _ _)).trans (.setCell _ _ _), Lib.hid ⟨rfl, by rw [HPS.out, HQE.out]; exact hq, told_cells (by omega) r0 r1 r2 e0, told_below (below_then h1.1 hx) h1.2.1 (by omega) _ _ _ _⟩⟩
    have HRC : Hid (∀ W', Gr W.drew W' A G → (W'.cell? ⟨R, 0, none⟩ = some (.slice none 0 0) ∧ W'.cell? ⟨R, 1, none⟩ = some (.slice none 0 0) ∧ W'.cell? ⟨R, 2, none⟩ = some (.slice none 0 0) ∧ W'.frozen? ⟨R, 0, none⟩ = false ∧ W'.frozen? ⟨R, 1, none⟩ = false ∧ W'.frozen? ⟨R, 2, none⟩ = false) ∧ W'.cell? ⟨E, 0, none⟩ = some (.int .i64 0) ∧ W'.frozen? ⟨E, 0, none⟩ = false) := Lib.hid fun W' hg => (HC.out W' (HXW.out W' hg)).2.2
    have hne : (⟨R, 0, none⟩ : Addr) ≠ ⟨E, 0, none⟩ := addr_ne (.inl (by have := HS.out; omega))
    clear c1
    gi_wp2_with (refine ⟨trivial, ?_⟩; gi_at_call 26; refine (CallsIn.inRound lo (callsIn_wide.2 HFI.out)).mono ?_; rintro e w6 ⟨z, rfl, H6⟩; obtain ⟨⟨r0, r1, r2, f0, f1, f2⟩, e0, f3⟩ := HRC.out w6 H6.out.1; rcases H6.out.2 with ⟨hq, rfl⟩ | ⟨Q, hq, rfl, hbb⟩)
    · exact ⟨(HEND.out w6 H6.out.1 hq).1, Lib.hid ⟨rfl, (HEND.out w6 H6.out.1 hq).2.out.2⟩⟩
    · exact HNX.out w6 Q (HBD.out.2.2.trans H6.out.1) (by rw [HQE.out]; exact hq) hbb
  case done =>
    rintro D ys W hD hS hI hK
    obtain ⟨P, h1, h2, h3, h4⟩ := hI.out
    rw [hS] at h1
    have HRUN : Hid (∃ S, rn C.p.bs lv hv O.reverse (s0 C.p (K : Int) n) = some S ∧ Rel O.reverse S P ∧ PG C.bn P) := Lib.hid (by
      rcases Rel.run (n := C.bn) HPER.out (fun x => (HQ0.out x).1) O.reverse [] (s0 C.p (K : Int) n) (p0 C.p.bs (K : Int) n) HTOP.out.1.nodup (rel_start C.p (K : Int) n) (by
        have := pg_start C.p.bs (kind := (K : Int)) (n := n) (by rw [mq_lit]; omega)
        rw [HBN.out] at this
        exact this) with ⟨_, e⟩ | ⟨S, P', e1, e2, e3, e4⟩
      · rw [h1] at e
        cases e
      · rw [h1] at e2
        injection e2 with e2
        subst e2
        exact ⟨S, e1, e3, e4⟩)
    obtain ⟨S, HS1⟩ : ∃ S, Hid (rn C.p.bs lv hv O.reverse (s0 C.p (K : Int) n) = some S ∧ Rel O.reverse S P ∧ PG C.bn P) := ⟨HRUN.out.choose, Lib.hid HRUN.out.choose_spec⟩
    have HT32 : Hid (∀ x ∈ O.reverse, 1 ≤ x ∧ x ≤ 32) := Lib.hid fun x hx => H9.out.2.2 x (List.mem_reverse.1 hx)
    have HRAW : Hid (stkF P.rw 33 = Goods.valN S.raw) := Lib.hid (rel_stk HS1.out.2.2.rw HS1.out.2.1.rk HT32.out HS1.out.2.1.raw)
    have HLFT : Hid (stkF P.lf 33 = Goods.valN S.left) := Lib.hid (rel_stk HS1.out.2.2.lf HS1.out.2.1.lk HT32.out HS1.out.2.1.left)
    have HEXP : Hid (expE C.p (K : Int) n lv hv = 0 ∧ bill C.p (K : Int) n lv hv = ⟨S.w, S.rs, Goods.valN S.raw, Goods.valN S.left⟩) := Lib.hid (by
      have hmy : mayE C.p (K : Int) lv hv = 0 := mayE_ok HCK.out HAK.out.1 HAK.out.2.2.1 HAK.out.2.2.2
      have hr : runE C.p (K : Int) n lv hv = some S := by
        unfold runE
        rw [HTO.out]
        exact HS1.out.1
      exact ⟨exp_some hmy HAK.out.2.1 hr, bill_some hmy HAK.out.2.1 hr⟩)
    have HBW := Lib.hid h3
    have HGW := Lib.hid h4
    have HKD := Lib.hid hK
    have HDL : Hid (W8.heap.size ≤ D ∧ D < W.heap.size) := Lib.hid ⟨hD, (Array.getElem?_eq_some_iff.1 hK).1⟩
    have HXA : Hid (X.heap.size ≤ A ∧ X.heap.size ≤ G) := Lib.hid (by have h1 := HX8.out.2; have h2 := HAG.out; omega)
    have HXW : Hid (Below X.heap.size X W) := Lib.hid (below_gr2 HX8.out.1 h4 HXA.out.1 HXA.out.2)
    obtain ⟨c1s, hc1⟩ : ∃ c, rowL P.rw = c := ⟨_, rfl⟩
    obtain ⟨c2s, hc2⟩ : ∃ c, rowL P.lf = c := ⟨_, rfl⟩
    have HK1 : Hid (∀ V, Calls Try.prog 27 #[.agg c1s.toArray] V fun e w' => ∃ a n c, e = .returned (.slice a n c) ∧ Hid ((stkF P.rw 33).length = n ∧ OwnS w' V.heap.size (.slice a n c) (stkF P.rw 33) ∧ Below V.heap.size V w')) := Lib.hid fun V => by
      rw [← hc1]
      exact stacks_im P.rw V
    have HK2 : Hid (∀ V, Calls Try.prog 27 #[.agg c2s.toArray] V fun e w' => ∃ a n c, e = .returned (.slice a n c) ∧ Hid ((stkF P.lf 33).length = n ∧ OwnS w' V.heap.size (.slice a n c) (stkF P.lf 33) ∧ Below V.heap.size V w')) := Lib.hid fun V => by
      rw [← hc2]
      exact stacks_im P.lf V
    have HAR : Hid (A ≠ R ∧ A ≠ E ∧ G ≠ R ∧ G ≠ E ∧ R ≠ E ∧ D ≠ R ∧ D ≠ E ∧ E < W.heap.size ∧ R < W.heap.size) := Lib.hid (by
      have h1 := HXA.out; have h2 := HS.out; have h3 := HDL.out; have h4 := HX8.out.1.size; have h5 := HAG.out
      omega)
    have HCS3 : Hid (∀ V, Gr W V R E → V.rangeAt A 33 c1s ∧ V.rangeAt A 66 c2s ∧ V.cell? ⟨A, 99, none⟩ = some (.slice (some ⟨G, 0, none⟩) C.bn C.bn)) := Lib.hid fun V hV => by
      have h1 := HAR.out
      have hb := HBW.out.same (hV.block A HBW.out.ia h1.1 h1.2.1) (hV.block G HBW.out.ig h1.2.2.1 h1.2.2.2.1) hV.size
      rw [← hc1, ← hc2]
      exact ⟨hb.r.range, hb.l.range, hb.s⟩
    have hl1 : (Try.prog.info? 62).map (·.size) = some c1s.length := by rw [← hc1, rowL_len]; exact size33
    have hl2 : (Try.prog.info? 62).map (·.size) = some c2s.length := by rw [← hc2, rowL_len]; exact size33
    have hne : (⟨R, 0, none⟩ : Addr) ≠ ⟨E, 0, none⟩ := addr_ne (.inl HAR.out.2.2.2.2.1)
    have HRC : Hid (∀ V, Below W.heap.size W V → (V.cell? ⟨R, 0, none⟩ = some (.slice none 0 0) ∧ V.cell? ⟨R, 1, none⟩ = some (.slice none 0 0) ∧ V.cell? ⟨R, 2, none⟩ = some (.slice none 0 0) ∧ V.frozen? ⟨R, 0, none⟩ = false ∧ V.frozen? ⟨R, 1, none⟩ = false ∧ V.frozen? ⟨R, 2, none⟩ = false) ∧ V.cell? ⟨E, 0, none⟩ = some (.int .i64 0) ∧ V.frozen? ⟨E, 0, none⟩ = false) := Lib.hid fun V hV => (HC.out V (below_then HXW.out hV)).2.2
    clear h1 h2 h3 h4 hc1 hc2 hI hS
    gi_wp2
    go_upto_region 16 with fail
    refine wp_region_noPanic ?_
    refine wp_region_held_drew (S := fun V => Gr W V R E) (by kernel_rfl) (gr_drew W R E) (fun hHeld => ?_)
    refine wpAnyH_take (i := 0) (v := .pointer (some ⟨A, 33, none⟩)) rfl (by kernel_rfl) (by kernel_rfl) (by kernel_rfl) (fun _ _ _ h => h) (Or.inl ⟨by rfl, fun Y hSV => ?_⟩) (by assumption) ?_
    · go_simp
    (try simp only [Act.put, List.getElem_toArray, List.getElem_cons_zero, List.setIfInBounds_toArray, List.set_cons_zero, List.set_cons_succ])
    refine wpAnyH_take (i := 1) (v := .agg c1s.toArray) rfl (by kernel_rfl) (by kernel_rfl) (by kernel_rfl) (fun _ _ _ h => h) (yieldsIf_load_mid (by kernel_rfl) 62 (.tmp 71) rfl A 33 rfl c1s _ (fun V hV => (HCS3.out V hV).1) Try.underlying62 rfl hl1) (by assumption) ?_
    (try simp only [Act.put, List.getElem_toArray, List.getElem_cons_succ, List.getElem_cons_zero, List.setIfInBounds_toArray, List.set_cons_zero, List.set_cons_succ])
    refine wpAnyH_take (i := 3) (v := .pointer (some ⟨A, 99, none⟩)) rfl (by kernel_rfl) (by kernel_rfl) (by kernel_rfl) (fun _ _ _ h => h) (Or.inl ⟨by rfl, fun Y hSV => ?_⟩) (by assumption) ?_
    · go_simp
    (try simp only [Act.put, List.getElem_toArray, List.getElem_cons_succ, List.getElem_cons_zero, List.setIfInBounds_toArray, List.set_cons_zero, List.set_cons_succ])
    refine wpAnyH_take (i := 4) (v := .slice (some ⟨G, 0, none⟩) C.bn C.bn) rfl (by kernel_rfl) (by kernel_rfl) (by kernel_rfl) (fun _ _ _ h => h) (Or.inl ⟨by rfl, fun Y hSV => ?_⟩) (by assumption) ?_
    · have h3 := (HCS3.out Y hSV).2.2
      go_simp
    (try simp only [Act.put, List.getElem_toArray, List.getElem_cons_succ, List.getElem_cons_zero, List.setIfInBounds_toArray, List.set_cons_zero, List.set_cons_succ])
    refine wpAnyH_take (i := 5) (v := .pointer (some ⟨A, 66, none⟩)) rfl (by kernel_rfl) (by kernel_rfl) (by kernel_rfl) (fun _ _ _ h => h) (Or.inl ⟨by rfl, fun Y hSV => ?_⟩) (by assumption) ?_
    · go_simp
    (try simp only [Act.put, List.getElem_toArray, List.getElem_cons_succ, List.getElem_cons_zero, List.setIfInBounds_toArray, List.set_cons_zero, List.set_cons_succ])
    refine wpAnyH_take (i := 6) (v := .agg c2s.toArray) rfl (by kernel_rfl) (by kernel_rfl) (by kernel_rfl) (fun _ _ _ h => h) (yieldsIf_load_mid (by kernel_rfl) 62 (.tmp 76) rfl A 66 rfl c2s _ (fun V hV => (HCS3.out V hV).2.1) Try.underlying62 rfl hl2) (by assumption) ?_
    (try simp only [Act.put, List.getElem_toArray, List.getElem_cons_succ, List.getElem_cons_zero, List.setIfInBounds_toArray, List.set_cons_zero, List.set_cons_succ])
    refine wpAnyH_ready (rs := [2]) (by kernel_rfl) (by simp) ?_
    refine AllReadyH.cons (o := _) rfl (fun Kq hKq => ?_) AllReadyH.nil
    go_simp
    refine (HK1.out W.drew).mono ?_
    rintro e w7 ⟨a1, n1, c1, rfl, H7⟩
    (try dsimp only)
    have HB7 : Hid (Below W.heap.size W w7) := Lib.hid (below_then (Below.refl _ W).drew H7.out.2.2)
    refine hKq.out _ _ (gr_below HB7.out) (fun hHeld => ?_)
    clear hKq Kq
    (try simp only [Act.put, List.getElem_toArray, List.getElem_cons_succ, List.getElem_cons_zero, List.setIfInBounds_toArray, List.set_cons_zero, List.set_cons_succ])
    refine wpAnyH_ready (rs := [7]) (by kernel_rfl) (by simp) ?_
    refine AllReadyH.cons (o := _) rfl (fun Kq hKq => ?_) AllReadyH.nil
    go_simp
    refine (HK2.out w7).mono ?_
    rintro e w8 ⟨a2, n2, c2, rfl, H8⟩
    (try dsimp only)
    have HB8' : Hid (Below W.heap.size W w8) := Lib.hid (below_then HB7.out H8.out.2.2)
    obtain ⟨⟨r0, r1, r2, f0, f1, f2⟩, e0, f3⟩ := HRC.out w8 HB8'.out
    refine hKq.out _ _ (gr_below HB8'.out) (fun hHeld => ?_)
    clear hKq Kq
    (try simp only [Act.put, List.getElem_toArray, List.getElem_cons_succ, List.getElem_cons_zero, List.setIfInBounds_toArray, List.set_cons_zero, List.set_cons_succ])
    refine wpAnyH_take (i := 8) (v := .agg #[.slice a1 n1 c1, .slice (some ⟨G, 0, none⟩) C.bn C.bn, .slice a2 n2 c2]) rfl (by kernel_rfl) (by kernel_rfl) (by kernel_rfl) (fun _ _ _ h => h) (Or.inl ⟨by rfl, fun Y hSV => ?_⟩) (by assumption) ?_
    · go_simp
    (try simp only [Act.put, List.getElem_toArray, List.getElem_cons_succ, List.getElem_cons_zero, List.setIfInBounds_toArray, List.set_cons_zero, List.set_cons_succ])
    refine wpAnyH_ready (rs := [9]) (by kernel_rfl) (by simp) ?_
    refine AllReadyH.cons (o := _) rfl (fun Kq hKq => ?_) AllReadyH.nil
    go_simp
    have HG9 : Hid (Gr W (((w8.setCell ⟨R, 0, none⟩ (.slice a1 n1 c1)).setCell ⟨R, 1, none⟩ (.slice (some ⟨G, 0, none⟩) C.bn C.bn)).setCell ⟨R, 2, none⟩ (.slice a2 n2 c2)) R E) := Lib.hid ((((gr_below HB8'.out).trans (gr_setP _ R E _ _)).trans (gr_setP _ R E _ _)).trans (gr_setP _ R E _ _))
    refine hKq.out _ _ HG9.out (fun hHeld => ?_)
    clear hKq Kq
    (try simp only [Act.put, List.getElem_toArray, List.getElem_cons_succ, List.getElem_cons_zero, List.setIfInBounds_toArray, List.set_cons_zero, List.set_cons_succ])
    have e9 : (((w8.setCell ⟨R, 0, none⟩ (.slice a1 n1 c1)).setCell ⟨R, 1, none⟩ (.slice (some ⟨G, 0, none⟩) C.bn C.bn)).setCell ⟨R, 2, none⟩ (.slice a2 n2 c2)).cell? ⟨E, 0, none⟩ = some (.int .i64 0) := by
      have h1 := HAR.out
      rw [World.cell?_setCell_other (h := addr_ne (.inl h1.2.2.2.2.1)), World.cell?_setCell_other (h := addr_ne (.inl h1.2.2.2.2.1)), World.cell?_setCell_other (h := addr_ne (.inl h1.2.2.2.2.1))]
      exact e0
    have f9 : (((w8.setCell ⟨R, 0, none⟩ (.slice a1 n1 c1)).setCell ⟨R, 1, none⟩ (.slice (some ⟨G, 0, none⟩) C.bn C.bn)).setCell ⟨R, 2, none⟩ (.slice a2 n2 c2)).frozen? ⟨E, 0, none⟩ = false := by
      rw [World.frozen?_setCell, World.frozen?_setCell, World.frozen?_setCell]
      exact f3
    obtain ⟨Wf, hWf⟩ : ∃ Wf, ((((w8.setCell ⟨R, 0, none⟩ (.slice a1 n1 c1)).setCell ⟨R, 1, none⟩ (.slice (some ⟨G, 0, none⟩) C.bn C.bn)).setCell ⟨R, 2, none⟩ (.slice a2 n2 c2)).setCell ⟨E, 0, none⟩ (.int .i64 0)) = Wf := ⟨_, rfl⟩
    have HG10 : Hid (Gr W Wf R E) := Lib.hid (by rw [← hWf]; exact HG9.out.trans (gr_setQ _ R E _ _))
    have HFIN := Lib.hid (exp_fin (w := w) (V := w8) (B := W.heap.size) (D := D) (G := G) (bn := C.bn) (rs := S.rs) (l1 := Goods.valN S.raw) (l2 := Goods.valN S.left) hWf (by
        have h1 := H7.out.2.1
        rw [HRAW.out] at h1
        exact World.ownsRow.mono (Goods.own_under h1 H8.out.2.2) (Nat.le_refl _)) (by
        have h1 := H8.out.2.1
        rw [HLFT.out] at h1
        exact World.ownsRow.mono h1 HB7.out.size) (by have h1 := HAR.out; have h2 := HDL.out; omega) (fun i x hx => by
        have h1 := (HBW.out.under HB8'.out).rs i x (by rw [← HS1.out.2.1.rs]; exact hx)
        exact h1.1) (Nat.lt_of_lt_of_le HBW.out.ig HB8'.out.size) (by rw [HS1.out.2.1.rs]; exact HBW.out.len) (by have h1 := HAR.out; have h2 := HDL.out; have h3 := HAG.out; omega)
        ((HB8'.out.block D HDL.out.2).trans HKD.out) r0 r1 r2 e0 (by
        have h1 := H7.out.1; have h2 := H8.out.1; have h3 := stkF_len P.rw 33; have h4 := stkF_len P.lf 33
        omega) (below_then HS.out.1 (below_then HXW.out HB8'.out)) (by have h1 := HS.out; have h2 := HDL.out; have h3 := HX8.out.1.size; have h4 := h1.1.size; omega))
    refine wpAnyH_ready (rs := [10]) (by kernel_rfl) (by simp) ?_
    refine AllReadyH.cons (o := _) rfl (fun Kq hKq => ?_) AllReadyH.nil
    go_simp
    refine hKq.out _ _ HG10.out (fun hHeld => ?_)
    clear hKq Kq
    (try simp only [Act.put, List.getElem_toArray, List.getElem_cons_succ, List.getElem_cons_zero, List.setIfInBounds_toArray, List.set_cons_zero, List.set_cons_succ])
    refine wpAnyH_done (by kernel_rfl) (NoPanic.normal ?_) _
    clear hWf r0 r1 r2 f0 f1 f2 e0 f3 e9 f9
    go_wp2_with fail
    obtain ⟨hDf, ⟨t0, t1, t2, t3⟩, hbm, hbl⟩ := HFIN.out
    refine ⟨by simp, .inl ⟨_, _, rfl, run_takeDeferred hDf, ?_⟩⟩
    refine ⟨_, results_be rfl rfl rfl t0 t1 t2 t3, ⟨a1, n1, c1, Goods.valN S.raw, some ⟨G, 0, none⟩, C.bn, C.bn, S.rs, a2, n2, c2, Goods.valN S.left⟩, by rw [HEXP.out.1], Lib.hid ⟨hbm, ?_, hbl⟩⟩
    rw [HEXP.out.2]
    exact ⟨rfl, rfl, rfl⟩
  case stop =>
    rintro D c9' pre W hD ⟨post, hS⟩ hIx hK
    obtain ⟨rfl, h1, ⟨t0, t1, t2, t3⟩, hbw⟩ := hIx.out
    have HEXP : Hid (expE C.p (K : Int) n lv hv = 5) := Lib.hid (by
      have hp : prn C.p.bs lv hv O.reverse (p0 C.p.bs (K : Int) n) = none := by
        rw [hS]
        exact prn_fail h1
      refine exp_none (mayE_ok HCK.out HAK.out.1 HAK.out.2.2.1 HAK.out.2.2.2) HAK.out.2.1 ?_
      unfold runE
      rw [HTO.out]
      rcases Rel.run (n := C.bn) HPER.out (fun x => (HQ0.out x).1) O.reverse [] (s0 C.p (K : Int) n) (p0 C.p.bs (K : Int) n) HTOP.out.1.nodup (rel_start C.p (K : Int) n) (by
        have := pg_start C.p.bs (kind := (K : Int)) (n := n) (by rw [mq_lit]; omega)
        rw [HBN.out] at this
        exact this) with ⟨e, _⟩ | ⟨S, P', e1, e2, e3, e4⟩
      · exact e
      · rw [hp] at e2
        cases e2)
    have hgr := grownBy_putObj' W D (.deferred none)
    have hcl : ∀ r, some D = some r → ∃ o : Obj, W.heap[r]? = some o ∧ o.isCells = false := fun r e => by cases e; exact ⟨_, hK, rfl⟩
    have hlow : w.heap.size ≤ D := by have h1 := HS.out.1.size; have h2 := HX8.out.1.size; omega
    gi_wp2
    refine ⟨by simp, .inl ⟨_, _, rfl, run_takeDeferred hK, ?_⟩⟩
    obtain ⟨n1, n2⟩ := nil_says (C := C.p) (kind := (K : Int)) (n := n) (lv := lv) (hv := hv) (by rw [HEXP.out]; omega) (W.putObj D (.deferred none))
    exact ⟨_, results_be rfl rfl rfl (cell_kept t0 hgr hcl) (cell_kept t1 hgr hcl) (cell_kept t2 hgr hcl) (cell_kept t3 hgr hcl), nilB, by rw [HEXP.out]; rfl, Lib.hid ⟨n1, n2, hbw.trans (belowK_b (w := w) (Nat.le_refl _) W D _ _ hlow hK rfl rfl)⟩⟩
end Go.Proofs.Ytohlkaoophbinaa.Bom.Im
