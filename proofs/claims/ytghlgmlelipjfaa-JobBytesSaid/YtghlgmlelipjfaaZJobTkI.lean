/- The program's Take. The document's TakeStacks and Read. -/
import Derived.Test.YtghlgmlelipjfaaZJobTn
import Derived.Test.YtghlgmlelipjfaaZGoodsImCk
import Derived.Test.YtghlgmlelipjfaaZPrRDone
import Derived.BigRegion
namespace Go.Proofs.Ytghlgmlelipjfaa.Job.Im
open Go.RowKit Go.Lib
open Goods (St Sts OwnS)
open Pen (uiN uiS tmN tmS)

set_option maxRecDepth 100000 in
set_option maxHeartbeats 16000000 in
theorem take_im (S : ByteArray) (w : World) (hS : S.size ≤ 1048576) :
    Calls Try.prog 18 #[.string S] w fun e w' => ∃ a m c, e = .returned (.tuple #[jV (takV S) (.slice a m c), .int .i64 (takE S)]) ∧ Hid (JIn w' a m (takV S).s ∧ m ≤ 8 ∧ Below w.heap.size w w') := by
  obtain ⟨G, X, hG, hX, HXB, HG⟩ := box_zero w
  obtain ⟨J, s1, hJ⟩ : ∃ J s1, jobQ (some S) = (J, s1) := ⟨_, _, rfl⟩
  have HTI := takq_is S
  unfold TakIs at HTI
  rw [hJ] at HTI
  have HTI := Lib.hid HTI
  have HSF : Hid (Pen.Fit (some S)) := Lib.hid fun t ht => by
    injection ht with ht
    rw [← ht]
    omega
  have HTK : Hid (∀ W Q, Pen.Rd W Q (some S) → Calls Try.prog 41 #[.pointer (some ⟨Q, 0, none⟩)] W fun e w' => ∃ a m c, e = .returned (jV J (.slice a m c)) ∧ Hid (m ≤ 8 ∧ OwnS w' W.heap.size (.slice a m c) J.s ∧ Went W w' Q s1)) := Lib.hid fun W Q h => by
    have := taken_im Q (some S) W h HSF.out
    rw [hJ] at this
    exact this
  have HN0 : Hid (w.heap.size = G ∧ X.heap.size = G + 1) := Lib.hid ⟨hG, HXB.out.2⟩
  obtain ⟨tv, htv⟩ : ∃ tv, takV S = tv := ⟨_, rfl⟩
  obtain ⟨te, hte⟩ : ∃ te, takE S = te := ⟨_, rfl⟩
  rw [htv, hte] at HTI
  rw [htv, hte]
  clear hJ htv hte hS
  go_enter Try.func18, Try.ntmps18
  go_wp2_with fail
  clear hG hX
  refine (Pen.new_any S X).mono ?_
  rintro e Z ⟨rfl, hZ⟩
  obtain ⟨Q, hQ⟩ : ∃ Q, X.heap.size = Q := ⟨_, rfl⟩
  have HZB : Hid (Pen.Rd Z Q (some S) ∧ Below X.heap.size X Z ∧ X.heap.size = Q) := Lib.hid ⟨by rw [← hZ, ← hQ]; exact heap_alloc_new X _, by rw [← hZ]; exact (Below.refl _ X).alloc (Nat.le_refl _) _, hQ⟩
  have HN : Hid (w.heap.size = G ∧ Q = G + 1 ∧ Below w.heap.size w Z ∧ Q < Z.heap.size ∧ Has Z G zJ (.slice none 0 0)) := Lib.hid ⟨HN0.out.1, by have := HN0.out.2; omega, below_then HXB.out.1 HZB.out.2.1, HZB.out.1.lt, has_under HG.out HZB.out.2.1⟩
  rw [hQ]
  clear hZ hQ
  go_wp2_with fail
  refine (HTK.out Z Q HZB.out.1).mono ?_
  rintro e w1 ⟨a, m, c, rfl, H1⟩
  obtain ⟨U, y1, hU, hy1, HB1, HZ1⟩ := box_zero w1
  have HQF : Hid (Q ≠ G ∧ G < w1.heap.size ∧ w.heap.size ≤ Q) := Lib.hid ⟨by have := HN.out; omega, by have h1 := HN.out; have := H1.out.2.2.grown.size; omega, by have := HN.out; omega⟩
  have HW1 : Hid (Below w.heap.size w w1 ∧ Has w1 G zJ (.slice none 0 0)) := Lib.hid ⟨below_of_only HN.out.2.2.1 HQF.out.2.2 H1.out.2.2.grown, has_by HN.out.2.2.2.2 H1.out.2.2.grown HQF.out.1⟩
  obtain ⟨d, hd⟩ : ∃ d, Pen.doneOf s1 = d := ⟨_, rfl⟩
  have HDN : Hid (∀ W, Below w1.heap.size w1 W → Calls Try.prog 42 #[.pointer (some ⟨Q, 0, none⟩)] W fun e w' => e = .returned (.bool d) ∧ Hid (Below W.heap.size W w')) := Lib.hid fun W hW => by
    rw [← hd]
    refine (Pen.done_any Q s1 W (H1.out.2.2.rd.of_below hW)).mono ?_
    rintro e w' ⟨rfl, rfl⟩
    exact ⟨rfl, Lib.hid (Below.refl _ _)⟩
  have HD := Lib.hid hd
  clear hd
  go_wp2_with ((with_reducible show wpList _ _ _ _ _ y1); refine store_jo rfl _ _ rfl U rfl J a m c rfl zJ (.slice none 0 0) HZ1.out ?_; intro w2 h2 g2; have L2 : Hid (Below w1.heap.size w1 w2 ∧ Has w2 U J (.slice a m c)) := Lib.hid ⟨below_of_only HB1.out.1 (Nat.le_of_eq hU) g2, h2⟩; clear h2 g2 hy1 hU)
  refine (HDN.out w2 L2.out.1).mono ?_
  rintro e w3 ⟨rfl, H3⟩
  have K3 : Hid (Below w.heap.size w w3 ∧ Has w3 G zJ (.slice none 0 0) ∧ Has w3 U J (.slice a m c) ∧ Below w1.heap.size w1 w3) := Lib.hid (by
    have hb := below_then L2.out.1 H3.out
    exact ⟨below_then HW1.out.1 hb, has_under HW1.out.2 hb, has_under L2.out.2 H3.out, hb⟩)
  have HJ3 : Hid (JIn w3 a m J.s ∧ m ≤ 1024 ∧ m ≤ 8) := Lib.hid ⟨JIn.under (sts_row H1.out.2.1) K3.out.2.2.2, by have := H1.out.1; omega, H1.out.1⟩
  cases d with
  | false =>
    have HBAD : Hid (te = 2 ∧ tv = zJ) := Lib.hid (HTI.out.2 fun h => by
      have h1 : s1 = some ⟨#[]⟩ := h.1
      have := HD.out
      rw [h1, done_nil] at this
      cases this)
    obtain ⟨rfl, rfl⟩ := HBAD.out
    go_wp2_with ((with_reducible show wpList _ _ _ (Oper.mk none _ _ _ _ _ :: _) _ w3); refine store_jo rfl _ _ rfl G rfl zJ none 0 0 rfl zJ (.slice none 0 0) K3.out.2.1 ?_; intro w5 h5 g5)
    exact ret_jo2 (x := zJ) (v := .slice none 0 0) rfl rfl rfl rfl h5 ⟨none, 0, 0, rfl, Lib.hid ⟨JIn.nil _, Nat.zero_le _, below_of_only K3.out.1 (by have := HN.out; omega) g5⟩⟩
  | true =>
    have HSX : Hid (s1 = some ⟨#[]⟩) := Lib.hid (done_yes HD.out)
    obtain ⟨er, her⟩ : ∃ er, chk J = er := ⟨_, rfl⟩
    have HCK := check_im J a m c w3 HJ3.out.1 HJ3.out.2.1
    rw [her] at HCK
    have HCK : Hid (Calls Try.prog 10 #[jV J (.slice a m c)] w3 fun e w' => e = .returned (.int .i64 er) ∧ Hid (Below w3.heap.size w3 w')) := Lib.hid (HCK.mono fun _ _ ⟨e, h⟩ => ⟨e, Lib.hid h⟩)
    have HER := Lib.hid her
    clear her
    by_cases he : er = 0
    · have HOK : Hid (te = 0 ∧ tv = J) := Lib.hid (HTI.out.1 ⟨HSX.out, HER.out.trans he⟩)
      obtain ⟨e1, e2⟩ := HOK.out
      subst e1 e2
      subst he
      go_wp2_with ((with_reducible show wpList _ _ _ _ _ w3); refine load_joG rfl _ rfl U rfl tv (.slice a m c) K3.out.2.2.1 ?_)
      refine HCK.out.mono ?_
      rintro e w4 ⟨rfl, H4⟩
      have K4 : Hid (Below w.heap.size w w4 ∧ Has w4 G zJ (.slice none 0 0) ∧ Has w4 U tv (.slice a m c) ∧ JIn w4 a m tv.s ∧ Below w1.heap.size w1 w4) := Lib.hid ⟨below_then K3.out.1 H4.out, has_under K3.out.2.1 H4.out, has_under K3.out.2.2.1 H4.out, HJ3.out.1.under H4.out, below_then K3.out.2.2.2 H4.out⟩
      go_wp2_with (first
        | ((with_reducible show wpList _ _ _ (Oper.mk (some 19) _ _ _ _ _ :: _) _ w4); refine load_jo rfl _ rfl U rfl tv (.slice a m c) K4.out.2.2.1 ?_)
        | ((with_reducible show wpList _ _ _ (Oper.mk none _ _ _ _ _ :: _) _ w4); refine store_jo rfl _ _ rfl G rfl tv a m c rfl zJ (.slice none 0 0) K4.out.2.1 ?_; intro w5 h5 g5))
      exact ret_jo2 (x := tv) (v := .slice a m c) rfl rfl rfl rfl h5 ⟨a, m, c, rfl, Lib.hid ⟨sts_row (own_past (Goods.own_under H1.out.2.1 K4.out.2.2.2.2) g5 (by have := HN.out; omega)), HJ3.out.2.2, below_of_only K4.out.1 (by have := HN.out; omega) g5⟩⟩
    · have HBAD : Hid (te = 2 ∧ tv = zJ) := Lib.hid (HTI.out.2 fun h => he (HER.out.symm.trans h.2))
      obtain ⟨rfl, rfl⟩ := HBAD.out
      have hne : (er != 0) = true := by simpa using he
      clear he
      go_wp2_with ((with_reducible show wpList _ _ _ _ _ w3); refine load_joG rfl _ rfl U rfl J (.slice a m c) K3.out.2.2.1 ?_)
      refine HCK.out.mono ?_
      rintro e w4 ⟨rfl, H4⟩
      have K4 : Hid (Below w.heap.size w w4 ∧ Has w4 G zJ (.slice none 0 0)) := Lib.hid ⟨below_then K3.out.1 H4.out, has_under K3.out.2.1 H4.out⟩
      go_wp2_with ((with_reducible show wpList _ _ _ (Oper.mk none _ _ _ _ _ :: _) _ w4); refine store_jo rfl _ _ rfl G rfl zJ none 0 0 rfl zJ (.slice none 0 0) K4.out.2 ?_; intro w5 h5 g5)
      exact ret_jo2 (x := zJ) (v := .slice none 0 0) rfl rfl rfl rfl h5 ⟨none, 0, 0, rfl, Lib.hid ⟨JIn.nil _, Nat.zero_le _, below_of_only K4.out.1 (by have := HN.out; omega) g5⟩⟩
end Go.Proofs.Ytghlgmlelipjfaa.Job.Im
namespace Go.Proofs.Ytghlgmlelipjfaa.Job
open Go.RowKit Go.Lib
open Goods (St Sts OwnS)
open Pen (Rq RqTo Link isBad uiN uiS)

/-- The block of a stack of one's own. -/
theorem box_st (w : World) (x y : Int) : ∃ V X, w.heap.size = V ∧ w.alloc (.cells #[.int .i64 x, .int .i64 y] 74) = X ∧ Hid (Below w.heap.size w X ∧ X.heap.size = V + 1 ∧ X.heap[V]? = some (.cells #[.int .i64 x, .int .i64 y] 74 (0, 0))) :=
  ⟨_, _, rfl, rfl, Lib.hid ⟨(Below.refl _ w).alloc (Nat.le_refl _) _, by simp, heap_alloc_new w _⟩⟩
set_option maxRecDepth 100000 in
set_option maxHeartbeats 8000000 in
theorem dtst (Q : Nat) (S : ByteArray) (st : RS) (w : World) (hS : S.size ≤ 4611686018427387904) (h : RD w Q S st) :
    Calls Try.prog 66 #[.pointer (some ⟨Q, 0, none⟩)] w fun e w' => ∃ a m c, e = .returned (.slice a m c) ∧ Hid ((nedP (uiN st 8) (uiS st 8)).1.length = m ∧ m ≤ 8 ∧ OwnS w' w.heap.size (.slice a m c) (nedP (uiN st 8) (uiS st 8)).1 ∧ RD w' Q S (nedP (uiN st 8) (uiS st 8)).2 ∧ w.grownBy w' (some Q)) := by
  have HUI := ui_at Q S hS
  obtain ⟨n, hn⟩ : ∃ n : Nat, uiN st 8 = n := ⟨_, rfl⟩
  obtain ⟨s0, hs0⟩ : ∃ s : RS, uiS st 8 = s := ⟨_, rfl⟩
  have hn8 : n ≤ 8 := by have := ui_le (st := st) (most := 8) (by omega); rw [hn] at this; omega
  have hn9 : (n : Int) ≤ 8 := by omega
  rw [hn, hs0]
  have HN := Lib.hid hn
  have HS0 := Lib.hid hs0
  have HR := Lib.hid h
  have HQ : Hid (Q < w.heap.size) := Lib.hid h.lt
  clear hn hs0 h hS
  go_enter Try.func66, Try.ntmps66
  go_wp2_with fail
  refine (HUI.out w st 8 n s0 HN.out HS0.out HR.out (by omega)).mono ?_
  rintro e w1 ⟨rfl, G1⟩
  go_wp2_with fail
  go_loopw [4, 5] (fun v t wr => ∃ (i : Nat) (s1 : RS) (a : Option Addr) (c : Nat) (o : List St), v = .slice a i c ∧ t = .int .i64 (i : Int) ∧ i ≤ n ∧ Hid (OwnS wr w.heap.size (.slice a i c) o ∧ o.length = i) ∧ Hid (RD wr Q S s1 ∧ w.grownBy wr (some Q)) ∧ Hid (nedP n s0 = (o ++ (nedP (n - i) s1).1, (nedP (n - i) s1).2))) (fun _ t _ => n - (RowKit.intOf t).toNat)
  case atStart => exact ⟨0, s0, none, 0, [], rfl, rfl, by omega, Lib.hid ⟨World.ownsRow_nil _ _ _ _, rfl⟩, G1, Lib.hid (by simp)⟩
  case round =>
    clear G1
    obtain ⟨i, s1, a, c, o, rfl, rfl, hi, HO, HW, HI⟩ := hrel
    obtain ⟨W0, rfl⟩ : ∃ W0, W0 = wr := ⟨_, rfl⟩
    have hi0 : (0 : Int) ≤ (i : Int) := by omega
    by_cases hlt : i < n
    case neg =>
      obtain rfl : i = n := by omega
      have HE : Hid ((nedP i s0).1.length = i ∧ i ≤ 8 ∧ OwnS W0 w.heap.size (.slice a i c) (nedP i s0).1 ∧ RD W0 Q S (nedP i s0).2 ∧ w.grownBy W0 (some Q)) := Lib.hid (by
        rw [HI.out, ned_end (.inl rfl) (Nat.le_refl _)]
        simp only [List.append_nil]
        exact ⟨HO.out.2, by omega, HO.out.1, HW.out⟩)
      go_wp2_with fail
      go_ret
      exact ⟨a, i, c, rfl, HE⟩
    have hlt2 : (i : Int) < (n : Int) := by omega
    by_cases hst : s1 = none
    case pos =>
      subst hst
      have kq : W0.cell? ⟨Q, 2, none⟩ = some (.bool true) := HW.out.1.bad
      have HE : Hid ((nedP n s0).1.length = i ∧ i ≤ 8 ∧ OwnS W0 w.heap.size (.slice a i c) (nedP n s0).1 ∧ RD W0 Q S (nedP n s0).2 ∧ w.grownBy W0 (some Q)) := Lib.hid (by
        rw [HI.out, ned_end (.inr rfl) hi]
        simp only [List.append_nil]
        exact ⟨HO.out.2, by omega, HO.out.1, HW.out⟩)
      go_wp2_with fail
      go_ret
      exact ⟨a, i, c, rfl, HE⟩
    have kq : W0.cell? ⟨Q, 2, none⟩ = some (.bool false) := by
      have := HW.out.1.bad
      rw [bad_some hst] at this
      exact this
    have HSTEP := Lib.hid (ned_step hlt hst)
    have wi : IntKind.i64.wrap ((i : Int) + 1) = (i : Int) + 1 := IntWalk.i64_in _ (by omega)
    obtain ⟨x, hx⟩ : ∃ n : Nat, uiN s1 MX = n := ⟨_, rfl⟩
    obtain ⟨t1, ht1⟩ : ∃ s : RS, uiS s1 MX = s := ⟨_, rfl⟩
    have NX := Lib.hid hx
    have SX := Lib.hid ht1
    obtain ⟨y, hy⟩ : ∃ n : Nat, uiN t1 MX = n := ⟨_, rfl⟩
    obtain ⟨t2, ht2⟩ : ∃ s : RS, uiS t1 MX = s := ⟨_, rfl⟩
    have NY := Lib.hid hy
    have SY := Lib.hid ht2
    have HI2 : Hid (nedP n s0 = (o ++ [⟨(x : Int), (y : Int)⟩] ++ (nedP (n - (i + 1)) t2).1, (nedP (n - (i + 1)) t2).2)) := Lib.hid (by
      rw [HI.out, HSTEP.out, hx, ht1, hy, ht2]
      simp)
    clear hx ht1 hy ht2 hst HSTEP HI
    go_wp2_with fail
    clear kq
    refine (HUI.out W0 s1 9223372036854775807 x t1 NX.out SX.out HW.out.1 (by omega)).mono ?_
    rintro e v1 ⟨rfl, G1⟩
    go_wp2_with fail
    obtain ⟨V, Y1, hV, hY1, HB1⟩ := box_st v1 (x : Int) 0
    have HY1 : Hid (RD Y1 Q S t1 ∧ W0.grownBy Y1 (some Q)) := Lib.hid ⟨by rw [← hY1]; exact G1.out.1.alloc _, only_trans G1.out.2 (by rw [← hY1]; exact grown_alloc v1 _ _)⟩
    have HQV : Hid (Q < V) := Lib.hid (by rw [← hV]; exact G1.out.1.lt)
    have HVW : Hid (w.heap.size ≤ V ∧ v1.heap.size = V) := Lib.hid (by have h1 := HW.out.2.size; have h2 := G1.out.2.size; omega)
    rw [hY1, hV]
    clear hV hY1
    refine (HUI.out Y1 t1 9223372036854775807 y t2 NY.out SY.out HY1.out.1 (by omega)).mono ?_
    rintro e v2 ⟨rfl, G2⟩
    have hvb : v2.heap[V]? = some (.cells #[.int .i64 (x : Int), .int .i64 0] 74 (0, 0)) := grown_block G2.out.2 HB1.out.2.2 (fun e => by have := Option.some.inj e; have := HQV.out; omega)
    have k0 : v2.cell? ⟨V, 0, none⟩ = some (.int .i64 (x : Int)) := cell_block (j := 0) hvb rfl
    have k1 : v2.cell? ⟨V, 1, none⟩ = some (.int .i64 0) := cell_block (j := 1) hvb rfl
    have f1 := free_block 1 hvb
    obtain ⟨v3, hv3⟩ : ∃ W, v2.setCell ⟨V, 1, none⟩ (.int .i64 (y : Int)) = W := ⟨_, rfl⟩
    have hb3 : v3.heap[V]? = some (.cells #[.int .i64 (x : Int), .int .i64 (y : Int)] 74 (0, 0)) := by rw [← hv3]; exact heap_setCell_same v2 V 1 _ _ _ hvb
    have hg3 : v2.grownBy v3 (some V) := by rw [← hv3]; exact only_setCell (only_refl v2 _) _ _
    have z0 : v3.cell? ⟨V, 0, none⟩ = some (.int .i64 (x : Int)) := cell_block (j := 0) hb3 rfl
    have z1 : v3.cell? ⟨V, 1, none⟩ = some (.int .i64 (y : Int)) := cell_block (j := 1) hb3 rfl
    have HV0 := HVW
    have HW3 : Hid (RD v3 Q S t2 ∧ w.grownBy v3 (some Q)) := Lib.hid ⟨G2.out.1.by hg3 (fun e => by have := Option.some.inj e; have := HQV.out; omega), grown_over (only_trans HW.out.2 (only_trans HY1.out.2 G2.out.2)) hg3 (fun g e => by injection e with e; subst e; exact .inr HV0.out.1)⟩
    have ho3 : OwnS v3 w.heap.size (.slice a i c) o := by
      have h1 : OwnS v2 w.heap.size (.slice a i c) o := own_past HO.out.1 (only_trans HY1.out.2 G2.out.2) HQ.out
      refine own_by h1 hg3 fun g cur e hg hv => ?_
      injection e with e
      subst e
      have h2 := (own_type HO.out.1 hv).2.1
      have h3 := G1.out.2.size
      have h4 := HB1.out.2.1
      have h5 := HVW.out.2
      omega
    obtain ⟨a4, c4, w4, hr4, ho4, hg4⟩ := app_s v3 ⟨(x : Int), (y : Int)⟩ ho3 (by omega) HW3.out.2.size
    have HO4 : Hid (OwnS w4 w.heap.size (.slice a4 (i + 1) c4) (o ++ [⟨(x : Int), (y : Int)⟩]) ∧ (o ++ [(⟨(x : Int), (y : Int)⟩ : St)]).length = i + 1) := Lib.hid ⟨ho4, by have := HO.out.2; simp [this]⟩
    have HW4 : Hid (RD w4 Q S t2 ∧ w.grownBy w4 (some Q)) := Lib.hid ⟨HW3.out.1.by hg4 (fun e => by have h1 := (own_type ho3 e).1; have h2 := HQ.out; omega), grown_over HW3.out.2 hg4 (fun g e => .inr (own_type ho3 e).1)⟩
    clear hvb hb3 hg3 ho3 ho4 hg4
    go_wp2_with (at_builtin; refine walk_run (v' := .slice a4 (i + 1) c4) (w' := w4) rfl _ _ _ _ rfl _ _ rfl rfl ?_ ?_; exact hr4.out)
    clear hv3 k0 k1 f1 z0 z1
    go_roundw
    case rel => exact ⟨i + 1, t2, a4, c4, o ++ [⟨(x : Int), (y : Int)⟩], rfl, by go_num, by omega, HO4, HW4, HI2⟩
    case measure => simp [RowKit.intOf]; omega
end Go.Proofs.Ytghlgmlelipjfaa.Job
