/- The document's path, Path. The document's Runs. -/
import Derived.Test.YtohlkaoophbinaaZBomC
import Derived.Deep.CutRange
import Derived.Test.YtohlkaoophbinaaZCatMath
import Derived.Test.YtohlkaoophbinaaZBomX
namespace Go.Proofs.Ytohlkaoophbinaa.Bom
open Go.RowKit Go.Lib IRows
open Goods (St Sts OwnS cnt)
open Cat (Cat PB CM CatAt Lim box_cat pOf)
open Recipe (BlIn box_blue)

theorem maxL_nonneg : ∀ l : List Int, 0 ≤ maxL l
  | [] => Int.le_refl _
  | x :: l => by
    have := maxL_nonneg l
    rw [maxL]
    omega
theorem pth_nonneg (C : Cat) (rs : List Int) (lv : Int) : ∀ (f : Nat) (t : Int), 0 ≤ pth C rs lv f t
  | 0, _ => Int.le_refl _
  | f + 1, t => by
    unfold pth
    cases fm t C.bs with
    | none => exact Int.le_refl _
    | some p =>
      obtain ⟨i, b⟩ := p
      show 0 ≤ (if rs.getD i 0 = 0 then 0 else tim lv b (rs.getD i 0) + maxL (b.s.map fun s => pth C rs lv f s.kind))
      have h1 := tim_nonneg lv b (rs.getD i 0)
      have h2 := maxL_nonneg (b.s.map fun s => pth C rs lv f s.kind)
      split <;> omega
theorem sumL_le {g : Int → Int} {B : Int} (h : ∀ x, g x ≤ B) : ∀ l, sumL g l ≤ l.length * B
  | [] => by simp [sumL]
  | x :: l => by
    have h1 := sumL_le h l
    have h2 := h x
    rw [sumL, List.length_cons]
    rw [show (((l.length + 1 : Nat) : Int)) = (l.length : Int) + 1 by omega, Int.add_mul]
    omega
theorem own_le (C : Cat) (rs : List Int) (lv t : Int) : own C rs lv t ≤ 104857600000 := by
  unfold own
  split
  · decide
  · exact tim_le _ _ _
theorem top_len {ty : Int} {l : List Graph.Nd} {T : List Int} (h : Top ty l T) (h0 : 0 ≤ ty) (h2 : ty ≤ 32) : T.length ≤ 32 := by
  have := nodup_le ty.toNat T h.nodup fun x hx => by
    have := (h.all x).1 hx
    omega
  omega
theorem maxL_take {l : List Int} {i : Nat} {x : Int} (h : l[i]? = some x) : maxL (l.take (i + 1)) = max (maxL (l.take i)) x := by
  induction l generalizing i with
  | nil => simp at h
  | cons y l ih =>
    cases i with
    | zero =>
      simp at h
      subst h
      simp [maxL]
      exact Int.max_comm _ _
    | succ i =>
      have h : l[i]? = some x := by simpa using h
      rw [List.take_succ_cons, List.take_succ_cons, maxL, maxL, ih h]
      omega
/-- A type's way stands for as long as all that it may need stands behind it. -/
def PathC (C : CM) (a : Option Addr) (m c : Nat) (rs : List Int) (lv : Int) (T : List Int) (k : Nat) : Prop := ∀ (pre post : List Int) (t : Int) (f : Nat) (w : World), T = pre ++ t :: post → post.length = k → k < f → CatAt w C → IRow w a rs →
    Calls Try.prog 42 #[C.v, .int .i64 t, .slice a m c, .int .i64 lv] w fun e w' => e = .returned (.int .i64 (pth C.p rs lv f t)) ∧ Below w.heap.size w w'
set_option maxRecDepth 100000 in
set_option maxHeartbeats 8000000 in
theorem dpath_one (C : CM) (a : Option Addr) (m c : Nat) (rs : List Int) (lv : Int) (T : List Int) (hl : Lim C) (hr : rs.length = m) (hR : RunsOk C.p rs) (hT : Top C.p.ty (Cat.ndL C.p.bs) T) (hT2 : T.length ≤ 32) (k : Nat) (ih : ∀ j, j < k → PathC C a m c rs lv T j) : PathC C a m c rs lv T k := by
  intro pre post t f w eT hk hf h hs
  obtain ⟨f, rfl⟩ : ∃ q, f = q + 1 := ⟨f - 1, by omega⟩
  obtain ⟨V, X, hV, hX, HXB, HP⟩ := box_cat w C
  have HPE : Hid (∀ W, Below X.heap.size X W → W.cell? ⟨V, 0, none⟩ = some (.int .i64 C.ty) ∧ W.cell? ⟨V, 1, none⟩ = some (.slice C.ba C.bn C.bc) ∧ W.cell? ⟨V, 2, none⟩ = some (.int .i64 C.pl) ∧ W.cell? ⟨V, 3, none⟩ = some (.slice C.ya C.yn C.yc) ∧ W.cell? ⟨V, 4, none⟩ = some (.int .i64 C.ch) ∧ W.cell? ⟨V, 5, none⟩ = some (.int .i64 C.f.broker) ∧ W.cell? ⟨V, 6, none⟩ = some (.int .i64 C.f.least) ∧ W.cell? ⟨V, 7, none⟩ = some (.int .i64 C.f.sales)) := Lib.hid fun W hW => HP.out W hW
  obtain ⟨k0, k1, k2, k3, k4, k5, k6, k7⟩ := HPE.out X (Below.refl _ _)
  have HB := Cat.blue_at (h.under HXB.out)
  have HCA : Hid (CatAt X C) := Lib.hid (h.under HXB.out)
  have HRS : Hid (IRow X a rs) := Lib.hid (hs.under HXB.out)
  have HNO : Hid (∀ W, Below X.heap.size X W → Below w.heap.size w W) := Lib.hid fun W hW => below_then HXB.out hW
  have HT := irow_at (hs.under HXB.out)
  have hb1 : C.bn ≤ 20 := hl.2.1
  have hmb : m = C.bn := by rw [← hr, hR.1]; unfold CM.p; rw [List.length_map]; exact h.1.1
  have hmi : (m : Int) ≤ 1000 := by omega
  have HMK : Hid (∀ z, Cat.mkr t C.p.bs 0 = z → Calls Try.prog 31 #[.agg #[.int .i64 C.ty, .slice C.ba C.bn C.bc, .int .i64 C.pl, .slice C.ya C.yn C.yc, .int .i64 C.ch, .int .i64 C.f.broker, .int .i64 C.f.least, .int .i64 C.f.sales], .int .i64 t] X fun e w' => e = .returned (.int .i64 z) ∧ Hid (Below X.heap.size X w')) := Lib.hid fun z hz => by
    subst hz
    exact (Cat.dmaker C t X (h.under HXB.out) (by omega)).mono fun _ _ ⟨e, h⟩ => ⟨e, Lib.hid h⟩
  have hP : pth C.p rs lv (f + 1) t = match fm t C.p.bs with
    | none => 0
    | some (i, b) => if rs.getD i 0 = 0 then 0 else tim lv b (rs.getD i 0) + maxL (b.s.map fun s => pth C.p rs lv f s.kind) := rfl
  have hPL := pth_le (rs := rs) (lv := lv) hT (f + 1) pre post t eT
  have hSL := sumL_le (own_le C.p rs lv) (t :: post)
  have hLL : (t :: post).length ≤ 32 := by
    have : T.length = pre.length + (t :: post).length := by rw [eT, List.length_append]
    omega
  have hPU : pth C.p rs lv (f + 1) t ≤ 3355443200000 := by omega
  cases hfm : fm t C.p.bs with
  | none =>
    rw [hfm] at hP
    have HF : Hid (pth C.p rs lv (f + 1) t = 0) := Lib.hid hP
    have HC := Lib.hid (HMK.out 0 (by rw [mkr_fm, hfm]))
    clear h hs hl hr hR hT hT2 ih eT hk hf hP hPL hSL hLL hPU hfm hmb
    go_enter Try.func42, Try.ntmps42
    go_wp2_with fail
    clear hX hV
    refine HC.out.mono ?_
    rintro e w1 ⟨rfl, H1⟩
    go_wp2_with fail
    go_ret
    exact ⟨by rw [HF.out]; rfl, HNO.out _ H1.out⟩
  | some p =>
    obtain ⟨i, b⟩ := p
    rw [hfm] at hP
    have hP : pth C.p rs lv (f + 1) t = if rs.getD i 0 = 0 then 0 else tim lv b (rs.getD i 0) + maxL (b.s.map fun s => pth C.p rs lv f s.kind) := hP
    obtain ⟨hb, hot⟩ := fm_some hfm
    have hin : i < C.p.bs.length := (List.getElem?_eq_some_iff.1 hb).1
    have hlt : i < m := by rw [← hr, hR.1]; exact hin
    have hlt2 : (i : Int) < (m : Int) := by omega
    have hi0 : (0 : Int) ≤ (i : Int) := by omega
    have hltb : i < C.bn := by omega
    have hltb2 : (i : Int) < (C.bn : Int) := by omega
    have wi : IntKind.i64.wrap ((i : Int) + 1 - 1) = (i : Int) := by rw [show (i : Int) + 1 - 1 = (i : Int) by omega]; exact IntWalk.i64_in _ (by omega)
    have wi2 : IntKind.i64.wrap (i : Int) = (i : Int) := IntWalk.i64_in _ (by omega)
    have HC := Lib.hid (HMK.out ((i : Int) + 1) (by rw [mkr_fm, hfm]; show (0 : Int) + i + 1 = i + 1; omega))
    have hz1 : (((i : Int) + 1) == 0) = false := by simp; omega
    obtain ⟨g2, off2, r, rfl, hx, z0⟩ := HT.out X i (Below.refl _ _) (by rw [hr]; exact hlt)
    have hgd : rs.getD i 0 = r := by rw [List.getD_eq_getElem?_getD, hx.out]; rfl
    rw [hgd] at hP
    have hrr := hR.2 r (List.mem_of_getElem? hx.out)
    by_cases hr0 : r = 0
    · have HF : Hid (pth C.p rs lv (f + 1) t = 0) := Lib.hid (by rw [hP, if_pos hr0])
      subst hr0
      have HZ : Hid (∀ W, Below X.heap.size X W → W.cell? ⟨g2, off2 + i, none⟩ = some (.int .i64 0)) := Lib.hid fun W hW => by
        obtain ⟨g3, off3, r3, e3, hx3, c3⟩ := HT.out W i hW (by rw [hr]; exact hlt)
        cases e3
        have := hx3.out
        rw [hx.out] at this
        cases this
        exact c3
      clear h hs hl hR hT hT2 ih eT hk hf hP hPL hSL hLL hPU hfm hmb hot hb hin hgd hrr
      go_enter Try.func42, Try.ntmps42
      go_wp2_with fail
      clear hX hV
      refine HC.out.mono ?_
      rintro e w1 ⟨rfl, H1⟩
      have z1 := HZ.out w1 H1.out
      clear z0 k0 k1 k2 k3 k4 k5 k6 k7
      go_wp2_with fail
      go_ret
      exact ⟨by rw [HF.out]; rfl, HNO.out _ H1.out⟩
    · rw [if_neg hr0] at hP
      have hr0b : (r == 0) = false := by simpa using hr0
      obtain ⟨tv, htv⟩ : ∃ tv, tim lv b r = tv := ⟨_, rfl⟩
      obtain ⟨KL, hKL⟩ : ∃ KL, b.s.map (fun s => pth C.p rs lv f s.kind) = KL := ⟨_, rfl⟩
      rw [htv, hKL] at hP
      have HF := Lib.hid hP
      have hbt : 0 ≤ tv ∧ 0 ≤ maxL KL ∧ tv + maxL KL ≤ 3355443200000 := ⟨by rw [← htv]; exact tim_nonneg _ _ _, maxL_nonneg _, by rw [← hP]; exact hPU⟩
      obtain ⟨ML, hML⟩ : ∃ ML, maxL KL = ML := ⟨_, rfl⟩
      have HML := Lib.hid hML
      rw [hML] at hbt
      have ws : IntKind.i64.wrap (tv + ML) = tv + ML := IntWalk.i64_in _ (by omega)
      -- the blueprint, wherever it lies
      have HBB : ∃ b2 : Recipe.Bl, pOf b2 = b ∧ C.bs[i]? = some b2 := by
        have : (C.bs.map pOf)[i]? = some b := hb
        rw [List.getElem?_map] at this
        cases h2 : C.bs[i]? with
        | none => rw [h2] at this; cases this
        | some x => rw [h2] at this; injection this with this; exact ⟨x, this, rfl⟩
      obtain ⟨b2, rfl, hb2⟩ := HBB
      have HBI : Hid (∀ W, Below X.heap.size X W → ∃ g off, C.ba = some ⟨g, off, none⟩ ∧ (b2.s.length = b2.sm ∧ Sts W b2.sa b2.s) ∧ Cat.CellsB W g (off + i * 7) b2) := Lib.hid (fun W hW => by
        obtain ⟨g3, off3, b3, hba3, ht3, c⟩ := HB.out W i hW hltb
        have e2 := ht3.out.1
        rw [hb2] at e2
        cases e2
        exact ⟨g3, off3, hba3, ht3.out.2, c⟩)
      have hsm : b2.sm ≤ 12 := hl.1 b2 (List.mem_of_getElem? hb2)
      have hsm2 : (b2.sm : Int) ≤ 12 := by omega
      have HSL : Hid (b2.s.length = b2.sm) := Lib.hid (HBI.out X (Below.refl _ _)).choose_spec.choose_spec.2.1.1
      have HTV : Hid (Recipe.timeV b2 lv r = tv) := Lib.hid (by rw [← htv]; exact (tim_blue b2 lv hr0).symm)
      have HRC : Hid (∀ W (u : St), Below X.heap.size X W → u ∈ b2.s → Calls Try.prog 42 #[.agg #[.int .i64 C.ty, .slice C.ba C.bn C.bc, .int .i64 C.pl, .slice C.ya C.yn C.yc, .int .i64 C.ch, .int .i64 C.f.broker, .int .i64 C.f.least, .int .i64 C.f.sales], .int .i64 u.kind, .slice (some ⟨g2, off2, none⟩) m c, .int .i64 lv] W fun e w' => e = .returned (.int .i64 (pth C.p rs lv f u.kind)) ∧ Hid (Below W.heap.size W w')) := Lib.hid (fun W u hW hu => by
        have hup := hT.ahead pre t post eT _ (nd_mem (List.mem_of_getElem? hb) hu) hot
        obtain ⟨pa, pc, e2⟩ := List.append_of_mem hup
        have e2 : post = pa ++ u.kind :: pc := e2
        have hlen : post.length = pa.length + (pc.length + 1) := by rw [e2]; simp
        refine (ih pc.length (by omega) (pre ++ t :: pa) pc u.kind f W (by rw [eT, e2]; simp) rfl (by omega) (HCA.out.under hW) (HRS.out.under hW)).mono ?_
        rintro e w' ⟨rfl, hw⟩
        exact ⟨rfl, Lib.hid hw⟩)
      have HKL : Hid (∀ (k : Nat) (u : St), b2.s[k]? = some u → KL[k]? = some (pth C.p rs lv f u.kind)) := Lib.hid fun k u hu => by
        rw [← hKL]
        show (b2.s.map fun s => pth C.p rs lv f s.kind)[k]? = _
        simp [hu]
      have HKN : Hid (KL.length = b2.sm) := Lib.hid (by rw [← hKL, List.length_map]; exact HSL.out)
      have HZ : Hid (∀ W, Below X.heap.size X W → W.cell? ⟨g2, off2 + i, none⟩ = some (.int .i64 r)) := Lib.hid fun W hW => by
        obtain ⟨g3, off3, r3, e3, hx3, c3⟩ := HT.out W i hW (by rw [hr]; exact hlt)
        cases e3
        have := hx3.out
        rw [hx.out] at this
        cases this
        exact c3
      clear h hs hl hR hT hT2 ih eT hk hf hP hPL hSL hLL hPU hfm hmb hot hb hin hgd hrr hr0 htv hKL hML hx hr HT HMK
      go_enter Try.func42, Try.ntmps42
      go_wp2_with fail
      clear hX hV
      refine HC.out.mono ?_
      rintro e w1 ⟨rfl, H1⟩
      obtain ⟨y0, y1, y2, y3, y4, y5, y6, y7⟩ := HPE.out w1 H1.out
      obtain ⟨g, off, hba, hts, q0, q1, q2, q3, q4, q5, q6⟩ := HBI.out w1 H1.out
      rw [hba] at y1
      clear hba
      have z1 := HZ.out w1 H1.out
      clear z0 k0 k1 k2 k3 k4 k5 k6 k7 hts
      go_upto_region 5 with fail
      obtain ⟨V2, X2, hV2, hX2, HB2, HP2⟩ := box_blue w1 b2
      have HX2 : Hid (Below X.heap.size X X2) := Lib.hid (below_then H1.out HB2.out)
      have HPB : Hid (∀ W, Below X2.heap.size X2 W → W.cell? ⟨V2, 0, none⟩ = some (.int .i64 b2.ot) ∧ W.cell? ⟨V2, 1, none⟩ = some (.int .i64 b2.per) ∧ W.cell? ⟨V2, 2, none⟩ = some (.int .i64 b2.tm) ∧ W.cell? ⟨V2, 3, none⟩ = some (.slice b2.sa b2.sm b2.sc) ∧ W.cell? ⟨V2, 4, none⟩ = some (.int .i64 b2.cp) ∧ W.cell? ⟨V2, 5, none⟩ = some (.int .i64 b2.st) ∧ W.cell? ⟨V2, 6, none⟩ = some (.int .i64 b2.mo)) := Lib.hid fun W hW => HP2.out W hW
      rw [hV2, hX2]
      clear y0 y1 y2 y3 y4 y5 y6 y7 q0 q1 q2 q3 q4 q5 q6 z1 HP2 HP
      go_wp2_with fail
      clear hV2 hX2
      go_loopw [11, 12] (fun v t wr => ∃ (k : Nat) (x : Int), v = .int .i64 x ∧ t = .int .i64 (k : Int) ∧ k ≤ b2.sm ∧ Hid (maxL (KL.take k) = x) ∧ Hid (Below X2.heap.size X2 wr)) (fun _ t _ => b2.sm - (RowKit.intOf t).toNat)
      case atStart => exact ⟨0, 0, rfl, rfl, by omega, Lib.hid (by simp [maxL]), Lib.hid (Below.refl _ _)⟩
      case round =>
        obtain ⟨k, x, rfl, rfl, hk, HI, HW⟩ := hrel
        have hk0 : (0 : Int) ≤ (k : Int) := by omega
        obtain ⟨v0, v1, v2, v3, v4, v5, v6⟩ := HPB.out wr HW.out
        by_cases hkt : k < b2.sm
        · have hkt2 : (k : Int) < (b2.sm : Int) := by omega
          have wk : IntKind.i64.wrap ((k : Int) + 1) = (k : Int) + 1 := IntWalk.i64_in _ (by omega)
          have HXW : Hid (Below X.heap.size X wr) := Lib.hid (below_then HX2.out HW.out)
          have HST : ∃ g4 off4 u, b2.sa = some ⟨g4, off4, none⟩ ∧ Hid (b2.s[k]? = some u) ∧ Hid (∀ W, Below X.heap.size X W → W.cell? ⟨g4, off4 + k * 2, none⟩ = some (.int .i64 u.kind)) := by
            obtain ⟨_, _, _, hts, _⟩ := HBI.out X (Below.refl _ _)
            obtain ⟨g4, off4, u, e4, hu, _, _⟩ := (Goods.sts_at hts.2).out X k (Below.refl _ _) (by rw [HSL.out]; exact hkt)
            refine ⟨g4, off4, u, e4, hu, Lib.hid fun W hW => ?_⟩
            obtain ⟨g5, off5, u5, e5, hu5, p0, _⟩ := (Goods.sts_at hts.2).out W k hW (by rw [HSL.out]; exact hkt)
            rw [e4] at e5
            injection e5 with e5
            cases e5
            have e6 := hu5.out
            rw [hu.out] at e6
            cases e6
            exact p0
          obtain ⟨g4, off4, u, hsa, hu, HU⟩ := HST
          obtain ⟨pv, hpv⟩ : ∃ pv, pth C.p rs lv f u.kind = pv := ⟨_, rfl⟩
          obtain ⟨M2, hM2⟩ : ∃ M2, max x pv = M2 := ⟨_, rfl⟩
          have hM3 : (if x < pv then pv else x) = M2 := by rw [← hM2]; split <;> omega
          have HI2 : Hid (maxL (KL.take (k + 1)) = M2) := Lib.hid (by rw [maxL_take (HKL.out k u hu.out), HI.out, hpv, hM2])
          have HC1 : Hid (Calls Try.prog 42 #[.agg #[.int .i64 C.ty, .slice C.ba C.bn C.bc, .int .i64 C.pl, .slice C.ya C.yn C.yc, .int .i64 C.ch, .int .i64 C.f.broker, .int .i64 C.f.least, .int .i64 C.f.sales], .int .i64 u.kind, .slice (some ⟨g2, off2, none⟩) m c, .int .i64 lv] wr.drew fun e w' => e = .returned (.int .i64 pv) ∧ Hid (Below wr.heap.size wr w')) := Lib.hid (by
            rw [← hpv]
            exact (HRC.out wr.drew u HXW.out.drew (List.mem_of_getElem? hu.out)).mono fun _ _ ⟨e, h⟩ => ⟨e, Lib.hid (((Below.refl _ wr).drew).trans h.out)⟩)
          have HCS : Hid (∀ W, Below wr.heap.size wr W → (W.cell? ⟨V, 0, none⟩ = some (.int .i64 C.ty) ∧ W.cell? ⟨V, 1, none⟩ = some (.slice C.ba C.bn C.bc) ∧ W.cell? ⟨V, 2, none⟩ = some (.int .i64 C.pl) ∧ W.cell? ⟨V, 3, none⟩ = some (.slice C.ya C.yn C.yc) ∧ W.cell? ⟨V, 4, none⟩ = some (.int .i64 C.ch) ∧ W.cell? ⟨V, 5, none⟩ = some (.int .i64 C.f.broker) ∧ W.cell? ⟨V, 6, none⟩ = some (.int .i64 C.f.least) ∧ W.cell? ⟨V, 7, none⟩ = some (.int .i64 C.f.sales)) ∧ W.cell? ⟨V2, 3, none⟩ = some (.slice (some ⟨g4, off4, none⟩) b2.sm b2.sc) ∧ W.cell? ⟨g4, off4 + k * 2, none⟩ = some (.int .i64 u.kind)) := Lib.hid (fun W hW => by
            obtain ⟨_, _, _, v3, _⟩ := HPB.out W (below_then HW.out hW)
            rw [hsa] at v3
            exact ⟨HPE.out W (below_then HXW.out hW), v3, HU.out W (below_then HXW.out hW)⟩)
          clear hpv hsa
          go_wp2_with fail
          clear v0 v1 v2 v3 v4 v5 v6
          go_region_held3 (fun W => (W.cell? ⟨V, 0, none⟩ = some (.int .i64 C.ty) ∧ W.cell? ⟨V, 1, none⟩ = some (.slice C.ba C.bn C.bc) ∧ W.cell? ⟨V, 2, none⟩ = some (.int .i64 C.pl) ∧ W.cell? ⟨V, 3, none⟩ = some (.slice C.ya C.yn C.yc) ∧ W.cell? ⟨V, 4, none⟩ = some (.int .i64 C.ch) ∧ W.cell? ⟨V, 5, none⟩ = some (.int .i64 C.f.broker) ∧ W.cell? ⟨V, 6, none⟩ = some (.int .i64 C.f.least) ∧ W.cell? ⟨V, 7, none⟩ = some (.int .i64 C.f.sales)) ∧ W.cell? ⟨V2, 3, none⟩ = some (.slice (some ⟨g4, off4, none⟩) b2.sm b2.sc) ∧ W.cell? ⟨g4, off4 + k * 2, none⟩ = some (.int .i64 u.kind))
            (first | exact HCS.out _ (Below.refl _ wr).drew | exact HCS.out _ H6.out)
            (first
              | (go_at_call 42; refine HC1.out.mono ?_; rintro e w6 ⟨rfl, H6⟩))
          all_goals
            have HW6 : Hid (Below X2.heap.size X2 w6) := Lib.hid (below_then HW.out H6.out)
            go_wp2_with fail
            go_roundw
            case rel => exact ⟨k + 1, M2, rfl, by go_num, by omega, HI2, HW6⟩
            case measure => simp [RowKit.intOf]; omega
        · obtain rfl : k = b2.sm := by omega
          have HXM : Hid (x = ML) := Lib.hid (by
            rw [← HI.out, List.take_of_length_le (by rw [HKN.out]; exact Nat.le_refl _)]
            exact HML.out)
          have hx := HXM.out
          subst hx
          obtain ⟨te, hte⟩ : ∃ te, Recipe.timeE b2 lv r = te := ⟨_, rfl⟩
          have HC1 : Hid (Calls Try.prog 44 #[.agg #[.int .i64 b2.ot, .int .i64 b2.per, .int .i64 b2.tm, .slice b2.sa b2.sm b2.sc, .int .i64 b2.cp, .int .i64 b2.st, .int .i64 b2.mo], .int .i64 lv, .int .i64 r] wr.drew fun e w' => e = .returned (.tuple #[.int .i64 tv, .int .i64 te]) ∧ Hid (Below wr.heap.size wr w')) := Lib.hid (by
            rw [← HTV.out, ← hte]
            obtain ⟨_, _, _, hts, _⟩ := HBI.out wr.drew (below_then HX2.out HW.out).drew
            exact (Recipe.dtime b2 lv r wr.drew ⟨hts.1, hts.2, by omega⟩).mono fun _ _ ⟨e, h⟩ => ⟨e, Lib.hid (((Below.refl _ wr).drew).trans h)⟩)
          have HCS : Hid (∀ W, Below wr.heap.size wr W → (W.cell? ⟨V2, 0, none⟩ = some (.int .i64 b2.ot) ∧ W.cell? ⟨V2, 1, none⟩ = some (.int .i64 b2.per) ∧ W.cell? ⟨V2, 2, none⟩ = some (.int .i64 b2.tm) ∧ W.cell? ⟨V2, 3, none⟩ = some (.slice b2.sa b2.sm b2.sc) ∧ W.cell? ⟨V2, 4, none⟩ = some (.int .i64 b2.cp) ∧ W.cell? ⟨V2, 5, none⟩ = some (.int .i64 b2.st) ∧ W.cell? ⟨V2, 6, none⟩ = some (.int .i64 b2.mo)) ∧ W.cell? ⟨g2, off2 + i, none⟩ = some (.int .i64 r)) := Lib.hid (fun W hW => ⟨HPB.out W (below_then HW.out hW), HZ.out W (below_then (below_then HX2.out HW.out) hW)⟩)
          clear hte
          go_wp2_with fail
          clear v0 v1 v2 v3 v4 v5 v6
          go_region_held3 (fun W => (W.cell? ⟨V2, 0, none⟩ = some (.int .i64 b2.ot) ∧ W.cell? ⟨V2, 1, none⟩ = some (.int .i64 b2.per) ∧ W.cell? ⟨V2, 2, none⟩ = some (.int .i64 b2.tm) ∧ W.cell? ⟨V2, 3, none⟩ = some (.slice b2.sa b2.sm b2.sc) ∧ W.cell? ⟨V2, 4, none⟩ = some (.int .i64 b2.cp) ∧ W.cell? ⟨V2, 5, none⟩ = some (.int .i64 b2.st) ∧ W.cell? ⟨V2, 6, none⟩ = some (.int .i64 b2.mo)) ∧ W.cell? ⟨g2, off2 + i, none⟩ = some (.int .i64 r))
            (first | exact HCS.out _ (Below.refl _ wr).drew | exact HCS.out _ H6.out)
            (first
              | (go_at_call 44; refine HC1.out.mono ?_; rintro e w6 ⟨rfl, H6⟩))
          all_goals
            go_wp2_with fail
            go_ret
            exact ⟨by rw [HF.out, HML.out]; rfl, HNO.out _ (below_then (below_then HX2.out HW.out) H6.out)⟩
/-- The way to any type, at any depth. -/
theorem dpath_all (C : CM) (a : Option Addr) (m c : Nat) (rs : List Int) (lv : Int) (T : List Int) (hl : Lim C) (hr : rs.length = m) (hR : RunsOk C.p rs) (hT : Top C.p.ty (Cat.ndL C.p.bs) T) (hT2 : T.length ≤ 32) : ∀ k, PathC C a m c rs lv T k := fun k => by
  induction k using Nat.strongRecOn with
  | ind k ih => exact dpath_one C a m c rs lv T hl hr hR hT hT2 k ih
open Classical in
noncomputable def pathE (C : Cat) (k : Int) (rs : List Int) (lv : Int) : Int := if mayE C k lv [] = 0 then (if RunsOk C rs then 0 else 1) else mayE C k lv []
open Classical in
noncomputable def pathA (C : Cat) (k : Int) (rs : List Int) (lv : Int) : Int := if mayE C k lv [] = 0 ∧ RunsOk C rs then pathV C rs lv k else 0
theorem chk_top {C : Cat} (h : Cat.chkC C = 0) : Top C.ty (Cat.ndL C.bs) (topV C) ∧ (topV C).length ≤ 32 ∧ (topV C).length ≤ C.ty.toNat := by
  have hk := Cat.chk_zero h
  have ho : Graph.ordE C.ty (Cat.ndL C.bs) = 0 := Classical.byContradiction fun h2 => by
    rw [Cat.chk_err hk h2] at h
    exact h2 h
  have hT : Top C.ty (Cat.ndL C.bs) (topV C) := top_of ho
  have hty := hk.1
  refine ⟨hT, top_len hT (by omega) (by omega), ?_⟩
  exact nodup_le C.ty.toNat (topV C) hT.nodup fun x hx => by
    have := (hT.all x).1 hx
    omega
set_option maxRecDepth 100000 in
set_option maxHeartbeats 8000000 in
theorem dpathf (C : CM) (k : Int) (a : Option Addr) (m c : Nat) (rs : List Int) (lv : Int) (w : World) (h : CatAt w C) (hl : Lim C) (hr : rs.length = m) (hs : IRow w a rs) (hm : m ≤ 1000) :
    Calls Try.prog 13 #[C.v, .int .i64 k, .slice a m c, .int .i64 lv] w fun e w' => e = .returned (.tuple #[.int .i64 (pathA C.p k rs lv), .int .i64 (pathE C.p k rs lv)]) ∧ Below w.heap.size w w' := by
  obtain ⟨V, X, hV, hX, HXB, HP⟩ := box_cat w C
  obtain ⟨k0, k1, k2, k3, k4, k5, k6, k7⟩ := HP.out X (Below.refl _ _)
  obtain ⟨er, her⟩ : ∃ er, mayE C.p k lv [] = er := ⟨_, rfl⟩
  have HM : Hid (Calls Try.prog 28 #[.agg #[.int .i64 C.ty, .slice C.ba C.bn C.bc, .int .i64 C.pl, .slice C.ya C.yn C.yc, .int .i64 C.ch, .int .i64 C.f.broker, .int .i64 C.f.least, .int .i64 C.f.sales], .int .i64 k, .int .i64 lv, .slice none 0 0] X fun e w' => e = .returned (.int .i64 er) ∧ Hid (Below X.heap.size X w')) := Lib.hid (by
    rw [← her]
    exact (dmay C k lv none 0 0 [] X (h.under HXB.out) hl rfl (sts_nil _) (by omega)).mono fun _ _ ⟨e, h⟩ => ⟨e, Lib.hid h⟩)
  have HNO : Hid (∀ W, Below X.heap.size X W → Below w.heap.size w W) := Lib.hid fun W hW => below_then HXB.out hW
  have HRU : Hid (∀ W t, Below X.heap.size X W → (@decide (RunsOk C.p rs) (Classical.propDecidable _)) = t → Calls Try.prog 41 #[.agg #[.int .i64 C.ty, .slice C.ba C.bn C.bc, .int .i64 C.pl, .slice C.ya C.yn C.yc, .int .i64 C.ch, .int .i64 C.f.broker, .int .i64 C.f.least, .int .i64 C.f.sales], .slice a m c] W fun e w' => e = .returned (.bool t) ∧ Hid (Below X.heap.size X w')) := Lib.hid fun W t hW ht => by
    subst ht
    exact (druns15 C a m c rs W h.1.1 hr (hs.under (below_then HXB.out hW)) hm).mono fun _ _ ⟨e, h⟩ => ⟨e, Lib.hid (below_then hW h)⟩
  by_cases he : er = 0
  case neg =>
    have n1 : (er == 0) = false := by simpa using he
    have n2 : (er != 0) = true := by simpa using he
    have e1 : pathE C.p k rs lv = er := by unfold pathE; rw [her, if_neg he]
    have e2 : pathA C.p k rs lv = 0 := by unfold pathA; rw [her, if_neg fun h => he h.1]
    rw [e1, e2]
    clear e1 e2 her h hl hr hs hm
    go_enter Try.func13, Try.ntmps13
    go_wp2_with fail
    clear hX hV
    refine HM.out.mono ?_
    rintro e w1 ⟨rfl, H1⟩
    go_wp2_with fail
    go_ret2
    exact ⟨rfl, HNO.out _ H1.out⟩
  subst he
  by_cases hk : RunsOk C.p rs
  case neg =>
    have e1 : pathE C.p k rs lv = 1 := by unfold pathE; rw [if_pos her, if_neg hk]
    have e2 : pathA C.p k rs lv = 0 := by unfold pathA; rw [if_neg fun h => hk h.2]
    have HZ : Hid (@decide (RunsOk C.p rs) (Classical.propDecidable _) = false) := Lib.hid (by simpa using hk)
    rw [e1, e2]
    clear e1 e2 her hk h hl hr hs hm
    go_enter Try.func13, Try.ntmps13
    go_wp2_with fail
    clear hX hV
    refine HM.out.mono ?_
    rintro e w1 ⟨rfl, H1⟩
    obtain ⟨y0, y1, y2, y3, y4, y5, y6, y7⟩ := HP.out w1 H1.out
    clear k0 k1 k2 k3 k4 k5 k6 k7
    go_wp2_with fail
    refine (HRU.out w1 false H1.out HZ.out).mono ?_
    rintro e w2 ⟨rfl, H2⟩
    go_wp2_with fail
    go_ret2
    exact ⟨rfl, HNO.out _ H2.out⟩
  have e1 : pathE C.p k rs lv = 0 := by unfold pathE; rw [if_pos her, if_pos hk]
  have HEV : Hid (pathA C.p k rs lv = pathV C.p rs lv k) := Lib.hid (by unfold pathA; rw [if_pos ⟨her, hk⟩])
  have HZ : Hid (@decide (RunsOk C.p rs) (Classical.propDecidable _) = true) := Lib.hid (by simpa using hk)
  obtain ⟨hc, hkr, _, _⟩ := mayE_zero her
  obtain ⟨hT, hT2, hT3⟩ := chk_top hc
  obtain ⟨pre, post, eT⟩ := List.append_of_mem ((hT.all k).2 hkr)
  have hfu : post.length < C.p.ty.toNat + 1 := by
    have : (topV C.p).length = pre.length + (post.length + 1) := by rw [eT]; simp
    omega
  have HPA : Hid (∀ W, Below X.heap.size X W → Calls Try.prog 42 #[.agg #[.int .i64 C.ty, .slice C.ba C.bn C.bc, .int .i64 C.pl, .slice C.ya C.yn C.yc, .int .i64 C.ch, .int .i64 C.f.broker, .int .i64 C.f.least, .int .i64 C.f.sales], .int .i64 k, .slice a m c, .int .i64 lv] W fun e w' => e = .returned (.int .i64 (pathV C.p rs lv k)) ∧ Hid (Below X.heap.size X w')) := Lib.hid fun W hW => by
    refine (dpath_all C a m c rs lv (topV C.p) hl hr hk hT hT2 post.length pre post k (C.p.ty.toNat + 1) W eT rfl hfu ((h.under HXB.out).under hW) (hs.under (below_then HXB.out hW))).mono ?_
    rintro e w' ⟨rfl, hw⟩
    exact ⟨rfl, Lib.hid (below_then hW hw)⟩
  obtain ⟨pv, hpv⟩ : ∃ pv, pathV C.p rs lv k = pv := ⟨_, rfl⟩
  rw [e1, HEV.out]
  rw [hpv] at HPA ⊢
  clear e1 her hk hc hkr hT hT2 hT3 eT hfu hpv h hl hr hs hm HEV
  go_enter Try.func13, Try.ntmps13
  go_wp2_with fail
  clear hX hV
  refine HM.out.mono ?_
  rintro e w1 ⟨rfl, H1⟩
  obtain ⟨y0, y1, y2, y3, y4, y5, y6, y7⟩ := HP.out w1 H1.out
  clear k0 k1 k2 k3 k4 k5 k6 k7
  go_wp2_with fail
  refine (HRU.out w1 true H1.out HZ.out).mono ?_
  rintro e w2 ⟨rfl, H2⟩
  clear y0 y1 y2 y3 y4 y5 y6 y7
  obtain ⟨y0, y1, y2, y3, y4, y5, y6, y7⟩ := HP.out w2 H2.out
  go_wp2_with fail
  refine (HPA.out w2 H2.out).mono ?_
  rintro e w3 ⟨rfl, H3⟩
  go_wp2_with fail
  go_ret2
  exact ⟨rfl, HNO.out _ H3.out⟩
end Go.Proofs.Ytohlkaoophbinaa.Bom
namespace Go.Proofs.Ytohlkaoophbinaa.Recipe
open Go.RowKit Go.Lib
open Goods (St Sts OwnS)

set_option maxRecDepth 100000 in
set_option maxHeartbeats 8000000 in
theorem druns (b : Bl) (n : Int) (w : World) (hb : BlIn w b) :
    Calls Try.prog 32 #[blV b, .int .i64 n] w fun e w' => e = .returned (.tuple #[.int .i64 (runsV b n), .int .i64 (runsE b n)]) ∧ Below w.heap.size w w' := by
  obtain ⟨V, X, hV, hX, HXB, HP⟩ := box_blue w b
  obtain ⟨k0, k1, k2, k3, k4, k5, k6⟩ := HP.out X (Below.refl _ _)
  have HCK := check_at b X (hb.under HXB.out)
  have HNO : Hid (∀ W, Below X.heap.size X W → Below w.heap.size w W) := Lib.hid (fun W hW => below_then HXB.out hW)
  by_cases hok : BlOk b 32
  case neg =>
    obtain ⟨e1, e2⟩ := runs_arg (b := b) (n := n) (fun h => hok h.1)
    have HC := Lib.hid (HCK.out X 1 (Below.refl _ _) (chkB_no hok))
    rw [e1, e2]
    clear e1 e2 hok hb HCK
    go_enter Try.func32, Try.ntmps32
    go_wp2_with fail
    clear hX hV
    refine HC.out.mono ?_
    rintro e w1 ⟨rfl, H1⟩
    go_wp2_with fail
    go_ret2
    exact ⟨rfl, HNO.out _ H1.out⟩
  have HC := Lib.hid (HCK.out X 0 (Below.refl _ _) (chkB_yes hok))
  by_cases q0 : 0 ≤ n ∧ n ≤ 1125899906842624
  case neg =>
    obtain ⟨e1, e2⟩ := runs_arg (b := b) (n := n) (fun h => q0 (h.2))
    have HN := Lib.hid (fun W => in_no (n) (0) (1125899906842624) W (by omega))
    rw [e1, e2]
    clear e1 e2 hok hb HCK
    go_enter Try.func32, Try.ntmps32
    go_wp2_with fail
    clear hX hV
    refine HC.out.mono ?_
    rintro e w1 ⟨rfl, H1⟩
    obtain ⟨y0, y1, y2, y3, y4, y5, y6⟩ := HP.out w1 H1.out
    clear k0 k1 k2 k3 k4 k5 k6
    go_wp2_with fail
    refine (HN.out _).mono ?_
    rintro e w' ⟨rfl, rfl⟩
    go_wp2_with fail
    go_ret2
    exact ⟨rfl, HNO.out _ H1.out⟩
  have HI0 := Lib.hid (fun W => in_yes (n) (0) (1125899906842624) W q0.1 q0.2)
  obtain ⟨e1, e2⟩ := runs_ok (b := b) (n := n) hok q0
  rw [e1, e2]
  clear e1 e2
  have HU := Lib.hid (fun W => dup n b.per W q0.1 (by omega) hok.2.2.1.1 (by have := hok.2.2.1.2; omega))
  clear hok hb HCK
  go_enter Try.func32, Try.ntmps32
  go_wp2_with fail
  clear hX hV
  refine HC.out.mono ?_
  rintro e w1 ⟨rfl, H1⟩
  obtain ⟨y0, y1, y2, y3, y4, y5, y6⟩ := HP.out w1 H1.out
  clear k0 k1 k2 k3 k4 k5 k6
  go_wp2_with fail
  refine (HI0.out _).mono ?_
  rintro e w' ⟨rfl, rfl⟩
  go_wp2_with fail
  refine (HU.out _).mono ?_
  rintro e w' ⟨rfl, rfl⟩
  go_wp2_with fail
  go_ret2
  exact ⟨rfl, HNO.out _ H1.out⟩
end Go.Proofs.Ytohlkaoophbinaa.Recipe
