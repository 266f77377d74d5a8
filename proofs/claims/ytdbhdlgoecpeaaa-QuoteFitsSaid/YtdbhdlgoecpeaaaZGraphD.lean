/- The document's Deep. Catalogues: what may be; said without a program. The document's Count. -/
import Derived.Test.YtdbhdlgoecpeaaaZGraphA
import Derived.Deep.OwnRows
import Derived.BigRegion
import Derived.Test.YtdbhdlgoecpeaaaZRecMath
import Derived.Test.YtdbhdlgoecpeaaaZGoodsB
namespace Go.Proofs.Ytdbhdlgoecpeaaa.Graph
open Go.RowKit Go.Lib IRows

/-- One need of a node: it stands deeper than what it needs. -/
def stepD (x : Int) (D : List Int) (t : Nd) : List Int := if t.a = x then D.set (x - 1).toNat (max (D.getD (x - 1).toNat 0) (D.getD (t.b - 1).toNat 0 + 1)) else D
def rowD (x : Int) : List Nd → List Int → List Int
  | [], D => D
  | t :: l, D => rowD x l (stepD x D t)
def deepD (l : List Nd) : List Int → List Int → List Int
  | [], D => D
  | x :: o, D => deepD l o (rowD x l D)
noncomputable def degV (n : Int) (l : List Nd) : List Int := if ordE n l = 0 then deepD l (ordV n l) (List.replicate n.toNat 0) else []
theorem rowD_drop {x : Int} {l : List Nd} {i : Nat} {t : Nd} {D : List Int} (h : l[i]? = some t) : rowD x (l.drop i) D = rowD x (l.drop (i + 1)) (stepD x D t) := by
  obtain ⟨hi, e⟩ := List.getElem?_eq_some_iff.1 h
  rw [List.drop_eq_getElem_cons hi, e]
  rfl
theorem deepD_drop {l : List Nd} {o : List Int} {i : Nat} {x : Int} {D : List Int} (h : o[i]? = some x) : deepD l (o.drop i) D = deepD l (o.drop (i + 1)) (rowD x l D) := by
  obtain ⟨hi, e⟩ := List.getElem?_eq_some_iff.1 h
  rw [List.drop_eq_getElem_cons hi, e]
  rfl
/-- So many numbers, none of them great. -/
def Deeps (N : Nat) (K : Int) (D : List Int) : Prop := D.length = N ∧ ∀ d ∈ D, 0 ≤ d ∧ d ≤ K
theorem deeps_zero (N : Nat) : Deeps N 0 (List.replicate N 0) := ⟨by simp, fun d h => by rw [(List.mem_replicate.1 h).2]; omega⟩
theorem Deeps.more {N : Nat} {K K' : Int} {D : List Int} (h : Deeps N K D) (hK : K ≤ K') : Deeps N K' D := ⟨h.1, fun d hd => by have := h.2 d hd; omega⟩
theorem Deeps.set {N : Nat} {K : Int} {D : List Int} (h : Deeps N K D) (p : Nat) (M : Int) (h0 : 0 ≤ M) (h1 : M ≤ K + 1) : Deeps N (K + 1) (D.set p M) := by
  refine ⟨by rw [List.length_set]; exact h.1, fun d hd => ?_⟩
  rcases List.mem_or_eq_of_mem_set hd with hd | rfl
  · have := h.2 d hd; omega
  · omega
theorem ord_zero {n : Int} {l : List Nd} (h : ordE n l = 0) : May n l ∧ Stands n l (ordV n l) ∧ (ordV n l).length = n.toNat := by
  by_cases hm : May n l
  · cases ho : ordF n l n.toNat [] with
    | none =>
      have := (ord_none hm ho).1
      omega
    | some o =>
      obtain ⟨r1, r2⟩ := ordF_stands hm.1.1 n.toNat [] o (stands_nil n l) ho
      rw [(ord_some hm ho).2]
      exact ⟨hm, r1, by simpa using r2⟩
  · have := (ord_arg hm).1
    omega
theorem info_one : (Try.prog.info? 3).map (fun i => (i.zero, i.size, i.bytes)) = some (some (.int .i64 0), 1, 8) := by kernel_rfl
theorem made_ints (n : Nat) : (madeCells #[(Value.int .i64 0)] n).toList = (List.replicate n (0 : Int)).map (Value.int .i64) := by
  rw [List.map_replicate]
  apply List.ext_getElem?
  intro i
  by_cases h : i < n
  · rw [List.getElem?_replicate, if_pos h, Array.getElem?_toList]
    simp [madeCells, h, Nat.mod_one]
  · rw [List.getElem?_replicate, if_neg h, Array.getElem?_toList]
    simp [madeCells, h]
/-- A row of zeros that make has made. -/
theorem ks_made (w : World) (n : Nat) {B : Nat} (hB : B ≤ w.heap.size) (hn : n ≤ 1048576) : KS (w.alloc (.cells (madeCells #[(Value.int .i64 0)] n) 3)) B (.slice (some ⟨w.heap.size, 0, none⟩) n n) (List.replicate n 0) := by
  have h := heap_alloc_new w (.cells (madeCells #[(Value.int .i64 0)] n) 3)
  have hs : (madeCells #[(Value.int .i64 0)] n).size = n * 1 := by simp [madeCells]
  refine ⟨by simp, .inr ⟨w.heap.size, n, madeCells #[(Value.int .i64 0)] n, by simp, hB, h, by simp, by unfold maxLen; omega, hs, ?_⟩⟩
  rw [made_ints, List.take_of_length_le (by simp)]
/-- A cell of a row of one's own. -/
theorem ks_cell {w : World} {B G n c : Nat} {D : List Int} (h : KS w B (.slice (some ⟨G, 0, none⟩) n c) D) {p : Nat} (hp : p < D.length) : w.cell? ⟨G, p, none⟩ = some (.int .i64 (D.getD p 0)) ∧ w.frozen? ⟨G, p, none⟩ = false := by
  obtain ⟨a3, c4, e3, _, hat⟩ := h.at
  injection e3 with e3 _ _
  subst e3
  obtain ⟨q, e, _, k0, f0⟩ := hat p D[p] (List.getElem?_eq_getElem hp)
  cases e
  refine ⟨?_, f0⟩
  rw [k0]
  simp [List.getD, hp]
open Classical in
set_option maxRecDepth 100000 in
set_option maxHeartbeats 8000000 in
theorem ddeep (n : Int) (a : Option Addr) (m c : Nat) (l : List Nd) (w : World) (hl : l.length = m) (hs : Nds w a l) (hm : m ≤ 1048576) :
    Calls Try.prog 64 #[.int .i64 n, .slice a m c] w fun e w' => ∃ a' m' c', e = .returned (.tuple #[.slice a' m' c', .int .i64 (ordE n l)]) ∧ Hid ((degV n l).length = m' ∧ KS w' w.heap.size (.slice a' m' c') (degV n l) ∧ Below w.heap.size w w') := by
  have HO := Lib.hid (dorder n a m c l w hl hs hm)
  by_cases he : ordE n l = 0
  case neg =>
    obtain ⟨er, her⟩ : ∃ er, ordE n l = er := ⟨_, rfl⟩
    have HD : Hid (degV n l = []) := Lib.hid (by unfold degV; rw [if_neg he])
    rw [her] at HO he
    rw [her]
    have n1 : (er == 0) = false := by simpa using he
    have n2 : (er != 0) = true := by simpa using he
    clear hl hs hm her
    go_enter Try.func64, Try.ntmps64
    go_wp2_with fail
    refine HO.out.mono ?_
    rintro e w1 ⟨a1, j, c1, rfl, H1⟩
    go_wp2_with fail
    go_ret2
    exact ⟨none, 0, 0, rfl, Lib.hid (by rw [HD.out]; exact ⟨rfl, ks_nil _ _, H1.out.2.2⟩)⟩
  obtain ⟨hok, hst, hol⟩ := ord_zero he
  have HD : Hid (degV n l = deepD l (ordV n l) (List.replicate n.toNat 0)) := Lib.hid (by unfold degV; rw [if_pos he])
  obtain ⟨N, rfl⟩ := Int.eq_ofNat_of_zero_le hok.1.1
  have hN : N ≤ 64 := by have := hok.1.2; omega
  have hN2 : (N : Int) ≤ 64 := by omega
  have hNT : ((N : Int)).toNat = N := by omega
  rw [hNT] at HD hol
  have HL := Lib.hid hl
  have HT := nds_at hs
  have hm1 : (m : Int) ≤ 256 := by have := hok.2.1; omega
  have HM2 : Hid (m ≤ 256) := Lib.hid (by omega)
  have HOK := Lib.hid hok.2.2
  have HST := Lib.hid hst.node
  rw [he] at HO ⊢
  obtain ⟨o, ho⟩ : ∃ o, ordV N l = o := ⟨_, rfl⟩
  rw [ho] at HO HD HST hol
  have HOL := Lib.hid hol
  clear hl hs hm hok hst hol ho he hNT
  go_enter Try.func64, Try.ntmps64
  go_wp2_with fail
  refine HO.out.mono ?_
  rintro e w1 ⟨a1, j, c1, rfl, H1⟩
  obtain rfl : j = N := by rw [← H1.out.1]; exact HOL.out
  obtain ⟨G, hG⟩ : ∃ G, w1.heap.size = G := ⟨_, rfl⟩
  obtain ⟨Z, hZ⟩ : ∃ Z, w1.alloc (.cells (madeCells #[(Value.int .i64 0)] j) 3) = Z := ⟨_, rfl⟩
  have HZ : Hid (KS Z G (.slice (some ⟨G, 0, none⟩) j j) (List.replicate j 0) ∧ Below G w1 Z) := Lib.hid (by
    rw [← hZ, ← hG]
    exact ⟨ks_made w1 j (Nat.le_refl _) (by omega), (Below.refl _ _).alloc (Nat.le_refl _) _⟩)
  have HG := Lib.hid hG
  have HOR : Hid (∀ W i, Below G w1 W → i < j → ∃ (g off p : Nat), a1 = some ⟨g, off, none⟩ ∧ Hid (o[i]? = some ((p : Int) + 1)) ∧ p < j ∧ W.cell? ⟨g, off + i, none⟩ = some (.int .i64 ((p : Int) + 1))) := Lib.hid (fun W i hW hi => by
    obtain ⟨a2, c2, e, hr⟩ := irow_own H1.out.2.1
    injection e with e1 e2 e3
    subst e1
    obtain ⟨g, off, x, e, hx, hc⟩ := (irow_at hr).out W i (by rw [hG]; exact hW) (by rw [HOL.out]; exact hi)
    have hb := HST.out x (List.mem_of_getElem? hx.out)
    obtain ⟨p, hp⟩ := Int.eq_ofNat_of_zero_le (show 0 ≤ x - 1 by omega)
    obtain rfl : x = (p : Int) + 1 := by omega
    exact ⟨g, off, p, e, hx, by omega, hc⟩)
  have hmk := run_make_row' (P := Try.prog) 29 3 (.int .i64 0) 8 Try.underlying29 info_one rfl .i64 .i64 j (by omega) (by omega)
  go_wp2_with fail
  clear hmk hZ hG
  go_loopw [9] (fun t wr => ∃ (k : Nat) (D : List Int), t = .int .i64 (k : Int) ∧ k ≤ j ∧ Hid (KS wr G (.slice (some ⟨G, 0, none⟩) j j) D ∧ Below G w1 wr) ∧ Hid (Deeps j (k * 256) D ∧ deepD l (o.drop k) D = degV j l)) (fun t _ => j - (RowKit.intOf t).toNat)
  case atStart => exact ⟨0, List.replicate j 0, rfl, by omega, HZ, Lib.hid ⟨by simpa using deeps_zero j, by rw [HD.out]; rfl⟩⟩
  case round =>
    clear HZ
    obtain ⟨k, D0, rfl, hk, HK, HDD⟩ := hrel
    have hk0 : (0 : Int) ≤ (k : Int) := by omega
    by_cases hlt : k < j
    · have hlt2 : (k : Int) < (j : Int) := by omega
      have wk : IntKind.i64.wrap ((k : Int) + 1) = (k : Int) + 1 := IntWalk.i64_in _ (by omega)
      obtain ⟨g0, o0, p, rfl, HX, hpj, _⟩ := HOR.out _ k HK.out.2 hlt
      go_wp2_with fail
      go_loopw [10] (fun t wr' => ∃ (i : Nat) (D : List Int), t = .int .i64 (i : Int) ∧ i ≤ m ∧ Hid (KS wr' G (.slice (some ⟨G, 0, none⟩) j j) D ∧ Below G w1 wr') ∧ Hid (Deeps j (k * 256 + i) D ∧ rowD ((p : Int) + 1) (l.drop i) D = rowD ((p : Int) + 1) l D0)) (fun t _ => m - (RowKit.intOf t).toNat)
      case atStart => exact ⟨0, D0, rfl, by omega, HK, Lib.hid ⟨by simpa using HDD.out.1, rfl⟩⟩
      case round =>
        obtain ⟨i, D, rfl, hi, HI, HDI⟩ := hrel
        have hi0 : (0 : Int) ≤ (i : Int) := by omega
        by_cases hil : i < m
        · have hil2 : (i : Int) < (m : Int) := by omega
          have wi : IntKind.i64.wrap ((i : Int) + 1) = (i : Int) + 1 := IntWalk.i64_in _ (by omega)
          obtain ⟨g, off, t, rfl, ht, z0, z1⟩ := HT.out _ i (below_then H1.out.2.2 (by rw [HG.out]; exact HI.out.2)) (by rw [HL.out]; exact hil)
          obtain ⟨g0', o0', p', e1, HX', _, y0⟩ := HOR.out _ k HI.out.2 hlt
          cases e1
          have hpp : p' = p := by have h1 := HX.out; rw [HX'.out] at h1; injection h1 with h1; omega
          subst hpp
          by_cases ca : t.a = (p' : Int) + 1
          case neg =>
            have ca2 : (t.a == (p' : Int) + 1) = false := by simpa using ca
            have HDI2 : Hid (Deeps j (k * 256 + (i + 1 : Nat)) D ∧ rowD ((p' : Int) + 1) (l.drop (i + 1)) D = rowD ((p' : Int) + 1) l D0) := Lib.hid ⟨HDI.out.1.more (by omega), by
              have h := HDI.out.2
              rw [rowD_drop ht.out] at h
              unfold stepD at h
              rw [if_neg ca] at h
              exact h⟩
            have HI2 : Hid (∀ q, KS (_) G (.slice (some ⟨G, 0, none⟩) j j) D ∧ Below G w1 _) := Lib.hid (fun q => ⟨HI.out.1.under (below_drewN (Below.refl _ _) q), below_drewN HI.out.2 q⟩)
            clear ca
            go_wp2_with fail
            go_quiet (fail)
            go_wp2_with fail
            go_roundw
            case rel => exact ⟨i + 1, D, by go_num, by omega, Lib.hid (HI2.out _), HDI2⟩
            case measure => simp [RowKit.intOf]; omega
          have CA := Lib.hid ca
          have ca2 : (t.a == (p' : Int) + 1) = true := by simpa using ca
          have hbt := (HOK.out t (List.mem_of_getElem? ht.out)).2
          obtain ⟨r, hr⟩ := Int.eq_ofNat_of_zero_le (show 0 ≤ t.b - 1 by omega)
          have htb : t.b = (r : Int) + 1 := by omega
          have hrj : r < j := by omega
          have HTB := Lib.hid htb
          rw [htb] at z1
          have hDl := HDI.out.1.1
          have hpD : p' < D.length := by omega
          have hrD : r < D.length := by omega
          obtain ⟨u0, u1⟩ := ks_cell HI.out.1 hpD
          obtain ⟨v0, _⟩ := ks_cell HI.out.1 hrD
          obtain ⟨dp, hdp⟩ : ∃ d, D.getD p' 0 = d := ⟨_, rfl⟩
          obtain ⟨dr, hdr⟩ : ∃ d, D.getD r 0 = d := ⟨_, rfl⟩
          have bp : 0 ≤ dp ∧ dp ≤ k * 256 + i := HDI.out.1.2 dp (by rw [← hdp, List.getD_eq_getElem?_getD, List.getElem?_eq_getElem hpD]; exact List.getElem_mem hpD)
          have br : 0 ≤ dr ∧ dr ≤ k * 256 + i := HDI.out.1.2 dr (by rw [← hdr, List.getD_eq_getElem?_getD, List.getElem?_eq_getElem hrD]; exact List.getElem_mem hrD)
          rw [hdp] at u0
          rw [hdr] at v0
          obtain ⟨M, hM⟩ : ∃ M, (if dr + 1 > dp then dr + 1 else dp) = M := ⟨_, rfl⟩
          have hMb : 0 ≤ M ∧ M ≤ k * 256 + i + 1 := by rw [← hM]; split <;> omega
          have hMx : M = max dp (dr + 1) := by rw [← hM]; split <;> omega
          have wd : IntKind.i64.wrap (dr + 1) = dr + 1 := IntWalk.i64_in _ (by omega)
          have wp : IntKind.i64.wrap (p' : Int) = (p' : Int) := IntWalk.i64_in _ (by omega)
          have wr' : IntKind.i64.wrap (r : Int) = (r : Int) := IntWalk.i64_in _ (by omega)
          have hp0 : (0 : Int) ≤ (p' : Int) := by omega
          have hr0 : (0 : Int) ≤ (r : Int) := by omega
          have hp2 : (p' : Int) < (j : Int) := by omega
          have hr2 : (r : Int) < (j : Int) := by omega
          have HST2 : Hid (stepD ((p' : Int) + 1) D t = D.set p' M) := Lib.hid (by
            unfold stepD
            rw [if_pos CA.out, HTB.out, show ((p' : Int) + 1 - 1).toNat = p' by omega, show ((r : Int) + 1 - 1).toNat = r by omega, hdp, hdr, hMx])
          have HDI2 : Hid (Deeps j (k * 256 + (i + 1 : Nat)) (D.set p' M) ∧ rowD ((p' : Int) + 1) (l.drop (i + 1)) (D.set p' M) = rowD ((p' : Int) + 1) l D0) := Lib.hid ⟨(HDI.out.1.set p' M hMb.1 hMb.2).more (by omega), by
              have h := HDI.out.2
              rw [rowD_drop ht.out, HST2.out] at h
              exact h⟩
          clear ca hbt hr htb hrj hDl hpD hrD hdp hdr bp br hMb hMx hpj
          go_wp2_with fail
          go_quiet (fail)
          go_wp2_with fail
          generalize hY : World.drewN _ _ = Y
          have y0' : Y.cell? ⟨g0, o0 + k, none⟩ = some (.int .i64 ((p' : Int) + 1)) := by rw [← hY]; exact y0
          have z0' : Y.cell? ⟨g, off + i * 2, none⟩ = some (.int .i64 t.a) := by rw [← hY]; exact z0
          have z1' : Y.cell? ⟨g, off + i * 2 + 1, none⟩ = some (.int .i64 ((r : Int) + 1)) := by rw [← hY]; exact z1
          have u0' : Y.cell? ⟨G, p', none⟩ = some (.int .i64 dp) := by rw [← hY]; exact u0
          have u1' : Y.frozen? ⟨G, p', none⟩ = false := by rw [← hY]; exact u1
          have v0' : Y.cell? ⟨G, r, none⟩ = some (.int .i64 dr) := by rw [← hY]; exact v0
          have HYY : Hid (KS Y G (.slice (some ⟨G, 0, none⟩) j j) D ∧ Below G w1 Y) := Lib.hid (by rw [← hY]; exact ⟨HI.out.1.under (below_drewN (Below.refl _ _) _), below_drewN HI.out.2 _⟩)
          clear hY y0 z0 z1 u0 u1 v0
          have HW2 : Hid (KS (Y.setCell ⟨G, p', none⟩ (.int .i64 M)).drew G (.slice (some ⟨G, 0, none⟩) j j) (D.set p' M) ∧ Below G w1 (Y.setCell ⟨G, p', none⟩ (.int .i64 M)).drew) := Lib.hid (by
            obtain ⟨s1, s2, _⟩ := set_int HYY.out.1 p' M
            exact ⟨s1.under (Below.refl _ _).drew, (HYY.out.2.trans s2).drew⟩)
          go_region
          go_wp2_with fail
          go_roundw
          case rel => exact ⟨i + 1, D.set p' M, by go_num, by omega, HW2, HDI2⟩
          case measure => simp [RowKit.intOf]; omega
        · obtain rfl : i = m := by omega
          have HDD2 : Hid (Deeps j ((k + 1 : Nat) * 256) D ∧ deepD l (o.drop (k + 1)) D = degV j l) := Lib.hid (by
            have h := HDI.out.2
            rw [List.drop_of_length_le (by rw [HL.out]; exact Nat.le_refl _)] at h
            have h' : D = rowD ((p : Int) + 1) l D0 := h
            refine ⟨HDI.out.1.more (by have := HM2.out; omega), ?_⟩
            rw [h', ← deepD_drop HX.out]
            exact HDD.out.2)
          go_wp2_with fail
          go_roundw
          case rel => exact ⟨k + 1, D, by go_num, by omega, HI, HDD2⟩
          case measure => simp [RowKit.intOf]; omega
    · obtain rfl : k = j := by omega
      have HE : Hid ((degV k l).length = k ∧ KS _ w.heap.size (.slice (some ⟨G, 0, none⟩) k k) (degV k l) ∧ Below w.heap.size w _) := Lib.hid (by
        have h := HDD.out.2
        rw [List.drop_of_length_le (by rw [HOL.out]; exact Nat.le_refl _)] at h
        have h' : D0 = degV k l := h
        rw [← h']
        exact ⟨HDD.out.1.1, World.ownsRow.mono HK.out.1 (by rw [← HG.out]; exact H1.out.2.2.size), below_then H1.out.2.2 (by rw [HG.out]; exact HK.out.2)⟩)
      go_wp2_with fail
      go_ret2
      exact ⟨_, k, k, rfl, HE⟩
end Go.Proofs.Ytdbhdlgoecpeaaa.Graph
namespace Go.Proofs.Ytdbhdlgoecpeaaa.Cat
open Goods (St)
open Recipe (Bl)
open Graph (Nd)

/-- A blueprint, wherever its needs lie. -/
structure PB where
  ot : Int
  per : Int
  tm : Int
  s : List St
  cp : Int
  st : Int
  mo : Int
structure Ba where
  pl : Int
  mf : Int
  lb : Int
  rt : Int
structure Cat where
  ty : Int
  bs : List PB
  pl : Int
  ys : List Ba
  ch : Int
  f : Fee.FS
def PB.b (b : PB) : Bl := ⟨b.ot, b.per, b.tm, none, 0, 0, b.s, b.cp, b.st, b.mo⟩
def pOf (b : Bl) : PB := ⟨b.ot, b.per, b.tm, b.s, b.cp, b.st, b.mo⟩
theorem ok_pOf (b : Bl) (ty : Int) : Recipe.BlOk (pOf b).b ty ↔ Recipe.BlOk b ty := Iff.rfl
def zPB : PB := ⟨0, 0, 0, [], 0, 0, 0⟩
def zBa : Ba := ⟨0, 0, 0, 0⟩
def zCat : Cat := ⟨0, [], 0, [], 0, ⟨0, 0, 0⟩⟩
def BaOk (pl : Int) (y : Ba) : Prop := (1 ≤ y.pl ∧ y.pl ≤ pl) ∧ (0 ≤ y.mf ∧ y.mf ≤ 8) ∧ (0 ≤ y.lb ∧ y.lb ≤ 8) ∧ (0 ≤ y.rt ∧ y.rt ≤ 10000)
def CatOk (C : Cat) : Prop := ((1 ≤ C.ty ∧ C.ty ≤ 32) ∧ (1 ≤ C.pl ∧ C.pl ≤ 8) ∧ (1 ≤ C.ch ∧ C.ch ≤ 16) ∧ C.bs.length ≤ 16 ∧ C.ys.length ≤ 8 ∧ Fee.FeeOk C.f) ∧ (∀ b ∈ C.bs, Recipe.BlOk b.b C.ty) ∧ ∀ y ∈ C.ys, BaOk C.pl y
/-- What a blueprint's type needs, of the first so many needs. -/
def nd1 (o : Int) (s : List St) : List Nd := s.map fun t => ⟨o, t.kind⟩
def ndL (bs : List PB) : List Nd := bs.flatMap fun b => nd1 b.ot b.s
open Classical in
noncomputable def chkC (C : Cat) : Int := if CatOk C then (if Graph.ordE C.ty (ndL C.bs) = 0 then (if ∀ d ∈ Graph.degV C.ty (ndL C.bs), d ≤ 8 then 0 else 5) else Graph.ordE C.ty (ndL C.bs)) else 1
theorem chk_arg {C : Cat} (h : ¬ CatOk C) : chkC C = 1 := by unfold chkC; rw [if_neg h]
theorem chk_err {C : Cat} (h : CatOk C) (h2 : ¬ Graph.ordE C.ty (ndL C.bs) = 0) : chkC C = Graph.ordE C.ty (ndL C.bs) := by unfold chkC; rw [if_pos h, if_neg h2]
theorem chk_over {C : Cat} (h : CatOk C) (h2 : Graph.ordE C.ty (ndL C.bs) = 0) (h3 : ¬ ∀ d ∈ Graph.degV C.ty (ndL C.bs), d ≤ 8) : chkC C = 5 := by unfold chkC; rw [if_pos h, if_pos h2, if_neg h3]
theorem chk_fine {C : Cat} (h : CatOk C) (h2 : Graph.ordE C.ty (ndL C.bs) = 0) (h3 : ∀ d ∈ Graph.degV C.ty (ndL C.bs), d ≤ 8) : chkC C = 0 := by unfold chkC; rw [if_pos h, if_pos h2, if_pos h3]
theorem chk_zero {C : Cat} (h : chkC C = 0) : CatOk C := by
  by_cases hk : CatOk C
  · exact hk
  · rw [chk_arg hk] at h; omega
/-- The first blueprint that makes a type, told by its number. -/
def mkr (k : Int) : List PB → Int → Int
  | [], _ => 0
  | b :: l, i => if b.ot = k then i + 1 else mkr k l (i + 1)
open Classical in
noncomputable def bluE (C : Cat) (n : Int) : Int := if 1 ≤ n ∧ n ≤ C.bs.length then 0 else 3
open Classical in
noncomputable def bluV (C : Cat) (n : Int) : PB := if 1 ≤ n ∧ n ≤ C.bs.length then C.bs.getD (n - 1).toNat zPB else zPB
open Classical in
noncomputable def bayE (C : Cat) (n : Int) : Int := if 1 ≤ n ∧ n ≤ C.ys.length then 0 else 3
open Classical in
noncomputable def bayV (C : Cat) (n : Int) : Ba := if 1 ≤ n ∧ n ≤ C.ys.length then C.ys.getD (n - 1).toNat zBa else zBa
theorem mkr_drop {k : Int} {l : List PB} {i : Nat} {b : PB} (h : l[i]? = some b) : mkr k (l.drop i) i = if b.ot = k then (i : Int) + 1 else mkr k (l.drop (i + 1)) ((i + 1 : Nat) : Int) := by
  obtain ⟨hi, e⟩ := List.getElem?_eq_some_iff.1 h
  rw [List.drop_eq_getElem_cons hi, e]
  rfl
end Go.Proofs.Ytdbhdlgoecpeaaa.Cat
namespace Go.Proofs.Ytdbhdlgoecpeaaa.Goods
open Go.RowKit Go.Lib

set_option maxRecDepth 100000 in
set_option maxHeartbeats 2000000 in
theorem dcount (a : Option Addr) (n c : Nat) (l : List St) (k : Int) (w : World) (hl : l.length = n) (hs : Sts w a l) (hn : n ≤ 4096) :
    Calls Try.prog 83 #[.slice a n c, .int .i64 k] w fun e w' => e = .returned (.int .i64 (cnt (valN l) k)) ∧ Below w.heap.size w w' := by
  have HN := Lib.hid (dnorm2 a n c l w hl hs hn)
  have hlen := len_valN l
  have HR := Lib.hid (norm_valN l).rise
  have hl4 : (valN l).length ≤ 4096 := by omega
  clear hl hs hn hlen
  go_enter Try.func83, Try.ntmps83
  go_wp2_with fail
  refine HN.out.mono ?_
  rintro e w1 ⟨a', m, c', rfl, _, HV⟩
  have HT := sts_at HV.out.2.1
  have HM := Lib.hid HV.out.1
  have hm1 : (m : Int) ≤ 1048576 := by have := HM.out; omega
  go_wp2_with fail
  go_loopw [7] (fun t wr => ∃ i : Nat, t = .int .i64 i ∧ i ≤ m ∧ w1 = wr ∧ Hid (∀ s ∈ (valN l).take i, s.kind ≠ k)) (fun t _ => m - (RowKit.intOf t).toNat)
  case atStart => exact ⟨0, rfl, by omega, rfl, Lib.hid (fun s hs => by simp at hs)⟩
  case round =>
    obtain ⟨i, rfl, hi, rfl, HZ⟩ := hrel
    have hi0 : (0 : Int) ≤ (i : Int) := by omega
    by_cases hlt : i < m
    · have hlt2 : (i : Int) < (m : Int) := by omega
      obtain ⟨g, off, t, rfl, ht, k0, k1⟩ := HT.out w1 i (Below.refl _ _) (by rw [HM.out]; exact hlt)
      by_cases hk : t.kind = k
      · have HE : Hid (cnt (valN l) k = t.qty) := Lib.hid (by rw [← hk]; exact cnt_at HR.out (List.mem_of_getElem? ht.out))
        have hk2 : (t.kind == k) = true := by simpa using hk
        clear hk
        go_wp2_with fail
        go_ret
        exact ⟨ret_i64 HE.out.symm, HV.out.2.2.2⟩
      · have HZ2 : Hid (∀ s ∈ (valN l).take (i + 1), s.kind ≠ k) := Lib.hid (fun s hs => by
          rcases (mem_take_succ ht.out).1 hs with hs | rfl
          · exact HZ.out s hs
          · exact hk)
        have hk2 : (t.kind == k) = false := by simpa using hk
        clear hk
        go_wp2_with fail
        go_roundw
        case rel => exact ⟨i + 1, by go_num, by omega, by first | rfl | trivial, HZ2⟩
        case measure => simp [RowKit.intOf]; omega
    · obtain rfl : i = m := by omega
      have HE : Hid (cnt (valN l) k = 0) := Lib.hid (by
        have := HZ.out
        rw [List.take_of_length_le (by rw [HM.out]; exact Nat.le_refl _)] at this
        exact cnt_none this)
      go_wp2_with fail
      go_ret
      exact ⟨ret_i64 HE.out.symm, HV.out.2.2.2⟩
end Go.Proofs.Ytdbhdlgoecpeaaa.Goods
