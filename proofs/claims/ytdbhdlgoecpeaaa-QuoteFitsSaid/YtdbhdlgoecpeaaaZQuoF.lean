/- The document's Fits and Same. -/
import Derived.Test.YtdbhdlgoecpeaaaZQuoPl
import Derived.Laws.StructEq
import Derived.Deep.RegionHeld
namespace Go.Proofs.Ytdbhdlgoecpeaaa.Quo
open Go.RowKit Go.Lib IRows
open Cat (Cat PB Ba CM CatAt Lim box_cat pOf I64)
open Bom (RunsOk tim tim_blue tim_le tim_nonneg)

set_option maxRecDepth 100000 in
set_option maxHeartbeats 2000000 in
theorem sp_ne (a b c d : Int) (W : World) : (binOp .neq 46 (.agg #[.int .i64 a, .int .i64 b]) (.agg #[.int .i64 c, .int .i64 d])).run Try.prog W = .ok (.bool (!(decide (a = c) && decide (b = d)))) W := by
  rw [run_neq_struct]
  go_simp
  by_cases h1 : a = c
  · by_cases h2 : b = d
    · simp [h1, h2]
    · simp [h1, h2]
  · simp [h1]
set_option maxRecDepth 100000 in
set_option maxHeartbeats 2000000 in
theorem sp_eq (a b c d : Int) (W : World) : (binOp .eql 46 (.agg #[.int .i64 a, .int .i64 b]) (.agg #[.int .i64 c, .int .i64 d])).run Try.prog W = .ok (.bool (decide (a = c) && decide (b = d))) W := by
  rw [run_eql_struct]
  go_simp
  by_cases h1 : a = c
  · by_cases h2 : b = d
    · simp [h1, h2]
    · simp [h1, h2]
  · simp [h1]
def InSp (l : List Sp) : Prop := ∀ t ∈ l, I64 t.s ∧ I64 t.e
set_option maxRecDepth 100000 in
set_option maxHeartbeats 4000000 in
theorem dsameq (a : Option Addr) (n c : Nat) (b : Option Addr) (d : Nat) (l : List Sp) (w : World) (hl : l.length = n) (hs : Spa w a l) (ht : Spa w b l) (hn : n ≤ 1048576) :
    Calls Try.prog 14 #[.slice a n c, .slice b n d] w fun e w' => e = .returned (.bool true) ∧ Below w.heap.size w w' := by
  have H1 := spa_at hs
  have H2 := spa_at ht
  have HL := Lib.hid hl
  have hn1 : (n : Int) ≤ 1048576 := by omega
  have hne : ((n : Int) != (n : Int)) = false := by simp
  clear hl hs ht
  go_enter Try.func14, Try.ntmps14
  go_wp2_with fail
  go_loopw [5] (fun t wr => ∃ i : Nat, t = .int .i64 (i : Int) ∧ i ≤ n ∧ Hid (Below w.heap.size w wr)) (fun t _ => n - (RowKit.intOf t).toNat)
  case atStart => exact ⟨0, rfl, by omega, Lib.hid (Below.refl _ _)⟩
  case round =>
    obtain ⟨i, rfl, hi, HB⟩ := hrel
    have hi0 : (0 : Int) ≤ (i : Int) := by omega
    by_cases hlt : i < n
    · have hlt2 : (i : Int) < (n : Int) := by omega
      have hd1 : decide (i < n) = true := decide_eq_true hlt
      have wi : IntKind.i64.wrap ((i : Int) + 1) = (i : Int) + 1 := IntWalk.i64_in _ (by omega)
      obtain ⟨g, off, t, rfl, hti, q0, q1⟩ := H1.out _ i HB.out (by rw [HL.out]; exact hlt)
      obtain ⟨g', off', u, rfl, hui, r0, r1⟩ := H2.out _ i HB.out (by rw [HL.out]; exact hlt)
      obtain rfl : t = u := by have h1 := hti.out; rw [hui.out] at h1; injection h1 with h1; exact h1.symm
      have hrun : ∀ W, (binOp .neq 46 (.agg #[.int .i64 t.s, .int .i64 t.e]) (.agg #[.int .i64 t.s, .int .i64 t.e])).run Try.prog W = .ok (.bool false) W := fun W => by rw [sp_ne]; simp
      go_wp2_with fail
      go_quiet (fail)
      go_wp2_with fail
      go_roundw
      case rel => exact ⟨i + 1, by go_num, by omega, Lib.hid (below_drewN HB.out _)⟩
      case measure => simp [RowKit.intOf]; omega
    · obtain rfl : i = n := by omega
      have hd1 : decide (i < i) = false := by simp
      go_wp2_with fail
      go_ret
      exact ⟨rfl, HB.out⟩
/-! Fits -/
def sAt (l : List Sp) (k : Nat) : Int := (l.getD k ⟨0, 0⟩).s
def eAt (l : List Sp) (k : Nat) : Int := (l.getD k ⟨0, 0⟩).e
theorem at_is {l : List Sp} {k : Nat} {t : Sp} (h : l[k]? = some t) : sAt l k = t.s ∧ eAt l k = t.e := by
  unfold sAt eAt
  rw [List.getD_eq_getElem?_getD, h]
  exact ⟨rfl, rfl⟩
noncomputable def jbB (C : Cat) (bay : Int) (rs : List Int) (lv : Int) : Jb := jbOf C rs lv (Cat.bayV C bay).mf
def FitsQ (C : Cat) (bay : Int) (rs : List Int) (lv : Int) (l : List Sp) : Prop := mayQ C bay rs lv = 0 ∧ l.length = C.bs.length ∧ FitsJ (jbB C bay rs lv) (sAt l) (eAt l)
/-- A job's time. -/
def Tk (J : Jb) (s e : Nat → Int) (k : Nat) : Prop := if J.j k = true then 0 ≤ s k ∧ e k = s k + J.t k else s k = 0 ∧ e k = 0
def onF (J : Jb) (s e : Nat → Int) (k x : Nat) : Bool := J.j x && (decide (s x ≤ s k) && decide (s k < e x))
def Rm (J : Jb) (s e : Nat → Int) (k : Nat) : Prop := (∀ x, x < J.n → J.w k x = true → e x ≤ s k) ∧ (cntB (onF J s e k) J.n : Int) ≤ J.m
theorem fits_iff {J : Jb} {s e : Nat → Int} : FitsJ J s e ↔ (∀ k, k < J.n → Tk J s e k) ∧ ∀ k, k < J.n → J.j k = true → Rm J s e k := by
  constructor
  · rintro ⟨h1, h2, h3, h4⟩
    refine ⟨fun k hk => ?_, fun k hk hj => ⟨fun x hx hw => h3 k x hk hx hj hw, h4 k hk hj⟩⟩
    unfold Tk
    by_cases hj : J.j k = true
    · rw [if_pos hj]
      exact h2 k hk hj
    · rw [if_neg hj]
      exact h1 k hk (by simpa using hj)
  · rintro ⟨h1, h2⟩
    refine ⟨fun k hk hj => ?_, fun k hk hj => ?_, fun k x hk hx hj hw => (h2 k hk hj).1 x hx hw, fun k hk hj => (h2 k hk hj).2⟩
    · have := h1 k hk
      unfold Tk at this
      rw [if_neg (by rw [hj]; simp)] at this
      exact this
    · have := h1 k hk
      unfold Tk at this
      rw [if_pos hj] at this
      exact this
theorem fits_no1 {C : Cat} {bay lv : Int} {rs : List Int} {l : List Sp} (h : mayQ C bay rs lv ≠ 0) : ¬ FitsQ C bay rs lv l := fun k => h k.1
theorem fits_no2 {C : Cat} {bay lv : Int} {rs : List Int} {l : List Sp} (h : l.length ≠ C.bs.length) : ¬ FitsQ C bay rs lv l := fun k => h k.2.1
open Classical in
set_option maxRecDepth 100000 in
set_option maxHeartbeats 32000000 in
theorem dfitsq (C : CM) (bay : Int) (a : Option Addr) (n c : Nat) (rs : List Int) (lv : Int) (la : Option Addr) (ln lc : Nat) (l : List Sp) (w : World) (h : CatAt w C) (hl : Lim C) (hn : rs.length = n) (hs : IRow w a rs) (h4 : n ≤ 1000) (hll : l.length = ln) (hls : Spa w la l) (hli : InSp l) (h5 : ln ≤ 1000) :
    Calls Try.prog 16 #[C.v, .int .i64 bay, .slice a n c, .int .i64 lv, .slice la ln lc] w fun e w' => e = .returned (.bool (decide (FitsQ C.p bay rs lv l))) ∧ Below w.heap.size w w' := by
  obtain ⟨V, X, hV, hX, HXB, HP⟩ := box_cat w C
  have HPE : Hid (∀ W, Below X.heap.size X W → W.cell? ⟨V, 0, none⟩ = some (.int .i64 C.ty) ∧ W.cell? ⟨V, 1, none⟩ = some (.slice C.ba C.bn C.bc) ∧ W.cell? ⟨V, 2, none⟩ = some (.int .i64 C.pl) ∧ W.cell? ⟨V, 3, none⟩ = some (.slice C.ya C.yn C.yc) ∧ W.cell? ⟨V, 4, none⟩ = some (.int .i64 C.ch) ∧ W.cell? ⟨V, 5, none⟩ = some (.int .i64 C.f.broker) ∧ W.cell? ⟨V, 6, none⟩ = some (.int .i64 C.f.least) ∧ W.cell? ⟨V, 7, none⟩ = some (.int .i64 C.f.sales)) := Lib.hid fun W hW => HP.out W hW
  obtain ⟨k0, k1, k2, k3, k4, k5, k6, k7⟩ := HPE.out X (Below.refl _ _)
  obtain ⟨er, her⟩ : ∃ er, mayQ C.p bay rs lv = er := ⟨_, rfl⟩
  have HM : Hid (Calls Try.prog 24 #[.agg #[.int .i64 C.ty, .slice C.ba C.bn C.bc, .int .i64 C.pl, .slice C.ya C.yn C.yc, .int .i64 C.ch, .int .i64 C.f.broker, .int .i64 C.f.least, .int .i64 C.f.sales], .int .i64 bay, .slice a n c, .int .i64 lv] X fun e w' => e = .returned (.int .i64 er) ∧ Hid (Below X.heap.size X w')) := Lib.hid (by
    rw [← her]
    exact (dmayq C bay a n c rs lv X (h.under HXB.out) hl hn (hs.under HXB.out) h4).mono fun _ _ ⟨e, h⟩ => ⟨e, Lib.hid h⟩)
  have HNO : Hid (∀ W, Below X.heap.size X W → Below w.heap.size w W) := Lib.hid fun W hW => below_then HXB.out hW
  have HBN := Lib.hid (blues_len C w h)
  by_cases he : er = 0
  case neg =>
    have n1 : (er == 0) = false := by simpa using he
    have n2 : (er != 0) = true := by simpa using he
    have HF : Hid (decide (FitsQ C.p bay rs lv l) = false) := Lib.hid (decide_eq_false (fits_no1 (by rw [her]; exact he)))
    clear her h hl hn hs h4 hll hls hli h5
    go_enter Try.func16, Try.ntmps16
    go_wp2_with fail
    clear hX hV
    refine HM.out.mono ?_
    rintro e w1 ⟨rfl, H1⟩
    go_wp2_with fail
    go_ret
    exact ⟨ret_bool HF.out.symm, HNO.out _ H1.out⟩
  subst he
  by_cases hlb : ln = C.bn
  case neg =>
    have n3 : ((ln : Int) != (C.bn : Int)) = true := by simp; omega
    have hb1 : C.bn ≤ 20 := hl.2.1
    have hb2 : (C.bn : Int) ≤ 20 := by omega
    have hl2 : (ln : Int) ≤ 1000 := by omega
    have HF : Hid (decide (FitsQ C.p bay rs lv l) = false) := Lib.hid (decide_eq_false (fits_no2 (by rw [hll, HBN.out]; exact hlb)))
    clear her h hl hn hs h4 hll hls hli h5
    go_enter Try.func16, Try.ntmps16
    go_wp2_with fail
    clear hX hV
    refine HM.out.mono ?_
    rintro e w1 ⟨rfl, H1⟩
    clear k0 k1 k2 k3 k4 k5 k6 k7
    obtain ⟨y0, y1, y2, y3, y4, y5, y6, y7⟩ := HPE.out w1 H1.out
    go_wp2_with fail
    go_ret
    exact ⟨ret_bool HF.out.symm, HNO.out _ H1.out⟩
  subst hlb
  obtain ⟨hch, hbay, hR, hlv⟩ := may_zero her
  have hok : ArgOk C.p rs lv := ⟨hR, hlv⟩
  obtain ⟨j, hj⟩ := Int.eq_ofNat_of_zero_le (show 0 ≤ bay - 1 by omega)
  obtain rfl : bay = (j : Int) + 1 := by omega
  have hyl : C.p.ys.length = C.yn := h.2.1
  have hjl : j < C.yn := by omega
  have hyb : (C.yn : Int) ≤ 12 := by have := hl.2.2; omega
  obtain ⟨gy, oy, y, HYA, HYT, HYC⟩ := bay_cells HP (h.under HXB.out) j hjl
  obtain ⟨m, hm⟩ : ∃ m, y.mf = m := ⟨_, rfl⟩
  rw [hm] at HYC
  have hj0 : (0 : Int) ≤ (j : Int) := by omega
  have hj1 : (j : Int) < (C.yn : Int) := by omega
  have wj : IntKind.i64.wrap ((j : Int) + 1 - 1) = (j : Int) := by rw [show (j : Int) + 1 - 1 = (j : Int) by omega]; exact IntWalk.i64_in _ (by omega)
  have hbm : (Cat.bayV C.p ((j : Int) + 1)).mf = m := by rw [(Cat.bay_yes HYT.out).2, hm]
  obtain rfl : n = C.bn := by rw [← hn, hR.1, HBN.out]
  have hb1 : C.bn ≤ 20 := hl.2.1
  have hb2 : (C.bn : Int) ≤ 20 := by omega
  have HL := Lib.hid hn
  have HLL := Lib.hid hll
  obtain ⟨J, hJ⟩ : ∃ J, jbOf C.p rs lv m = J := ⟨_, rfl⟩
  have hJB : jbB C.p ((j : Int) + 1) rs lv = J := by unfold jbB; rw [hbm, hJ]
  have HJN : Hid (J.n = C.bn) := Lib.hid (by rw [← hJ]; exact HBN.out)
  have HJM : Hid (J.m = m) := Lib.hid (by rw [← hJ]; rfl)
  have HJJ : Hid (∀ (k : Nat) (r : Int), rs[k]? = some r → J.j k = decide (0 < r)) := Lib.hid fun k r hr => by rw [← hJ]; exact jb_j hr
  have HJW : Hid (∀ k x : Nat, waitsB C.p.bs rs k x = J.w k x) := Lib.hid fun k x => by rw [← hJ]; rfl
  have HW0 : Hid (∀ k x r, rs[x]? = some r → r = 0 → J.w k x = false) := Lib.hid fun k x r hr h0 => by
    cases hw : J.w k x with
    | false => rfl
    | true =>
      have h1 := (waits_is (show waitsB C.p.bs rs k x = true by rw [HJW.out, hw])).1
      rw [List.getD_eq_getElem?_getD, hr] at h1
      exact absurd h0 h1
  have HJT : Hid (∀ (k : Nat) (b : Recipe.Bl) (r : Int), C.bs[k]? = some b → rs[k]? = some r → 0 < r → Recipe.timeV b lv r = J.t k) := Lib.hid fun k b r h1 h2 h3 => by rw [← hJ, jb_tk (blue_p h1) h2, tim_blue b lv (by omega)]
  have HTB0 : Hid (∀ k, 0 ≤ J.t k ∧ J.t k ≤ 104857600000) := Lib.hid fun k => by rw [← hJ]; exact jb_t C.p rs lv m k
  have HFQ : Hid (FitsQ C.p ((j : Int) + 1) rs lv l ↔ (∀ k, k < J.n → Tk J (sAt l) (eAt l) k) ∧ ∀ k, k < J.n → J.j k = true → Rm J (sAt l) (eAt l) k) := Lib.hid (by
    rw [← fits_iff]
    unfold FitsQ
    rw [hJB]
    exact ⟨fun h => h.2.2, fun h => ⟨her, by rw [hll, HBN.out], h⟩⟩)
  have HTB := Lib.hid (fun (k : Nat) (hk : k < C.bn) => blue_cells HP (h.under HXB.out) hl hn (hs.under HXB.out) k hk)
  have HTM : Hid (∀ (W : World) (k : Nat) (b0 : Recipe.Bl) (r0 : Int), Below X.heap.size X W → k < C.bn → C.bs[k]? = some b0 → rs[k]? = some r0 → Calls Try.prog 26 #[.agg #[.int .i64 C.ty, .slice C.ba C.bn C.bc, .int .i64 C.pl, .slice C.ya C.yn C.yc, .int .i64 C.ch, .int .i64 C.f.broker, .int .i64 C.f.least, .int .i64 C.f.sales], .int .i64 (k : Int), .slice a C.bn c, .int .i64 lv] W fun e w' => e = .returned (.int .i64 (Recipe.timeV b0 lv r0)) ∧ Hid (Below X.heap.size X w')) := Lib.hid fun W k b0 r0 hW hk h1 h2 =>
    (dtimeq C k a c rs lv W ((h.under HXB.out).under hW) hl hn ((hs.under HXB.out).under hW) hk b0 r0 h1 h2).mono fun _ _ ⟨e, h⟩ => ⟨e, Lib.hid (below_then hW h)⟩
  have HWT : Hid (∀ (W : World) (k x : Nat) (q : Bool), Below X.heap.size X W → k < C.bn → x < C.bn → J.w k x = q → Calls Try.prog 25 #[.agg #[.int .i64 C.ty, .slice C.ba C.bn C.bc, .int .i64 C.pl, .slice C.ya C.yn C.yc, .int .i64 C.ch, .int .i64 C.f.broker, .int .i64 C.f.least, .int .i64 C.f.sales], .slice a C.bn c, .int .i64 (k : Int), .int .i64 (x : Int)] W.drew fun e w' => e = .returned (.bool q) ∧ Hid (Below W.heap.size W w')) := Lib.hid fun W k x q hW hk hx hq => by
    subst hq
    rw [← HJW.out]
    exact (dwaits C k x a c rs W.drew (((h.under HXB.out).under hW).under (Below.refl _ W).drew) hl hn (((hs.under HXB.out).under hW).under (Below.refl _ W).drew) hk hx).mono fun _ _ ⟨e, h⟩ => ⟨e, Lib.hid (((Below.refl _ W).drew).trans h)⟩
  have HNN : Hid (∀ r ∈ rs, 0 ≤ r ∧ r ≤ 1000) := Lib.hid hR.2
  have HT := irow_at (hs.under HXB.out)
  have HS := spa_at (hls.under HXB.out)
  have HIN := Lib.hid hli
  have neq0 : ((C.bn : Int) != (C.bn : Int)) = false := by simp
  clear her h hl hn hs h4 hch hbay hR hlv hj hyl hok hJ hJB hbm hm hjl hll hls hli h5
  go_enter Try.func16, Try.ntmps16
  go_wp2_with fail
  clear hX hV
  refine HM.out.mono ?_
  rintro e w1 ⟨rfl, H1⟩
  clear k0 k1 k2 k3 k4 k5 k6 k7
  obtain ⟨y0, y1, y2, y3, y4, y5, y6, y7⟩ := HPE.out w1 H1.out
  go_wp2_with fail
  clear y0 y1 y2 y3 y4 y5 y6 y7 neq0
  go_loopw [11] (fun t wr => ∃ k : Nat, t = .int .i64 (k : Int) ∧ k ≤ C.bn ∧ Hid (∀ i, i < k → Tk J (sAt l) (eAt l) i) ∧ Hid (Below X.heap.size X wr)) (fun t _ => C.bn - (RowKit.intOf t).toNat)
  case atStart => exact ⟨0, rfl, by omega, Lib.hid (fun i h => by omega), H1⟩
  case round =>
    obtain ⟨k, rfl, hk, HK, HW⟩ := hrel
    have hk0 : (0 : Int) ≤ (k : Int) := by omega
    by_cases hkn : k < C.bn
    · have hkn2 : (k : Int) < (C.bn : Int) := by omega
      have dx : decide ((k : Int) < (C.bn : Int)) = true := decide_eq_true hkn2
      have dxb : decide (k < C.bn) = true := decide_eq_true hkn
      have wk : IntKind.i64.wrap ((k : Int) + 1) = (k : Int) + 1 := IntWalk.i64_in _ (by omega)
      obtain ⟨g2, off2, r, rfl, hr, z0⟩ := HT.out wr k HW.out (by rw [HL.out]; exact hkn)
      obtain ⟨g, off, t, rfl, ht, q0, q1⟩ := HS.out wr k HW.out (by rw [HLL.out]; exact hkn)
      have HAT := Lib.hid (at_is ht.out)
      have HJ1 := Lib.hid (HJJ.out k r hr.out)
      have hrb := HNN.out r (List.mem_of_getElem? hr.out)
      have HKN : Hid (Tk J (sAt l) (eAt l) k → ∀ i, i < k + 1 → Tk J (sAt l) (eAt l) i) := Lib.hid fun h i hi => by
        by_cases e : i = k
        · rw [e]; exact h
        · exact HK.out i (by omega)
      have HNOT : Hid (¬ Tk J (sAt l) (eAt l) k → decide (FitsQ C.p ((j : Int) + 1) rs lv l) = false) := Lib.hid fun h => decide_eq_false fun h2 => h ((HFQ.out.1 h2).1 k (by rw [HJN.out]; exact hkn))
      by_cases hr0 : r = 0
      · have dr : (r == 0) = true := by simpa using hr0
        have HTK : Hid (Tk J (sAt l) (eAt l) k ↔ t.s = 0 ∧ t.e = 0) := Lib.hid (by
          unfold Tk
          rw [if_neg (by rw [HJ1.out, hr0]; simp), HAT.out.1, HAT.out.2])
        by_cases hz : t.s = 0 ∧ t.e = 0
        · have HK2 := Lib.hid (HKN.out (HTK.out.2 hz))
          rw [hz.1] at q0
          rw [hz.2] at q1
          clear hz hr0
          go_wp2_with fail
          go_roundw
          case rel => exact ⟨k + 1, by go_num, by omega, HK2, HW⟩
          case measure => simp [RowKit.intOf]; omega
        · have HF := Lib.hid (HNOT.out fun h => hz (HTK.out.1 h))
          by_cases h1 : t.s = 0
          · have h2 : ¬ t.e = 0 := fun h2 => hz ⟨h1, h2⟩
            have h3 : (t.e == 0) = false := by simpa using h2
            have h4 : (t.e != 0) = true := by simpa using h2
            rw [h1] at q0
            clear hz hr0 h1
            go_wp2_with fail
            go_ret
            exact ⟨ret_bool HF.out.symm, HNO.out _ HW.out⟩
          · have h3 : (t.s == 0) = false := by simpa using h1
            have h4 : (t.s != 0) = true := by simpa using h1
            clear hz hr0
            go_wp2_with fail
            go_ret
            exact ⟨ret_bool HF.out.symm, HNO.out _ HW.out⟩
      have dr : (r == 0) = false := by simpa using hr0
      obtain ⟨_, _, b, _, _, r', _, _, HTX, _⟩ := HTB.out k hkn
      obtain ⟨tk, htk⟩ : ∃ tk, J.t k = tk := ⟨_, rfl⟩
      have htb : 0 ≤ tk ∧ tk ≤ 104857600000 := by rw [← htk]; exact HTB0.out k
      have HC4 := Lib.hid (HTM.out wr k b r HW.out hkn HTX.out.1 hr.out)
      rw [HJT.out k b r HTX.out.1 hr.out (by omega), htk] at HC4
      have hti := HIN.out t (List.mem_of_getElem? ht.out)
      have hte : t.e ≤ 9223372036854775807 := hti.2.2
      have HTK : Hid (Tk J (sAt l) (eAt l) k ↔ 0 ≤ t.s ∧ t.e = t.s + tk) := Lib.hid (by
        unfold Tk
        rw [if_pos (by rw [HJ1.out]; exact decide_eq_true (by omega)), HAT.out.1, HAT.out.2, htk])
      have HSC : Hid (∀ W, Below X.heap.size X W → W.cell? ⟨g, off + k * 2, none⟩ = some (.int .i64 t.s) ∧ W.cell? ⟨g, off + k * 2 + 1, none⟩ = some (.int .i64 t.e)) := Lib.hid fun W hW => by
        obtain ⟨g', off', u, e', hu, c0, c1⟩ := HS.out W k hW (by rw [HLL.out]; exact hkn)
        cases e'
        have h1 := hu.out
        rw [ht.out] at h1
        injection h1 with h1
        subst h1
        exact ⟨c0, c1⟩
      obtain ⟨y0, y1, y2, y3, y4, y5, y6, y7⟩ := HPE.out wr HW.out
      clear hr0 htk hti q0 q1
      by_cases hs0 : t.s < 0
      · have ds : decide (t.s < 0) = true := decide_eq_true hs0
        have HF := Lib.hid (HNOT.out fun h => by have := HTK.out.1 h; omega)
        clear hs0
        go_wp2_with fail
        refine HC4.out.mono ?_
        rintro e w4 ⟨rfl, H4⟩
        obtain ⟨q0, q1⟩ := HSC.out w4 H4.out
        clear y0 y1 y2 y3 y4 y5 y6 y7 z0
        go_wp2_with fail
        go_quiet (fail)
        go_wp2_with fail
        go_ret
        exact ⟨ret_bool HF.out.symm, HNO.out _ (below_drewN H4.out _)⟩
      have ds : decide (t.s < 0) = false := decide_eq_false hs0
      by_cases he0 : t.e < tk
      · have de : decide (t.e < tk) = true := decide_eq_true he0
        have HF := Lib.hid (HNOT.out fun h => by have := HTK.out.1 h; omega)
        clear hs0 he0
        go_wp2_with fail
        refine HC4.out.mono ?_
        rintro e w4 ⟨rfl, H4⟩
        obtain ⟨q0, q1⟩ := HSC.out w4 H4.out
        clear y0 y1 y2 y3 y4 y5 y6 y7 z0
        go_wp2_with fail
        go_quiet (fail)
        go_wp2_with fail
        go_ret
        exact ⟨ret_bool HF.out.symm, HNO.out _ (below_drewN H4.out _)⟩
      have de : decide (t.e < tk) = false := decide_eq_false he0
      have we : IntKind.i64.wrap (t.e - tk) = t.e - tk := IntWalk.i64_in _ (by omega)
      by_cases hse : t.e - tk = t.s
      · have dse : (t.e - tk == t.s) = true := by simpa using hse
        have dsn : (t.e - tk != t.s) = false := by simpa using hse
        have HK2 := Lib.hid (HKN.out (HTK.out.2 (by omega)))
        clear hs0 he0 hse
        go_wp2_with fail
        refine HC4.out.mono ?_
        rintro e w4 ⟨rfl, H4⟩
        obtain ⟨q0, q1⟩ := HSC.out w4 H4.out
        clear y0 y1 y2 y3 y4 y5 y6 y7 z0
        go_wp2_with fail
        go_quiet (fail)
        go_wp2_with fail
        go_roundw
        case rel => exact ⟨k + 1, by go_num, by omega, HK2, Lib.hid (below_drewN H4.out _)⟩
        case measure => simp [RowKit.intOf]; omega
      · have dse : (t.e - tk == t.s) = false := by simpa using hse
        have dsn : (t.e - tk != t.s) = true := by simpa using hse
        have HF := Lib.hid (HNOT.out fun h => by have := HTK.out.1 h; omega)
        clear hs0 he0 hse
        go_wp2_with fail
        refine HC4.out.mono ?_
        rintro e w4 ⟨rfl, H4⟩
        obtain ⟨q0, q1⟩ := HSC.out w4 H4.out
        clear y0 y1 y2 y3 y4 y5 y6 y7 z0
        go_wp2_with fail
        go_quiet (fail)
        go_wp2_with fail
        go_ret
        exact ⟨ret_bool HF.out.symm, HNO.out _ (below_drewN H4.out _)⟩
    obtain rfl : k = C.bn := by omega
    have dx : decide ((C.bn : Int) < (C.bn : Int)) = false := by simp
    have dxb : decide (C.bn < C.bn) = false := by simp
    have HT1 : Hid (∀ k, k < J.n → Tk J (sAt l) (eAt l) k) := Lib.hid fun k hk => HK.out k (by rw [← HJN.out]; exact hk)
    clear HK
    go_wp2_with fail
    clear dx dxb
    go_loopw [13] (fun t wr2 => ∃ k : Nat, t = .int .i64 (k : Int) ∧ k ≤ C.bn ∧ Hid (∀ i, i < k → J.j i = true → Rm J (sAt l) (eAt l) i) ∧ Hid (Below X.heap.size X wr2)) (fun t _ => C.bn - (RowKit.intOf t).toNat)
    case atStart => exact ⟨0, rfl, by omega, Lib.hid (fun i h => by omega), HW⟩
    case round =>
      obtain ⟨wr2, rfl⟩ : ∃ W, W = wr := ⟨_, rfl⟩
      clear HW
      obtain ⟨k, rfl, hk, HK, HW⟩ := hrel
      have hk0 : (0 : Int) ≤ (k : Int) := by omega
      by_cases hkn : k < C.bn
      case neg =>
        obtain rfl : k = C.bn := by omega
        have dx : decide ((C.bn : Int) < (C.bn : Int)) = false := by simp
        have dxb : decide (C.bn < C.bn) = false := by simp
        have HF : Hid (decide (FitsQ C.p ((j : Int) + 1) rs lv l) = true) := Lib.hid (decide_eq_true (HFQ.out.2 ⟨HT1.out, fun k hk => HK.out k (by rw [← HJN.out]; exact hk)⟩))
        go_wp2_with fail
        go_ret
        exact ⟨ret_bool HF.out.symm, HNO.out _ HW.out⟩
      have hkn2 : (k : Int) < (C.bn : Int) := by omega
      have dx : decide ((k : Int) < (C.bn : Int)) = true := decide_eq_true hkn2
      have dxb : decide (k < C.bn) = true := decide_eq_true hkn
      have wk : IntKind.i64.wrap ((k : Int) + 1) = (k : Int) + 1 := IntWalk.i64_in _ (by omega)
      obtain ⟨g2, off2, r, rfl, hr, z0⟩ := HT.out wr2 k HW.out (by rw [HL.out]; exact hkn)
      obtain ⟨g, off, t, rfl, ht, q0, q1⟩ := HS.out wr2 k HW.out (by rw [HLL.out]; exact hkn)
      have HAT := Lib.hid (at_is ht.out)
      have HJ1 := Lib.hid (HJJ.out k r hr.out)
      have hrb := HNN.out r (List.mem_of_getElem? hr.out)
      clear q0 q1
      by_cases hr0 : r = 0
      · have dr : (r == 0) = true := by simpa using hr0
        have HK2 : Hid (∀ i, i < k + 1 → J.j i = true → Rm J (sAt l) (eAt l) i) := Lib.hid fun i hi hj => by
          by_cases e : i = k
          · rw [e, HJ1.out, hr0] at hj
            simp at hj
          · exact HK.out i (by omega) hj
        clear hr0
        go_wp2_with fail
        go_roundw
        case rel => exact ⟨k + 1, by go_num, by omega, HK2, HW⟩
        case measure => simp [RowKit.intOf]; omega
      have dr : (r == 0) = false := by simpa using hr0
      have HJK : Hid (J.j k = true) := Lib.hid (by rw [HJ1.out]; exact decide_eq_true (by omega))
      have HNOT : Hid (¬ Rm J (sAt l) (eAt l) k → decide (FitsQ C.p ((j : Int) + 1) rs lv l) = false) := Lib.hid fun h => decide_eq_false fun h2 => h ((HFQ.out.1 h2).2 k (by rw [HJN.out]; exact hkn) HJK.out)
      clear hr0
      go_wp2_with fail
      clear dx dxb z0
      go_loopw [14, 15] (fun u t wq => ∃ (x dn : Nat), u = .int .i64 (dn : Int) ∧ t = .int .i64 (x : Int) ∧ x ≤ C.bn ∧ dn ≤ x ∧ Hid (cntB (onF J (sAt l) (eAt l) k) x = dn) ∧ Hid (∀ i, i < x → J.w k i = true → eAt l i ≤ sAt l k) ∧ Hid (Below X.heap.size X wq)) (fun _ t _ => C.bn - (RowKit.intOf t).toNat)
      case atStart => exact ⟨0, 0, rfl, rfl, by omega, by omega, Lib.hid rfl, Lib.hid (fun i h => by omega), HW⟩
      case round =>
        obtain ⟨wq, rfl⟩ : ∃ W, W = wr := ⟨_, rfl⟩
        clear HW
        obtain ⟨x, dn, rfl, rfl, hx, hdx, HCN, HWX, HW⟩ := hrel
        have hx0 : (0 : Int) ≤ (x : Int) := by omega
        by_cases hxn : x < C.bn
        case neg =>
          obtain rfl : x = C.bn := by omega
          have dx : decide ((C.bn : Int) < (C.bn : Int)) = false := by simp
          have dxb : decide (C.bn < C.bn) = false := by simp
          have HRM : Hid (Rm J (sAt l) (eAt l) k ↔ (dn : Int) ≤ m) := Lib.hid (by
            unfold Rm
            rw [HJN.out, HCN.out, HJM.out]
            exact ⟨fun h => h.2, fun h => ⟨HWX.out, h⟩⟩)
          obtain ⟨v3, vm, vr⟩ := HYC.out wq HW.out
          by_cases hdm : m < (dn : Int)
          · have dm : decide (m < (dn : Int)) = true := decide_eq_true hdm
            have HF := Lib.hid (HNOT.out fun h => by have := HRM.out.1 h; omega)
            clear hdm
            go_wp2_with fail
            go_ret
            exact ⟨ret_bool HF.out.symm, HNO.out _ HW.out⟩
          · have dm : decide (m < (dn : Int)) = false := decide_eq_false hdm
            have HK2 : Hid (∀ i, i < k + 1 → J.j i = true → Rm J (sAt l) (eAt l) i) := Lib.hid fun i hi hj => by
              by_cases e : i = k
              · rw [e]
                exact HRM.out.2 (by omega)
              · exact HK.out i (by omega) hj
            clear hdm
            go_wp2_with fail
            go_roundw
            case rel => exact ⟨k + 1, by go_num, by omega, HK2, HW⟩
            case measure => simp [RowKit.intOf]; omega
        have hxn2 : (x : Int) < (C.bn : Int) := by omega
        have dx : decide ((x : Int) < (C.bn : Int)) = true := decide_eq_true hxn2
        have dxb : decide (x < C.bn) = true := decide_eq_true hxn
        have wx : IntKind.i64.wrap ((x : Int) + 1) = (x : Int) + 1 := IntWalk.i64_in _ (by omega)
        have wd : IntKind.i64.wrap ((dn : Int) + 1) = (dn : Int) + 1 := IntWalk.i64_in _ (by omega)
        obtain ⟨g3, off3, r2, e3, hr2, z0⟩ := HT.out wq x HW.out (by rw [HL.out]; exact hxn)
        cases e3
        have HJ2 := Lib.hid (HJJ.out x r2 hr2.out)
        have hrb2 := HNN.out r2 (List.mem_of_getElem? hr2.out)
        have HWN : Hid ((J.w k x = true → eAt l x ≤ sAt l k) → ∀ i, i < x + 1 → J.w k i = true → eAt l i ≤ sAt l k) := Lib.hid fun h i hi hw => by
          by_cases e : i = x
          · rw [e] at hw ⊢; exact h hw
          · exact HWX.out i (by omega) hw
        have HCX : Hid (∀ q, onF J (sAt l) (eAt l) k x = q → cntB (onF J (sAt l) (eAt l) k) (x + 1) = dn + if q then 1 else 0) := Lib.hid fun q hq => by rw [cntB, HCN.out, hq]
        by_cases hr0 : r2 = 0
        · have dr2 : (r2 == 0) = true := by simpa using hr0
          have HW2 := Lib.hid (HWN.out fun hw => by rw [HW0.out k x r2 hr2.out hr0] at hw; cases hw)
          have HC2 : Hid (cntB (onF J (sAt l) (eAt l) k) (x + 1) = dn) := Lib.hid (HCX.out false (by unfold onF; rw [HJ2.out, hr0]; rfl))
          clear hr0
          go_wp2_with fail
          go_roundw
          case rel => exact ⟨x + 1, dn, rfl, by go_num, by omega, by omega, HC2, HW2, HW⟩
          case measure => simp [RowKit.intOf]; omega
        have dr2 : (r2 == 0) = false := by simpa using hr0
        have HJX : Hid (J.j x = true) := Lib.hid (by rw [HJ2.out]; exact decide_eq_true (by omega))
        obtain ⟨g4, off4, t2, e4, ht2, q2, q3⟩ := HS.out wq x HW.out (by rw [HLL.out]; exact hxn)
        cases e4
        have HAT2 := Lib.hid (at_is ht2.out)
        have HSC : Hid (∀ W, Below X.heap.size X W → W.cell? ⟨g, off + k * 2, none⟩ = some (.int .i64 t.s) ∧ W.cell? ⟨g, off + x * 2, none⟩ = some (.int .i64 t2.s) ∧ W.cell? ⟨g, off + x * 2 + 1, none⟩ = some (.int .i64 t2.e)) := Lib.hid fun W hW => by
          obtain ⟨g', off', u, e', hu, c0, _⟩ := HS.out W k hW (by rw [HLL.out]; exact hkn)
          cases e'
          obtain ⟨g'', off'', u2, e'', hu2, c2, c3⟩ := HS.out W x hW (by rw [HLL.out]; exact hxn)
          cases e''
          have h1 := hu.out
          rw [ht.out] at h1
          injection h1 with h1
          subst h1
          have h2 := hu2.out
          rw [ht2.out] at h2
          injection h2 with h2
          subst h2
          exact ⟨c0, c2, c3⟩
        have HON : Hid (onF J (sAt l) (eAt l) k x = (decide (t2.s ≤ t.s) && decide (t.s < t2.e))) := Lib.hid (by
          unfold onF
          rw [HJX.out, HAT.out.1, HAT2.out.1, HAT2.out.2]
          rfl)
        clear hr0 q2 q3
        have hcases0 : (decide (t2.s ≤ t.s) = false ∨ (decide (t2.s ≤ t.s) = true ∧ decide (t.s < t2.e) = false)) ∨ (decide (t2.s ≤ t.s) = true ∧ decide (t.s < t2.e) = true) := by
          cases decide (t2.s ≤ t.s) <;> cases decide (t.s < t2.e) <;> simp
        have hcases := Lib.hid hcases0
        clear hcases0
        have HB0 : Hid (Below wq.heap.size wq wq.drew) := Lib.hid (Below.refl _ wq).drew
        have HCS : Hid (∀ W, Below wq.heap.size wq W → (W.cell? ⟨V, 0, none⟩ = some (.int .i64 C.ty) ∧ W.cell? ⟨V, 1, none⟩ = some (.slice C.ba C.bn C.bc) ∧ W.cell? ⟨V, 2, none⟩ = some (.int .i64 C.pl) ∧ W.cell? ⟨V, 3, none⟩ = some (.slice C.ya C.yn C.yc) ∧ W.cell? ⟨V, 4, none⟩ = some (.int .i64 C.ch) ∧ W.cell? ⟨V, 5, none⟩ = some (.int .i64 C.f.broker) ∧ W.cell? ⟨V, 6, none⟩ = some (.int .i64 C.f.least) ∧ W.cell? ⟨V, 7, none⟩ = some (.int .i64 C.f.sales)) ∧ W.cell? ⟨g, off + k * 2, none⟩ = some (.int .i64 t.s) ∧ W.cell? ⟨g, off + x * 2 + 1, none⟩ = some (.int .i64 t2.e)) := Lib.hid fun W hW => ⟨HPE.out W (below_then HW.out hW), (HSC.out W (below_then HW.out hW)).1, (HSC.out W (below_then HW.out hW)).2.2⟩
        obtain ⟨⟨y0, y1, y2, y3, y4, y5, y6, y7⟩, s0, s1⟩ := HCS.out wq (Below.refl _ _)
        cases hw : J.w k x with
        | true =>
          have HC4 := Lib.hid (HWT.out wq k x true HW.out hkn hxn hw)
          by_cases hse : t.s < t2.e
          · have dse : decide (t.s < t2.e) = true := decide_eq_true hse
            have HF := Lib.hid (HNOT.out fun h => by have := h.1 x (by rw [HJN.out]; exact hxn) hw; rw [HAT.out.1, HAT2.out.2] at this; omega)
            clear hse hcases hw
            go_wp2_with fail
            go_region_held3 (fun W => (W.cell? ⟨V, 0, none⟩ = some (.int .i64 C.ty) ∧ W.cell? ⟨V, 1, none⟩ = some (.slice C.ba C.bn C.bc) ∧ W.cell? ⟨V, 2, none⟩ = some (.int .i64 C.pl) ∧ W.cell? ⟨V, 3, none⟩ = some (.slice C.ya C.yn C.yc) ∧ W.cell? ⟨V, 4, none⟩ = some (.int .i64 C.ch) ∧ W.cell? ⟨V, 5, none⟩ = some (.int .i64 C.f.broker) ∧ W.cell? ⟨V, 6, none⟩ = some (.int .i64 C.f.least) ∧ W.cell? ⟨V, 7, none⟩ = some (.int .i64 C.f.sales)) ∧ W.cell? ⟨g, off + k * 2, none⟩ = some (.int .i64 t.s) ∧ W.cell? ⟨g, off + x * 2 + 1, none⟩ = some (.int .i64 t2.e))
              (first | exact HCS.out _ HB0.out | exact HCS.out _ H6.out)
              (first
                | (go_at_call 25; refine HC4.out.mono ?_; rintro e w6 ⟨rfl, H6⟩))
            all_goals
              go_wp2_with fail
              go_ret
              exact ⟨ret_bool HF.out.symm, HNO.out _ (below_then HW.out H6.out)⟩
          · have dse : decide (t.s < t2.e) = false := decide_eq_false hse
            have HW2 := Lib.hid (HWN.out fun _ => by rw [HAT.out.1, HAT2.out.2]; omega)
            have HC2 : Hid (cntB (onF J (sAt l) (eAt l) k) (x + 1) = dn) := Lib.hid (HCX.out false (by rw [HON.out, dse]; simp))
            have hss : Hid (decide (t2.s ≤ t.s) = true ∨ decide (t2.s ≤ t.s) = false) := Lib.hid (by cases decide (t2.s ≤ t.s) <;> simp)
            clear hse hcases hw
            go_wp2_with fail
            go_region_held3 (fun W => (W.cell? ⟨V, 0, none⟩ = some (.int .i64 C.ty) ∧ W.cell? ⟨V, 1, none⟩ = some (.slice C.ba C.bn C.bc) ∧ W.cell? ⟨V, 2, none⟩ = some (.int .i64 C.pl) ∧ W.cell? ⟨V, 3, none⟩ = some (.slice C.ya C.yn C.yc) ∧ W.cell? ⟨V, 4, none⟩ = some (.int .i64 C.ch) ∧ W.cell? ⟨V, 5, none⟩ = some (.int .i64 C.f.broker) ∧ W.cell? ⟨V, 6, none⟩ = some (.int .i64 C.f.least) ∧ W.cell? ⟨V, 7, none⟩ = some (.int .i64 C.f.sales)) ∧ W.cell? ⟨g, off + k * 2, none⟩ = some (.int .i64 t.s) ∧ W.cell? ⟨g, off + x * 2 + 1, none⟩ = some (.int .i64 t2.e))
              (first | exact HCS.out _ HB0.out | exact HCS.out _ H6.out)
              (first
                | (go_at_call 25; refine HC4.out.mono ?_; rintro e w6 ⟨rfl, H6⟩))
            all_goals
              clear y0 y1 y2 y3 y4 y5 y6 y7 s0 s1 z0
              have HX6 : Hid (Below X.heap.size X w6) := Lib.hid (below_then HW.out H6.out)
              obtain ⟨s0, s1, s2⟩ := HSC.out w6 HX6.out
              rcases hss.out with dss | dss
              all_goals
                go_wp2_with fail
                go_quiet (fail)
                go_wp2_with fail
                go_roundw
                case rel => exact ⟨x + 1, dn, rfl, by go_num, by omega, by omega, HC2, HW2, Lib.hid (below_drewN HX6.out _)⟩
                case measure => simp [RowKit.intOf]; omega
        | false =>
          have HC4 := Lib.hid (HWT.out wq k x false HW.out hkn hxn hw)
          have HW2 := Lib.hid (HWN.out fun h => by rw [hw] at h; cases h)
          clear hw s0 s1
          go_wp2_with fail
          clear y0 y1 y2 y3 y4 y5 y6 y7
          refine wp_region_held_drew (S := fun W => W.cell? ⟨V, 0, none⟩ = some (.int .i64 C.ty) ∧ W.cell? ⟨V, 1, none⟩ = some (.slice C.ba C.bn C.bc) ∧ W.cell? ⟨V, 2, none⟩ = some (.int .i64 C.pl) ∧ W.cell? ⟨V, 3, none⟩ = some (.slice C.ya C.yn C.yc) ∧ W.cell? ⟨V, 4, none⟩ = some (.int .i64 C.ch) ∧ W.cell? ⟨V, 5, none⟩ = some (.int .i64 C.f.broker) ∧ W.cell? ⟨V, 6, none⟩ = some (.int .i64 C.f.least) ∧ W.cell? ⟨V, 7, none⟩ = some (.int .i64 C.f.sales)) (by kernel_rfl) (HCS.out _ HB0.out).1 (fun hHeld => ?_)
          refine wpAnyH_take (i := 0) (v := .agg #[.int .i64 C.ty, .slice C.ba C.bn C.bc, .int .i64 C.pl, .slice C.ya C.yn C.yc, .int .i64 C.ch, .int .i64 C.f.broker, .int .i64 C.f.least, .int .i64 C.f.sales]) rfl (by kernel_rfl) (by kernel_rfl) (by kernel_rfl) (fun _ _ _ h => h) (Or.inl ⟨by rfl, fun V hSV => ?_⟩) (by assumption) ?_
          · obtain ⟨x0, x1, x2, x3, x4, x5, x6, x7⟩ := hSV
            go_simp
          (try simp only [Act.put, List.getElem_toArray, List.getElem_cons_zero, List.setIfInBounds_toArray, List.set_cons_zero, List.set_cons_succ])
          refine wpAnyH_take (i := 1) (v := .slice (some ⟨g2, off2, none⟩) C.bn c) rfl (by kernel_rfl) (by kernel_rfl) (by kernel_rfl) (fun _ _ _ h => h) (Or.inl ⟨by rfl, fun V hSV => ?_⟩) (by assumption) ?_
          · obtain ⟨x0, x1, x2, x3, x4, x5, x6, x7⟩ := hSV
            go_simp
          (try simp only [Act.put, List.getElem_toArray, List.getElem_cons_succ, List.getElem_cons_zero, List.setIfInBounds_toArray, List.set_cons_zero, List.set_cons_succ])
          refine wpAnyH_take (i := 2) (v := .int .i64 (k : Int)) rfl (by kernel_rfl) (by kernel_rfl) (by kernel_rfl) (fun _ _ _ h => h) (Or.inl ⟨by rfl, fun V hSV => ?_⟩) (by assumption) ?_
          · obtain ⟨x0, x1, x2, x3, x4, x5, x6, x7⟩ := hSV
            go_simp
          (try simp only [Act.put, List.getElem_toArray, List.getElem_cons_succ, List.getElem_cons_zero, List.setIfInBounds_toArray, List.set_cons_zero, List.set_cons_succ])
          refine wpAnyH_take (i := 3) (v := .int .i64 (x : Int)) rfl (by kernel_rfl) (by kernel_rfl) (by kernel_rfl) (fun _ _ _ h => h) (Or.inl ⟨by rfl, fun V hSV => ?_⟩) (by assumption) ?_
          · obtain ⟨x0, x1, x2, x3, x4, x5, x6, x7⟩ := hSV
            go_simp
          (try simp only [Act.put, List.getElem_toArray, List.getElem_cons_succ, List.getElem_cons_zero, List.setIfInBounds_toArray, List.set_cons_zero, List.set_cons_succ])
          refine wpAnyH_ready (rs := [4]) (by kernel_rfl) (by simp) ?_
          refine AllReadyH.cons (o := _) rfl (fun K hK => ?_) AllReadyH.nil
          go_simp
          refine HC4.out.mono ?_
          rintro e w6 ⟨rfl, H6⟩
          (try dsimp only)
          refine hK.out _ _ (HCS.out _ H6.out).1 (fun hHeld => ?_)
          clear hK K
          (try simp only [Act.put, List.getElem_toArray, List.getElem_cons_succ, List.getElem_cons_zero, List.setIfInBounds_toArray, List.set_cons_zero, List.set_cons_succ])
          refine wpAnyH_take (i := 5) (v := .bool false) rfl (by kernel_rfl) (by kernel_rfl) (by kernel_rfl) (fun _ _ _ h => h) (Or.inl ⟨by rfl, fun V hSV => ?_⟩) (by assumption) ?_
          · obtain ⟨x0, x1, x2, x3, x4, x5, x6, x7⟩ := hSV
            go_simp
          (try simp only [Act.put, List.getElem_toArray, List.getElem_cons_succ, List.getElem_cons_zero, List.setIfInBounds_toArray, List.set_cons_zero, List.set_cons_succ])
          refine wpAnyH_take (i := 6) (v := undef) rfl (by kernel_rfl) (by kernel_rfl) (by kernel_rfl) (fun _ _ _ h => h) (Or.inr ⟨by kernel_rfl, rfl⟩) (by assumption) ?_
          (try simp only [Act.put, List.getElem_toArray, List.getElem_cons_succ, List.getElem_cons_zero, List.setIfInBounds_toArray, List.set_cons_zero, List.set_cons_succ])
          refine wpAnyH_take (i := 7) (v := undef) rfl (by kernel_rfl) (by kernel_rfl) (by kernel_rfl) (fun _ _ _ h => h) (Or.inr ⟨by kernel_rfl, rfl⟩) (by assumption) ?_
          (try simp only [Act.put, List.getElem_toArray, List.getElem_cons_succ, List.getElem_cons_zero, List.setIfInBounds_toArray, List.set_cons_zero, List.set_cons_succ])
          refine wpAnyH_take (i := 8) (v := undef) rfl (by kernel_rfl) (by kernel_rfl) (by kernel_rfl) (fun _ _ _ h => h) (Or.inr ⟨by kernel_rfl, rfl⟩) (by assumption) ?_
          (try simp only [Act.put, List.getElem_toArray, List.getElem_cons_succ, List.getElem_cons_zero, List.setIfInBounds_toArray, List.set_cons_zero, List.set_cons_succ])
          refine wpAnyH_take (i := 9) (v := undef) rfl (by kernel_rfl) (by kernel_rfl) (by kernel_rfl) (fun _ _ _ h => h) (Or.inr ⟨by kernel_rfl, rfl⟩) (by assumption) ?_
          (try simp only [Act.put, List.getElem_toArray, List.getElem_cons_succ, List.getElem_cons_zero, List.setIfInBounds_toArray, List.set_cons_zero, List.set_cons_succ])
          refine wpAnyH_take (i := 10) (v := undef) rfl (by kernel_rfl) (by kernel_rfl) (by kernel_rfl) (fun _ _ _ h => h) (Or.inr ⟨by kernel_rfl, rfl⟩) (by assumption) ?_
          (try simp only [Act.put, List.getElem_toArray, List.getElem_cons_succ, List.getElem_cons_zero, List.setIfInBounds_toArray, List.set_cons_zero, List.set_cons_succ])
          refine wpAnyH_take (i := 11) (v := undef) rfl (by kernel_rfl) (by kernel_rfl) (by kernel_rfl) (fun _ _ _ h => h) (Or.inr ⟨by kernel_rfl, rfl⟩) (by assumption) ?_
          (try simp only [Act.put, List.getElem_toArray, List.getElem_cons_succ, List.getElem_cons_zero, List.setIfInBounds_toArray, List.set_cons_zero, List.set_cons_succ])
          refine wpAnyH_take (i := 12) (v := undef) rfl (by kernel_rfl) (by kernel_rfl) (by kernel_rfl) (fun _ _ _ h => h) (Or.inr ⟨by kernel_rfl, rfl⟩) (by assumption) ?_
          (try simp only [Act.put, List.getElem_toArray, List.getElem_cons_succ, List.getElem_cons_zero, List.setIfInBounds_toArray, List.set_cons_zero, List.set_cons_succ])
          refine wpAnyH_take (i := 13) (v := undef) rfl (by kernel_rfl) (by kernel_rfl) (by kernel_rfl) (fun _ _ _ h => h) (Or.inr ⟨by kernel_rfl, rfl⟩) (by assumption) ?_
          (try simp only [Act.put, List.getElem_toArray, List.getElem_cons_succ, List.getElem_cons_zero, List.setIfInBounds_toArray, List.set_cons_zero, List.set_cons_succ])
          refine wpAnyH_take (i := 14) (v := undef) rfl (by kernel_rfl) (by kernel_rfl) (by kernel_rfl) (fun _ _ _ h => h) (Or.inr ⟨by kernel_rfl, rfl⟩) (by assumption) ?_
          (try simp only [Act.put, List.getElem_toArray, List.getElem_cons_succ, List.getElem_cons_zero, List.setIfInBounds_toArray, List.set_cons_zero, List.set_cons_succ])
          refine wpAnyH_take (i := 15) (v := undef) rfl (by kernel_rfl) (by kernel_rfl) (by kernel_rfl) (fun _ _ _ h => h) (Or.inr ⟨by kernel_rfl, rfl⟩) (by assumption) ?_
          (try simp only [Act.put, List.getElem_toArray, List.getElem_cons_succ, List.getElem_cons_zero, List.setIfInBounds_toArray, List.set_cons_zero, List.set_cons_succ])
          refine wpAnyH_take (i := 16) (v := undef) rfl (by kernel_rfl) (by kernel_rfl) (by kernel_rfl) (fun _ _ _ h => h) (Or.inr ⟨by kernel_rfl, rfl⟩) (by assumption) ?_
          (try simp only [Act.put, List.getElem_toArray, List.getElem_cons_succ, List.getElem_cons_zero, List.setIfInBounds_toArray, List.set_cons_zero, List.set_cons_succ])
          refine wpAnyH_take (i := 17) (v := .bool false) rfl (by kernel_rfl) (by kernel_rfl) (by kernel_rfl) (fun _ _ _ h => h) (Or.inl ⟨by rfl, fun V hSV => ?_⟩) (by assumption) ?_
          · obtain ⟨x0, x1, x2, x3, x4, x5, x6, x7⟩ := hSV
            go_simp
          (try simp only [Act.put, List.getElem_toArray, List.getElem_cons_succ, List.getElem_cons_zero, List.setIfInBounds_toArray, List.set_cons_zero, List.set_cons_succ])
          refine wpAnyH_done (by kernel_rfl) ?_ _
          clear z0
          have HX6 : Hid (Below X.heap.size X w6) := Lib.hid (below_then HW.out H6.out)
          obtain ⟨s0, s1, s2⟩ := HSC.out w6 HX6.out
          rcases hcases.out with (dss | ⟨dss, dse⟩) | ⟨dss, dse⟩
          · have HC2 : Hid (cntB (onF J (sAt l) (eAt l) k) (x + 1) = dn) := Lib.hid (HCX.out false (by rw [HON.out, dss]; rfl))
            go_wp2_with fail
            go_quiet (fail)
            go_wp2_with fail
            go_roundw
            case rel => exact ⟨x + 1, dn, rfl, by go_num, by omega, by omega, HC2, HW2, Lib.hid (below_drewN HX6.out _)⟩
            case measure => simp [RowKit.intOf]; omega
          · have HC2 : Hid (cntB (onF J (sAt l) (eAt l) k) (x + 1) = dn) := Lib.hid (HCX.out false (by rw [HON.out, dss, dse]; rfl))
            go_wp2_with fail
            go_quiet (fail)
            go_wp2_with fail
            go_roundw
            case rel => exact ⟨x + 1, dn, rfl, by go_num, by omega, by omega, HC2, HW2, Lib.hid (below_drewN HX6.out _)⟩
            case measure => simp [RowKit.intOf]; omega
          · have HC2 : Hid (cntB (onF J (sAt l) (eAt l) k) (x + 1) = dn + 1) := Lib.hid (HCX.out true (by rw [HON.out, dss, dse]; rfl))
            go_wp2_with fail
            go_quiet (fail)
            go_wp2_with fail
            go_roundw
            case rel => exact ⟨x + 1, dn + 1, by go_num, by go_num, by omega, by omega, HC2, HW2, Lib.hid (below_drewN HX6.out _)⟩
            case measure => simp [RowKit.intOf]; omega
end Go.Proofs.Ytdbhdlgoecpeaaa.Quo
