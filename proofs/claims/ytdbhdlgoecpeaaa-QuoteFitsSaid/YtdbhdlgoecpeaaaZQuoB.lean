/- The document's waits; whether a job waits for another one. The mathematics of fees: scaling bit by bit; shares by what is left. The document's Scale, where what comes of it is no more than 2^61. What is taken at a rate: values and errors; the document's Scale at a rate. The document's Bay. -/
import Derived.Test.YtdbhdlgoecpeaaaZQuoJb
import Derived.Test.YtdbhdlgoecpeaaaRows
import Derived.Test.YtdbhdlgoecpeaaaZLaw
import Derived.IntWalk
import Derived.Laws.BitsAllLaws
import Derived.Test.YtdbhdlgoecpeaaaZRecMath
namespace Go.Proofs.Ytdbhdlgoecpeaaa.Quo
open Go.RowKit Go.Lib IRows
open Goods (St Sts)
open Cat (Cat PB CM CatAt Lim box_cat pOf)
open Bom (RunsOk tim tim_blue druns15 fm fm_some mkr_fm)
open Recipe (BlIn)

theorem mk_test (bs : List PB) (t : Int) (x : Nat) : (Cat.mkr t bs 0 == (x : Int) + 1) = isMk bs t x := by
  rw [mkr_fm]
  unfold isMk
  cases fm t bs with
  | none => simp; omega
  | some q =>
    obtain ⟨i, c⟩ := q
    show (((0 : Int) + i + 1) == (x : Int) + 1) = (i == x)
    by_cases e : i = x
    · subst e
      simp
    · have h1 : (i == x) = false := by simpa using e
      rw [h1]
      simp
      omega
theorem waits_at {bs : List PB} {rs : List Int} {k x : Nat} {b : PB} {r : Int} (hb : bs[k]? = some b) (hr : rs[x]? = some r) : waitsB bs rs k x = (decide (r ≠ 0) && b.s.any fun s => isMk bs s.kind x) := by
  unfold waitsB
  rw [hb, List.getD_eq_getElem?_getD, hr]
  rfl
theorem any_take {α : Type} {l : List α} {i : Nat} {t : α} (f : α → Bool) (h : l[i]? = some t) : (l.take (i + 1)).any f = ((l.take i).any f || f t) := by
  rw [List.take_add_one, h]
  simp
theorem any_mem {α : Type} {l : List α} {i : Nat} {t : α} {f : α → Bool} (h : l[i]? = some t) (ht : f t = true) : l.any f = true := List.any_eq_true.2 ⟨t, List.mem_of_getElem? h, ht⟩
set_option maxRecDepth 100000 in
set_option maxHeartbeats 8000000 in
theorem dwaits (C : CM) (k x : Nat) (a : Option Addr) (c : Nat) (rs : List Int) (w : World) (h : CatAt w C) (hl : Lim C) (hr : rs.length = C.bn) (hs : IRow w a rs) (hk : k < C.bn) (hx : x < C.bn) :
    Calls Try.prog 25 #[C.v, .slice a C.bn c, .int .i64 (k : Int), .int .i64 (x : Int)] w fun e w' => e = .returned (.bool (waitsB C.p.bs rs k x)) ∧ Below w.heap.size w w' := by
  obtain ⟨V, X, hV, hX, HXB, HP⟩ := box_cat w C
  obtain ⟨g, off, b, g2, off2, r0, HBA, HA, HT, HCS⟩ := blue_cells HP (h.under HXB.out) hl hr (hs.under HXB.out) k hk
  obtain rfl : a = some ⟨g2, off2, none⟩ := HA.out
  obtain ⟨_, _, _, g4, off4, r, _, he4, HTX, HCX⟩ := blue_cells HP (h.under HXB.out) hl hr (hs.under HXB.out) x hx
  have he5 := he4.out
  cases he5
  have HPE : Hid (∀ W, Below X.heap.size X W → W.cell? ⟨V, 0, none⟩ = some (.int .i64 C.ty) ∧ W.cell? ⟨V, 1, none⟩ = some (.slice C.ba C.bn C.bc) ∧ W.cell? ⟨V, 2, none⟩ = some (.int .i64 C.pl) ∧ W.cell? ⟨V, 3, none⟩ = some (.slice C.ya C.yn C.yc) ∧ W.cell? ⟨V, 4, none⟩ = some (.int .i64 C.ch) ∧ W.cell? ⟨V, 5, none⟩ = some (.int .i64 C.f.broker) ∧ W.cell? ⟨V, 6, none⟩ = some (.int .i64 C.f.least) ∧ W.cell? ⟨V, 7, none⟩ = some (.int .i64 C.f.sales)) := Lib.hid fun W hW => HP.out W hW
  have hb1 : C.bn ≤ 20 := hl.2.1
  have hk0 : (0 : Int) ≤ (k : Int) := by omega
  have hk1 : (k : Int) < (C.bn : Int) := by omega
  have hx0 : (0 : Int) ≤ (x : Int) := by omega
  have hx1 : (x : Int) < (C.bn : Int) := by omega
  have wx : IntKind.i64.wrap ((x : Int) + 1) = (x : Int) + 1 := IntWalk.i64_in _ (by omega)
  have hpb : C.p.bs[k]? = some (pOf b) := by unfold CM.p; simp [HT.out.1]
  have HWA := Lib.hid (waits_at (x := x) hpb HTX.out.2.1)
  have HMK : Hid (∀ W t z, Below X.heap.size X W → Cat.mkr t C.p.bs 0 = z → Calls Try.prog 48 #[.agg #[.int .i64 C.ty, .slice C.ba C.bn C.bc, .int .i64 C.pl, .slice C.ya C.yn C.yc, .int .i64 C.ch, .int .i64 C.f.broker, .int .i64 C.f.least, .int .i64 C.f.sales], .int .i64 t] W.drew fun e w' => e = .returned (.int .i64 z) ∧ Hid (Below W.heap.size W w')) := Lib.hid fun W t z hW hz => by
    subst hz
    exact (Cat.dmaker C t W.drew (((h.under HXB.out).under hW).under (Below.refl _ W).drew) (by omega)).mono fun _ _ ⟨e, h⟩ => ⟨e, Lib.hid (((Below.refl _ W).drew).trans h)⟩
  have h12 := HT.out.2.2.1
  have hsm : (b.sm : Int) ≤ 12 := by omega
  obtain ⟨y1, p0, p1, p2, p3, p4, p5, p6, z0⟩ := HCS.out X (Below.refl _ _)
  obtain ⟨_, _, _, _, _, _, _, _, z1⟩ := HCX.out X (Below.refl _ _)
  by_cases c1 : r = 0
  · have d1 : (r == 0) = true := by simpa using c1
    have HF : Hid (waitsB C.p.bs rs k x = false) := Lib.hid (by rw [HWA.out]; simp [c1])
    clear h hl hr hs hpb
    have HXV : Hid (Below V w X) := Lib.hid (hV ▸ HXB.out)
    go_enter Try.func25, Try.ntmps25
    go_wp2_with fail
    clear hX hV
    go_ret
    exact ⟨ret_bool HF.out.symm, HXV.out⟩
  have d1 : (r == 0) = false := by simpa using c1
  have HWB : Hid (waitsB C.p.bs rs k x = b.s.any fun s => isMk C.p.bs s.kind x) := Lib.hid (by rw [HWA.out, decide_eq_true c1]; rfl)
  have HCA : Hid (∀ W, Below X.heap.size X W → W.cell? ⟨V, 0, none⟩ = some (.int .i64 C.ty) ∧ W.cell? ⟨V, 1, none⟩ = some (.slice C.ba C.bn C.bc) ∧ W.cell? ⟨V, 2, none⟩ = some (.int .i64 C.pl) ∧ W.cell? ⟨V, 3, none⟩ = some (.slice C.ya C.yn C.yc) ∧ W.cell? ⟨V, 4, none⟩ = some (.int .i64 C.ch) ∧ W.cell? ⟨V, 5, none⟩ = some (.int .i64 C.f.broker) ∧ W.cell? ⟨V, 6, none⟩ = some (.int .i64 C.f.least) ∧ W.cell? ⟨V, 7, none⟩ = some (.int .i64 C.f.sales)) := Lib.hid fun W hW => HPE.out W hW
  clear h hl hr hs hpb c1
  go_enter Try.func25, Try.ntmps25
  go_wp2_with fail
  clear hX hV y1 p0 p1 p2 p3 p4 p5 p6 z0 z1
  go_loopw [9] (fun t wr => ∃ i : Nat, t = .int .i64 (i : Int) ∧ i ≤ b.sm ∧ Hid (Below X.heap.size X wr) ∧ Hid ((b.s.take i).any (fun s => isMk C.p.bs s.kind x) = false)) (fun t _ => b.sm - (RowKit.intOf t).toNat)
  case atStart => exact ⟨0, rfl, by omega, Lib.hid (Below.refl _ _), Lib.hid rfl⟩
  case round =>
    obtain ⟨i, rfl, hi, HW, HI⟩ := hrel
    have hi0 : (0 : Int) ≤ (i : Int) := by omega
    obtain ⟨y1, p0, p1, p2, p3, p4, p5, p6, z0⟩ := HCS.out wr HW.out
    by_cases hlt : i < b.sm
    · have hlt2 : (i : Int) < (b.sm : Int) := by omega
      have hd1 : decide ((i : Int) < (b.sm : Int)) = true := decide_eq_true hlt2
      have hd2 : decide (i < b.sm) = true := decide_eq_true hlt
      have wi : IntKind.i64.wrap ((i : Int) + 1) = (i : Int) + 1 := IntWalk.i64_in _ (by omega)
      have hbi := HT.out.2.2.2 wr HW.out
      have hil : i < b.s.length := by rw [hbi.1]; exact hlt
      obtain ⟨t, hti⟩ : ∃ t, b.s[i]? = some t := ⟨_, List.getElem?_eq_getElem hil⟩
      obtain ⟨g3, off3, hsa, _, _, _⟩ := hbi.2.1 i t hti
      have HSA := Lib.hid hsa
      obtain ⟨mz, hmz⟩ : ∃ mz, Cat.mkr t.kind C.p.bs 0 = mz := ⟨_, rfl⟩
      have HTE := Lib.hid (mk_test C.p.bs t.kind x)
      have HTI := Lib.hid hti
      have HCY : Hid (∀ W, Below wr.heap.size wr W → (W.cell? ⟨V, 0, none⟩ = some (.int .i64 C.ty) ∧ W.cell? ⟨V, 1, none⟩ = some (.slice C.ba C.bn C.bc) ∧ W.cell? ⟨V, 2, none⟩ = some (.int .i64 C.pl) ∧ W.cell? ⟨V, 3, none⟩ = some (.slice C.ya C.yn C.yc) ∧ W.cell? ⟨V, 4, none⟩ = some (.int .i64 C.ch) ∧ W.cell? ⟨V, 5, none⟩ = some (.int .i64 C.f.broker) ∧ W.cell? ⟨V, 6, none⟩ = some (.int .i64 C.f.least) ∧ W.cell? ⟨V, 7, none⟩ = some (.int .i64 C.f.sales)) ∧ W.cell? ⟨g, off + k * 7 + 3, none⟩ = some (.slice (some ⟨g3, off3, none⟩) b.sm b.sc) ∧ W.cell? ⟨g3, off3 + i * 2, none⟩ = some (.int .i64 t.kind)) := Lib.hid fun W hW => by
        have hXW := below_then HW.out hW
        obtain ⟨_, _, _, _, q3, _⟩ := HCS.out W hXW
        obtain ⟨g5, off5, e5, _, k5, _⟩ := (HT.out.2.2.2 W hXW).2.1 i t HTI.out
        rw [HSA.out] at e5 q3
        injection e5 with e5
        cases e5
        exact ⟨HCA.out W hXW, q3, k5⟩
      have HMC := Lib.hid (HMK.out wr t.kind mz HW.out hmz)
      have HB0 : Hid (Below wr.heap.size wr wr.drew) := Lib.hid (Below.refl _ wr).drew
      by_cases hm : isMk C.p.bs t.kind x = true
      · have d2 : (mz == (x : Int) + 1) = true := by rw [← hmz, HTE.out, hm]
        have HF : Hid (waitsB C.p.bs rs k x = true) := Lib.hid (by rw [HWB.out]; exact any_mem hti hm)
        rw [HBA.out] at HCY HMC
        rw [hsa] at p3
        clear hm hmz hbi hsa hti hil
        go_wp2_with fail
        go_region_held3 (fun W => (W.cell? ⟨V, 0, none⟩ = some (.int .i64 C.ty) ∧ W.cell? ⟨V, 1, none⟩ = some (.slice (some ⟨g, off, none⟩) C.bn C.bc) ∧ W.cell? ⟨V, 2, none⟩ = some (.int .i64 C.pl) ∧ W.cell? ⟨V, 3, none⟩ = some (.slice C.ya C.yn C.yc) ∧ W.cell? ⟨V, 4, none⟩ = some (.int .i64 C.ch) ∧ W.cell? ⟨V, 5, none⟩ = some (.int .i64 C.f.broker) ∧ W.cell? ⟨V, 6, none⟩ = some (.int .i64 C.f.least) ∧ W.cell? ⟨V, 7, none⟩ = some (.int .i64 C.f.sales)) ∧ W.cell? ⟨g, off + k * 7 + 3, none⟩ = some (.slice (some ⟨g3, off3, none⟩) b.sm b.sc) ∧ W.cell? ⟨g3, off3 + i * 2, none⟩ = some (.int .i64 t.kind))
          (first | exact HCY.out _ HB0.out | exact HCY.out _ H6.out)
          (first
            | (go_at_call 48; refine HMC.out.mono ?_; rintro e w6 ⟨rfl, H6⟩))
        all_goals
          go_wp2_with fail
          go_ret
          exact ⟨ret_bool HF.out.symm, below_then HXB.out (below_then HW.out H6.out)⟩
      · have hm : isMk C.p.bs t.kind x = false := by simpa using hm
        have d2 : (mz == (x : Int) + 1) = false := by rw [← hmz, HTE.out, hm]
        have HI2 : Hid ((b.s.take (i + 1)).any (fun s => isMk C.p.bs s.kind x) = false) := Lib.hid (by rw [any_take _ hti, HI.out, hm]; rfl)
        rw [HBA.out] at HCY HMC
        rw [hsa] at p3
        clear hm hmz hbi hsa hti hil
        go_wp2_with fail
        go_region_held3 (fun W => (W.cell? ⟨V, 0, none⟩ = some (.int .i64 C.ty) ∧ W.cell? ⟨V, 1, none⟩ = some (.slice (some ⟨g, off, none⟩) C.bn C.bc) ∧ W.cell? ⟨V, 2, none⟩ = some (.int .i64 C.pl) ∧ W.cell? ⟨V, 3, none⟩ = some (.slice C.ya C.yn C.yc) ∧ W.cell? ⟨V, 4, none⟩ = some (.int .i64 C.ch) ∧ W.cell? ⟨V, 5, none⟩ = some (.int .i64 C.f.broker) ∧ W.cell? ⟨V, 6, none⟩ = some (.int .i64 C.f.least) ∧ W.cell? ⟨V, 7, none⟩ = some (.int .i64 C.f.sales)) ∧ W.cell? ⟨g, off + k * 7 + 3, none⟩ = some (.slice (some ⟨g3, off3, none⟩) b.sm b.sc) ∧ W.cell? ⟨g3, off3 + i * 2, none⟩ = some (.int .i64 t.kind))
          (first | exact HCY.out _ HB0.out | exact HCY.out _ H6.out)
          (first
            | (go_at_call 48; refine HMC.out.mono ?_; rintro e w6 ⟨rfl, H6⟩))
        all_goals
          go_wp2_with fail
          go_roundw
          case rel => exact ⟨i + 1, by go_num, by omega, Lib.hid (below_then HW.out H6.out), HI2⟩
          case measure => simp [RowKit.intOf]; omega
    · obtain rfl : i = b.sm := by omega
      have hd2 : decide (b.sm < b.sm) = false := by simp
      have HF : Hid (waitsB C.p.bs rs k x = false) := Lib.hid (by
        have := HI.out
        rw [List.take_of_length_le (by rw [(HT.out.2.2.2 wr HW.out).1]; exact Nat.le_refl _)] at this
        rw [HWB.out, this])
      go_wp2_with fail
      go_ret
      exact ⟨ret_bool HF.out.symm, below_then HXB.out HW.out⟩
end Go.Proofs.Ytdbhdlgoecpeaaa.Quo
namespace Go.Proofs.Ytdbhdlgoecpeaaa.Fee

/-- A number times another one by a third, rounded up or down. -/
def sc (a b c : Int) (up : Bool) : Int := if up = true ∧ a * b % c ≠ 0 then a * b / c + 1 else a * b / c
theorem dm {P c q r : Int} (h : P = c * q + r) (h0 : 0 ≤ r) (h1 : r < c) : P / c = q ∧ P % c = r :=
  (Int.ediv_emod_unique (by omega)).2 ⟨by rw [h, Int.add_comm], h0, h1⟩
theorem dm_of (P : Int) {c : Int} (hc : 0 < c) : P = c * (P / c) + P % c ∧ 0 ≤ P % c ∧ P % c < c :=
  ⟨(Int.mul_ediv_add_emod P c).symm, Int.emod_nonneg _ (by omega), Int.emod_lt_of_pos _ hc⟩
/-- Twice as much. -/
theorem dm_two (P : Int) {c : Int} (hc : 0 < c) : (c ≤ 2 * (P % c) → 2 * P / c = 2 * (P / c) + 1 ∧ 2 * P % c = 2 * (P % c) - c) ∧ (2 * (P % c) < c → 2 * P / c = 2 * (P / c) ∧ 2 * P % c = 2 * (P % c)) := by
  obtain ⟨h, h0, h1⟩ := dm_of P hc
  obtain ⟨q, hq⟩ : ∃ q, P / c = q := ⟨_, rfl⟩
  obtain ⟨r, hr⟩ : ∃ r, P % c = r := ⟨_, rfl⟩
  rw [hq, hr] at h ⊢
  rw [hr] at h0 h1
  refine ⟨fun h2 => dm ?_ (by omega) (by omega), fun h2 => dm ?_ (by omega) (by omega)⟩
  · rw [h, Int.mul_add, Int.mul_add, Int.mul_one, Int.mul_left_comm]; omega
  · rw [h, Int.mul_add, Int.mul_left_comm]
/-- So much more. -/
theorem dm_more (P a : Int) {c : Int} (hc : 0 < c) : (c ≤ P % c + a % c → (P + a) / c = P / c + a / c + 1 ∧ (P + a) % c = P % c + a % c - c) ∧ (P % c + a % c < c → (P + a) / c = P / c + a / c ∧ (P + a) % c = P % c + a % c) := by
  obtain ⟨h, h0, h1⟩ := dm_of P hc
  obtain ⟨g, g0, g1⟩ := dm_of a hc
  obtain ⟨q, hq⟩ : ∃ q, P / c = q := ⟨_, rfl⟩
  obtain ⟨r, hr⟩ : ∃ r, P % c = r := ⟨_, rfl⟩
  obtain ⟨u, hu⟩ : ∃ u, a / c = u := ⟨_, rfl⟩
  obtain ⟨s, hs⟩ : ∃ s, a % c = s := ⟨_, rfl⟩
  rw [hq, hr] at h
  rw [hu, hs] at g
  rw [hq, hr, hu, hs]
  rw [hr] at h0 h1
  rw [hs] at g0 g1
  refine ⟨fun h2 => dm ?_ (by omega) (by omega), fun h2 => dm ?_ (by omega) (by omega)⟩
  · rw [h, g, Int.mul_add, Int.mul_add, Int.mul_one]; omega
  · rw [h, g, Int.mul_add]; omega
/-- The bits so far, and one more. -/
theorem bit_step (b : Int) (k : Nat) : b / 2 ^ k = 2 * (b / 2 ^ (k + 1)) + b / 2 ^ k % 2 := by
  have h : b / 2 ^ (k + 1) = b / 2 ^ k / 2 := by rw [Int.pow_succ, Int.ediv_ediv_of_nonneg (by exact Int.pow_nonneg (by decide))]
  rw [h]
  omega
theorem bit_top {b : Int} {k : Nat} (h0 : 0 ≤ b) (h1 : b < 2 ^ k) : b / 2 ^ k = 0 := Int.ediv_eq_zero_of_lt h0 h1
theorem bit_end (b : Int) : b / 2 ^ 0 = b := by simp
theorem bit_le {b : Int} (h0 : 0 ≤ b) (k : Nat) : 0 ≤ b / 2 ^ k ∧ b / 2 ^ k ≤ b := ⟨Int.ediv_nonneg h0 (Int.pow_nonneg (by decide)), Int.ediv_le_self _ h0⟩
end Go.Proofs.Ytdbhdlgoecpeaaa.Fee
namespace Go.Proofs.Ytdbhdlgoecpeaaa.Fee
open Go.RowKit Go.Lib

theorem i64_and_one (x : Int) (h0 : 0 ≤ x) (h1 : x ≤ 9223372036854775807) : bits .and .i64 x 1 = x % 2 := by
  have h127 : (BitVec.ofInt 64 1).toNat = 2 ^ 1 - 1 := by decide
  have key : (BitVec.ofInt 64 x &&& BitVec.ofInt 64 1).toNat = (x % ((2 ^ 64 : Nat) : Int)).toNat % 2 ^ 1 := by
    rw [BitVec.toNat_and, BitVec.toNat_ofInt, h127, Nat.and_two_pow_sub_one_eq_mod]
  show IntKind.i64.wrap ((BitVec.ofInt 64 x &&& BitVec.ofInt 64 1).toNat : Nat) = x % 2
  rw [key, IntKind.wrap_i64]
  omega
set_option maxRecDepth 100000 in
set_option maxHeartbeats 4000000 in
theorem rscale (a b c : Int) (up : Bool) (w : World) (a0 : 0 ≤ a) (a1 : a ≤ 9223372036854775807) (b0 : 0 ≤ b) (b1 : b ≤ 9223372036854775807) (c0 : 1 ≤ c) (c1 : c ≤ 9223372036854775807) (hm : a * b ≤ c * 2305843009213693952) :
    Calls Try.prog 51 #[.int .i64 a, .int .i64 b, .int .i64 c, .bool up] w fun e w' => e = .returned (.tuple #[.int .i64 (sc a b c up), .int .i64 0]) ∧ w = w' := by
  have wa : IntKind.u64.wrap a = a := by rw [IntKind.wrap_u64]; omega
  have wc : IntKind.u64.wrap c = c := by rw [IntKind.wrap_u64]; omega
  have d1 : decide (a < 0) = false := by simp; omega
  have d2 : decide (b < 0) = false := by simp; omega
  have d3 : decide (c < 1) = false := by simp; omega
  have HQ : Hid (∀ j : Nat, 0 ≤ b / 2 ^ j * a / c ∧ b / 2 ^ j * a / c ≤ 2305843009213693952 ∧ 0 ≤ b / 2 ^ j * a % c ∧ b / 2 ^ j * a % c < c) := Lib.hid (fun j => by
    obtain ⟨h1, h2⟩ := bit_le b0 j
    have h3 : b / 2 ^ j * a ≤ c * 2305843009213693952 := Int.le_trans (Int.mul_le_mul_of_nonneg_right h2 a0) (by rw [Int.mul_comm]; exact hm)
    have h4 : 0 ≤ b / 2 ^ j * a := Int.mul_nonneg h1 a0
    exact ⟨Int.ediv_nonneg h4 (by omega), Int.ediv_le_of_le_mul (by omega) (by omega), Int.emod_nonneg _ (by omega), Int.emod_lt_of_pos _ (by omega)⟩)
  have HT : Hid (b / 2 ^ 63 * a / c = 0 ∧ b / 2 ^ 63 * a % c = 0) := Lib.hid (by rw [bit_top b0 (by omega)]; simp)
  have HC : Hid (0 < c) := Lib.hid (by omega)
  have HX : Hid (∀ j : Nat, 0 ≤ b / 2 ^ j ∧ b / 2 ^ j ≤ 9223372036854775807) := Lib.hid (fun j => by have := bit_le b0 j; omega)
  obtain ⟨u, hu⟩ : ∃ u, a / c = u := ⟨_, rfl⟩
  obtain ⟨s, hs⟩ : ∃ s, a % c = s := ⟨_, rfl⟩
  have hu0 : 0 ≤ u := by rw [← hu]; exact Int.ediv_nonneg a0 (by omega)
  have hu1 : u ≤ 9223372036854775807 := by rw [← hu]; have := Int.ediv_le_self c a0; omega
  have hs0 : 0 ≤ s := by rw [← hs]; exact Int.emod_nonneg _ (by omega)
  have hs1 : s < c := by rw [← hs]; exact Int.emod_lt_of_pos _ (by omega)
  have tu : a.tdiv c = u := by rw [← hu]; exact Int.tdiv_eq_ediv_of_nonneg a0
  have ts : a.tmod c = s := by rw [← hs]; exact Int.tmod_eq_emod_of_nonneg a0
  have wu : IntKind.u64.wrap u = u := by rw [IntKind.wrap_u64]; omega
  have ws : IntKind.u64.wrap s = s := by rw [IntKind.wrap_u64]; omega
  have c2 : ¬ c = 0 := by omega
  have c3 : (c == 0) = false := by simpa using c2
  have HU := Lib.hid hu; have HS := Lib.hid hs
  clear hm hu hs
  go_enter Try.func51, Try.ntmps51
  go_wp2_with fail
  go_loopw [10, 11, 13] (fun x y t wr => ∃ (q r z : Int) (j : Nat), x = .int .u64 q ∧ y = .int .u64 r ∧ t = .int .i64 z ∧ z + 1 = j ∧ z ≤ 62 ∧ w = wr ∧ Hid (b / 2 ^ j * a / c = q ∧ b / 2 ^ j * a % c = r)) (fun _ _ t _ => (RowKit.intOf t + 1).toNat)
  case atStart => exact ⟨0, 0, 62, 63, rfl, rfl, rfl, rfl, by omega, rfl, HT⟩
  case round =>
    obtain ⟨q, r, z, j, rfl, rfl, rfl, hzj, hz, rfl, HI⟩ := hrel
    obtain ⟨q0, q1, r0, r1⟩ := HQ.out j
    rw [HI.out.1] at q0 q1
    rw [HI.out.2] at r0 r1
    rcases j with _ | k
    · obtain rfl : z = -1 := by omega
      have HE : Hid (b * a / c = q ∧ b * a % c = r) := Lib.hid (by have := HI.out; rw [bit_end] at this; exact this)
      have wq : wrap64 q = q := IntWalk.wrap64_in _ (by omega)
      have wq1 : IntKind.u64.wrap (q + 1) = q + 1 := by rw [IntKind.wrap_u64]; omega
      have wq2 : wrap64 (q + 1) = q + 1 := IntWalk.wrap64_in _ (by omega)
      by_cases hr : 0 < r
      · have hr2 : decide (0 < r) = true := decide_eq_true hr
        rcases up with _ | _
        · have HS : Hid (sc a b c false = q) := Lib.hid (by unfold sc; rw [if_neg (by simp), Int.mul_comm]; exact HE.out.1)
          go_wp2_with fail
          go_ret2
          exact ⟨by rw [HS.out]; rfl, by first | rfl | trivial⟩
        · have HS : Hid (sc a b c true = q + 1) := Lib.hid (by
            unfold sc
            rw [if_pos ⟨rfl, by rw [Int.mul_comm, HE.out.2]; omega⟩, Int.mul_comm, HE.out.1])
          go_wp2_with fail
          go_ret2
          exact ⟨by rw [HS.out]; rfl, by first | rfl | trivial⟩
      · have hr2 : decide (0 < r) = false := decide_eq_false hr
        have HS : Hid (sc a b c up = q) := Lib.hid (by
          unfold sc
          rw [if_neg (by rintro ⟨_, h⟩; rw [Int.mul_comm, HE.out.2] at h; omega), Int.mul_comm]
          exact HE.out.1)
        rcases up with _ | _
        · go_wp2_with fail
          go_ret2
          exact ⟨by rw [HS.out]; rfl, by first | rfl | trivial⟩
        · go_wp2_with fail
          go_ret2
          exact ⟨by rw [HS.out]; rfl, by first | rfl | trivial⟩
    · obtain rfl : z = (k : Int) := by omega
      obtain ⟨x, hx⟩ : ∃ x, b / 2 ^ k = x := ⟨_, rfl⟩
      obtain ⟨x0, x1⟩ := HX.out k
      have hst := bit_step b k
      rw [hx] at x0 x1 hst
      have hand := i64_and_one x x0 x1
      have H2 := Lib.hid (dm_two (b / 2 ^ (k + 1) * a) HC.out)
      have H3 := Lib.hid (fun P => dm_more P a HC.out)
      have HP : Hid (x % 2 = 0 → x * a = 2 * (b / 2 ^ (k + 1) * a)) := Lib.hid (fun h => by rw [h, Int.add_zero] at hst; rw [hst, Int.mul_assoc])
      have HP1 : Hid (x % 2 = 1 → x * a = 2 * (b / 2 ^ (k + 1) * a) + a) := Lib.hid (fun h => by rw [h] at hst; rw [hst, Int.add_mul, Int.mul_assoc, Int.one_mul])
      rw [HI.out.1, HI.out.2] at H2
      rw [HU.out, HS.out] at H3
      have HXX := Lib.hid hx
      clear hst
      obtain ⟨m, hm⟩ : ∃ m, x % 2 = m := ⟨_, rfl⟩
      rw [hm] at hand HP HP1
      have hm2 : m = 0 ∨ m = 1 := by omega
      clear hm
      have dq : decide (9223372036854775807 < q) = false := decide_eq_false (by omega)
      have dq1 : decide (9223372036854775807 < 2 * q + 1) = false := decide_eq_false (by omega)
      have dq2 : decide (9223372036854775807 < 2 * q) = false := decide_eq_false (by omega)
      have nq : ¬ 9223372036854775807 < q := by omega
      have nq1 : ¬ 9223372036854775807 < 2 * q + 1 := by omega
      have nq2 : ¬ 9223372036854775807 < 2 * q := by omega
      by_cases h1 : c ≤ 2 * r
      · have HE2 := Lib.hid (H2.out.1 h1)
        rcases hm2 with rfl | rfl
        · have HE : Hid (b / 2 ^ k * a / c = 2 * q + 1 ∧ b / 2 ^ k * a % c = 2 * r - c) := Lib.hid (by rw [HXX.out, HP.out rfl]; exact HE2.out)
          go_wp2_with fail
          go_roundw
          case rel => exact ⟨_, _, _, k, rfl, rfl, rfl, by omega, by omega, by first | rfl | trivial, HE⟩
          case measure => simp [RowKit.intOf] <;> omega
        · have H4 := Lib.hid (H3.out (2 * (b / 2 ^ (k + 1) * a)))
          rw [HE2.out.1, HE2.out.2] at H4
          by_cases h2 : c ≤ 2 * r - c + s
          · have HE : Hid (b / 2 ^ k * a / c = 2 * q + 1 + u + 1 ∧ b / 2 ^ k * a % c = 2 * r - c + s - c) := Lib.hid (by rw [HXX.out, HP1.out rfl]; exact H4.out.1 h2)
            go_wp2_with fail
            go_roundw
            case rel => exact ⟨_, _, _, k, rfl, rfl, rfl, by omega, by omega, by first | rfl | trivial, HE⟩
            case measure => simp [RowKit.intOf] <;> omega
          · have HE : Hid (b / 2 ^ k * a / c = 2 * q + 1 + u ∧ b / 2 ^ k * a % c = 2 * r - c + s) := Lib.hid (by rw [HXX.out, HP1.out rfl]; exact H4.out.2 (by omega))
            go_wp2_with fail
            go_roundw
            case rel => exact ⟨_, _, _, k, rfl, rfl, rfl, by omega, by omega, by first | rfl | trivial, HE⟩
            case measure => simp [RowKit.intOf] <;> omega
      · have HE2 := Lib.hid (H2.out.2 (by omega))
        rcases hm2 with rfl | rfl
        · have HE : Hid (b / 2 ^ k * a / c = 2 * q ∧ b / 2 ^ k * a % c = 2 * r) := Lib.hid (by rw [HXX.out, HP.out rfl]; exact HE2.out)
          go_wp2_with fail
          go_roundw
          case rel => exact ⟨_, _, _, k, rfl, rfl, rfl, by omega, by omega, by first | rfl | trivial, HE⟩
          case measure => simp [RowKit.intOf] <;> omega
        · have H4 := Lib.hid (H3.out (2 * (b / 2 ^ (k + 1) * a)))
          rw [HE2.out.1, HE2.out.2] at H4
          by_cases h2 : c ≤ 2 * r + s
          · have HE : Hid (b / 2 ^ k * a / c = 2 * q + u + 1 ∧ b / 2 ^ k * a % c = 2 * r + s - c) := Lib.hid (by rw [HXX.out, HP1.out rfl]; exact H4.out.1 h2)
            go_wp2_with fail
            go_roundw
            case rel => exact ⟨_, _, _, k, rfl, rfl, rfl, by omega, by omega, by first | rfl | trivial, HE⟩
            case measure => simp [RowKit.intOf] <;> omega
          · have HE : Hid (b / 2 ^ k * a / c = 2 * q + u ∧ b / 2 ^ k * a % c = 2 * r + s) := Lib.hid (by rw [HXX.out, HP1.out rfl]; exact H4.out.2 (by omega))
            go_wp2_with fail
            go_roundw
            case rel => exact ⟨_, _, _, k, rfl, rfl, rfl, by omega, by omega, by first | rfl | trivial, HE⟩
            case measure => simp [RowKit.intOf] <;> omega
end Go.Proofs.Ytdbhdlgoecpeaaa.Fee
namespace Go.Proofs.Ytdbhdlgoecpeaaa.Fee
open Go.RowKit Go.Lib

def MoneyOk (n : Int) : Prop := 0 ≤ n ∧ n ≤ 1152921504606846976
instance (n : Int) : Decidable (MoneyOk n) := by unfold MoneyOk; infer_instance
def brokV (f : FS) (x : Int) : Int := if FeeOk f ∧ MoneyOk x then max (sc x f.broker 10000 true) f.least else 0
def saleV (f : FS) (x : Int) : Int := if FeeOk f ∧ MoneyOk x then sc x f.sales 10000 false else 0
def feeE (f : FS) (x : Int) : Int := if FeeOk f ∧ MoneyOk x then 0 else 1
def BayOk (r t : Int) : Prop := (0 ≤ r ∧ r ≤ 10000) ∧ 0 ≤ t ∧ t ≤ 1099511627776
instance (r t : Int) : Decidable (BayOk r t) := by unfold BayOk; infer_instance
def bayV (r t : Int) : Int := if BayOk r t then sc t r 10000 true else 0
def bayE (r t : Int) : Int := if BayOk r t then 0 else 1
/-- Fees that a frame keeps, behind a call. -/
theorem fee_kept {w w1 : World} {b l s : Int} (h : Below (w.alloc (.cells #[.int .i64 b, .int .i64 l, .int .i64 s] 25)).heap.size (w.alloc (.cells #[.int .i64 b, .int .i64 l, .int .i64 s] 25)) w1) :
    w1.cell? ⟨w.heap.size, 0, none⟩ = some (.int .i64 b) ∧ w1.cell? ⟨w.heap.size, 1, none⟩ = some (.int .i64 l) ∧ w1.cell? ⟨w.heap.size, 2, none⟩ = some (.int .i64 s) ∧ Hid (Below w.heap.size w w1) := by
  have h0 := heap_alloc_new w (.cells #[.int .i64 b, .int .i64 l, .int .i64 s] 25)
  have h1 := (h.block w.heap.size (Array.getElem?_eq_some_iff.1 h0).1).trans h0
  exact ⟨cell_block (j := 0) h1 rfl, cell_block (j := 1) h1 rfl, cell_block (j := 2) h1 rfl, Lib.hid (below_then ((Below.refl _ w).alloc (Nat.le_refl _) _) h)⟩
theorem sc_in {a b c : Int} (up : Bool) (h0 : 0 ≤ a * b) (hc : 0 < c) (h : a * b ≤ c * 1152921504606846976) : 0 ≤ sc a b c up ∧ sc a b c up ≤ 1152921504606846977 := by
  have h1 : 0 ≤ a * b / c := Int.ediv_nonneg h0 (by omega)
  have h2 : a * b / c ≤ 1152921504606846976 := Int.ediv_le_of_le_mul hc (by omega)
  unfold sc
  split <;> omega
theorem brokV_yes {f : FS} {x : Int} (h : FeeOk f) (h2 : MoneyOk x) : brokV f x = max (sc x f.broker 10000 true) f.least := by unfold brokV; rw [if_pos ⟨h, h2⟩]
theorem brokV_no {f : FS} {x : Int} (h : ¬ (FeeOk f ∧ MoneyOk x)) : brokV f x = 0 := by unfold brokV; rw [if_neg h]
theorem saleV_yes {f : FS} {x : Int} (h : FeeOk f) (h2 : MoneyOk x) : saleV f x = sc x f.sales 10000 false := by unfold saleV; rw [if_pos ⟨h, h2⟩]
theorem saleV_no {f : FS} {x : Int} (h : ¬ (FeeOk f ∧ MoneyOk x)) : saleV f x = 0 := by unfold saleV; rw [if_neg h]
theorem feeE_yes {f : FS} {x : Int} (h : FeeOk f) (h2 : MoneyOk x) : feeE f x = 0 := by unfold feeE; rw [if_pos ⟨h, h2⟩]
theorem feeE_no {f : FS} {x : Int} (h : ¬ (FeeOk f ∧ MoneyOk x)) : feeE f x = 1 := by unfold feeE; rw [if_neg h]
/-- What is taken at one rate. -/
theorem rate_at {x r : Int} (up : Bool) (x0 : 0 ≤ x) (x1 : x ≤ 1152921504606846976) (r0 : 0 ≤ r) (r1 : r ≤ 10000) :
    Hid (∀ W, Calls Try.prog 51 #[.int .i64 x, .int .i64 r, .int .i64 10000, .bool up] W fun e w' => e = .returned (.tuple #[.int .i64 (sc x r 10000 up), .int .i64 0]) ∧ W = w') ∧ 0 ≤ sc x r 10000 up ∧ sc x r 10000 up ≤ 1152921504606846977 := by
  have hp := Int.mul_nonneg x0 r0
  have hq : x * r ≤ 1152921504606846976 * 10000 := Int.mul_le_mul x1 r1 r0 (by omega)
  exact ⟨Lib.hid (fun W => rscale x r 10000 up W x0 (by omega) r0 (by omega) (by omega) (by omega) (by omega)), sc_in up hp (by omega) (by omega)⟩
end Go.Proofs.Ytdbhdlgoecpeaaa.Fee
namespace Go.Proofs.Ytdbhdlgoecpeaaa.Fee
open Go.RowKit Go.Lib

theorem bay_yes {r t : Int} (h : BayOk r t) : bayV r t = sc t r 10000 true ∧ bayE r t = 0 := by
  unfold bayV bayE
  rw [if_pos h, if_pos h]
  exact ⟨rfl, rfl⟩
theorem bay_no {r t : Int} (h : ¬ BayOk r t) : bayV r t = 0 ∧ bayE r t = 1 := by
  unfold bayV bayE
  rw [if_neg h, if_neg h]
  exact ⟨rfl, rfl⟩
set_option maxRecDepth 100000 in
set_option maxHeartbeats 4000000 in
theorem dbay (r t : Int) (w : World) :
    Calls Try.prog 28 #[.int .i64 r, .int .i64 t] w fun e w' => e = .returned (.tuple #[.int .i64 (bayV r t), .int .i64 (bayE r t)]) ∧ Below w.heap.size w w' := by
  by_cases h : BayOk r t
  · rw [(bay_yes h).1, (bay_yes h).2]
    obtain ⟨⟨r0, r1⟩, t0, t1⟩ := h
    obtain ⟨HS, i0, i1⟩ := rate_at true t0 (by omega) r0 r1
    obtain ⟨z, hz⟩ : ∃ z, sc t r 10000 true = z := ⟨_, rfl⟩
    rw [hz] at HS ⊢
    clear i0 i1 hz
    go_enter Try.func28, Try.ntmps28
    go_wp2_with fail
    refine (HS.out w).mono ?_
    rintro e w2 ⟨rfl, rfl⟩
    go_wp2_with fail
    go_ret2
    exact ⟨rfl, Below.refl _ _⟩
  · rw [(bay_no h).1, (bay_no h).2]
    have hno : r < 0 ∨ (¬ r < 0 ∧ 10000 < r) ∨ (¬ r < 0 ∧ ¬ 10000 < r ∧ t < 0) ∨ (¬ r < 0 ∧ ¬ 10000 < r ∧ ¬ t < 0 ∧ 1099511627776 < t) := by unfold BayOk at h; omega
    clear h
    rcases hno with h1 | ⟨h1, h2⟩ | ⟨h1, h2, h3⟩ | ⟨h1, h2, h3, h4⟩
    all_goals
      go_enter Try.func28, Try.ntmps28
      go_wp2_with fail
      go_ret2
      exact ⟨rfl, Below.refl _ _⟩
end Go.Proofs.Ytdbhdlgoecpeaaa.Fee
