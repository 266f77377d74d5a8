/- The stacks of a row of numbers; slices.Min of such a row. What the program's Expand has in its rows, type by type; how the document's bill follows. Plain mathematics for the calc layer: what the sum, the difference, the product of two numbers is, and when it is too great; no walk in this text. Package calc's Add, as later layers call it. -/
import Derived.Test.YtohlkaoophbinaaZBomImA
import Derived.Test.YtohlkaoophbinaaZRecC
import Derived.Test.YtohlkaoophbinaaZBomX
import Derived.WalkKit
import Derived.Lib.Hide
import Derived.Test.YtohlkaoophbinaaRows
import Derived.WalkSpells
import Derived.WalkLawsBesides
import Derived.RegionTactic
import Derived.Deep.QuietTactic
import Derived.BigQuiet
namespace Go.Proofs.Ytohlkaoophbinaa.Bom.Im
open Go.RowKit Go.Lib IRows
open Goods (St Sts OwnS cnt)

/-- The stacks of the first types: of each of which there are some. -/
def stkF (f : Int → Int) : Nat → List St
  | 0 => []
  | k + 1 => stkF f k ++ (if 0 < f (k : Int) then [⟨(k : Int), f (k : Int)⟩] else [])
theorem stkF_yes {f : Int → Int} {k : Nat} (h : 0 < f (k : Int)) : stkF f (k + 1) = stkF f k ++ [⟨(k : Int), f (k : Int)⟩] := by
  conv => lhs; unfold stkF
  rw [if_pos h]
theorem stkF_no {f : Int → Int} {k : Nat} (h : ¬ 0 < f (k : Int)) : stkF f (k + 1) = stkF f k := by
  conv => lhs; unfold stkF
  rw [if_neg h, List.append_nil]
theorem stkF_mem {f : Int → Int} : ∀ (k : Nat) (s : St), s ∈ stkF f k → 0 ≤ s.kind ∧ s.kind < (k : Int) ∧ s.qty = f s.kind ∧ 0 < s.qty
  | 0, s, h => by cases h
  | k + 1, s, h => by
    by_cases hk : 0 < f (k : Int)
    · rw [stkF_yes hk] at h
      rcases List.mem_append.1 h with h | h
      · have := stkF_mem k s h
        exact ⟨this.1, by omega, this.2.2⟩
      · rw [List.mem_singleton.1 h]
        exact ⟨by show (0 : Int) ≤ (k : Int); omega, by show (k : Int) < ((k + 1 : Nat) : Int); omega, rfl, hk⟩
    · rw [stkF_no hk] at h
      have := stkF_mem k s h
      exact ⟨this.1, by omega, this.2.2⟩
theorem stkF_len (f : Int → Int) : ∀ k, (stkF f k).length ≤ k
  | 0 => Nat.le_refl _
  | k + 1 => by
    have := stkF_len f k
    unfold stkF
    rw [List.length_append]
    split <;> simp <;> omega
theorem stkF_rise (f : Int → Int) : ∀ k, Goods.Rise (stkF f k)
  | 0 => List.Pairwise.nil
  | k + 1 => by
    by_cases hk : 0 < f (k : Int)
    · rw [stkF_yes hk]
      refine List.pairwise_append.2 ⟨stkF_rise f k, List.pairwise_singleton _ _, fun s hs t ht => ?_⟩
      rw [List.mem_singleton.1 ht]
      exact (stkF_mem k s hs).2.1
    · rw [stkF_no hk]
      exact stkF_rise f k
theorem stkF_cnt {f : Int → Int} : ∀ (k : Nat) (x : Int), (∀ i : Nat, i < k → 0 ≤ f (i : Int)) → cnt (stkF f k) x = if 0 ≤ x ∧ x < (k : Int) then f x else 0
  | 0, x, _ => by
    rw [if_neg (by omega)]
    rfl
  | k + 1, x, h => by
    have ih := stkF_cnt k x fun i hi => h i (by omega)
    have h0 := h k (by omega)
    by_cases hk : 0 < f (k : Int)
    · rw [stkF_yes hk, Goods.cnt_append, ih]
      have h3 : cnt [(⟨(k : Int), f (k : Int)⟩ : St)] x = if (k : Int) = x then f (k : Int) else 0 := by simp [Goods.cnt]
      rw [h3]
      by_cases e : (k : Int) = x
      · subst e
        rw [if_neg (by omega), if_pos rfl, if_pos (by omega)]
        omega
      · rw [if_neg e]
        by_cases h1 : 0 ≤ x ∧ x < (k : Int)
        · rw [if_pos h1, if_pos (by omega)]
          omega
        · rw [if_neg h1, if_neg (by omega)]
          rfl
    · rw [stkF_no hk, ih]
      by_cases h1 : 0 ≤ x ∧ x < (k : Int)
      · rw [if_pos h1, if_pos (by omega)]
      · rw [if_neg h1]
        by_cases h2 : 0 ≤ x ∧ x < ((k + 1 : Nat) : Int)
        · rw [if_pos h2, show x = (k : Int) by omega]
          omega
        · rw [if_neg h2]
/-- They are the normal stacks of whatever has as many of each. -/
theorem stk_norm {f : Int → Int} {l : List St} (h0 : f 0 = 0) (hf : ∀ i : Nat, i < 33 → 0 ≤ f (i : Int)) (hl : Goods.Fine l) (he : Goods.errN l = 0) (hc : ∀ x, cnt l x = if 0 ≤ x ∧ x < 33 then f x else 0) : stkF f 33 = Goods.valN l := by
  rw [Goods.valN_ok he]
  refine Goods.norm_one ⟨stkF_rise f 33, fun s hs => ?_, fun s hs => ?_⟩ (Goods.norm_nl hl) fun x => ?_
  · obtain ⟨h1, h2, h3, h4⟩ := stkF_mem 33 s hs
    by_cases e : s.kind = 0
    · rw [h3, e, h0] at h4
      omega
    · omega
  · have := (stkF_mem 33 s hs).2.2.2
    omega
  · rw [Goods.cnt_nl, hc, stkF_cnt 33 x hf]
    rfl
theorem run_at33 (W : World) (cs : List Value) (i : Nat) (v : Int) (hi : i < 33) (h : cs[i]? = some (.int .i64 v)) : (Instr.index 62 (.agg cs.toArray) (.int .i64 (i : Int))).run Try.prog W = .ok (.int .i64 v) W := by
  have hu : Try.prog.underlying 62 = some (.array 33 3) := Try.underlying62
  have hb : Try.prog.underlying 3 = some (.int .i64) := Try.underlying3
  obtain ⟨i0, hi0, hz0, hz1, hz2⟩ := info_parts info_int
  have e : (0 : Int) ≤ (i : Int) ∧ (i : Int) < 33 := by omega
  simp [Instr.index, asIntOf, run_underlying hu, e, hi, part, sizeOf, typeInfo, hi0, hz1, isAgg, run_underlying hb, h]
set_option maxRecDepth 100000 in
set_option maxHeartbeats 4000000 in
theorem stacks_im (f : Int → Int) (w : World) :
    Calls Try.prog 27 #[.agg (rowL f).toArray] w fun e w' => ∃ a n c, e = .returned (.slice a n c) ∧ Hid ((stkF f 33).length = n ∧ OwnS w' w.heap.size (.slice a n c) (stkF f 33) ∧ Below w.heap.size w w') := by
  obtain ⟨cs, hcs⟩ : ∃ cs, rowL f = cs := ⟨_, rfl⟩
  rw [hcs]
  have hlen : cs.length = 33 := by rw [← hcs]; exact rowL_len _
  obtain ⟨B, W1, hB, hW1, H1⟩ := box_rw w f cs hcs 62
  have hz := (zero_of_info info33).1
  obtain ⟨Z, hZ⟩ : ∃ Z, (Array.replicate 33 (.int .i64 0) : Array Value) = Z := ⟨_, rfl⟩
  rw [hZ] at hz
  have hZs : Z.size = 33 := by rw [← hZ]; exact Array.size_replicate
  have hsz1 : (Try.prog.info? 62).map (·.size) = some cs.length := by rw [hlen]; exact size33
  have hrng : W1.rangeAt B 0 cs := by rw [← hcs]; exact H1.out.2.2.range
  have hone : cs.toArray.all (·.oneCell') = true := all_oneCell_toArray (by rw [← hcs]; exact rowL_one _)
  have hcz : cs.toArray.size = 33 := by rw [List.size_toArray]; exact hlen
  have hst : (storeCells ⟨w.heap.size, 0, none⟩ cs 0).run Try.prog (w.alloc (.cells Z 62)) = .ok () W1 := by
    have := run_storeCells_new (P := Try.prog) w 62 Z cs.toArray (by rw [hcz]; exact size33) (by rw [hZs, hcz]) hone
    rw [hW1] at this
    exact this
  have HV : Hid (∀ i, i < 33 → cs[i]? = some (.int .i64 (f (i : Int)))) := Lib.hid fun i hi => by rw [← hcs]; exact rowL_at f hi
  clear hcs hZ
  go_enter Try.func27, Try.ntmps27
  go_wp2_with (refine wpList_load_mid rfl 62 _ rfl B 0 rfl cs _ hrng Try.underlying62 rfl hsz1 ?_)
  clear hB hW1 hrng hsz1 hone hcz hst hz hZs
  go_loopw [3, 7] (fun v t wr => ∃ (a2 : Option Addr) (j2 c2 i : Nat), v = .slice a2 j2 c2 ∧ t = .int .i64 (i : Int) ∧ i ≤ 33 ∧ j2 ≤ i ∧ Hid ((stkF f i).length = j2 ∧ OwnS wr w.heap.size (.slice a2 j2 c2) (stkF f i) ∧ Below w.heap.size w wr)) (fun _ t _ => 33 - (RowKit.intOf t).toNat)
  case atStart => exact ⟨none, 0, 0, 0, rfl, rfl, by omega, by omega, Lib.hid ⟨rfl, World.ownsRow_nil _ _ _ _, H1.out.1⟩⟩
  case round =>
    obtain ⟨a2, j2, c2, i, rfl, rfl, hi, hj, HO⟩ := hrel
    have hi0 : (0 : Int) ≤ (i : Int) := by omega
    by_cases hil : i < 33
    · have hil2 : (i : Int) < 33 := by omega
      have hci := HV.out i hil
      have wi : IntKind.i64.wrap ((i : Int) + 1) = (i : Int) + 1 := IntWalk.i64_in _ (by omega)
      obtain ⟨v, hv⟩ : ∃ v, f (i : Int) = v := ⟨_, rfl⟩
      rw [hv] at hci
      have hix := fun W => run_at33 W cs i v hil hci
      by_cases hp : 0 < v
      · have d1 : decide (0 < v) = true := decide_eq_true hp
        obtain ⟨a3, c3, W3, HRUN, h2, h3⟩ := Recipe.app1s wr (⟨(i : Int), v⟩ : St) HO.out.2.1 (by omega) HO.out.2.2.size
        have HO3 : Hid ((stkF f (i + 1)).length = j2 + 1 ∧ OwnS W3 w.heap.size (.slice a3 (j2 + 1) c3) (stkF f (i + 1)) ∧ Below w.heap.size w W3) := Lib.hid (by
          rw [stkF_yes (by rw [hv]; exact hp), hv]
          exact ⟨by rw [List.length_append, HO.out.1]; rfl, h2, HO.out.2.2.trans h3⟩)
        clear h2 h3 hv hp hci
        go_wp2_with (at_builtin; refine walk_run (v' := .slice a3 (j2 + 1) c3) (w' := W3) rfl _ _ _ _ rfl _ _ rfl rfl ?_ ?_; exact HRUN.out)
        go_roundw
        case rel => exact ⟨a3, j2 + 1, c3, i + 1, rfl, by go_num, by omega, by omega, HO3⟩
        case measure => simp [RowKit.intOf]; omega
      · have d1 : decide (0 < v) = false := decide_eq_false hp
        have HO3 : Hid ((stkF f (i + 1)).length = j2 ∧ OwnS wr w.heap.size (.slice a2 j2 c2) (stkF f (i + 1)) ∧ Below w.heap.size w wr) := Lib.hid (by
          rw [stkF_no (by rw [hv]; exact hp)]
          exact HO.out)
        clear hv hp hci
        go_wp2_with fail
        go_roundw
        case rel => exact ⟨a2, j2, c2, i + 1, rfl, by go_num, by omega, by omega, HO3⟩
        case measure => simp [RowKit.intOf]; omega
    · obtain rfl : i = 33 := by omega
      go_wp2_with fail
      go_ret
      exact ⟨a2, j2, c2, rfl, HO⟩
/-- The least of a row. -/
def minF (f : Int → Int) : Nat → Int
  | 0 => f 0
  | k + 1 => min (minF f k) (f ((k + 1 : Nat) : Int))
theorem minF_ge {f : Int → Int} : ∀ k : Nat, 0 ≤ minF f k ↔ ∀ i : Nat, i ≤ k → 0 ≤ f (i : Int)
  | 0 => ⟨fun h i hi => by
      obtain rfl : i = 0 := by omega
      exact h, fun h => h 0 (Nat.le_refl _)⟩
  | k + 1 => by
    have ih := minF_ge (f := f) k
    unfold minF
    constructor
    · intro h i hi
      by_cases e : i = k + 1
      · subst e
        omega
      · exact ih.1 (by omega) i (by omega)
    · intro h
      have h1 := ih.2 fun i hi => h i (by omega)
      have h2 := h (k + 1) (Nat.le_refl _)
      omega
set_option maxRecDepth 100000 in
set_option maxHeartbeats 4000000 in
theorem min_im (f : Int → Int) (A c : Nat) (w : World) (h : RI w A 0 f) :
    Calls Try.prog 47 #[.slice (some ⟨A, 0, none⟩) 33 c] w fun e w' => e = .returned (.int .i64 (minF f 32)) ∧ w = w' := by
  have HR := Lib.hid h
  obtain ⟨x0, -⟩ := h 0 (by omega)
  have x0 : w.cell? ⟨A, 0, none⟩ = some (.int .i64 (f 0)) := x0
  obtain ⟨v0, hv0⟩ : ∃ v, f 0 = v := ⟨_, rfl⟩
  have HV0 : Hid (minF f 0 = v0) := Lib.hid hv0
  have HV0x : Hid (f 0 = v0) := Lib.hid hv0
  rw [hv0] at x0
  clear h hv0
  go_enter Try.func47, Try.ntmps47
  go_wp2_with fail
  go_loopw [3, 4] (fun v t wr => ∃ (i : Nat) (z : Int), v = .int .i64 z ∧ t = .int .i64 (i : Int) ∧ 1 ≤ i ∧ i ≤ 33 ∧ w = wr ∧ Hid (minF f (i - 1) = z)) (fun _ t _ => 33 - (RowKit.intOf t).toNat)
  case atStart => exact ⟨1, v0, by rw [HV0x.out], rfl, by omega, by omega, rfl, HV0⟩
  case round =>
    obtain ⟨i, z, rfl, rfl, hi1, hi, rfl, HZ⟩ := hrel
    have hi0 : (0 : Int) ≤ (i : Int) := by omega
    by_cases hil : i < 33
    · have hil2 : (i : Int) < 33 := by omega
      obtain ⟨y0, -⟩ := HR.out i hil
      rw [Nat.zero_add] at y0
      have wi : IntKind.i64.wrap ((i : Int) + 1) = (i : Int) + 1 := IntWalk.i64_in _ (by omega)
      obtain ⟨v, hv⟩ : ∃ v, f (i : Int) = v := ⟨_, rfl⟩
      rw [hv] at y0
      obtain ⟨M, hM⟩ : ∃ M, min z v = M := ⟨_, rfl⟩
      have HM : Hid ((if v < z then v else z) = M) := Lib.hid (by rw [← hM]; split <;> omega)
      have HZ2 : Hid (minF f (i + 1 - 1) = M) := Lib.hid (by
        obtain ⟨k, rfl⟩ : ∃ k, i = k + 1 := ⟨i - 1, by omega⟩
        show min (minF f k) (f ((k + 1 : Nat) : Int)) = M
        have := HZ.out
        rw [show k + 1 - 1 = k by omega] at this
        rw [this, hv, hM])
      clear hv
      go_wp2_with fail
      go_roundw
      case rel => exact ⟨i + 1, M, by first | rfl | rw [HM.out], by go_num, by omega, by omega, by first | rfl | trivial, HZ2⟩
      case measure => simp [RowKit.intOf]; omega
    · obtain rfl : i = 33 := by omega
      go_wp2_with fail
      go_ret
      exact ⟨by rw [← HZ.out]; rfl, by first | rfl | trivial⟩
end Go.Proofs.Ytohlkaoophbinaa.Bom.Im
namespace Go.Proofs.Ytohlkaoophbinaa.Bom.Im
open Goods (St cnt)
open Cat (Cat PB)
open Recipe (needsE needsL needL up nd)

/-- What is wanted, what must be there, what is left over, of each type; the runs of each blueprint. -/
structure Px where
  w : Int → Int
  rw : Int → Int
  lf : Int → Int
  rs : List Int
/-- Runs of a type's maker, or it must be there. -/
noncomputable def pfil (bs : List PB) (lv t m : Int) (P : Px) : Option Px :=
  match fm t bs with
  | none => some ⟨P.w, upd P.rw t m, P.lf, P.rs⟩
  | some (i, b) => if 1000 < up m b.per then none else
    if needsE b.b lv (up m b.per) = 0 then
      match addW P.w (needL b.s lv (up m b.per)) with
      | none => none
      | some f => some ⟨f, P.rw, upd P.lf t (up m b.per * b.per - m), P.rs.set i (up m b.per)⟩
    else none
noncomputable def pstp (bs : List PB) (lv : Int) (hv : List St) (t : Int) (P : Px) : Option Px :=
  if 0 < P.w t - cnt hv t then pfil bs lv t (P.w t - cnt hv t) P else some P
noncomputable def prn (bs : List PB) (lv : Int) (hv : List St) : List Int → Px → Option Px
  | [], P => some P
  | t :: l, P => match pstp bs lv hv t P with
    | none => none
    | some Q => prn bs lv hv l Q
theorem prn_snoc {bs : List PB} {lv : Int} {hv : List St} : ∀ {l : List Int} {P Q : Px} (t : Int), prn bs lv hv l P = some Q → prn bs lv hv (l ++ [t]) P = pstp bs lv hv t Q
  | [], P, Q, t, h => by
    injection h with h
    subst h
    show (match pstp bs lv hv t P with | none => none | some Q => prn bs lv hv [] Q) = _
    cases pstp bs lv hv t P <;> rfl
  | x :: l, P, Q, t, h => by
    unfold prn at h
    rw [List.cons_append]
    unfold prn
    cases hs : pstp bs lv hv x P with
    | none => rw [hs] at h; cases h
    | some P1 =>
      rw [hs] at h
      exact prn_snoc t h
theorem prn_fail {bs : List PB} {lv : Int} {hv : List St} : ∀ {l post : List Int} {P : Px}, prn bs lv hv l P = none → prn bs lv hv (l ++ post) P = none
  | [], _, P, h => by cases h
  | x :: l, post, P, h => by
    unfold prn at h
    rw [List.cons_append]
    unfold prn
    cases hs : pstp bs lv hv x P with
    | none => rfl
    | some P1 =>
      rw [hs] at h
      exact prn_fail h
/-- Numbers as they may be. -/
structure PG (n : Nat) (P : Px) : Prop where
  w : ∀ x, 0 ≤ P.w x ∧ P.w x ≤ Recipe.mq
  rw : ∀ x, 0 ≤ P.rw x ∧ P.rw x ≤ Recipe.mq
  lf : ∀ x, 0 ≤ P.lf x ∧ P.lf x ≤ Recipe.mq
  len : P.rs.length = n
  rs : ∀ r ∈ P.rs, 0 ≤ r ∧ r ≤ 1000
theorem upd_in {f : Int → Int} {t v : Int} (h : ∀ x, 0 ≤ f x ∧ f x ≤ Recipe.mq) (hv : 0 ≤ v ∧ v ≤ Recipe.mq) (x : Int) : 0 ≤ upd f t v x ∧ upd f t v x ≤ Recipe.mq := by
  show 0 ≤ (if x = t then v else f x) ∧ (if x = t then v else f x) ≤ Recipe.mq
  split
  · exact hv
  · exact h x
theorem mq_lit : Recipe.mq = 1125899906842624 := rfl
/-- What runs make above what is lacking. -/
theorem over_in {m p r : Int} (hm : 1 ≤ m) (hp : 1 ≤ p ∧ p ≤ 1048576) (hr : up m p = r) (h : r ≤ 1000) : 1 ≤ r ∧ 0 ≤ r * p - m ∧ r * p - m ≤ 1048576000 ∧ r * p ≤ 1048576000 := by
  have h1 := up_pos (n := m) (k := p) (by omega) (by omega)
  have h2 := (Recipe.up_enough (n := m) (k := p) (by omega)).1
  rw [hr] at h1 h2
  have h3 : r * p ≤ 1000 * 1048576 := Int.mul_le_mul h hp.2 (by omega) (by omega)
  rw [Int.mul_comm p r] at h2
  omega
theorem PG.fil {bs : List PB} {lv t m : Int} {n : Nat} {P Q : Px} (h : PG n P) (hper : ∀ b ∈ bs, 1 ≤ b.per ∧ b.per ≤ 1048576) (hm : 1 ≤ m ∧ m ≤ Recipe.mq) (hq : pfil bs lv t m P = some Q) : PG n Q := by
  unfold pfil at hq
  cases hf : fm t bs with
  | none =>
    rw [hf] at hq
    injection hq with hq
    subst hq
    exact ⟨h.w, upd_in h.rw ⟨by omega, hm.2⟩, h.lf, h.len, h.rs⟩
  | some ib =>
    obtain ⟨i, b⟩ := ib
    rw [hf] at hq
    dsimp only at hq
    obtain ⟨r, hr⟩ : ∃ r, up m b.per = r := ⟨_, rfl⟩
    rw [hr] at hq
    have hb := hper b (List.mem_of_getElem? (fm_some hf).1)
    split at hq
    · cases hq
    split at hq
    case isFalse => cases hq
    rename_i h1 h2
    have ho := over_in hm.1 hb hr (by omega)
    cases ha : addW P.w (needL b.s lv r) with
    | none => rw [ha] at hq; cases hq
    | some f =>
      rw [ha] at hq
      injection hq with hq
      subst hq
      obtain ⟨a1, a2⟩ := addW_some _ _ _ ha
      refine ⟨fun x => ⟨?_, a2 (fun y => (h.w y).2) x⟩, h.rw, upd_in h.lf ⟨ho.2.1, by rw [mq_lit]; omega⟩, by show (P.rs.set i r).length = n; rw [List.length_set]; exact h.len, fun q hq => ?_⟩
      · show 0 ≤ f x
        rw [a1]
        have h3 := need_nonneg (s := b.s) (lv := lv) (r := r) (by omega) x
        have h4 := (h.w x).1
        omega
      · rcases List.mem_or_eq_of_mem_set hq with hq | rfl
        · exact h.rs q hq
        · omega
theorem PG.step {bs : List PB} {lv t : Int} {hv : List St} {n : Nat} {P Q : Px} (h : PG n P) (hper : ∀ b ∈ bs, 1 ≤ b.per ∧ b.per ≤ 1048576) (hv0 : 0 ≤ cnt hv t) (hq : pstp bs lv hv t P = some Q) : PG n Q := by
  unfold pstp at hq
  split at hq
  · rename_i hl
    have := h.w t
    exact h.fil hper (by omega) hq
  · injection hq with hq
    subst hq
    exact h
/-- Both ways of telling it. -/
structure Rel (pre : List Int) (S : Sx) (P : Px) : Prop where
  w : S.w = P.w
  rs : S.rs = P.rs
  raw : ∀ x, cnt S.raw x = P.rw x
  left : ∀ x, cnt S.left x = P.lf x
  rk : ∀ u ∈ S.raw, u.kind ∈ pre ∧ 1 ≤ u.qty
  lk : ∀ u ∈ S.left, u.kind ∈ pre ∧ 1 ≤ u.qty
theorem cnt_one (t m x : Int) : cnt [(⟨t, m⟩ : St)] x = if t = x then m else 0 := by simp [Goods.cnt]
theorem Rel.step {bs : List PB} {lv t : Int} {hv : List St} {n : Nat} {pre : List Int} {S : Sx} {P : Px} (h : Rel pre S P) (hg : PG n P) (ht : t ∉ pre) (hper : ∀ b ∈ bs, 1 ≤ b.per ∧ b.per ≤ 1048576) (hv0 : 0 ≤ cnt hv t) :
    (stp bs lv hv t S = none ∧ pstp bs lv hv t P = none) ∨ ∃ S' P', stp bs lv hv t S = some S' ∧ pstp bs lv hv t P = some P' ∧ Rel (pre ++ [t]) S' P' := by
  have hup : ∀ x, x ∈ pre → x ∈ pre ++ [t] := fun x hx => List.mem_append.2 (.inl hx)
  have htt : t ∈ pre ++ [t] := List.mem_append.2 (.inr (List.mem_singleton.2 rfl))
  have hw := hg.w t
  have h0 : ∀ l : List St, (∀ u ∈ l, u.kind ∈ pre ∧ 1 ≤ u.qty) → cnt l t = 0 := fun l hl => Goods.cnt_none fun u hu e => ht (by rw [← e]; exact (hl u hu).1)
  have hmo : mo hv t S = if 0 < P.w t - cnt hv t then P.w t - cnt hv t else 0 := by
    unfold mo
    rw [h.w]
    split <;> omega
  unfold pstp
  by_cases hl : 0 < P.w t - cnt hv t
  case neg =>
    rw [if_neg hl] at hmo ⊢
    exact .inr ⟨S, P, stp_zero hmo, rfl, ⟨h.w, h.rs, h.raw, h.left, fun u hu => ⟨hup _ (h.rk u hu).1, (h.rk u hu).2⟩, fun u hu => ⟨hup _ (h.lk u hu).1, (h.lk u hu).2⟩⟩⟩
  rw [if_pos hl] at hmo ⊢
  obtain ⟨m, hm⟩ : ∃ m, P.w t - cnt hv t = m := ⟨_, rfl⟩
  rw [hm] at hl hmo ⊢
  unfold pfil
  cases hf : fm t bs with
  | none =>
    refine .inr ⟨_, _, stp_raw (by rw [hmo]; omega) hf, rfl, ⟨h.w, h.rs, fun x => ?_, h.left, fun u hu => ?_, fun u hu => ⟨hup _ (h.lk u hu).1, (h.lk u hu).2⟩⟩⟩
    · show cnt (S.raw ++ [⟨t, mo hv t S⟩]) x = upd P.rw t m x
      rw [Goods.cnt_append, cnt_one, hmo]
      by_cases e : x = t
      · subst e
        rw [upd_same, if_pos rfl, h0 _ h.rk]
        omega
      · rw [upd_other _ _ e, if_neg fun h => e h.symm, h.raw]
        omega
    · rcases List.mem_append.1 hu with hu | hu
      · exact ⟨hup _ (h.rk u hu).1, (h.rk u hu).2⟩
      · rw [List.mem_singleton.1 hu]
        exact ⟨htt, by show 1 ≤ mo hv t S; omega⟩
  | some ib =>
    obtain ⟨i, b⟩ := ib
    have hst : stp bs lv hv t S = made bs lv (mo hv t S) t i b S := stp_made (by rw [hmo]; omega) hf
    rw [hst, hmo]
    show _ ∨ ∃ S' P', _ ∧ (if 1000 < up m b.per then none else if needsE b.b lv (up m b.per) = 0 then (match addW P.w (needL b.s lv (up m b.per)) with | none => none | some f => some (⟨f, P.rw, upd P.lf t (up m b.per * b.per - m), P.rs.set i (up m b.per)⟩ : Px)) else none) = some P' ∧ _
    show (made bs lv m t i b S = none ∧ (if 1000 < up m b.per then none else if needsE b.b lv (up m b.per) = 0 then (match addW P.w (needL b.s lv (up m b.per)) with | none => none | some f => some (⟨f, P.rw, upd P.lf t (up m b.per * b.per - m), P.rs.set i (up m b.per)⟩ : Px)) else none) = none) ∨ _
    obtain ⟨r, hr⟩ : ∃ r, up m b.per = r := ⟨_, rfl⟩
    by_cases h1 : 1000 < up m b.per
    · exact .inl ⟨made_runs h1, by rw [if_pos h1]⟩
    by_cases h2 : needsE b.b lv (up m b.per) = 0
    case neg => exact .inl ⟨made_needs h2, by rw [if_neg h1, if_neg h2]⟩
    rw [if_neg h1, if_pos h2]
    cases ha : addW P.w (needL b.s lv (up m b.per)) with
    | none => exact .inl ⟨made_over (by rw [h.w]; exact ha), rfl⟩
    | some f =>
      have hb := hper b (List.mem_of_getElem? (fm_some hf).1)
      have ho := over_in (m := m) (p := b.per) (r := up m b.per) (by omega) hb rfl (by omega)
      refine .inr ⟨_, _, made_fine h1 h2 (by rw [h.w]; exact ha), rfl, ⟨rfl, by show S.rs.set i _ = P.rs.set i _; rw [h.rs], h.raw, fun x => ?_, fun u hu => ⟨hup _ (h.rk u hu).1, (h.rk u hu).2⟩, fun u hu => ?_⟩⟩
      · show cnt (if 0 < up m b.per * b.per - m then S.left ++ [⟨t, up m b.per * b.per - m⟩] else S.left) x = upd P.lf t (up m b.per * b.per - m) x
        by_cases h3 : 0 < up m b.per * b.per - m
        · rw [if_pos h3, Goods.cnt_append, cnt_one]
          by_cases e : x = t
          · subst e
            rw [upd_same, if_pos rfl, h0 _ h.lk]
            omega
          · rw [upd_other _ _ e, if_neg fun h => e h.symm, h.left]
            omega
        · rw [if_neg h3]
          by_cases e : x = t
          · subst e
            rw [upd_same, h0 _ h.lk]
            omega
          · rw [upd_other _ _ e, h.left]
      · have hu : u ∈ (if 0 < up m b.per * b.per - m then S.left ++ [⟨t, up m b.per * b.per - m⟩] else S.left) := hu
        split at hu
        · rename_i h3
          rcases List.mem_append.1 hu with hu | hu
          · exact ⟨hup _ (h.lk u hu).1, (h.lk u hu).2⟩
          · rw [List.mem_singleton.1 hu]
            exact ⟨htt, by show 1 ≤ up m b.per * b.per - m; omega⟩
        · exact ⟨hup _ (h.lk u hu).1, (h.lk u hu).2⟩
theorem Rel.run {bs : List PB} {lv : Int} {hv : List St} {n : Nat} (hper : ∀ b ∈ bs, 1 ≤ b.per ∧ b.per ≤ 1048576) (hv0 : ∀ x, 0 ≤ cnt hv x) : ∀ (post pre : List Int) (S : Sx) (P : Px), (pre ++ post).Nodup → Rel pre S P → PG n P →
    (rn bs lv hv post S = none ∧ prn bs lv hv post P = none) ∨ ∃ S' P', rn bs lv hv post S = some S' ∧ prn bs lv hv post P = some P' ∧ Rel (pre ++ post) S' P' ∧ PG n P'
  | [], pre, S, P, _, h, hg => .inr ⟨S, P, rfl, rfl, by rw [List.append_nil]; exact h, hg⟩
  | t :: post, pre, S, P, hnd, h, hg => by
    have ht : t ∉ pre := fun hm => (List.nodup_append.1 hnd).2.2 t hm t (List.mem_cons_self ..) rfl
    unfold rn prn
    rcases h.step hg ht hper (hv0 t) with ⟨e1, e2⟩ | ⟨S', P', e1, e2, h'⟩
    · rw [e1, e2]
      exact .inl ⟨rfl, rfl⟩
    · rw [e1, e2]
      have hnd2 : ((pre ++ [t]) ++ post).Nodup := by rw [List.append_assoc]; exact hnd
      rcases Rel.run hper hv0 post (pre ++ [t]) S' P' hnd2 h' (hg.step hper (hv0 t) e2) with h2 | ⟨S2, P2, a1, a2, a3, a4⟩
      · exact .inl h2
      · exact .inr ⟨S2, P2, a1, a2, by rw [List.append_assoc] at a3; exact a3, a4⟩
def p0 (bs : List PB) (kind n : Int) : Px := ⟨upd (fun _ => 0) kind n, fun _ => 0, fun _ => 0, List.replicate bs.length 0⟩
theorem rel_start (C : Cat) (kind n : Int) : Rel [] (s0 C kind n) (p0 C.bs kind n) := ⟨rfl, rfl, fun _ => rfl, fun _ => rfl, fun u hu => (by cases hu), fun u hu => (by cases hu)⟩
theorem pg_start (bs : List PB) {kind n : Int} (hn : 0 ≤ n ∧ n ≤ Recipe.mq) : PG bs.length (p0 bs kind n) := by
  have h0 : ∀ _ : Int, (0 : Int) ≤ 0 ∧ (0 : Int) ≤ Recipe.mq := fun _ => by rw [mq_lit]; omega
  exact ⟨upd_in h0 hn, h0, h0, by simp [p0], fun r hr => by rw [List.eq_of_mem_replicate hr]; omega⟩
/-- The stacks of a row are the normal stacks of what was told. -/
theorem rel_stk {f : Int → Int} {l : List St} {T : List Int} (hf : ∀ x, 0 ≤ f x ∧ f x ≤ Recipe.mq) (hl : ∀ u ∈ l, u.kind ∈ T ∧ 1 ≤ u.qty) (hT : ∀ x ∈ T, 1 ≤ x ∧ x ≤ 32) (hc : ∀ x, cnt l x = f x) : stkF f 33 = Goods.valN l := by
  have hout : ∀ x, ¬ (1 ≤ x ∧ x ≤ 32) → f x = 0 := fun x hx => by
    rw [← hc]
    exact Goods.cnt_none fun u hu e => hx (by rw [← e]; exact hT _ (hl u hu).1)
  have hfine : Goods.Fine l := fun u hu => ⟨(hT _ (hl u hu).1).1, by have := (hl u hu).2; omega⟩
  refine stk_norm (hout 0 (by omega)) (fun i _ => (hf i).1) hfine (Goods.errN_ok hfine fun ⟨k, hk⟩ => ?_) fun x => ?_
  · have := (hf k).2
    rw [hc] at hk
    have e : Goods.mq = Recipe.mq := rfl
    omega
  · rw [hc]
    split
    · rfl
    · rename_i hx
      exact hout x (by omega)
end Go.Proofs.Ytohlkaoophbinaa.Bom.Im
namespace Go.Proofs.Ytohlkaoophbinaa.Calc
open Go.RowKit

/-- Is a number one of 64 bits with a sign? -/
def fits (n : Int) : Bool := decide (-9223372036854775808 ≤ n ∧ n ≤ 9223372036854775807)
/-- A number as an answer: itself, or 0 beside an error. -/
def valN (n : Int) : Int := if fits n = true then n else 0
/-- The error beside it: none, or ErrOver. -/
def valE (n : Int) : Int := if fits n = true then 0 else 5
theorem fits_true {n : Int} (h1 : -9223372036854775808 ≤ n) (h2 : n ≤ 9223372036854775807) : fits n = true := by unfold fits; exact decide_eq_true ⟨h1, h2⟩
theorem fits_false {n : Int} (h : n < -9223372036854775808 ∨ 9223372036854775807 < n) : fits n = false := by unfold fits; exact decide_eq_false (by omega)
theorem valN_in {n : Int} (h1 : -9223372036854775808 ≤ n) (h2 : n ≤ 9223372036854775807) : valN n = n := by unfold valN; rw [if_pos (fits_true h1 h2)]
theorem valE_in {n : Int} (h1 : -9223372036854775808 ≤ n) (h2 : n ≤ 9223372036854775807) : valE n = 0 := by unfold valE; rw [if_pos (fits_true h1 h2)]
theorem valN_out {n : Int} (h : n < -9223372036854775808 ∨ 9223372036854775807 < n) : valN n = 0 := by unfold valN; rw [fits_false h]; rfl
theorem valE_out {n : Int} (h : n < -9223372036854775808 ∨ 9223372036854775807 < n) : valE n = 5 := by unfold valE; rw [fits_false h]; rfl
/-- The pair as a value. -/
def pairV (n e : Int) : Value := .tuple #[.int .i64 n, .int .i64 e]
theorem pair_in {n : Int} (h1 : -9223372036854775808 ≤ n) (h2 : n ≤ 9223372036854775807) : Ending.returned (.tuple #[.int .i64 n, .int .i64 0]) = Ending.returned (.tuple #[.int .i64 (valN n), .int .i64 (valE n)]) := by rw [valN_in h1 h2, valE_in h1 h2]
theorem pair_out {n : Int} (h : n < -9223372036854775808 ∨ 9223372036854775807 < n) : Ending.returned (.tuple #[.int .i64 0, .int .i64 5]) = Ending.returned (.tuple #[.int .i64 (valN n), .int .i64 (valE n)]) := by rw [valN_out h, valE_out h]

theorem wrap_over {n : Int} (h1 : 9223372036854775807 < n) (h2 : n ≤ 18446744073709551615) : wrap64 n < n - 9223372036854775807 ∧ wrap64 n < 0 := by unfold wrap64; omega
theorem wrap_under {n : Int} (h1 : n < -9223372036854775808) (h2 : -18446744073709551616 ≤ n) : n + 9223372036854775807 < wrap64 n ∧ 0 ≤ wrap64 n := by unfold wrap64; omega
end Go.Proofs.Ytohlkaoophbinaa.Calc
namespace Go.Proofs.Ytohlkaoophbinaa.Calc
open Go.RowKit Go.Lib

set_option maxHeartbeats 400000 in
theorem add_any (a b : Int) (w : World) (a1 : -9223372036854775808 ≤ a) (a2 : a ≤ 9223372036854775807) (b1 : -9223372036854775808 ≤ b) (b2 : b ≤ 9223372036854775807) :
    Calls Try.prog 67 #[.int .i64 a, .int .i64 b] w fun e w' => e = .returned (.tuple #[.int .i64 (valN (a + b)), .int .i64 (valE (a + b))]) ∧ w = w' := by
  by_cases h1 : a + b < -9223372036854775808
  · obtain ⟨hw1, hw2⟩ := wrap_under h1 (by omega)
    have hd1 : decide (wrap64 (a + b) < a) = false := by simp; omega
    have hd2 : decide (b < 0) = true := by simp; omega
    go_enter Try.func67, Try.ntmps67
    go_wp2
    go_ret2
    exact ⟨pair_out (Or.inl h1), rfl⟩
  · by_cases h2 : 9223372036854775807 < a + b
    · obtain ⟨hw1, hw2⟩ := wrap_over h2 (by omega)
      have hd1 : decide (wrap64 (a + b) < a) = true := by simp; omega
      have hd2 : decide (b < 0) = false := by simp; omega
      go_enter Try.func67, Try.ntmps67
      go_wp2
      go_ret2
      exact ⟨pair_out (Or.inr h2), rfl⟩
    · have h3 : -9223372036854775808 ≤ a + b := by omega
      have h4 : a + b ≤ 9223372036854775807 := by omega
      clear h1 h2
      by_cases hb : b < 0
      · have hd1 : decide (a + b < a) = true := by simp; omega
        have hd2 : decide (b < 0) = true := by simp; omega
        go_enter Try.func67, Try.ntmps67
        go_wp2
        go_ret2
        exact ⟨pair_in h3 h4, rfl⟩
      · have hd1 : decide (a + b < a) = false := by simp; omega
        have hd2 : decide (b < 0) = false := by simp; omega
        go_enter Try.func67, Try.ntmps67
        go_wp2
        go_ret2
        exact ⟨pair_in h3 h4, rfl⟩
end Go.Proofs.Ytohlkaoophbinaa.Calc
