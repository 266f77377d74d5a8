/- The program's closures of a plan; MinFunc, IndexFunc, DeleteFunc as it calls them. DeleteFunc as the program's plan calls it. -/
import Derived.Test.YtdbhdlgoecpeaaaZQuoImA
import Derived.Lib.SliceRun
import Derived.Test.YtdbhdlgoecpeaaaZQuoImF
namespace Go.Proofs.Ytdbhdlgoecpeaaa.Quo.Im
open Go.RowKit Go.Lib IRows

theorem nan_im (a : Int) (w : World) : Calls Try.prog 71 #[.int .i64 a] w fun e w' => e = .returned (.bool false) ∧ w = w' := by
  have h : (a != a) = false := by simp
  go_enter Try.func71, Try.ntmps71
  go_wp2_with fail
  go_ret
  exact ⟨rfl, rfl⟩
/-- How two numbers stand. -/
def Cmp (a b z : Int) : Prop := (a < b ∧ z = -1) ∨ (a = b ∧ z = 0) ∨ (b < a ∧ z = 1)
theorem cmp_im (a b z : Int) (hz : Cmp a b z) (w : World) : Calls Try.prog 44 #[.int .i64 a, .int .i64 b] w fun e w' => e = .returned (.int .i64 z) ∧ w = w' := by
  have H1 := Lib.hid (nan_im a)
  have H2 := Lib.hid (nan_im b)
  rcases hz with ⟨h, rfl⟩ | ⟨rfl, rfl⟩ | ⟨h, rfl⟩
  · have d1 : decide (a < b) = true := decide_eq_true h
    clear h
    go_enter Try.func44, Try.ntmps44
    go_wp2_with fail
    refine (H1.out w).mono ?_
    rintro e w1 ⟨rfl, rfl⟩
    go_wp2_with fail
    refine (H2.out w).mono ?_
    rintro e w1 ⟨rfl, rfl⟩
    go_wp2_with fail
    go_ret
    exact ⟨rfl, rfl⟩
  · have d1 : decide (a < a) = false := by simp
    go_enter Try.func44, Try.ntmps44
    go_wp2_with fail
    refine (H1.out w).mono ?_
    rintro e w1 ⟨rfl, rfl⟩
    go_wp2_with fail
    refine (H2.out w).mono ?_
    rintro e w1 ⟨rfl, rfl⟩
    go_wp2_with fail
    go_ret
    exact ⟨rfl, rfl⟩
  · have d1 : decide (a < b) = false := decide_eq_false (by omega)
    have d2 : decide (b < a) = true := decide_eq_true h
    clear h
    go_enter Try.func44, Try.ntmps44
    go_wp2_with fail
    refine (H1.out w).mono ?_
    rintro e w1 ⟨rfl, rfl⟩
    go_wp2_with fail
    refine (H2.out w).mono ?_
    rintro e w1 ⟨rfl, rfl⟩
    go_wp2_with fail
    go_ret
    exact ⟨rfl, rfl⟩
theorem cmp_ex (a b : Int) : ∃ z, Cmp a b z := by
  by_cases h : a < b
  · exact ⟨-1, .inl ⟨h, rfl⟩⟩
  · by_cases h2 : a = b
    · exact ⟨0, .inr (.inl ⟨h2, rfl⟩)⟩
    · exact ⟨1, .inr (.inr ⟨by omega, rfl⟩)⟩
/-- The spans that a closure holds, and their ends. -/
def View (W : World) (P A n : Nat) (E : Nat → Int) : Prop := W.cell? ⟨P, 0, none⟩ = some (.slice (some ⟨A, 0, none⟩) n n) ∧ ∀ k, k < n → W.cell? ⟨A, k * 2 + 1, none⟩ = some (.int .i64 (E k))
theorem View.drewN {W : World} {P A n : Nat} {E : Nat → Int} (h : View W P A n E) (m : Nat) : View (W.drewN m) P A n E := h
theorem less_im (i j P A n : Nat) (E : Nat → Int) (w : World) (hv : View w P A n E) (hi : i < n) (hj : j < n) (_ : n ≤ 1000) (z : Int) (hz : Cmp (E i) (E j) z) :
    Calls Try.prog 43 #[.int .i64 (i : Int), .int .i64 (j : Int), .pointer (some ⟨P, 0, none⟩)] w fun e w' => e = .returned (.int .i64 z) ∧ ∃ m, w.drewN m = w' := by
  have hp := hv.1
  have c1 := hv.2 i hi
  have c2 := hv.2 j hj
  have i0 : (0 : Int) ≤ (i : Int) := by omega
  have i1 : (i : Int) < (n : Int) := by omega
  have j0 : (0 : Int) ≤ (j : Int) := by omega
  have j1 : (j : Int) < (n : Int) := by omega
  have Q := Lib.hid (fun m => quiet_same (cmp_im (E i) (E j) z hz (w.drewN m)))
  clear hv hz hi hj
  go_enter Try.func43, Try.ntmps43
  go_wp2_with fail
  go_quiet (first | (go_at_call 44; with_reducible (exact Q.out _)))
  go_wp2_with fail
  go_ret
  exact ⟨rfl, _, rfl⟩
theorem over_im (k P N A n : Nat) (E : Nat → Int) (now : Int) (w : World) (hv : View w P A n E) (hN : w.cell? ⟨N, 0, none⟩ = some (.int .i64 now)) (hk : k < n) (_ : n ≤ 1000) (q : Bool) (hq : decide (E k ≤ now) = q) :
    Calls Try.prog 46 #[.int .i64 (k : Int), .pointer (some ⟨P, 0, none⟩), .pointer (some ⟨N, 0, none⟩)] w fun e w' => e = .returned (.bool q) ∧ ∃ m, w.drewN m = w' := by
  have hp := hv.1
  have c1 := hv.2 k hk
  have i0 : (0 : Int) ≤ (k : Int) := by omega
  have i1 : (k : Int) < (n : Int) := by omega
  clear hv hk
  go_enter Try.func46, Try.ntmps46
  go_wp2_with fail
  go_quiet (fail)
  go_wp2_with fail
  go_ret
  exact ⟨by rw [← hq]; first | rfl | simp, _, rfl⟩
/-- One of a row that ends first. -/
def Least (E : Nat → Int) (l : List Int) (x : Int) : Prop := x ∈ l ∧ ∀ y ∈ l, E x.toNat ≤ E y.toNat
set_option maxRecDepth 100000 in
set_option maxHeartbeats 4000000 in
theorem min_im (P A n : Nat) (E : Nat → Int) (a : Option Addr) (m c : Nat) (l : List Int) (w : World) (hv : View w P A n E) (hn : n ≤ 1000) (hl : l.length = m) (hm : m ≤ 1000) (h0 : 0 < m) (hs : IRow w a l) (hx : ∀ x ∈ l, 0 ≤ x ∧ x < (n : Int)) :
    Calls Try.prog 42 #[.slice a m c, .func (.func 43) #[] #[.pointer (some ⟨P, 0, none⟩)]] w fun e w' => ∃ x, e = .returned (.int .i64 x) ∧ Hid (Least E l x ∧ ∃ k, w.drewN k = w') := by
  have HV := Lib.hid hv
  have HX := Lib.hid hx
  have HL := Lib.hid hl
  have HS := Lib.hid hs
  have hm1 : (m : Int) ≤ 1000 := by omega
  have d0 : decide ((m : Int) < 1) = false := decide_eq_false (by omega)
  obtain ⟨x0, hx0⟩ : ∃ x, l[0]? = some x := ⟨_, List.getElem?_eq_getElem (by omega)⟩
  obtain ⟨g, off, ha, _, c0⟩ := hs 0 x0 hx0
  subst ha
  have h0i : (0 : Int) < (m : Int) := by omega
  have HX0 := Lib.hid hx0
  rw [Nat.add_zero] at c0
  have HRW : Hid (∀ (k i : Nat) (x : Int), l[i]? = some x → (w.drewN k).cell? ⟨g, off + i, none⟩ = some (.int .i64 x)) := Lib.hid fun k i x hi => by
    obtain ⟨g2, off2, e, _, h2⟩ := HS.out i x hi
    cases e
    exact h2
  clear hv hl hs hx hx0
  go_enter Try.func42, Try.ntmps42
  go_wp2_with fail
  clear c0 d0
  go_loopw [5, 6] (fun u v wr => ∃ (i k : Nat) (x : Int), u = .int .i64 x ∧ v = .int .i64 (i : Int) ∧ 1 ≤ i ∧ i ≤ m ∧ Hid (Least E (l.take i) x) ∧ w.drewN k = wr) (fun _ v _ => m - (RowKit.intOf v).toNat)
  case atStart => exact ⟨1, 0, x0, rfl, rfl, by omega, by omega, Lib.hid (by
    have e : l.take 1 = [x0] := by
      rw [show (1 : Nat) = 0 + 1 from rfl, List.take_add_one, HX0.out]
      rfl
    rw [e]
    exact ⟨List.mem_cons_self .., fun y hy => by rw [List.mem_singleton.1 hy]; exact Int.le_refl _⟩), rfl⟩
  case round =>
    obtain ⟨i, k, x, rfl, rfl, hi1, hi, HI, rfl⟩ := hrel
    have hi0 : (0 : Int) ≤ (i : Int) := by omega
    by_cases hlt : i < m
    case neg =>
      obtain rfl : i = m := by omega
      have hd1 : decide (i < i) = false := by simp
      have HF : Hid (Least E l x) := Lib.hid (by
        have h1 := HI.out
        rw [List.take_of_length_le (by rw [HL.out]; exact Nat.le_refl _)] at h1
        exact h1)
      go_wp2_with fail
      go_ret
      exact ⟨x, rfl, Lib.hid ⟨HF.out, k, rfl⟩⟩
    have hlt2 : (i : Int) < (m : Int) := by omega
    have hd1 : decide (i < m) = true := decide_eq_true hlt
    have wi : IntKind.i64.wrap ((i : Int) + 1) = (i : Int) + 1 := IntWalk.i64_in _ (by omega)
    obtain ⟨y, hy⟩ : ∃ y, l[i]? = some y := ⟨_, List.getElem?_eq_getElem (by rw [HL.out]; exact hlt)⟩
    have c1 := HRW.out k i y hy
    have hyb := HX.out y (List.mem_of_getElem? hy)
    have hxb := HX.out x (List.mem_of_mem_take HI.out.1)
    obtain ⟨p, rfl⟩ := Int.eq_ofNat_of_zero_le hyb.1
    obtain ⟨r, rfl⟩ := Int.eq_ofNat_of_zero_le hxb.1
    obtain ⟨z, hz⟩ := cmp_ex (E p) (E r)
    have HC := Lib.hid (less_im p r P A n E (w.drewN k) (HV.out.drewN k) (by omega) (by omega) hn z hz)
    have HMT := Lib.hid (fun x => (Cat.mem_take_succ hy : x ∈ l.take (i + 1) ↔ x ∈ l.take i ∨ x = (p : Int)))
    have HCY : Hid (∀ k, (w.drewN k).cell? ⟨g, off + i, none⟩ = some (.int .i64 (p : Int))) := Lib.hid fun k => HRW.out k i _ hy
    by_cases hlt3 : E p < E r
    · have hz1 : z = -1 := by rcases hz with h | h | h <;> omega
      subst hz1
      have HI2 : Hid (Least E (l.take (i + 1)) (p : Int)) := Lib.hid ⟨(HMT.out _).2 (.inr rfl), fun y hy => by
        rcases (HMT.out y).1 hy with h1 | h1
        · have h2 := HI.out.2 y h1
          simp only [Int.toNat_natCast] at h2 ⊢
          omega
        · rw [h1]
          exact Int.le_refl _⟩
      clear hz hlt3 hyb hxb hy
      go_wp2_with fail
      refine HC.out.mono ?_
      rintro e w2 ⟨rfl, m2, rfl⟩
      rw [World.drewN_drewN]
      clear c1
      have c1 := HCY.out (k + m2)
      go_wp2_with fail
      go_roundw
      case rel => exact ⟨i + 1, k + m2, (p : Int), rfl, by go_num, by omega, by omega, HI2, by first | rfl | trivial⟩
      case measure => simp [RowKit.intOf]; omega
    · have hz1 : decide (z < 0) = false := decide_eq_false (by rcases hz with h | h | h <;> omega)
      have HI2 : Hid (Least E (l.take (i + 1)) (r : Int)) := Lib.hid ⟨(HMT.out _).2 (.inl HI.out.1), fun y hy => by
        rcases (HMT.out y).1 hy with h1 | h1
        · exact HI.out.2 y h1
        · rw [h1]
          simp only [Int.toNat_natCast]
          omega⟩
      clear hz hlt3 hyb hxb hy
      go_wp2_with fail
      refine HC.out.mono ?_
      rintro e w2 ⟨rfl, m2, rfl⟩
      rw [World.drewN_drewN]
      go_wp2_with fail
      go_roundw
      case rel => exact ⟨i + 1, k + m2, (r : Int), rfl, by go_num, by omega, by omega, HI2, by first | rfl | trivial⟩
      case measure => simp [RowKit.intOf]; omega
set_option maxRecDepth 100000 in
set_option maxHeartbeats 4000000 in
theorem end_im (P D A n : Nat) (E : Nat → Int) (a : Option Addr) (m c : Nat) (l : List Int) (w : World) (hv : View w P A n E) (hD : w.cell? ⟨D, 0, none⟩ = some (.slice a m c)) (hn : n ≤ 1000) (hl : l.length = m) (hm : m ≤ 1000) (h0 : 0 < m) (hs : IRow w a l) (hx : ∀ x ∈ l, 0 ≤ x ∧ x < (n : Int)) (z : Int) (hz : ∀ x, Least E l x → E x.toNat = z) :
    Calls Try.prog 41 #[.pointer (some ⟨D, 0, none⟩), .pointer (some ⟨P, 0, none⟩)] w fun e w' => e = .returned (.int .i64 z) ∧ Below w.heap.size w w' := by
  have HM := Lib.hid (min_im P A n E a m c l w hv hn hl hm h0 hs hx)
  have HV := Lib.hid hv
  have HX := Lib.hid hx
  have HZ := Lib.hid hz
  clear hv hl h0 hs hx hz
  go_enter Try.func41, Try.ntmps41
  go_wp2_with fail
  refine HM.out.mono ?_
  rintro e w1 ⟨x, rfl, H1⟩
  obtain ⟨k, hk⟩ := H1.out.2
  have hxb := HX.out x H1.out.1.1
  obtain ⟨p, rfl⟩ := Int.eq_ofNat_of_zero_le hxb.1
  have HE : Hid (E p = z) := Lib.hid (HZ.out _ H1.out.1)
  have hp0 : (0 : Int) ≤ (p : Int) := by omega
  have hpn : (p : Int) < (n : Int) := hxb.2
  have HP1 : Hid (View w1 P A n E ∧ Below w.heap.size w w1) := Lib.hid (by rw [← hk]; exact ⟨HV.out.drewN k, below_drewN (Below.refl _ _) k⟩)
  have c0 := HP1.out.1.1
  have c1 := HP1.out.1.2 p (by omega)
  clear hk hxb hD
  go_wp2_with fail
  go_ret
  exact ⟨ret_i64 HE.out, HP1.out.2⟩
/-- The place of the first of a row of which something holds. -/
def atL (f : Int → Bool) (l : List Int) (i : Nat) : Bool := match l[i]? with
  | none => false
  | some x => f x
set_option maxRecDepth 100000 in
set_option maxHeartbeats 4000000 in
theorem ix_im (P N A n : Nat) (E : Nat → Int) (now : Int) (a : Option Addr) (m c : Nat) (l : List Int) (w : World) (hv : View w P A n E) (hN : w.cell? ⟨N, 0, none⟩ = some (.int .i64 now)) (hn : n ≤ 1000) (hl : l.length = m) (hm : m ≤ 1000) (hs : IRow w a l) (hx : ∀ x ∈ l, 0 ≤ x ∧ x < (n : Int)) (z : Int) (hz : nx1 (atL (fun x => decide (E x.toNat ≤ now)) l) m 0 = z) :
    Calls Try.prog 72 #[.slice a m c, .func (.func 46) #[] #[.pointer (some ⟨P, 0, none⟩), .pointer (some ⟨N, 0, none⟩)]] w fun e w' => e = .returned (.int .i64 z) ∧ ∃ k, w.drewN k = w' := by
  have HV := Lib.hid hv
  have HX := Lib.hid hx
  have HL := Lib.hid hl
  have HN := Lib.hid hN
  have HZ := Lib.hid hz
  have HT := irow_at hs
  have hm1 : (m : Int) ≤ 1000 := by omega
  clear hv hN hl hs hx hz
  go_enter Try.func72, Try.ntmps72
  go_wp2_with fail
  go_loopw [8] (fun v wr => ∃ (i k : Nat), v = .int .i64 (i : Int) ∧ i ≤ m ∧ Hid (nx1 (atL (fun x => decide (E x.toNat ≤ now)) l) (m - i) i = z) ∧ w.drewN k = wr) (fun v _ => m - (RowKit.intOf v).toNat)
  case atStart => exact ⟨0, 0, rfl, by omega, HZ, rfl⟩
  case round =>
    obtain ⟨i, k, rfl, hi, HI, rfl⟩ := hrel
    have hi0 : (0 : Int) ≤ (i : Int) := by omega
    by_cases hlt : i < m
    case neg =>
      obtain rfl : i = m := by omega
      have hd1 : decide (i < i) = false := by simp
      have HF : Hid (-1 = z) := Lib.hid (by have h1 := HI.out; rw [Nat.sub_self] at h1; exact h1)
      go_wp2_with fail
      go_ret
      exact ⟨ret_i64 HF.out, k, rfl⟩
    have hlt2 : (i : Int) < (m : Int) := by omega
    have hd1 : decide (i < m) = true := decide_eq_true hlt
    have wi : IntKind.i64.wrap ((i : Int) + 1) = (i : Int) + 1 := IntWalk.i64_in _ (by omega)
    obtain ⟨g, off, y, rfl, hy, c1⟩ := HT.out (w.drewN k) i (below_drewN (Below.refl _ _) k) (by rw [HL.out]; exact hlt)
    have hyb := HX.out y (List.mem_of_getElem? hy.out)
    obtain ⟨p, rfl⟩ := Int.eq_ofNat_of_zero_le hyb.1
    obtain ⟨q, hq⟩ : ∃ q, decide (E p ≤ now) = q := ⟨_, rfl⟩
    have HC := Lib.hid (over_im p P N A n E now (w.drewN k) (HV.out.drewN k) HN.out (by omega) hn q hq)
    have HNX : Hid ((if q then (i : Int) else nx1 (atL (fun x => decide (E x.toNat ≤ now)) l) (m - (i + 1)) (i + 1)) = z) := Lib.hid (by
      have h1 := HI.out
      have h2 : atL (fun x => decide (E x.toNat ≤ now)) l i = q := by
        unfold atL
        rw [hy.out]
        exact hq
      rw [show m - i = (m - (i + 1)) + 1 by omega, nx1, h2] at h1
      exact h1)
    clear hq hyb
    rcases q with _ | _
    · have HF : Hid (nx1 (atL (fun x => decide (E x.toNat ≤ now)) l) (m - (i + 1)) (i + 1) = z) := Lib.hid HNX.out
      go_wp2_with fail
      refine HC.out.mono ?_
      rintro e w2 ⟨rfl, m2, rfl⟩
      rw [World.drewN_drewN]
      go_wp2_with fail
      go_roundw
      case rel => exact ⟨i + 1, k + m2, by go_num, by omega, HF, by first | rfl | trivial⟩
      case measure => simp [RowKit.intOf]; omega
    · have HF : Hid ((i : Int) = z) := Lib.hid HNX.out
      go_wp2_with fail
      refine HC.out.mono ?_
      rintro e w2 ⟨rfl, m2, rfl⟩
      rw [World.drewN_drewN]
      go_wp2_with fail
      go_ret
      exact ⟨ret_i64 HF.out, k + m2, rfl⟩
end Go.Proofs.Ytdbhdlgoecpeaaa.Quo.Im
namespace Go.Proofs.Ytdbhdlgoecpeaaa.Quo.Im
open Go.RowKit Go.Lib IRows

theorem zero_int (w : World) : (zeroValue 3).run Try.prog w = .ok (.int .i64 0) w := by
  obtain ⟨i, hi, hz⟩ := Option.map_eq_some_iff.1 info_int
  simp only [Prod.mk.injEq] at hz
  simp [zeroValue, typeInfo, hi, hz.1]
theorem take_set_le {α : Type} {L : List α} {i o : Nat} (x : α) (h : i ≤ o) : (L.set o x).take i = L.take i := by
  apply List.ext_getElem?
  intro j
  rw [List.getElem?_take, List.getElem?_take]
  split
  · rw [List.getElem?_set_ne (by omega)]
  · rfl
/-- What is cleared behind a place leaves what stands ahead of it. -/
theorem ks_clear {B g c n i : Nat} : ∀ (k o : Nat) (w : World) (L : List Int), KS w B (.slice (some ⟨g, 0, none⟩) n c) L → i ≤ o → ∃ L', KS (w.setCells g o (List.replicate k (.int .i64 0))) B (.slice (some ⟨g, 0, none⟩) n c) L' ∧ L'.take i = L.take i ∧ L'.length = L.length ∧ w.grownBy (w.setCells g o (List.replicate k (.int .i64 0))) (some g)
  | 0, o, w, L, h, _ => ⟨L, h, rfl, rfl, only_refl _ _⟩
  | k + 1, o, w, L, h, hi => by
    obtain ⟨h1, _, _⟩ := set_int h o 0
    obtain ⟨L', h2, h3, h4, h5⟩ := ks_clear (i := i) k (o + 1) _ _ h1 (by omega)
    refine ⟨L', h2, ?_, ?_, ?_⟩
    · rw [h3, take_set_le _ hi]
    · rw [h4, List.length_set]
    · exact only_trans (only_setCell (only_refl w (some g)) o _) h5
theorem ks_cut {w : World} {B g c n i : Nat} {L : List Int} (h : KS w B (.slice (some ⟨g, 0, none⟩) n c) L) (hi : i ≤ n) : KS w B (.slice (some ⟨g, 0, none⟩) i c) (L.take i) := by
  rcases h.2 with ⟨hv, _⟩ | ⟨g', c', cur, hv, hb, hg, hn, hm, hsz, ht⟩
  · cases hv
  · injection hv with h1 h2 h3
    injection h1 with h1
    injection h1 with h1
    subst h1 h2 h3
    have hl : (L.take i).length = i := by rw [List.length_take]; omega
    refine ⟨by rw [List.length_map, hl, Nat.mul_one], .inr ⟨g, c, cur, ?_, hb, hg, ?_, hm, hsz, ?_⟩⟩
    · rw [hl]
    · rw [hl]
      omega
    · rw [hl, Nat.mul_one, List.map_take, ← ht, List.take_take, Nat.mul_one, Nat.min_eq_left hi]
theorem ks_len {w : World} {B : Nat} {a : Option Addr} {m c : Nat} {L : List Int} (h : KS w B (.slice a m c) L) : L.length = m := by
  obtain ⟨a', c', e, _⟩ := h.at
  injection e with _ e2 _
  exact e2.symm
theorem ks_row {w : World} {B : Nat} {a : Option Addr} {m c : Nat} {L : List Int} (h : KS w B (.slice a m c) L) : IRow w a L := by
  obtain ⟨a', c', e, hr⟩ := irow_own h
  injection e with e1 _ _
  subst e1
  exact hr
theorem filter_take {α : Type} {l : List α} {i : Nat} {x : α} (f : α → Bool) (h : l[i]? = some x) : (l.take (i + 1)).filter f = (l.take i).filter f ++ if f x then [x] else [] := by
  rw [List.take_add_one, h, List.filter_append]
  show _ ++ [x].filter f = _
  rw [List.filter_cons]
  split <;> rfl
theorem filter_none {α : Type} {f : α → Bool} : ∀ {l : List α}, (∀ x ∈ l, f x = true) → l.filter f = l
  | [], _ => rfl
  | x :: l, h => by rw [List.filter_cons, if_pos (h x (List.mem_cons_self ..)), filter_none fun y hy => h y (List.mem_cons_of_mem _ hy)]
/-- What is still done. -/
def keepF (E : Nat → Int) (now x : Int) : Bool := !decide (E x.toNat ≤ now)
theorem view_only {w w' : World} {P A n g : Nat} {E : Nat → Int} (h : View w P A n E) (hg : w.grownBy w' (some g)) (hP : P ≠ g) (hA : A ≠ g) (hlt : P < w.heap.size ∧ A < w.heap.size) : View w' P A n E :=
  ⟨(hg.cell_far ⟨P, 0, none⟩ hlt.1 (fun e => hP (Option.some.inj e))).trans h.1, fun k hk => (hg.cell_far ⟨A, k * 2 + 1, none⟩ hlt.2 (fun e => hA (Option.some.inj e))).trans (h.2 k hk)⟩
set_option maxRecDepth 100000 in
set_option maxHeartbeats 16000000 in
theorem del_im (P N A n : Nat) (E : Nat → Int) (now : Int) (B : Nat) (a : Option Addr) (m c : Nat) (l : List Int) (w : World) (hv : View w P A n E) (hN : w.cell? ⟨N, 0, none⟩ = some (.int .i64 now)) (hlt : P < w.heap.size ∧ A < w.heap.size ∧ N < w.heap.size) (hn : n ≤ 1000) (hl : KS w B (.slice a m c) l) (hm : m ≤ 1000) (hx : ∀ x ∈ l, 0 ≤ x ∧ x < (n : Int)) (hne : ∀ g, (Value.slice a m c).ownBlock = some g → P ≠ g ∧ A ≠ g ∧ N ≠ g) :
    Calls Try.prog 45 #[.slice a m c, .func (.func 46) #[] #[.pointer (some ⟨P, 0, none⟩), .pointer (some ⟨N, 0, none⟩)]] w fun e w' => ∃ m', e = .returned (.slice a m' c) ∧ Hid (m' ≤ m ∧ KS w' B (.slice a m' c) (l.filter (keepF E now)) ∧ w.grownBy w' ((Value.slice a m c).ownBlock)) := by
  have hlen := ks_len hl
  obtain ⟨z, hz⟩ : ∃ z, nx1 (atL (fun x => decide (E x.toNat ≤ now)) l) m 0 = z := ⟨_, rfl⟩
  have HI := Lib.hid (ix_im P N A n E now a m c l w hv hN hn hlen hm (ks_row hl) hx z hz)
  have hm1 : (m : Int) ≤ 1000 := by omega
  have hat : ∀ (i : Nat) (x : Int), l[i]? = some x → atL (fun x => decide (E x.toNat ≤ now)) l i = decide (E x.toNat ≤ now) := fun i x hi => by unfold atL; rw [hi]
  rcases @nx1_in (atL (fun x => decide (E x.toNat ≤ now)) l) m 0 with h1 | ⟨i0, h1, _, h2, h3⟩
  · obtain rfl : z = -1 := by rw [← hz, h1]
    have hall := nx1_none.1 h1
    have HF : Hid (l.filter (keepF E now) = l) := Lib.hid (filter_none fun x hx => by
      obtain ⟨i, hi, e⟩ := List.getElem_of_mem hx
      have h4 : l[i]? = some x := by rw [List.getElem?_eq_getElem hi, e]
      have h5 := hall i (Nat.zero_le _) (by omega)
      rw [hat i x h4] at h5
      unfold keepF
      rw [h5]
      rfl)
    have HL := Lib.hid hl
    clear hv hN hlt hl hx hne hz hat h1 hall hlen
    go_enter Try.func45, Try.ntmps45
    go_wp2_with fail
    refine HI.out.mono ?_
    rintro e w1 ⟨rfl, k, hk⟩
    have HE : Hid (KS w1 B (.slice a m c) l ∧ w.grownBy w1 ((Value.slice a m c).ownBlock)) := Lib.hid (by
      rw [← hk]
      exact ⟨HL.out.moved fun q _ => rfl, only_drewN (only_refl _ _) k⟩)
    clear hk
    go_wp2_with fail
    go_ret
    exact ⟨m, rfl, Lib.hid ⟨Nat.le_refl _, by rw [HF.out]; exact HE.out.1, HE.out.2⟩⟩
  obtain rfl : z = (i0 : Int) := by rw [← hz, h1]
  have hi0m : i0 < m := by omega
  obtain ⟨g, rfl⟩ : ∃ g, a = some ⟨g, 0, none⟩ := by
    obtain ⟨a', c', e, h4, _⟩ := hl.at
    injection e with e1 _ _
    subst e1
    obtain ⟨g, e, _⟩ := h4 (by omega)
    exact ⟨g, e⟩
  obtain ⟨neP, neA, neN⟩ := hne g rfl
  have HS0 : Hid (l.take i0 = (l.take (i0 + 1)).filter (keepF E now)) := Lib.hid (by
    have hx0 := List.getElem?_eq_getElem (show i0 < l.length by omega)
    rw [filter_take _ hx0]
    have h5 := h3
    rw [hat i0 _ hx0] at h5
    have h6 : keepF E now (l[i0]'(by omega)) = false := by unfold keepF; rw [h5]; rfl
    rw [h6, if_neg (by simp), List.append_nil]
    refine (filter_none fun x hx => ?_).symm
    obtain ⟨i, hi, e⟩ := List.getElem_of_mem hx
    rw [List.length_take] at hi
    have h7 : l[i]? = some x := by
      rw [List.getElem_take] at e
      rw [List.getElem?_eq_getElem (by omega), e]
    have h8 : ∀ (d k : Nat), nx1 (atL (fun x => decide (E x.toNat ≤ now)) l) d k = (i0 : Int) → ∀ i, k ≤ i → i < i0 → atL (fun x => decide (E x.toNat ≤ now)) l i = false := fun d => by
      induction d with
      | zero => intro k h; rw [nx1] at h; omega
      | succ d ih =>
        intro k h i hk hi
        rw [nx1] at h
        cases hf : atL (fun x => decide (E x.toNat ≤ now)) l k with
        | true =>
          rw [hf, if_pos rfl] at h
          omega
        | false =>
          rw [hf, if_neg (by simp)] at h
          by_cases e : i = k
          · rw [e]; exact hf
          · exact ih (k + 1) h i (by omega) hi
    have h9 := h8 m 0 hz i (Nat.zero_le _) (by omega)
    rw [hat i x h7] at h9
    unfold keepF
    rw [h9]
    rfl)
  have HV : Hid (∀ W, w.grownBy W (some g) → View W P A n E ∧ W.cell? ⟨N, 0, none⟩ = some (.int .i64 now)) := Lib.hid fun W hW => ⟨view_only hv hW neP neA ⟨hlt.1, hlt.2.1⟩, (hW.cell_far ⟨N, 0, none⟩ hlt.2.2 (fun e => neN (Option.some.inj e))).trans hN⟩
  have HX := Lib.hid hx
  have HLN := Lib.hid hlen
  have HL := Lib.hid hl
  have hi00 : (0 : Int) ≤ (i0 : Int) := by omega
  have dz : ((i0 : Int) == -1) = false := beq_eq_false_iff_ne.2 (by omega)
  have wz : IntKind.i64.wrap ((i0 : Int) + 1) = (i0 : Int) + 1 := IntWalk.i64_in _ (by omega)
  clear hv hN hlt hl hx hne hz hat h1 h2 h3 hlen neP neA neN
  go_enter Try.func45, Try.ntmps45
  go_wp2_with fail
  refine HI.out.mono ?_
  rintro e w1 ⟨rfl, k, hk⟩
  have HK1 : Hid (KS w1 B (.slice (some ⟨g, 0, none⟩) m c) l ∧ w.grownBy w1 (some g)) := Lib.hid (by
    rw [← hk]
    exact ⟨HL.out.moved fun q _ => rfl, only_drewN (only_refl _ _) k⟩)
  clear hk
  go_wp2_with fail
  clear dz wz
  go_loopw [5, 6] (fun u v wr => ∃ (i j : Nat) (L : List Int), u = .int .i64 (i : Int) ∧ v = .int .i64 (j : Int) ∧ i < j ∧ j ≤ m ∧ Hid (L.length = m ∧ L.take i = (l.take j).filter (keepF E now) ∧ ∀ q, j ≤ q → L[q]? = l[q]?) ∧ Hid (KS wr B (.slice (some ⟨g, 0, none⟩) m c) L ∧ w.grownBy wr (some g))) (fun _ v _ => m - (RowKit.intOf v).toNat)
  case atStart => exact ⟨i0, i0 + 1, l, rfl, by go_num, by omega, by omega, Lib.hid ⟨HLN.out, HS0.out, fun _ _ => rfl⟩, HK1⟩
  case round =>
    clear HK1
    obtain ⟨i, j, L, rfl, rfl, hij, hj, HI2, HW⟩ := hrel
    have hi0 : (0 : Int) ≤ (i : Int) := by omega
    have hj0 : (0 : Int) ≤ (j : Int) := by omega
    by_cases hlt : j < m
    case neg =>
      obtain rfl : j = m := by omega
      have hd1 : decide (j < j) = false := by simp
      have him : (i : Int) ≤ (j : Int) := by omega
      obtain ⟨L', hL1, hL2, hL3, hL4⟩ := ks_clear (i := i) (j - i) i wr L HW.out.1 (Nat.le_refl _)
      have HE : Hid (KS (wr.setCells g i (List.replicate (j - i) (.int .i64 0))) B (.slice (some ⟨g, 0, none⟩) i c) (l.filter (keepF E now)) ∧ w.grownBy (wr.setCells g i (List.replicate (j - i) (.int .i64 0))) (some g)) := Lib.hid (by
        refine ⟨?_, only_trans HW.out.2 hL4⟩
        have h1 := ks_cut hL1 (show i ≤ j by omega)
        rw [hL2, HI2.out.2.1, List.take_of_length_le (by rw [HLN.out]; exact Nat.le_refl _)] at h1
        exact h1)
      have hcl : ∀ ty, (Builtin.clear_ #[29] ty #[.slice (some ⟨g, i, none⟩) (j - i) (c - i)]).run Try.prog wr = .ok (.tuple #[]) (wr.setCells g i (List.replicate (j - i) (.int .i64 0))) := fun ty => by
        have hq2 : ∀ q, q < j - i → wr.cell? ⟨g, i + q, none⟩ ≠ none ∧ wr.frozen? ⟨g, i + q, none⟩ = false := fun q hq => by
          obtain ⟨_, _, e, _, h2⟩ := HW.out.1.at
          obtain ⟨g2, e2, _, h3, h4⟩ := h2 (i + q) _ (List.getElem?_eq_getElem (show i + q < L.length by have := HI2.out.1; omega))
          injection e with e3 _ _
          rw [← e3] at e2
          injection e2 with e2
          injection e2 with e2
          subst e2
          exact ⟨by rw [h3]; simp, h4⟩
        exact Lib.run_clear_slice wr 29 3 ty (.int .i64 0) Try.underlying29 zero_int rfl rfl g i (j - i) (c - i) (by omega) (fun q hq => Option.isSome_iff_ne_none.2 (hq2 q hq).1) (fun q hq => (hq2 q hq).2)
      have hcap : j ≤ c := by
        rcases HW.out.1.2 with ⟨hv, _⟩ | ⟨g', c', cur, hv, _, _, hn, _⟩
        · cases hv
        · injection hv with _ h5 h6
          have := HI2.out.1
          omega
      have hcap2 : (j : Int) ≤ (c : Int) := by omega
      clear hL1 hL2 hL3 hL4
      go_wp2_with fail
      go_ret
      exact ⟨i, rfl, Lib.hid ⟨by omega, HE.out⟩⟩
    have hlt2 : (j : Int) < (m : Int) := by omega
    have hd1 : decide (j < m) = true := decide_eq_true hlt
    have wj : IntKind.i64.wrap ((j : Int) + 1) = (j : Int) + 1 := IntWalk.i64_in _ (by omega)
    have wi : IntKind.i64.wrap ((i : Int) + 1) = (i : Int) + 1 := IntWalk.i64_in _ (by omega)
    obtain ⟨y, hy⟩ : ∃ y, l[j]? = some y := ⟨_, List.getElem?_eq_getElem (by rw [HLN.out]; exact hlt)⟩
    have hyb := HX.out y (List.mem_of_getElem? hy)
    obtain ⟨p, rfl⟩ := Int.eq_ofNat_of_zero_le hyb.1
    have hcell : ∀ (W : World) (q : Nat) (x : Int), KS W B (.slice (some ⟨g, 0, none⟩) m c) L → L[q]? = some x → W.cell? ⟨g, q, none⟩ = some (.int .i64 x) ∧ W.frozen? ⟨g, q, none⟩ = false := fun W q x hW hq => by
      obtain ⟨_, _, e, _, h2⟩ := hW.at
      obtain ⟨g2, e2, _, h3, h4⟩ := h2 q x hq
      injection e with e3 _ _
      rw [← e3] at e2
      injection e2 with e2
      injection e2 with e2
      subst e2
      exact ⟨h3, h4⟩
    have hLj : L[j]? = some (p : Int) := by rw [HI2.out.2.2 j (Nat.le_refl _)]; exact hy
    obtain ⟨c1, _⟩ := hcell wr j _ HW.out.1 hLj
    obtain ⟨o, ho⟩ : ∃ o, L[i]? = some o := ⟨_, List.getElem?_eq_getElem (by rw [HI2.out.1]; omega)⟩
    have HCI : Hid (∀ k, (wr.drewN k).cell? ⟨g, i, none⟩ = some (.int .i64 o) ∧ (wr.drewN k).frozen? ⟨g, i, none⟩ = false) := Lib.hid fun k => hcell wr i o HW.out.1 ho
    obtain ⟨q, hq⟩ : ∃ q, decide (E p ≤ now) = q := ⟨_, rfl⟩
    have HVW := Lib.hid (HV.out wr HW.out.2)
    have HC := Lib.hid (over_im p P N A n E now wr HVW.out.1 HVW.out.2 (by omega) hn q hq)
    have HFT := Lib.hid (filter_take (keepF E now) hy)
    have HKF : Hid (keepF E now (p : Int) = !q) := Lib.hid (by unfold keepF; rw [Int.toNat_natCast, hq])
    clear hyb hcell hLj ho hq
    rcases q with _ | _
    · have HI3 : Hid ((L.set i (p : Int)).length = m ∧ (L.set i (p : Int)).take (i + 1) = (l.take (j + 1)).filter (keepF E now) ∧ ∀ q, j + 1 ≤ q → (L.set i (p : Int))[q]? = l[q]?) := Lib.hid (by
        refine ⟨by rw [List.length_set]; exact HI2.out.1, ?_, fun q hq => by rw [List.getElem?_set_ne (by omega)]; exact HI2.out.2.2 q (by omega)⟩
        rw [HFT.out, HKF.out, ← HI2.out.2.1, List.take_add_one, take_set_le _ (Nat.le_refl _), List.getElem?_set_self (by rw [HI2.out.1]; omega)]
        rfl)
      clear hy
      go_wp2_with fail
      refine HC.out.mono ?_
      rintro e w2 ⟨rfl, k, rfl⟩
      obtain ⟨d1, d2⟩ := HCI.out k
      have HW3 : Hid (KS ((wr.drewN k).setCell ⟨g, i, none⟩ (.int .i64 (p : Int))) B (.slice (some ⟨g, 0, none⟩) m c) (L.set i (p : Int)) ∧ w.grownBy ((wr.drewN k).setCell ⟨g, i, none⟩ (.int .i64 (p : Int))) (some g)) := Lib.hid (by
        have h0 : KS (wr.drewN k) B (.slice (some ⟨g, 0, none⟩) m c) L := HW.out.1.moved fun q _ => rfl
        exact ⟨(set_int h0 i _).1, only_setCell (only_drewN HW.out.2 k) i _⟩)
      clear c1
      have him : (i : Int) < (m : Int) := by omega
      go_wp2_with fail
      go_roundw
      case rel => exact ⟨i + 1, j + 1, _, by go_num, by go_num, by omega, by omega, HI3, HW3⟩
      case measure => simp [RowKit.intOf]; omega
    · have HI3 : Hid (L.length = m ∧ L.take i = (l.take (j + 1)).filter (keepF E now) ∧ ∀ q, j + 1 ≤ q → L[q]? = l[q]?) := Lib.hid (by
        refine ⟨HI2.out.1, ?_, fun q hq => HI2.out.2.2 q (by omega)⟩
        rw [HFT.out, HKF.out, ← HI2.out.2.1]
        simp)
      clear hy
      go_wp2_with fail
      refine HC.out.mono ?_
      rintro e w2 ⟨rfl, k, rfl⟩
      have HW3 : Hid (KS (wr.drewN k) B (.slice (some ⟨g, 0, none⟩) m c) L ∧ w.grownBy (wr.drewN k) (some g)) := Lib.hid ⟨HW.out.1.moved fun q _ => rfl, only_drewN HW.out.2 k⟩
      go_wp2_with fail
      go_roundw
      case rel => exact ⟨i, j + 1, L, rfl, by go_num, by omega, by omega, HI3, HW3⟩
      case measure => simp [RowKit.intOf]; omega
end Go.Proofs.Ytdbhdlgoecpeaaa.Quo.Im
