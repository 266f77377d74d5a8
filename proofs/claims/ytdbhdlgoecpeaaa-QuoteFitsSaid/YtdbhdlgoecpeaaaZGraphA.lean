/- Needs in memory; the document's may, in. The document's Order. One more number at a row's end; the document's in of a row of one's own. -/
import Derived.Test.YtdbhdlgoecpeaaaZRecMath
import Derived.BigQuiet
import Derived.Test.YtdbhdlgoecpeaaaZGoodsMath
namespace Go.Proofs.Ytdbhdlgoecpeaaa.Graph
open Go.RowKit Go.Lib IRows

/-- Needs that lie somewhere. -/
def Nds (w : World) (a : Option Addr) (l : List Nd) : Prop := ∀ (i : Nat) (t : Nd), l[i]? = some t → ∃ g off, a = some ⟨g, off, none⟩ ∧ g < w.heap.size ∧ w.cell? ⟨g, off + i * 2, none⟩ = some (.int .i64 t.a) ∧ w.cell? ⟨g, off + i * 2 + 1, none⟩ = some (.int .i64 t.b)
theorem Nds.under {w w' : World} {a : Option Addr} {l : List Nd} (h : Nds w a l) (hb : Below w.heap.size w w') : Nds w' a l := fun i t hi => by
  obtain ⟨g, off, e, hg, k0, k1⟩ := h i t hi
  exact ⟨g, off, e, Nat.lt_of_lt_of_le hg hb.size, ((bcell hb).1 g _ hg).trans k0, ((bcell hb).1 g _ hg).trans k1⟩
theorem nds_at {w : World} {a : Option Addr} {l : List Nd} (h : Nds w a l) : Hid (∀ W i, Below w.heap.size w W → i < l.length → ∃ g off t, a = some ⟨g, off, none⟩ ∧ Hid (l[i]? = some t) ∧ W.cell? ⟨g, off + i * 2, none⟩ = some (.int .i64 t.a) ∧ W.cell? ⟨g, off + i * 2 + 1, none⟩ = some (.int .i64 t.b)) := Lib.hid (fun W i hW hi => by
  obtain ⟨g, off, e, _, k0, k1⟩ := (h.under hW) i l[i] (List.getElem?_eq_getElem hi)
  exact ⟨g, off, _, e, Lib.hid (List.getElem?_eq_getElem hi), k0, k1⟩)
theorem below_drewN {B : Nat} {a w : World} (h : Below B a w) (n : Nat) : Below B a (w.drewN n) := ⟨h.os, h.tape, h.output, h.size, h.block⟩
theorem mem_take_succ {α : Type} {l : List α} {i : Nat} {t x : α} (h : l[i]? = some t) : x ∈ l.take (i + 1) ↔ x ∈ l.take i ∨ x = t := by
  rw [List.take_add_one, h]
  simp
open Classical in
set_option maxRecDepth 100000 in
set_option maxHeartbeats 2000000 in
theorem din (a : Option Addr) (n c : Nat) (l : List Int) (k : Int) (w : World) (hl : l.length = n) (hs : IRow w a l) (hn : n ≤ 1048576) :
    Calls Try.prog 98 #[.slice a n c, .int .i64 k] w fun e w' => e = .returned (.bool (decide (k ∈ l))) ∧ w = w' := by
  have HL := Lib.hid hl
  have HT := irow_at hs
  have hn1 : (n : Int) ≤ 1048576 := by omega
  clear hl hs hn
  go_enter Try.func98, Try.ntmps98
  go_wp2_with fail
  go_loopw [5] (fun s wr => ∃ i : Nat, s = .int .i64 i ∧ i ≤ n ∧ w = wr ∧ Hid (k ∉ l.take i)) (fun s _ => n - (RowKit.intOf s).toNat)
  case atStart => exact ⟨0, rfl, by omega, rfl, Lib.hid (by simp)⟩
  case round =>
    obtain ⟨i, rfl, hi, rfl, HI⟩ := hrel
    have hi0 : (0 : Int) ≤ (i : Int) := by omega
    by_cases hlt : i < n
    · have hlt2 : (i : Int) < (n : Int) := by omega
      obtain ⟨g, off, t, rfl, ht, q0⟩ := HT.out w i (Below.refl _ _) (by rw [HL.out]; exact hlt)
      by_cases c1 : t = k
      · have HF : Hid (k ∈ l) := Lib.hid (by rw [← c1]; exact List.mem_of_getElem? ht.out)
        have c1b : (t == k) = true := by simpa using c1
        clear c1
        go_wp2_with fail
        go_ret
        exact ⟨by rw [decide_eq_true HF.out]; rfl, rfl⟩
      · have HF : Hid (k ∉ l.take (i + 1)) := Lib.hid (fun h => by
          rcases (mem_take_succ ht.out).1 h with h | h
          · exact HI.out h
          · exact c1 h.symm)
        have c1b : (t == k) = false := by simpa using c1
        clear c1
        go_wp2_with fail
        go_roundw
        case rel => exact ⟨i + 1, by go_num, by omega, by first | rfl | trivial, HF⟩
        case measure => simp [RowKit.intOf]; omega
    · obtain rfl : i = n := by omega
      have HF : Hid (k ∉ l) := Lib.hid (by
        have := HI.out
        rw [List.take_of_length_le (by rw [HL.out]; exact Nat.le_refl _)] at this
        exact this)
      go_wp2_with fail
      go_ret
      exact ⟨by rw [decide_eq_false HF.out]; rfl, rfl⟩
/-- As walks want it: what it tells is named ahead. -/
theorem in_at {w : World} {a : Option Addr} {n c : Nat} {l : List Int} (k : Int) (hl : l.length = n) (hs : IRow w a l) (hn : n ≤ 1048576) : ∃ t : Bool, Hid (Calls Try.prog 98 #[.slice a n c, .int .i64 k] w fun e w' => e = .returned (.bool t) ∧ w = w') ∧ Hid (t = true ↔ k ∈ l) := by
  classical
  exact ⟨decide (k ∈ l), Lib.hid (by
    have := din a n c l k w hl hs hn
    refine this.mono ?_
    rintro e w' ⟨rfl, h⟩
    exact ⟨by congr, h⟩), Lib.hid (by simp)⟩
open Classical in
set_option maxRecDepth 100000 in
set_option maxHeartbeats 2000000 in
theorem dmay (n : Int) (a : Option Addr) (m c : Nat) (l : List Nd) (w : World) (hl : l.length = m) (hs : Nds w a l) (hm : m ≤ 1048576) :
    Calls Try.prog 97 #[.int .i64 n, .slice a m c] w fun e w' => e = .returned (.bool (decide (May n l))) ∧ w = w' := by
  by_cases h1 : 0 ≤ n
  case neg =>
    have d1 : decide (n < 0) = true := decide_eq_true (by omega)
    rw [decide_eq_false (fun h : May n l => h1 h.1.1)]
    clear hl hs hm h1
    go_enter Try.func97, Try.ntmps97
    go_wp2_with fail
    go_ret
    exact ⟨rfl, rfl⟩
  have d1 : decide (n < 0) = false := decide_eq_false (by omega)
  by_cases h2 : n ≤ 64
  case neg =>
    have d2 : decide (64 < n) = true := decide_eq_true (by omega)
    rw [decide_eq_false (fun h : May n l => h2 h.1.2)]
    clear hl hs hm h1 h2
    go_enter Try.func97, Try.ntmps97
    go_wp2_with fail
    go_ret
    exact ⟨rfl, rfl⟩
  have d2 : decide (64 < n) = false := decide_eq_false (by omega)
  by_cases h3 : m ≤ 256
  case neg =>
    have d3 : decide (256 < (m : Int)) = true := decide_eq_true (by omega)
    rw [decide_eq_false (fun h : May n l => h3 (by rw [← hl]; exact h.2.1))]
    clear hl hs hm h1 h2 h3
    go_enter Try.func97, Try.ntmps97
    go_wp2_with fail
    go_ret
    exact ⟨rfl, rfl⟩
  have d3 : decide (256 < (m : Int)) = false := decide_eq_false (by omega)
  have HL := Lib.hid hl
  have HT := nds_at hs
  have HM : Hid ((∀ t ∈ l, OkNd n t) → decide (May n l) = true) := Lib.hid (fun h => decide_eq_true ⟨⟨h1, h2⟩, by rw [hl]; exact h3, h⟩)
  have HN : Hid (∀ t ∈ l, ¬ OkNd n t → decide (May n l) = false) := Lib.hid (fun t ht h => decide_eq_false (fun k => h (k.2.2 t ht)))
  have hn1 : (m : Int) ≤ 256 := by omega
  clear hl hs hm h1 h2 h3
  go_enter Try.func97, Try.ntmps97
  go_wp2_with fail
  go_loopw [5] (fun s wr => ∃ i : Nat, s = .int .i64 i ∧ i ≤ m ∧ w = wr ∧ Hid (∀ t ∈ l.take i, OkNd n t)) (fun s _ => m - (RowKit.intOf s).toNat)
  case atStart => exact ⟨0, rfl, by omega, rfl, Lib.hid (fun t h => by simp at h)⟩
  case round =>
    obtain ⟨i, rfl, hi, rfl, HI⟩ := hrel
    have hi0 : (0 : Int) ≤ (i : Int) := by omega
    by_cases hlt : i < m
    · have hlt2 : (i : Int) < (m : Int) := by omega
      obtain ⟨g, off, t, rfl, ht, q0, q1⟩ := HT.out w i (Below.refl _ _) (by rw [HL.out]; exact hlt)
      by_cases c1 : t.a < 1
      · have HF := Lib.hid (HN.out t (List.mem_of_getElem? ht.out) (fun h => by have := h.1.1; omega))
        have e1 : decide (t.a < 1) = true := decide_eq_true c1
        clear c1
        go_wp2_with fail
        go_ret
        exact ⟨by rw [HF.out]; rfl, rfl⟩
      have e1 : decide (t.a < 1) = false := decide_eq_false c1
      by_cases c2 : n < t.a
      · have HF := Lib.hid (HN.out t (List.mem_of_getElem? ht.out) (fun h => by have := h.1.2; omega))
        have e2 : decide (n < t.a) = true := decide_eq_true c2
        clear c1 c2
        go_wp2_with fail
        go_ret
        exact ⟨by rw [HF.out]; rfl, rfl⟩
      have e2 : decide (n < t.a) = false := decide_eq_false c2
      by_cases c3 : t.b < 1
      · have HF := Lib.hid (HN.out t (List.mem_of_getElem? ht.out) (fun h => by have := h.2.1; omega))
        have e3 : decide (t.b < 1) = true := decide_eq_true c3
        clear c1 c2 c3
        go_wp2_with fail
        go_ret
        exact ⟨by rw [HF.out]; rfl, rfl⟩
      have e3 : decide (t.b < 1) = false := decide_eq_false c3
      by_cases c4 : n < t.b
      · have HF := Lib.hid (HN.out t (List.mem_of_getElem? ht.out) (fun h => by have := h.2.2; omega))
        have e4 : decide (n < t.b) = true := decide_eq_true c4
        clear c1 c2 c3 c4
        go_wp2_with fail
        go_ret
        exact ⟨by rw [HF.out]; rfl, rfl⟩
      have e4 : decide (n < t.b) = false := decide_eq_false c4
      have HF : Hid (∀ x ∈ l.take (i + 1), OkNd n x) := Lib.hid (fun x hx => by
        rcases (mem_take_succ ht.out).1 hx with hx | rfl
        · exact HI.out x hx
        · exact ⟨⟨by omega, by omega⟩, by omega, by omega⟩)
      clear c1 c2 c3 c4
      go_wp2_with fail
      go_roundw
      case rel => exact ⟨i + 1, by go_num, by omega, by first | rfl | trivial, HF⟩
      case measure => simp [RowKit.intOf]; omega
    · obtain rfl : i = m := by omega
      have HF := Lib.hid (HM.out (by
        have := HI.out
        rw [List.take_of_length_le (by rw [HL.out]; exact Nat.le_refl _)] at this
        exact this))
      go_wp2_with fail
      go_ret
      exact ⟨by rw [HF.out]; rfl, rfl⟩
end Go.Proofs.Ytdbhdlgoecpeaaa.Graph
namespace Go.Proofs.Ytdbhdlgoecpeaaa.Graph
open Go.RowKit Go.Lib IRows

def lenV : Value → Nat
  | .slice _ n _ => n
  | _ => 0
open Classical in
set_option maxRecDepth 100000 in
set_option maxHeartbeats 8000000 in
theorem dorder (n : Int) (a : Option Addr) (m c : Nat) (l : List Nd) (w : World) (hl : l.length = m) (hs : Nds w a l) (hm : m ≤ 1048576) :
    Calls Try.prog 84 #[.int .i64 n, .slice a m c] w fun e w' => ∃ a' m' c', e = .returned (.tuple #[.slice a' m' c', .int .i64 (ordE n l)]) ∧ Hid ((ordV n l).length = m' ∧ KS w' w.heap.size (.slice a' m' c') (ordV n l) ∧ Below w.heap.size w w') := by
  have HY := dmay n a m c l w hl hs hm
  by_cases hok : May n l
  case neg =>
    obtain ⟨e1, e2⟩ := ord_arg hok
    rw [decide_eq_false hok] at HY
    have HM := Lib.hid HY
    have HE : Hid ((ordV n l).length = 0 ∧ KS w w.heap.size (.slice none 0 0) (ordV n l) ∧ Below w.heap.size w w) := Lib.hid (by rw [e2]; exact ⟨rfl, ks_nil _ _, Below.refl _ _⟩)
    rw [e1]
    clear hl hs hm HY hok e1 e2
    go_enter Try.func84, Try.ntmps84
    go_wp2_with fail
    refine HM.out.mono ?_
    rintro e w' ⟨rfl, rfl⟩
    go_wp2_with fail
    go_ret2
    exact ⟨none, 0, 0, rfl, HE⟩
  rw [decide_eq_true hok] at HY
  have HM := Lib.hid HY
  have HOK := Lib.hid hok
  obtain ⟨N, rfl⟩ := Int.eq_ofNat_of_zero_le hok.1.1
  have hN : N ≤ 64 := by have := hok.1.2; omega
  have hN2 : (N : Int) ≤ 64 := by omega
  have HL := Lib.hid hl
  have HT := nds_at hs
  have hm1 : (m : Int) ≤ 256 := by have := hok.2.1; omega
  have H0 : Hid (KS w w.heap.size (.slice none 0 0) []) := Lib.hid (ks_nil _ _)
  have HNT : Hid (((N : Int)).toNat = N) := Lib.hid (by omega)
  clear hl hs hm HY hok
  go_enter Try.func84, Try.ntmps84
  go_wp2_with fail
  refine HM.out.mono ?_
  rintro e w' ⟨rfl, rfl⟩
  go_wp2_with fail
  go_loopw [6] (fun v wr => ∃ (a1 : Option Addr) (j c1 : Nat) (out : List Int), v = .slice a1 j c1 ∧ j ≤ N ∧ Hid (out.length = j ∧ KS wr w.heap.size (.slice a1 j c1) out) ∧ Hid (Below w.heap.size w wr) ∧ Hid (ordF N l (N - j) out = ordF N l N [])) (fun v _ => N - lenV v)
  case atStart => exact ⟨none, 0, 0, [], rfl, by omega, Lib.hid ⟨rfl, H0.out⟩, Lib.hid (Below.refl _ _), Lib.hid rfl⟩
  case round =>
    clear H0
    obtain ⟨a1, j, c1, out, rfl, hj, HO, HB, HF⟩ := hrel
    have hj0 : (j : Int) ≤ 64 := by omega
    by_cases hlt : j < N
    · have d1 : decide ((j : Int) < (N : Int)) = true := decide_eq_true (by omega)
      have hlt2 : (j : Int) < (N : Int) := by omega
      have HIN : Hid (∀ k, ∃ t : Bool, Hid (Calls Try.prog 98 #[.slice a1 j c1, .int .i64 k] wr fun e w' => e = .returned (.bool t) ∧ wr = w') ∧ Hid (t = true ↔ k ∈ out)) := Lib.hid (fun k => by
        obtain ⟨a2, c2, e, hr⟩ := irow_own (by have := HO.out.2; exact this)
        injection e with e1 e2 e3
        subst e1
        exact in_at k HO.out.1 hr (by omega))
      go_wp2_with fail
      go_loopw [7, 8] (fun s t wr' => ∃ q : Nat, s = .int .i64 (nx N l out q) ∧ t = .int .i64 ((N : Int) - q) ∧ q ≤ N ∧ wr = wr') (fun _ t _ => (RowKit.intOf t).toNat)
      case atStart => exact ⟨0, rfl, by simp, by omega, rfl⟩
      case round =>
        obtain ⟨q, rfl, rfl, hq, rfl⟩ := hrel
        by_cases hql : q < N
        · obtain ⟨k, hk⟩ : ∃ k, (N : Int) - q = k := ⟨_, rfl⟩
          have hk1 : 1 ≤ k := by omega
          have hk2 : k ≤ 64 := by omega
          have d2 : decide (1 ≤ k) = true := decide_eq_true hk1
          have HK := Lib.hid hk
          obtain ⟨t0, HI0, E0⟩ := HIN.out k
          have wk : IntKind.i64.wrap (k - 1) = k - 1 := IntWalk.i64_in _ (by omega)
          obtain ⟨x, hx⟩ : ∃ x, nx N l out q = x := ⟨_, rfl⟩
          have HX := Lib.hid hx
          rw [hk, hx]
          clear hk hx
          go_wp2_with fail
          refine HI0.out.mono ?_
          rintro e w' ⟨rfl, rfl⟩
          go_wp2_with fail
          go_loopw [9, 10] (fun s t wr'' => ∃ (i : Nat) (rd : Bool), s = .bool rd ∧ t = .int .i64 (i : Int) ∧ i ≤ m ∧ wr = wr'' ∧ Hid (rd = true ↔ (k ∉ out ∧ ∀ t ∈ l.take i, t.a = k → t.b ∈ out))) (fun _ t _ => m - (RowKit.intOf t).toNat)
          case atStart => exact ⟨0, !t0, rfl, rfl, by omega, rfl, Lib.hid (by
            have := E0.out
            cases t0 <;> simp_all)⟩
          case round =>
            obtain ⟨i, rd, rfl, rfl, hi, rfl, HR⟩ := hrel
            have hi0 : (0 : Int) ≤ (i : Int) := by omega
            by_cases hil : i < m
            · have hil2 : (i : Int) < (m : Int) := by omega
              obtain ⟨g, off, t, rfl, ht, z0, z1⟩ := HT.out wr i HB.out (by rw [HL.out]; exact hil)
              have wi : IntKind.i64.wrap ((i : Int) + 1) = (i : Int) + 1 := IntWalk.i64_in _ (by omega)
              cases rd
              · have HR2 : Hid (false = true ↔ (k ∉ out ∧ ∀ t ∈ l.take (i + 1), t.a = k → t.b ∈ out)) := Lib.hid ⟨fun h => (by cases h), fun h => HR.out.2 ⟨h.1, fun u hu => h.2 u ((mem_take_succ ht.out).2 (.inl hu))⟩⟩
                go_wp2_with fail
                go_roundw
                case rel => exact ⟨i + 1, false, rfl, by go_num, by omega, by first | rfl | trivial, HR2⟩
                case measure => simp [RowKit.intOf]; omega
              · by_cases ca : t.a = k
                · obtain ⟨tb, HIB, EB⟩ := HIN.out t.b
                  have ca2 : (t.a != k) = false := by simpa using ca
                  have ca3 : (t.a == k) = true := by simpa using ca
                  have HR2 : Hid (tb = true ↔ (k ∉ out ∧ ∀ t ∈ l.take (i + 1), t.a = k → t.b ∈ out)) := Lib.hid ⟨fun h => ⟨(HR.out.1 rfl).1, fun u hu e => by
                    rcases (mem_take_succ ht.out).1 hu with hu | rfl
                    · exact (HR.out.1 rfl).2 u hu e
                    · exact EB.out.1 h⟩, fun h => EB.out.2 (h.2 t ((mem_take_succ ht.out).2 (.inr rfl)) ca)⟩
                  clear ca
                  go_wp2_with fail
                  refine HIB.out.mono ?_
                  rintro e w' ⟨rfl, rfl⟩
                  go_wp2_with fail
                  go_roundw
                  case rel => exact ⟨i + 1, tb, rfl, by go_num, by omega, by first | rfl | trivial, HR2⟩
                  case measure => simp [RowKit.intOf]; omega
                · have ca2 : (t.a != k) = true := by simpa using ca
                  have ca3 : (t.a == k) = false := by simpa using ca
                  have HR2 : Hid (true = true ↔ (k ∉ out ∧ ∀ t ∈ l.take (i + 1), t.a = k → t.b ∈ out)) := Lib.hid ⟨fun _ => ⟨(HR.out.1 rfl).1, fun u hu e => by
                    rcases (mem_take_succ ht.out).1 hu with hu | rfl
                    · exact (HR.out.1 rfl).2 u hu e
                    · exact absurd e ca⟩, fun _ => rfl⟩
                  clear ca
                  go_wp2_with fail
                  go_roundw
                  case rel => exact ⟨i + 1, true, rfl, by go_num, by omega, by first | rfl | trivial, HR2⟩
                  case measure => simp [RowKit.intOf]; omega
            · obtain rfl : i = m := by omega
              have HRD : Hid (rd = true ↔ Ready l out ((N : Int) - q)) := Lib.hid (by
                have := HR.out
                rw [List.take_of_length_le (by rw [HL.out]; exact Nat.le_refl _)] at this
                rw [HK.out]
                exact this)
              cases rd
              · have HN2 : Hid (nx N l out (q + 1) = x) := Lib.hid (by rw [nx_no (fun h => by have := HRD.out.2 h; cases this)]; exact HX.out)
                go_wp2_with fail
                go_roundw
                case rel => exact ⟨q + 1, by rw [HN2.out], by rw [← HK.out]; congr 1; omega, by omega, by first | rfl | trivial⟩
                case measure => simp [RowKit.intOf]; omega
              · have HN2 : Hid (nx N l out (q + 1) = k) := Lib.hid (by rw [nx_yes (HRD.out.1 rfl)]; exact HK.out)
                go_wp2_with fail
                go_roundw
                case rel => exact ⟨q + 1, by rw [HN2.out], by rw [← HK.out]; congr 1; omega, by omega, by first | rfl | trivial⟩
                case measure => simp [RowKit.intOf]; omega
        · obtain rfl : q = N := by omega
          have hz : (q : Int) - (q : Int) = 0 := by omega
          rw [hz]
          obtain ⟨x, hx⟩ : ∃ x, nx q l out q = x := ⟨_, rfl⟩
          have HX : Hid (nx (q : Int) l out ((q : Int)).toNat = x) := Lib.hid (by rw [HNT.out]; exact hx)
          rw [hx]
          clear hx
          obtain ⟨r, hr⟩ : ∃ r, q - j = r + 1 := ⟨q - j - 1, by omega⟩
          by_cases hx0 : x = 0
          · subst hx0
            have HE := Lib.hid (ord_none HOK.out (by rw [HNT.out, ← HF.out, hr]; exact ordF_none HX.out))
            have HE2 : Hid ((ordV q l).length = 0 ∧ KS wr w.heap.size (.slice none 0 0) (ordV q l) ∧ Below w.heap.size w wr) := Lib.hid (by rw [HE.out.2]; exact ⟨rfl, ks_nil _ _, HB.out⟩)
            go_wp2_with fail
            go_ret2
            exact ⟨none, 0, 0, by rw [HE.out.1]; rfl, HE2⟩
          · have hx1 : (x == 0) = false := by simpa using hx0
            have HF2 : Hid (ordF q l (q - (j + 1)) (out ++ [x]) = ordF q l q []) := Lib.hid (by
              have h := HF.out
              rw [hr, ordF_more (by rw [HX.out]; exact hx0), HX.out] at h
              rw [show q - (j + 1) = r by omega]
              exact h)
            obtain ⟨g, cap, W3, hrun, ho3, hb3, _⟩ := app_int wr w.heap.size (.slice a1 j c1) out x (by have := HO.out.2; rw [← HO.out.1] at this; simpa [HO.out.1] using this) (by have := HO.out.1; omega) HB.out.size
            rw [HO.out.1] at hrun ho3
            have HRUN := Lib.hid hrun
            have HO3 : Hid ((out ++ [x]).length = j + 1 ∧ KS W3 w.heap.size (.slice (some ⟨g, 0, none⟩) (j + 1) cap) (out ++ [x])) := Lib.hid ⟨by rw [List.length_append, HO.out.1]; rfl, ho3⟩
            have HB3 : Hid (Below w.heap.size w W3) := Lib.hid (HB.out.trans hb3)
            clear hrun ho3 hb3 hx0
            go_wp2_with (at_builtin; refine walk_run (v' := .slice (some ⟨g, 0, none⟩) (j + 1) cap) (w' := W3) rfl _ _ _ _ rfl _ _ rfl rfl HRUN.out ?_)
            go_roundw
            case rel => exact ⟨some ⟨g, 0, none⟩, j + 1, cap, out ++ [x], by first | rfl | (congr 1), by omega, HO3, HB3, HF2⟩
            case measure => simp [lenV]; omega
    · obtain rfl : j = N := by omega
      have HE := Lib.hid (ord_some HOK.out (k := out) (by
        rw [HNT.out, ← HF.out, Nat.sub_self]
        rfl))
      have HE2 : Hid ((ordV j l).length = j ∧ KS wr w.heap.size (.slice a1 j c1) (ordV j l) ∧ Below w.heap.size w wr) := Lib.hid (by rw [HE.out.2]; exact ⟨HO.out.1, HO.out.2, HB.out⟩)
      go_wp2_with fail
      go_ret2
      exact ⟨a1, j, c1, by rw [HE.out.1]; rfl, HE2⟩
end Go.Proofs.Ytdbhdlgoecpeaaa.Graph
namespace Go.Proofs.Ytdbhdlgoecpeaaa.Graph
open Go.RowKit Go.Lib IRows

/-- One more number at a row's end, as walks want it. -/
theorem app1 {wr : World} {B : Nat} {a1 : Option Addr} {j c1 : Nat} {out : List Int} (x : Int) (hl : out.length = j) (h : KS wr B (.slice a1 j c1) out) (hj : j ≤ 1099511627776) (hB : B ≤ wr.heap.size) :
    ∃ a3 c3 W3, Hid ((Builtin.append_ #[29, 29] 29 #[.slice a1 j c1, .slice (some ⟨wr.heap.size, 0, none⟩) 1 1]).run Try.prog (wr.alloc (.cells #[.int .i64 x] 3)) = .ok (.slice a3 (j + 1) c3) W3) ∧ (out ++ [x]).length = j + 1 ∧ KS W3 B (.slice a3 (j + 1) c3) (out ++ [x]) ∧ Below B wr W3 := by
  subst hl
  obtain ⟨g, cap, W3, hrun, ho3, hb3, _⟩ := app_int wr B (.slice a1 out.length c1) out x h hj hB
  exact ⟨_, _, W3, Lib.hid hrun, by simp, ho3, hb3⟩
theorem in_own {wr : World} {B : Nat} {a1 : Option Addr} {j c1 : Nat} {out : List Int} (hl : out.length = j) (h : KS wr B (.slice a1 j c1) out) (hj : j ≤ 1048576) (k : Int) :
    ∃ t : Bool, Hid (Calls Try.prog 98 #[.slice a1 j c1, .int .i64 k] wr fun e w' => e = .returned (.bool t) ∧ wr = w') ∧ Hid (t = true ↔ k ∈ out) := by
  obtain ⟨a2, c2, e, hr⟩ := irow_own h
  injection e with e1 e2 e3
  subst e1
  exact in_at k hl hr hj
end Go.Proofs.Ytdbhdlgoecpeaaa.Graph
