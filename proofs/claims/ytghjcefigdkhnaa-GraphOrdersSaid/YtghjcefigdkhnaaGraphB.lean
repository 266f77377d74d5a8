/- The document's Order. -/
import Derived.Test.YtghjcefigdkhnaaGraphA
import Derived.Test.YtghjcefigdkhnaaAppend
namespace Go.Proofs.Ytghjcefigdkhnaa.Graph
open Go.RowKit Go.Lib IRows

def lenV : Value → Nat
  | .slice _ n _ => n
  | _ => 0
open Classical in
set_option maxRecDepth 100000 in
set_option maxHeartbeats 8000000 in
theorem dorder (n : Int) (a : Option Addr) (m c : Nat) (l : List Nd) (w : World) (hl : l.length = m) (hs : Nds w a l) (hm : m ≤ 1048576) :
    Calls Try.prog 9 #[.int .i64 n, .slice a m c] w fun e w' => ∃ a' m' c', e = .returned (.tuple #[.slice a' m' c', .int .i64 (ordE n l)]) ∧ Hid ((ordV n l).length = m' ∧ KS w' w.heap.size (.slice a' m' c') (ordV n l) ∧ Below w.heap.size w w') := by
  have HY := dmay n a m c l w hl hs hm
  by_cases hok : May n l
  case neg =>
    obtain ⟨e1, e2⟩ := ord_arg hok
    rw [decide_eq_false hok] at HY
    have HM := Lib.hid HY
    have HE : Hid ((ordV n l).length = 0 ∧ KS w w.heap.size (.slice none 0 0) (ordV n l) ∧ Below w.heap.size w w) := Lib.hid (by rw [e2]; exact ⟨rfl, ks_nil _ _, Below.refl _ _⟩)
    rw [e1]
    clear hl hs hm HY hok e1 e2
    go_enter Try.func9, Try.ntmps9
    go_wp2_with fail
    refine HM.out.mono ?_
    rintro e w' ⟨rfl, rfl⟩
    go_wp2_with fail
    go_ret2
    exact ⟨none, 0, 0, rfl, HE⟩
  rw [decide_eq_true hok] at HY
  have HM := Lib.hid HY
  have HOK := Lib.hid hok
  obtain ⟨N, rfl⟩ := Int.eq_ofNat_of_zero_le hok.1.1
  have hN : N ≤ 64 := by have := hok.1.2; omega
  have hN2 : (N : Int) ≤ 64 := by omega
  have HL := Lib.hid hl
  have HT := nds_at hs
  have hm1 : (m : Int) ≤ 256 := by have := hok.2.1; omega
  have H0 : Hid (KS w w.heap.size (.slice none 0 0) []) := Lib.hid (ks_nil _ _)
  have HNT : Hid (((N : Int)).toNat = N) := Lib.hid (by omega)
  clear hl hs hm HY hok
  go_enter Try.func9, Try.ntmps9
  go_wp2_with fail
  refine HM.out.mono ?_
  rintro e w' ⟨rfl, rfl⟩
  go_wp2_with fail
  go_loopw [6] (fun v wr => ∃ (a1 : Option Addr) (j c1 : Nat) (out : List Int), v = .slice a1 j c1 ∧ j ≤ N ∧ Hid (out.length = j ∧ KS wr w.heap.size (.slice a1 j c1) out) ∧ Hid (Below w.heap.size w wr) ∧ Hid (ordF N l (N - j) out = ordF N l N [])) (fun v _ => N - lenV v)
  case atStart => exact ⟨none, 0, 0, [], rfl, by omega, Lib.hid ⟨rfl, H0.out⟩, Lib.hid (Below.refl _ _), Lib.hid rfl⟩
  case round =>
    clear H0
    obtain ⟨a1, j, c1, out, rfl, hj, HO, HB, HF⟩ := hrel
    have hj0 : (j : Int) ≤ 64 := by omega
    by_cases hlt : j < N
    · have d1 : decide ((j : Int) < (N : Int)) = true := decide_eq_true (by omega)
      have hlt2 : (j : Int) < (N : Int) := by omega
      have HIN : Hid (∀ k, ∃ t : Bool, Hid (Calls Try.prog 20 #[.slice a1 j c1, .int .i64 k] wr fun e w' => e = .returned (.bool t) ∧ wr = w') ∧ Hid (t = true ↔ k ∈ out)) := Lib.hid (fun k => by
        obtain ⟨a2, c2, e, hr⟩ := irow_own (by have := HO.out.2; exact this)
        injection e with e1 e2 e3
        subst e1
        exact in_at k HO.out.1 hr (by omega))
      go_wp2_with fail
      go_loopw [7, 8] (fun s t wr' => ∃ q : Nat, s = .int .i64 (nx N l out q) ∧ t = .int .i64 ((N : Int) - q) ∧ q ≤ N ∧ wr = wr') (fun _ t _ => (RowKit.intOf t).toNat)
      case atStart => exact ⟨0, rfl, by simp, by omega, rfl⟩
      case round =>
        obtain ⟨q, rfl, rfl, hq, rfl⟩ := hrel
        by_cases hql : q < N
        · obtain ⟨k, hk⟩ : ∃ k, (N : Int) - q = k := ⟨_, rfl⟩
          have hk1 : 1 ≤ k := by omega
          have hk2 : k ≤ 64 := by omega
          have d2 : decide (1 ≤ k) = true := decide_eq_true hk1
          have HK := Lib.hid hk
          obtain ⟨t0, HI0, E0⟩ := HIN.out k
          have wk : IntKind.i64.wrap (k - 1) = k - 1 := IntWalk.i64_in _ (by omega)
          obtain ⟨x, hx⟩ : ∃ x, nx N l out q = x := ⟨_, rfl⟩
          have HX := Lib.hid hx
          rw [hk, hx]
          clear hk hx
          go_wp2_with fail
          refine HI0.out.mono ?_
          rintro e w' ⟨rfl, rfl⟩
          go_wp2_with fail
          go_loopw [9, 10] (fun s t wr'' => ∃ (i : Nat) (rd : Bool), s = .bool rd ∧ t = .int .i64 (i : Int) ∧ i ≤ m ∧ wr = wr'' ∧ Hid (rd = true ↔ (k ∉ out ∧ ∀ t ∈ l.take i, t.a = k → t.b ∈ out))) (fun _ t _ => m - (RowKit.intOf t).toNat)
          case atStart => exact ⟨0, !t0, rfl, rfl, by omega, rfl, Lib.hid (by
            have := E0.out
            cases t0 <;> simp_all)⟩
          case round =>
            obtain ⟨i, rd, rfl, rfl, hi, rfl, HR⟩ := hrel
            have hi0 : (0 : Int) ≤ (i : Int) := by omega
            by_cases hil : i < m
            · have hil2 : (i : Int) < (m : Int) := by omega
              obtain ⟨g, off, t, rfl, ht, z0, z1⟩ := HT.out wr i HB.out (by rw [HL.out]; exact hil)
              have wi : IntKind.i64.wrap ((i : Int) + 1) = (i : Int) + 1 := IntWalk.i64_in _ (by omega)
              cases rd
              · have HR2 : Hid (false = true ↔ (k ∉ out ∧ ∀ t ∈ l.take (i + 1), t.a = k → t.b ∈ out)) := Lib.hid ⟨fun h => (by cases h), fun h => HR.out.2 ⟨h.1, fun u hu => h.2 u ((mem_take_succ ht.out).2 (.inl hu))⟩⟩
                go_wp2_with fail
                go_roundw
                case rel => exact ⟨i + 1, false, rfl, by go_num, by omega, by first | rfl | trivial, HR2⟩
                case measure => simp [RowKit.intOf]; omega
              · by_cases ca : t.a = k
                · obtain ⟨tb, HIB, EB⟩ := HIN.out t.b
                  have ca2 : (t.a != k) = false := by simpa using ca
                  have ca3 : (t.a == k) = true := by simpa using ca
                  have HR2 : Hid (tb = true ↔ (k ∉ out ∧ ∀ t ∈ l.take (i + 1), t.a = k → t.b ∈ out)) := Lib.hid ⟨fun h => ⟨(HR.out.1 rfl).1, fun u hu e => by
                    rcases (mem_take_succ ht.out).1 hu with hu | rfl
                    · exact (HR.out.1 rfl).2 u hu e
                    · exact EB.out.1 h⟩, fun h => EB.out.2 (h.2 t ((mem_take_succ ht.out).2 (.inr rfl)) ca)⟩
                  clear ca
                  go_wp2_with fail
                  refine HIB.out.mono ?_
                  rintro e w' ⟨rfl, rfl⟩
                  go_wp2_with fail
                  go_roundw
                  case rel => exact ⟨i + 1, tb, rfl, by go_num, by omega, by first | rfl | trivial, HR2⟩
                  case measure => simp [RowKit.intOf]; omega
                · have ca2 : (t.a != k) = true := by simpa using ca
                  have ca3 : (t.a == k) = false := by simpa using ca
                  have HR2 : Hid (true = true ↔ (k ∉ out ∧ ∀ t ∈ l.take (i + 1), t.a = k → t.b ∈ out)) := Lib.hid ⟨fun _ => ⟨(HR.out.1 rfl).1, fun u hu e => by
                    rcases (mem_take_succ ht.out).1 hu with hu | rfl
                    · exact (HR.out.1 rfl).2 u hu e
                    · exact absurd e ca⟩, fun _ => rfl⟩
                  clear ca
                  go_wp2_with fail
                  go_roundw
                  case rel => exact ⟨i + 1, true, rfl, by go_num, by omega, by first | rfl | trivial, HR2⟩
                  case measure => simp [RowKit.intOf]; omega
            · obtain rfl : i = m := by omega
              have HRD : Hid (rd = true ↔ Ready l out ((N : Int) - q)) := Lib.hid (by
                have := HR.out
                rw [List.take_of_length_le (by rw [HL.out]; exact Nat.le_refl _)] at this
                rw [HK.out]
                exact this)
              cases rd
              · have HN2 : Hid (nx N l out (q + 1) = x) := Lib.hid (by rw [nx_no (fun h => by have := HRD.out.2 h; cases this)]; exact HX.out)
                go_wp2_with fail
                go_roundw
                case rel => exact ⟨q + 1, by rw [HN2.out], by rw [← HK.out]; congr 1; omega, by omega, by first | rfl | trivial⟩
                case measure => simp [RowKit.intOf]; omega
              · have HN2 : Hid (nx N l out (q + 1) = k) := Lib.hid (by rw [nx_yes (HRD.out.1 rfl)]; exact HK.out)
                go_wp2_with fail
                go_roundw
                case rel => exact ⟨q + 1, by rw [HN2.out], by rw [← HK.out]; congr 1; omega, by omega, by first | rfl | trivial⟩
                case measure => simp [RowKit.intOf]; omega
        · obtain rfl : q = N := by omega
          have hz : (q : Int) - (q : Int) = 0 := by omega
          rw [hz]
          obtain ⟨x, hx⟩ : ∃ x, nx q l out q = x := ⟨_, rfl⟩
          have HX : Hid (nx (q : Int) l out ((q : Int)).toNat = x) := Lib.hid (by rw [HNT.out]; exact hx)
          rw [hx]
          clear hx
          obtain ⟨r, hr⟩ : ∃ r, q - j = r + 1 := ⟨q - j - 1, by omega⟩
          by_cases hx0 : x = 0
          · subst hx0
            have HE := Lib.hid (ord_none HOK.out (by rw [HNT.out, ← HF.out, hr]; exact ordF_none HX.out))
            have HE2 : Hid ((ordV q l).length = 0 ∧ KS wr w.heap.size (.slice none 0 0) (ordV q l) ∧ Below w.heap.size w wr) := Lib.hid (by rw [HE.out.2]; exact ⟨rfl, ks_nil _ _, HB.out⟩)
            go_wp2_with fail
            go_ret2
            exact ⟨none, 0, 0, by rw [HE.out.1]; rfl, HE2⟩
          · have hx1 : (x == 0) = false := by simpa using hx0
            have HF2 : Hid (ordF q l (q - (j + 1)) (out ++ [x]) = ordF q l q []) := Lib.hid (by
              have h := HF.out
              rw [hr, ordF_more (by rw [HX.out]; exact hx0), HX.out] at h
              rw [show q - (j + 1) = r by omega]
              exact h)
            obtain ⟨g, cap, W3, hrun, ho3, hb3, _⟩ := app_int wr w.heap.size (.slice a1 j c1) out x (by have := HO.out.2; rw [← HO.out.1] at this; simpa [HO.out.1] using this) (by have := HO.out.1; omega) HB.out.size
            rw [HO.out.1] at hrun ho3
            have HRUN := Lib.hid hrun
            have HO3 : Hid ((out ++ [x]).length = j + 1 ∧ KS W3 w.heap.size (.slice (some ⟨g, 0, none⟩) (j + 1) cap) (out ++ [x])) := Lib.hid ⟨by rw [List.length_append, HO.out.1]; rfl, ho3⟩
            have HB3 : Hid (Below w.heap.size w W3) := Lib.hid (HB.out.trans hb3)
            clear hrun ho3 hb3 hx0
            go_wp2_with (at_builtin; refine walk_run (v' := .slice (some ⟨g, 0, none⟩) (j + 1) cap) (w' := W3) rfl _ _ _ _ rfl _ _ rfl rfl HRUN.out ?_)
            go_roundw
            case rel => exact ⟨some ⟨g, 0, none⟩, j + 1, cap, out ++ [x], by first | rfl | (congr 1), by omega, HO3, HB3, HF2⟩
            case measure => simp [lenV]; omega
    · obtain rfl : j = N := by omega
      have HE := Lib.hid (ord_some HOK.out (k := out) (by
        rw [HNT.out, ← HF.out, Nat.sub_self]
        rfl))
      have HE2 : Hid ((ordV j l).length = j ∧ KS wr w.heap.size (.slice a1 j c1) (ordV j l) ∧ Below w.heap.size w wr) := Lib.hid (by rw [HE.out.2]; exact ⟨HO.out.1, HO.out.2, HB.out⟩)
      go_wp2_with fail
      go_ret2
      exact ⟨a1, j, c1, by rw [HE.out.1]; rfl, HE2⟩
end Go.Proofs.Ytghjcefigdkhnaa.Graph
