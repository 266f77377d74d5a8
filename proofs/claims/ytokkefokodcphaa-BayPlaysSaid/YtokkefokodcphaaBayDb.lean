/- The document's put and without; numbers appended. -/
import Derived.Test.YtokkefokodcphaaBayDn
namespace Go.Proofs.Ytokkefokodcphaa.Bay
open Go.RowKit Go.Lib IRows

theorem ks_len {w : World} {B : Nat} {a : Option Addr} {m c : Nat} {xs : List Int} (h : KS w B (.slice a m c) xs) : xs.length = m := by
  obtain ⟨a', c', e, _⟩ := h.at
  injection e with _ e _
  exact e.symm
theorem ks_app (w : World) {B : Nat} {a : Option Addr} {m c : Nat} {xs : List Int} (x : Int) (h : KS w B (.slice a m c) xs) (hl : m ≤ 100000) (hB : B ≤ w.heap.size) :
    ∃ a' c' w', (Builtin.append_ #[52, 52] 52 #[.slice a m c, .slice (some ⟨w.heap.size, 0, none⟩) 1 1]).run Try.prog (w.alloc (.cells #[.int .i64 x] 3)) = .ok (.slice a' (m + 1) c') w' ∧ KS w' B (.slice a' (m + 1) c') (xs ++ [x]) ∧ Below B w w' := by
  have hm := ks_len h
  obtain ⟨g, cap, w', hr, h2, h3, _⟩ := app_int w B (.slice a m c) xs x h (by omega) hB
  rw [hm] at hr h2
  exact ⟨_, _, w', hr, h2, h3⟩
theorem ins_append_done : ∀ {a : List Int} {b : List Int} {j : Int}, (∃ x ∈ a, j < x) → ins (a ++ b) j = ins a j ++ b
  | [], b, j, h => by obtain ⟨x, hx, _⟩ := h; cases hx
  | y :: a, b, j, h => by
    rw [List.cons_append]
    unfold ins
    by_cases c : j < y
    · rw [if_pos c, if_pos c]; rfl
    · rw [if_neg c, if_neg c, ins_append_done (a := a) (by
        obtain ⟨x, hx, h2⟩ := h
        rcases List.mem_cons.1 hx with rfl | hx
        · exact absurd h2 c
        · exact ⟨x, hx, h2⟩)]
      rfl
theorem ins_append_not : ∀ {a : List Int} {b : List Int} {j : Int}, (∀ x ∈ a, ¬ j < x) → ins (a ++ b) j = a ++ ins b j
  | [], b, j, _ => rfl
  | y :: a, b, j, h => by
    rw [List.cons_append]
    show (if j < y then _ else _) = _
    rw [if_neg (h y (List.mem_cons_self ..)), ins_append_not (a := a) (fun x hx => h x (List.mem_cons_of_mem _ hx))]
    rfl
/-- What put has so far. -/
def putP (l : List Int) (x : Int) (i : Nat) (d : Bool) : List Int := if d then ins (l.take i) x else l.take i
def PutI (l : List Int) (x : Int) (i : Nat) (d : Bool) : Prop := if d then ∃ y ∈ l.take i, x < y else ∀ y ∈ l.take i, ¬ x < y
set_option maxRecDepth 100000 in
set_option maxHeartbeats 1000000 in
theorem dput_im (a : Option Addr) (n c : Nat) (l : List Int) (x : Int) (w : World) (hl : l.length = n) (hs : IRow w a l) (hn : n ≤ 1000) :
    Calls Try.prog 43 #[.slice a n c, .int .i64 x] w fun e w' => ∃ a' c', e = .returned (.slice a' (n + 1) c') ∧ Hid (KS w' w.heap.size (.slice a' (n + 1) c') (ins l x) ∧ Below w.heap.size w w') := by
  have HC := irow_at hs
  have HL := Lib.hid hl
  have hn1 : (n : Int) ≤ 1000 := by omega
  have hn2 : n ≤ 1000 := hn
  have HT : Hid (l.take n = l) := Lib.hid (List.take_of_length_le (by omega))
  clear hs hn hl
  go_enter Try.func43, Try.ntmps43
  go_wp2_with fail
  go_loopw [5, 6, 7] (fun so sd s wr => ∃ (i : Nat) (d : Bool) (b : Option Addr) (m cc : Nat), s = .int .i64 i ∧ sd = .bool d ∧ so = .slice b m cc ∧ i ≤ n ∧ m ≤ i + 1 ∧ Hid (m = i + (if d then 1 else 0)) ∧ Hid (Below w.heap.size w wr) ∧ Hid (KS wr w.heap.size (.slice b m cc) (putP l x i d)) ∧ Hid (PutI l x i d)) (fun _ _ s _ => n - (RowKit.intOf s).toNat)
  case atStart => exact ⟨0, false, none, 0, 0, rfl, rfl, rfl, by omega, by omega, Lib.hid rfl, Lib.hid (Below.refl _ _), Lib.hid (ks_nil _ _), Lib.hid (fun y hy => by simp at hy)⟩
  case round =>
    obtain ⟨i, d, b, m, cc, rfl, rfl, rfl, hi, hm, HM, HB, HK, HI⟩ := hrel
    have hi0 : (0 : Int) ≤ (i : Int) := by omega
    by_cases hlt : i < n
    · have hlt2 : (i : Int) < (n : Int) := by omega
      obtain ⟨g, off, y, rfl, hy, q0⟩ := HC.out wr i HB.out (by rw [HL.out]; exact hlt)
      have ht : l.take (i + 1) = l.take i ++ [y] := by rw [List.take_add_one, hy.out]; rfl
      have HTK := Lib.hid ht
      clear ht
      cases d with
      | true =>
        obtain ⟨a', c', W', hr, h2, h3⟩ := ks_app wr y HK.out (by omega) HB.out.size
        have HR := Lib.hid hr
        have HK2 : Hid (KS W' w.heap.size (.slice a' (m + 1) c') (putP l x (i + 1) true)) := Lib.hid (by
          have e : putP l x (i + 1) true = putP l x i true ++ [y] := by
            show ins (l.take (i + 1)) x = ins (l.take i) x ++ [y]
            rw [HTK.out]
            exact ins_append_done HI.out
          rw [e]
          exact h2)
        have HI2 : Hid (PutI l x (i + 1) true) := Lib.hid (by
          obtain ⟨z, hz, h4⟩ := HI.out
          exact ⟨z, by rw [HTK.out]; exact List.mem_append_left _ hz, h4⟩)
        have HB2 := Lib.hid (HB.out.trans h3)
        have HM2 : Hid (m + 1 = i + 1 + (if true then 1 else 0)) := Lib.hid (by have := HM.out; simp at this ⊢; omega)
        have hm2 : m + 1 ≤ i + 1 + 1 := by omega
        clear hr h2 h3
        go_wp2_with (at_builtin; refine walk_run rfl _ _ _ _ rfl _ _ rfl rfl HR.out ?_)
        go_roundw
        case rel => exact ⟨i + 1, true, a', m + 1, c', by go_num, rfl, rfl, by omega, hm2, HM2, HB2, HK2, HI2⟩
        case measure => simp [RowKit.intOf]; omega
      | false =>
        by_cases c1 : x < y
        · obtain ⟨a', c', W', hr, h2, h3⟩ := ks_app wr x HK.out (by omega) HB.out.size
          have hB1 := HB.out.trans h3
          obtain ⟨a2, c2, W2, hr2, h4, h5⟩ := ks_app W' y h2 (by omega) hB1.size
          have HR := Lib.hid hr
          have HR2 := Lib.hid hr2
          have e : putP l x (i + 1) true = putP l x i false ++ [x] ++ [y] := by
            show ins (l.take (i + 1)) x = l.take i ++ [x] ++ [y]
            rw [HTK.out, ins_append_not HI.out]
            simp [ins, c1]
          have HK2 : Hid (KS W2 w.heap.size (.slice a2 (m + 1 + 1) c2) (putP l x (i + 1) true)) := Lib.hid (by rw [e]; exact h4)
          have HI2 : Hid (PutI l x (i + 1) true) := Lib.hid ⟨y, by rw [HTK.out]; simp, c1⟩
          have HB2 := Lib.hid (hB1.trans h5)
          have HM2 : Hid (m + 1 + 1 = i + 1 + (if true then 1 else 0)) := Lib.hid (by have := HM.out; simp at this ⊢; omega)
          have hm2 : m + 1 + 1 ≤ i + 1 + 1 := by have := HM.out; simp at this; omega
          obtain ⟨g2, off2, y2, e2, hy2, q1⟩ := HC.out W' i hB1 (by rw [HL.out]; exact hlt)
          have ey : y2 = y := Option.some.inj (hy2.out.symm.trans hy.out)
          cases e2
          rw [ey] at q1
          have dlt : decide (x < y) = true := decide_eq_true c1
          clear hr h2 h3 hr2 h4 h5 hB1 e ey c1 hy2
          go_wp2_with (first | (at_builtin; refine walk_run (v' := .slice a' (m + 1) c') (w' := W') rfl _ _ _ _ rfl _ _ rfl rfl HR.out ?_) | (at_builtin; refine walk_run (v' := .slice a2 (m + 1 + 1) c2) (w' := W2) rfl _ _ _ _ rfl _ _ rfl rfl HR2.out ?_))
          go_roundw
          case rel => exact ⟨i + 1, true, a2, m + 1 + 1, c2, by go_num, rfl, rfl, by omega, hm2, HM2, HB2, HK2, HI2⟩
          case measure => simp [RowKit.intOf]; omega
        · obtain ⟨a', c', W', hr, h2, h3⟩ := ks_app wr y HK.out (by omega) HB.out.size
          have HR := Lib.hid hr
          have HK2 : Hid (KS W' w.heap.size (.slice a' (m + 1) c') (putP l x (i + 1) false)) := Lib.hid (by
            have e : putP l x (i + 1) false = putP l x i false ++ [y] := HTK.out
            rw [e]
            exact h2)
          have HI2 : Hid (PutI l x (i + 1) false) := Lib.hid (fun z hz => by
            rw [HTK.out] at hz
            rcases List.mem_append.1 hz with hz | hz
            · exact HI.out z hz
            · have : z = y := by simpa using hz
              rw [this]
              exact c1)
          have HB2 := Lib.hid (HB.out.trans h3)
          have HM2 : Hid (m + 1 = i + 1 + (if false then 1 else 0)) := Lib.hid (by have := HM.out; simp at this ⊢; omega)
          have hm2 : m + 1 ≤ i + 1 + 1 := by omega
          have dlt : decide (x < y) = false := decide_eq_false c1
          clear hr h2 h3 c1
          go_wp2_with (at_builtin; refine walk_run rfl _ _ _ _ rfl _ _ rfl rfl HR.out ?_)
          go_roundw
          case rel => exact ⟨i + 1, false, a', m + 1, c', by go_num, rfl, rfl, by omega, hm2, HM2, HB2, HK2, HI2⟩
          case measure => simp [RowKit.intOf]; omega
    · obtain rfl : i = n := by omega
      cases d with
      | true =>
        have HE : Hid (m = i + 1 ∧ KS wr w.heap.size (.slice b m cc) (ins l x)) := Lib.hid ⟨by have := HM.out; simpa using this, by
          have := HK.out
          have e : putP l x i true = ins l x := by show ins (l.take i) x = _; rw [HT.out]
          rwa [e] at this⟩
        have hmm := HE.out.1
        subst hmm
        go_wp2_with fail
        go_ret
        exact ⟨b, cc, rfl, Lib.hid ⟨HE.out.2, HB.out⟩⟩
      | false =>
        obtain ⟨a', c', W', hr, h2, h3⟩ := ks_app wr x HK.out (by omega) HB.out.size
        have HR := Lib.hid hr
        have hmm : m = i := by have := HM.out; simpa using this
        have HE : Hid (KS W' w.heap.size (.slice a' (m + 1) c') (ins l x)) := Lib.hid (by
          have e : ins l x = putP l x i false ++ [x] := by
            show ins l x = l.take i ++ [x]
            have h5 := HI.out
            have := ins_append_not (a := l.take i) (b := []) h5
            rw [List.append_nil, HT.out] at this
            rw [HT.out, this]
            rfl
          rw [e]
          exact h2)
        have HB2 := Lib.hid (HB.out.trans h3)
        clear hr h2 h3
        subst hmm
        go_wp2_with (at_builtin; refine walk_run rfl _ _ _ _ rfl _ _ rfl rfl HR.out ?_)
        go_ret
        exact ⟨a', c', rfl, Lib.hid ⟨HE.out, HB2.out⟩⟩
set_option maxRecDepth 100000 in
set_option maxHeartbeats 1000000 in
theorem dwithout_im (a : Option Addr) (n c : Nat) (l : List Int) (x : Int) (w : World) (hl : l.length = n) (hs : IRow w a l) (hn : n ≤ 1000) :
    Calls Try.prog 44 #[.slice a n c, .int .i64 x] w fun e w' => ∃ a' m c', e = .returned (.slice a' m c') ∧ Hid (KS w' w.heap.size (.slice a' m c') (out l x) ∧ Below w.heap.size w w') := by
  have HC := irow_at hs
  have HL := Lib.hid hl
  have hn1 : (n : Int) ≤ 1000 := by omega
  have hn2 : n ≤ 1000 := hn
  have HT : Hid (l.take n = l) := Lib.hid (List.take_of_length_le (by omega))
  clear hs hn hl
  go_enter Try.func44, Try.ntmps44
  go_wp2_with fail
  go_loopw [5, 6] (fun so s wr => ∃ (i : Nat) (b : Option Addr) (m cc : Nat), s = .int .i64 i ∧ so = .slice b m cc ∧ i ≤ n ∧ m ≤ i ∧ Hid (Below w.heap.size w wr) ∧ Hid (KS wr w.heap.size (.slice b m cc) (out (l.take i) x))) (fun _ s _ => n - (RowKit.intOf s).toNat)
  case atStart => exact ⟨0, none, 0, 0, rfl, rfl, by omega, by omega, Lib.hid (Below.refl _ _), Lib.hid (ks_nil _ _)⟩
  case round =>
    obtain ⟨i, b, m, cc, rfl, rfl, hi, hm, HB, HK⟩ := hrel
    have hi0 : (0 : Int) ≤ (i : Int) := by omega
    by_cases hlt : i < n
    · have hlt2 : (i : Int) < (n : Int) := by omega
      obtain ⟨g, off, y, rfl, hy, q0⟩ := HC.out wr i HB.out (by rw [HL.out]; exact hlt)
      have HTK : Hid (out (l.take (i + 1)) x = out (l.take i) x ++ (if y = x then [] else [y])) := Lib.hid (by
        rw [List.take_add_one, hy.out]
        show out (l.take i ++ [y]) x = _
        unfold out
        rw [List.filter_append]
        congr 1
        by_cases e : y = x <;> simp [e])
      by_cases c1 : y = x
      · have HK2 : Hid (KS wr w.heap.size (.slice b m cc) (out (l.take (i + 1)) x)) := Lib.hid (by rw [HTK.out, if_pos c1, List.append_nil]; exact HK.out)
        have d1 : (y != x) = false := by simpa using c1
        have hm2 : m ≤ i + 1 := by omega
        clear c1 HTK
        go_wp2_with fail
        go_roundw
        case rel => exact ⟨i + 1, b, m, cc, by go_num, rfl, by omega, hm2, HB, HK2⟩
        case measure => simp [RowKit.intOf]; omega
      · obtain ⟨a', c', W', hr, h2, h3⟩ := ks_app wr y HK.out (by omega) HB.out.size
        have HR := Lib.hid hr
        have HK2 : Hid (KS W' w.heap.size (.slice a' (m + 1) c') (out (l.take (i + 1)) x)) := Lib.hid (by rw [HTK.out, if_neg c1]; exact h2)
        have HB2 := Lib.hid (HB.out.trans h3)
        have d1 : (y != x) = true := by simpa using c1
        have hm2 : m + 1 ≤ i + 1 := by omega
        clear c1 HTK hr h2 h3
        go_wp2_with (at_builtin; refine walk_run rfl _ _ _ _ rfl _ _ rfl rfl HR.out ?_)
        go_roundw
        case rel => exact ⟨i + 1, a', m + 1, c', by go_num, rfl, by omega, hm2, HB2, HK2⟩
        case measure => simp [RowKit.intOf]; omega
    · obtain rfl : i = n := by omega
      have HE : Hid (KS wr w.heap.size (.slice b m cc) (out l x)) := Lib.hid (by have := HK.out; rwa [HT.out] at this)
      go_wp2_with fail
      go_ret
      exact ⟨b, m, cc, rfl, Lib.hid ⟨HE.out, HB.out⟩⟩
end Go.Proofs.Ytokkefokodcphaa.Bay
