/- The document's set. -/
import Derived.Test.YtkljaaeeocghjaaBinB
import Derived.StillTailTactics
import Derived.Deep.CutRange
namespace Go.Proofs.Ytkljaaeeocghjaa.Bins
open Go.RowKit Go.Lib

def stepS (x : Bn) (n : Int) (s : Bool × List Lt) (a : Lt) : Bool × List Lt :=
  (s.1 || decide (bl x a.b), (if s.1 = false ∧ bl x a.b then s.2 ++ [⟨x, n⟩] else s.2) ++ (if a.b = x then [] else [a]))
def fromS (x : Bn) (n : Int) (l : List Lt) : Bool × List Lt := l.foldl (stepS x n) (decide (n = 0), [])
theorem fold_true (x : Bn) (n : Int) : ∀ (l acc : List Lt), l.foldl (stepS x n) (true, acc) = (true, acc ++ l.filter fun a => decide (a.b ≠ x))
  | [], acc => by simp
  | a :: l, acc => by
    rw [List.foldl_cons]
    have h : stepS x n (true, acc) a = (true, acc ++ if a.b = x then [] else [a]) := by simp [stepS]
    rw [h, fold_true x n l]
    by_cases e : a.b = x
    · simp [e]
    · simp [e]
theorem fold_false (x : Bn) (n : Int) : ∀ (l acc : List Lt), Rise l → l.foldl (stepS x n) (false, acc) = if hi l x = [] then (false, acc ++ lo l x) else (true, acc ++ lo l x ++ [⟨x, n⟩] ++ hi l x)
  | [], acc, _ => by simp [hi, lo]
  | a :: l, acc, hr => by
    obtain ⟨h1, h2⟩ := List.pairwise_cons.1 hr
    rw [List.foldl_cons]
    by_cases c1 : bl x a.b
    · have hs : stepS x n (false, acc) a = (true, acc ++ [⟨x, n⟩] ++ [a]) := by simp [stepS, c1, (bl_ne c1).symm]
      have e1 : lo (a :: l) x = [] := List.filter_eq_nil_iff.2 fun b hb => by
        rcases List.mem_cons.1 hb with rfl | hb
        · simpa using bl_asymm c1
        · simpa using bl_asymm (bl_trans c1 (h1 b hb))
      have e2 : hi (a :: l) x = a :: l := filter_all fun b hb => by
        rcases List.mem_cons.1 hb with rfl | hb
        · simpa using c1
        · simpa using bl_trans c1 (h1 b hb)
      have e3 : (l.filter fun a => decide (a.b ≠ x)) = l := filter_all fun b hb => by simpa using (bl_ne (bl_trans c1 (h1 b hb))).symm
      rw [hs, fold_true, e1, e2, e3, if_neg (by simp)]
      simp
    · by_cases c2 : a.b = x
      · have hs : stepS x n (false, acc) a = (false, acc) := by simp [stepS, c2, bl_irrefl]
        have e1 : lo (a :: l) x = lo l x := by simp [lo, c2, bl_irrefl]
        have e2 : hi (a :: l) x = hi l x := by simp [hi, c2, bl_irrefl]
        rw [hs, fold_false x n l acc h2, e1, e2]
      · have c3 : bl a.b x := by
          by_cases c4 : bl a.b x
          · exact c4
          · exact absurd (bl_tri c4 c2) c1
        have hs : stepS x n (false, acc) a = (false, acc ++ [a]) := by simp [stepS, c1, c2]
        have e1 : lo (a :: l) x = a :: lo l x := by simp [lo, c3]
        have e2 : hi (a :: l) x = hi l x := by simp [hi, c1]
        rw [hs, fold_false x n l _ h2, e1, e2]
        split <;> simp
theorem not_x {l : List Lt} (h : Rise l) (x : Bn) : (l.filter fun a => decide (a.b ≠ x)) = lo l x ++ hi l x := by
  induction l with
  | nil => simp [lo, hi]
  | cons a l ih =>
    obtain ⟨h1, h2⟩ := List.pairwise_cons.1 h
    have ih := ih h2
    by_cases c1 : bl a.b x
    · have e1 : lo (a :: l) x = a :: lo l x := by simp [lo, c1]
      have e2 : hi (a :: l) x = hi l x := by simp [hi, bl_asymm c1]
      rw [e1, e2, List.filter_cons, if_pos (by simpa using bl_ne c1), ih]
      simp
    · have e1 : lo (a :: l) x = lo l x := by simp [lo, c1]
      by_cases c2 : a.b = x
      · have e2 : hi (a :: l) x = hi l x := by simp [hi, c2, bl_irrefl]
        rw [e1, e2, List.filter_cons, if_neg (by simpa using c2), ih]
      · have c3 := bl_tri c1 c2
        have e2 : hi (a :: l) x = a :: hi l x := by simp [hi, c3]
        have e3 : lo l x = [] := List.filter_eq_nil_iff.2 fun b hb => by simpa using bl_asymm (bl_trans c3 (h1 b hb))
        rw [e1, e2, List.filter_cons, if_pos (by simpa using c2), ih, e3]
        simp
theorem set_is {l : List Lt} (h : Rise l) (x : Bn) (n : Int) : (if (fromS x n l).1 = true then (fromS x n l).2 else (fromS x n l).2 ++ [⟨x, n⟩]) = setL l x n := by
  unfold fromS setL mid
  by_cases hn : n = 0
  · rw [decide_eq_true hn, fold_true, if_pos rfl, if_pos hn, not_x h]
    simp
  · rw [decide_eq_false hn, fold_false x n l [] h, if_neg hn]
    split
    · rename_i e
      rw [if_neg (by simp), e]
      simp
    · rw [if_pos rfl]
      simp
theorem from_succ {x : Bn} {n : Int} {l : List Lt} {i : Nat} {a : Lt} (h : l[i]? = some a) : fromS x n (l.take (i + 1)) = stepS x n (fromS x n (l.take i)) a := by
  unfold fromS
  rw [List.take_add_one, h, List.foldl_append]
  rfl
theorem from_length (x : Bn) (n : Int) (l : List Lt) : (fromS x n l).2.length ≤ l.length + 1 ∧ ((fromS x n l).1 = false → (fromS x n l).2.length ≤ l.length) := by
  unfold fromS
  have key : ∀ (l : List Lt) (s : Bool × List Lt), (l.foldl (stepS x n) s).2.length ≤ s.2.length + l.length + (if s.1 = false then 1 else 0) ∧ ((l.foldl (stepS x n) s).1 = false → (l.foldl (stepS x n) s).2.length ≤ s.2.length + l.length) := fun l => by
    induction l with
    | nil => intro s; simp
    | cons a l ih =>
      intro s
      rw [List.foldl_cons]
      obtain ⟨h1, h2⟩ := ih (stepS x n s a)
      obtain ⟨d, o⟩ := s
      cases d with
      | true =>
        have e : (stepS x n (true, o) a).1 = true := by simp [stepS]
        have e2 : (stepS x n (true, o) a).2.length ≤ o.length + 1 := by simp [stepS]; split <;> simp
        rw [e] at h1
        simp only [List.length_cons]
        refine ⟨by simp at h1 ⊢; omega, fun h => ?_⟩
        have := h2 h
        omega
      | false =>
        by_cases c : bl x a.b
        · have e : (stepS x n (false, o) a).1 = true := by simp [stepS, c]
          have e2 : (stepS x n (false, o) a).2.length ≤ o.length + 2 := by simp [stepS, c]; split <;> simp
          rw [e] at h1
          simp only [List.length_cons]
          refine ⟨by simp at h1 ⊢; omega, fun h => ?_⟩
          exfalso
          have e3 : stepS x n (false, o) a = (true, (stepS x n (false, o) a).2) := Prod.ext e rfl
          rw [e3, fold_true] at h
          cases h
        · have e : (stepS x n (false, o) a).1 = false := by simp [stepS, c]
          have e2 : (stepS x n (false, o) a).2.length ≤ o.length + 1 := by simp [stepS, c]; split <;> simp
          rw [e] at h1
          simp only [List.length_cons]
          refine ⟨by simp at h1 ⊢; omega, fun h => ?_⟩
          have := h2 h
          omega
  obtain ⟨h1, h2⟩ := key l (decide (n = 0), [])
  simp only [List.length_nil, Nat.zero_add] at h1 h2
  exact ⟨by split at h1 <;> omega, h2⟩
/-- One more lot at a row's end. -/
theorem app1 (W : World) {B : Nat} {a : Option Addr} {m c : Nat} {o : List Lt} (t : Lt) (h : OwnL W B (.slice a m c) o) (hm : m ≤ 1048576) (hB : B ≤ W.heap.size) :
    ∃ a' c' W', Hid ((Builtin.append_ #[22, 22] 22 #[.slice a m c, .slice (some ⟨W.heap.size, 0, none⟩) 1 1]).run Try.prog (W.alloc (.cells #[.int .i64 t.b.o, .int .i64 t.b.d, .int .i64 t.b.p, .int .i64 t.b.t, .int .i64 t.q] 66)) = .ok (.slice a' (m + 1) c') W') ∧ OwnL W' B (.slice a' (m + 1) c') (o ++ [t]) ∧ Below B W W' := by
  obtain ⟨hl, _⟩ := own_form h
  have hA : Below B W (W.alloc (.cells #[.int .i64 t.b.o, .int .i64 t.b.d, .int .i64 t.b.p, .int .i64 t.b.t, .int .i64 t.q] 66)) := (Below.refl B W).alloc hB _
  obtain ⟨v2, W3, r2, o2, b2⟩ := app_lt (W.alloc (.cells #[.int .i64 t.b.o, .int .i64 t.b.d, .int .i64 t.b.p, .int .i64 t.b.t, .int .i64 t.q] 66)) B _ o [t] (h.alloc _) (some ⟨W.heap.size, 0, none⟩) 1 1 rfl (fun j u hj => ⟨_, rfl, by
    have hblk := heap_alloc_new W (.cells #[.int .i64 t.b.o, .int .i64 t.b.d, .int .i64 t.b.p, .int .i64 t.b.t, .int .i64 t.q] 66)
    rw [addr_add, Nat.zero_add]
    refine cell_block (j := j) hblk ?_
    rw [← Array.getElem?_toList]
    exact hj⟩) (by simp; omega) (Nat.le_trans hB hA.size)
  obtain ⟨a2, c2, rfl, _⟩ := rowL o2
  have e : (o ++ [t]).length = m + 1 := by simp [hl]
  rw [e] at r2 o2
  exact ⟨a2, c2, W3, Lib.hid r2, by rw [e] at *; exact o2, below_cat hA b2⟩
set_option maxRecDepth 100000 in
set_option maxHeartbeats 8000000 in
theorem dset {a : Option Addr} {n c : Nat} {l : List Lt} (x : Bn) (q : Int) (w : World) (hr : OwnL w 0 (.slice a n c) l) (hn : n ≤ 4000) (hg : Rise l) :
    Calls Try.prog 31 #[.slice a n c, bV x, .int .i64 q] w fun e w' => ∃ a' m c', e = .returned (.slice a' m c') ∧ Hid (OwnL w' w.heap.size (.slice a' m c') (setL l x q) ∧ Below w.heap.size w w') := by
  obtain ⟨hl, _, _, _, hs⟩ := own_form hr
  have HT := lots_at hs
  have HL := Lib.hid hl
  have HG := Lib.hid hg
  have hn1 : (n : Int) ≤ 1048576 := by omega
  have HN : Hid (n ≤ 4000) := Lib.hid hn
  obtain ⟨d0, hd0⟩ : ∃ d0, (q == 0) = d0 := ⟨_, rfl⟩
  have HD0 : Hid (fromS x q [] = (d0, [])) := Lib.hid (by
    unfold fromS
    rw [List.foldl_nil, ← hd0]
    by_cases h : q = 0
    · simp [h]
    · simp [h])
  obtain ⟨V, X, hV, hX, HP⟩ := box_bin w x
  have HXS : Hid (w.heap.size ≤ X.heap.size) := Lib.hid (by rw [← hX]; simp)
  have hx0 := World.ownsRow_nil X X.heap.size 66 5
  have H0 : Hid (OwnL X X.heap.size (.slice none 0 0) []) := Lib.hid hx0
  clear hr hl hs hn hg hx0
  go_enter Try.func31, Try.ntmps31
  go_wp2_with fail
  clear hX hV hd0
  go_loopw [7, 8, 9] (fun s d t wr => ∃ (i : Nat) (b : Option Addr) (m k : Nat) (dn : Bool) (o : List Lt), s = .slice b m k ∧ d = .bool dn ∧ t = .int .i64 i ∧ i ≤ n ∧ Hid (fromS x q (l.take i) = (dn, o)) ∧ Hid (OwnL wr X.heap.size (.slice b m k) o) ∧ Hid (Below X.heap.size X wr)) (fun _ _ t _ => n - (RowKit.intOf t).toNat)
  case atStart => exact ⟨0, none, 0, 0, d0, [], rfl, rfl, rfl, by omega, by rw [List.take_zero]; exact HD0, H0, Lib.hid (Below.refl _ _)⟩
  case round =>
    clear HD0 H0
    obtain ⟨i, b, m, k, dn, o, rfl, rfl, rfl, hi, HF, HO, HB⟩ := hrel
    obtain ⟨⟨b0, b1, b2, b3⟩, HBW⟩ := HP.out wr HB.out
    have hi0 : (0 : Int) ≤ (i : Int) := by omega
    have hlen := from_length x q (l.take i)
    rw [HF.out, List.length_take] at hlen
    have hom := (own_form HO.out).1
    have HM : Hid (m ≤ 4100) := Lib.hid (by have := HN.out; have := hlen.1; simp only at this; omega)
    clear hlen hom
    by_cases hlt : i < n
    · have hlt2 : (i : Int) < (n : Int) := by omega
      obtain ⟨g, off, t, rfl, ht, k0, k1, k2, k3, k4⟩ := HT.out wr i HBW.out (by rw [HL.out]; exact hlt)
      have HTC : Hid (∀ W, Below X.heap.size X W → CellsL W g (off + i * 5) t ∧ CellsB W V x) := Lib.hid (fun W hW => by
        obtain ⟨h1, h2⟩ := HP.out W hW
        obtain ⟨g', off', t', e, ht', h3⟩ := HT.out W i h2.out (by rw [HL.out]; exact hlt)
        cases e
        have e2 := ht'.out
        rw [ht.out] at e2
        cases e2
        exact ⟨h3, h1⟩)
      have hst := from_succ (x := x) (n := q) ht.out
      rw [HF.out] at hst
      -- one lot more at a world behind
      have HAP : Hid (∀ (W : World) (a' : Option Addr) (m' c' : Nat) (o' : List Lt) (u : Lt), Below X.heap.size X W → OwnL W X.heap.size (.slice a' m' c') o' → m' ≤ 5000 → ∃ a2 c2 W2, Hid ((Builtin.append_ #[22, 22] 22 #[.slice a' m' c', .slice (some ⟨W.heap.size, 0, none⟩) 1 1]).run Try.prog (W.alloc (.cells #[.int .i64 u.b.o, .int .i64 u.b.d, .int .i64 u.b.p, .int .i64 u.b.t, .int .i64 u.q] 66)) = .ok (.slice a2 (m' + 1) c2) W2) ∧ Hid (OwnL W2 X.heap.size (.slice a2 (m' + 1) c2) (o' ++ [u])) ∧ Hid (Below X.heap.size X W2)) := Lib.hid (fun W a' m' c' o' u hW ho hm' => by
        obtain ⟨a2, c2, W2, h1, h2, h3⟩ := app1 W u ho (by omega) hW.size
        exact ⟨a2, c2, W2, h1, Lib.hid h2, Lib.hid (hW.trans h3)⟩)
      by_cases c1 : dn = false ∧ bl x t.b
      · obtain ⟨rfl, c1⟩ := c1
        have HF2 : Hid (fromS x q (l.take (i + 1)) = (true, o ++ [⟨x, q⟩] ++ [t])) := Lib.hid (by rw [hst]; simp [stepS, c1, (bl_ne c1).symm])
        have HC : Hid (Calls Try.prog 52 #[bV x, bV t.b] wr.drew fun e w' => e = .returned (.bool true) ∧ Hid (OwnL w' X.heap.size (.slice b m k) o ∧ Below X.heap.size X w')) := Lib.hid (by
          have := dbelow x t.b wr.drew
          rw [decide_eq_true c1] at this
          exact this.mono fun _ _ ⟨e, h⟩ => ⟨e, Lib.hid ⟨own_under HO.out (((Below.refl _ wr).drew).trans (h.mono (Nat.le_refl _))), below_then HB.out (((Below.refl _ wr).drew).trans (h.mono (Nat.le_refl _)))⟩⟩)
        have hrun : ∀ W, (binOp .neq 25 (bV t.b) (bV x)).run Try.prog W = .ok (.bool true) W := fun W => by rw [run_bins_ne, decide_eq_false (bl_ne c1).symm]; rfl
        clear c1 hst
        go_wp2_with fail
        go_still_tail 9, (by kernel_rfl)
        change wpList _ _ _ _ _ wr.drew
        go_wp2_with fail
        refine HC.out.mono ?_
        rintro e w1 ⟨rfl, H1⟩
        obtain ⟨_, x0, x1, x2, x3⟩ := HTC.out w1 H1.out.2
        obtain ⟨a2, c2, W2, HR2, HO2, H2⟩ := HAP.out w1 b m k o ⟨x, q⟩ H1.out.2 H1.out.1 (by have := HM.out; omega)
        clear b0 b1 b2 b3 k0 k1 k2 k3 k4
        go_upto_region 9 with (at_builtin; refine walk_run (v' := .slice a2 (m + 1) c2) (w' := W2) rfl _ _ _ _ rfl _ _ rfl rfl ?_ ?_; exact HR2.out)
        obtain ⟨⟨k0, k1, k2, k3, k4⟩, b0, b1, b2, b3⟩ := HTC.out W2 H2.out
        clear x0 x1 x2 x3
        go_quiet (fail)
        generalize hw3 : W2.drewN _ = w3
        have H3 : Hid (Below X.heap.size X w3) := Lib.hid (by rw [← hw3]; exact below_drewN H2.out _)
        obtain ⟨⟨y0, y1, y2, y3, y4⟩, _⟩ := HTC.out w3 H3.out
        obtain ⟨a3, c3, W4, HR3, HO3, H4⟩ := HAP.out w3 a2 (m + 1) c2 (o ++ [⟨x, q⟩]) t H3.out (by rw [← hw3]; exact own_under HO2.out (below_drewN (Below.refl _ _) _)) (by have := HM.out; omega)
        clear k0 k1 k2 k3 k4 b0 b1 b2 b3 hw3
        go_wp2_with (at_builtin; refine walk_run (v' := .slice a3 (m + 1 + 1) c3) (w' := W4) rfl _ _ _ _ rfl _ _ rfl rfl ?_ ?_; exact HR3.out)
        go_roundw
        case rel => exact ⟨i + 1, a3, m + 1 + 1, c3, true, _, rfl, rfl, by go_num, by omega, HF2, HO3, H4⟩
        case measure => simp [RowKit.intOf]; omega
      · by_cases c2 : t.b = x
        · have HF2 : Hid (fromS x q (l.take (i + 1)) = (dn, o)) := Lib.hid (by
            rw [hst]
            cases dn with
            | true => simp [stepS, c2]
            | false => simp [stepS, c2, bl_irrefl])
          have hrun : ∀ W, (binOp .neq 25 (bV t.b) (bV x)).run Try.prog W = .ok (.bool false) W := fun W => by rw [run_bins_ne, decide_eq_true c2]; rfl
          have HC : Hid (Calls Try.prog 52 #[bV x, bV t.b] wr.drew fun e w' => e = .returned (.bool false) ∧ Hid (OwnL w' X.heap.size (.slice b m k) o ∧ Below X.heap.size X w')) := Lib.hid (by
            have := dbelow x t.b wr.drew
            rw [decide_eq_false (by rw [c2]; exact bl_irrefl x)] at this
            exact this.mono fun _ _ ⟨e, h⟩ => ⟨e, Lib.hid ⟨own_under HO.out (((Below.refl _ wr).drew).trans (h.mono (Nat.le_refl _))), below_then HB.out (((Below.refl _ wr).drew).trans (h.mono (Nat.le_refl _)))⟩⟩)
          clear c1 c2 hst
          rcases dn with _ | _
          · go_wp2_with fail
            go_still_tail 9, (by kernel_rfl)
            change wpList _ _ _ _ _ wr.drew
            go_wp2_with fail
            refine HC.out.mono ?_
            rintro e w1 ⟨rfl, H1⟩
            obtain ⟨⟨y0, y1, y2, y3, y4⟩, x0, x1, x2, x3⟩ := HTC.out w1 H1.out.2
            clear b0 b1 b2 b3 k0 k1 k2 k3 k4
            go_wp2_with fail
            go_quiet (fail)
            go_wp2_with fail
            go_roundw
            case rel => exact ⟨i + 1, b, m, k, false, o, rfl, rfl, by go_num, by omega, HF2, Lib.hid (own_under H1.out.1 (below_drewN (Below.refl _ _) _)), Lib.hid (below_drewN H1.out.2 _)⟩
            case measure => simp [RowKit.intOf]; omega
          · go_wp2_with fail
            go_quiet (fail)
            go_wp2_with fail
            go_quiet (fail)
            go_wp2_with fail
            go_roundw
            case rel => exact ⟨i + 1, b, m, k, true, o, rfl, rfl, by go_num, by omega, HF2, Lib.hid (own_under HO.out (below_drewN (Below.refl _ _) _)), Lib.hid (below_drewN HB.out _)⟩
            case measure => simp [RowKit.intOf]; omega
        · have HF2 : Hid (fromS x q (l.take (i + 1)) = (dn, o ++ [t])) := Lib.hid (by
            rw [hst]
            cases dn with
            | true => simp [stepS, c2]
            | false => simp only [true_and] at c1; simp [stepS, c2, c1])
          have hrun : ∀ W, (binOp .neq 25 (bV t.b) (bV x)).run Try.prog W = .ok (.bool true) W := fun W => by rw [run_bins_ne, decide_eq_false c2]; rfl
          clear c2 hst
          rcases dn with _ | _
          · have HC : Hid (Calls Try.prog 52 #[bV x, bV t.b] wr.drew fun e w' => e = .returned (.bool false) ∧ Hid (OwnL w' X.heap.size (.slice b m k) o ∧ Below X.heap.size X w')) := Lib.hid (by
              have := dbelow x t.b wr.drew
              rw [decide_eq_false (fun h => c1 ⟨rfl, h⟩)] at this
              exact this.mono fun _ _ ⟨e, h⟩ => ⟨e, Lib.hid ⟨own_under HO.out (((Below.refl _ wr).drew).trans (h.mono (Nat.le_refl _))), below_then HB.out (((Below.refl _ wr).drew).trans (h.mono (Nat.le_refl _)))⟩⟩)
            clear c1
            go_wp2_with fail
            go_still_tail 9, (by kernel_rfl)
            change wpList _ _ _ _ _ wr.drew
            go_wp2_with fail
            refine HC.out.mono ?_
            rintro e w1 ⟨rfl, H1⟩
            obtain ⟨⟨y0, y1, y2, y3, y4⟩, x0, x1, x2, x3⟩ := HTC.out w1 H1.out.2
            clear b0 b1 b2 b3 k0 k1 k2 k3 k4
            go_wp2_with fail
            go_quiet (fail)
            generalize hw3 : w1.drewN _ = w3
            have H3 : Hid (Below X.heap.size X w3) := Lib.hid (by rw [← hw3]; exact below_drewN H1.out.2 _)
            obtain ⟨⟨z0, z1, z2, z3, z4⟩, _⟩ := HTC.out w3 H3.out
            obtain ⟨a3, c3, W4, HR3, HO3, H4⟩ := HAP.out w3 b m k o t H3.out (by rw [← hw3]; exact own_under H1.out.1 (below_drewN (Below.refl _ _) _)) (by have := HM.out; omega)
            clear y0 y1 y2 y3 y4 x0 x1 x2 x3 hw3
            go_wp2_with (at_builtin; refine walk_run (v' := .slice a3 (m + 1) c3) (w' := W4) rfl _ _ _ _ rfl _ _ rfl rfl ?_ ?_; exact HR3.out)
            go_roundw
            case rel => exact ⟨i + 1, a3, m + 1, c3, false, _, rfl, rfl, by go_num, by omega, HF2, HO3, H4⟩
            case measure => simp [RowKit.intOf]; omega
          · clear c1
            go_wp2_with fail
            go_quiet (fail)
            go_wp2_with fail
            go_quiet (fail)
            generalize hw3 : (wr.drewN _).drewN _ = w3
            have H3 : Hid (Below X.heap.size X w3) := Lib.hid (by rw [← hw3]; exact below_drewN (below_drewN HB.out _) _)
            obtain ⟨⟨z0, z1, z2, z3, z4⟩, _⟩ := HTC.out w3 H3.out
            obtain ⟨a3, c3, W4, HR3, HO3, H4⟩ := HAP.out w3 b m k o t H3.out (by rw [← hw3]; exact own_under HO.out (below_drewN (below_drewN (Below.refl _ _) _) _)) (by have := HM.out; omega)
            clear b0 b1 b2 b3 k0 k1 k2 k3 k4 hw3
            go_wp2_with (at_builtin; refine walk_run (v' := .slice a3 (m + 1) c3) (w' := W4) rfl _ _ _ _ rfl _ _ rfl rfl ?_ ?_; exact HR3.out)
            go_roundw
            case rel => exact ⟨i + 1, a3, m + 1, c3, true, _, rfl, rfl, by go_num, by omega, HF2, HO3, H4⟩
            case measure => simp [RowKit.intOf]; omega
    · obtain rfl : i = n := by omega
      have hfull : l.take i = l := List.take_of_length_le (by rw [HL.out]; exact Nat.le_refl _)
      have hset := set_is HG.out x q
      rw [← hfull, HF.out, hfull] at hset
      rcases dn with _ | _
      · simp only [Bool.false_eq_true, if_false] at hset
        have HSE := Lib.hid hset
        obtain ⟨a3, c3, W4, HR3, HO3, H4⟩ := app1 wr (B := X.heap.size) ⟨x, q⟩ HO.out (by have := HM.out; omega) HB.out.size
        have HE : Hid (OwnL W4 w.heap.size (.slice a3 (m + 1) c3) (setL l x q) ∧ Below w.heap.size w W4) := Lib.hid ⟨by rw [← HSE.out]; exact World.ownsRow.mono HO3 HXS.out, HBW.out.trans (H4.mono HXS.out)⟩
        clear hset hfull HO3 H4
        go_wp2_with (at_builtin; refine walk_run (v' := .slice a3 (m + 1) c3) (w' := W4) rfl _ _ _ _ rfl _ _ rfl rfl ?_ ?_; exact HR3.out)
        go_ret
        exact ⟨a3, m + 1, c3, rfl, HE⟩
      · simp only [if_true] at hset
        have HE : Hid (OwnL wr w.heap.size (.slice b m k) (setL l x q) ∧ Below w.heap.size w wr) := Lib.hid ⟨by rw [← hset]; exact World.ownsRow.mono HO.out HXS.out, HBW.out⟩
        clear hset hfull
        go_wp2_with fail
        go_ret
        exact ⟨b, m, k, rfl, HE⟩
end Go.Proofs.Ytkljaaeeocghjaa.Bins
