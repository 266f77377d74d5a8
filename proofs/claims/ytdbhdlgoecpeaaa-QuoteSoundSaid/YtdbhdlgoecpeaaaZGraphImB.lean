/- What each node lacks, in a row of the call's own: the mathematics of the program's Order. The program's Order. -/
import Derived.Test.YtdbhdlgoecpeaaaZFeeImCk
import Derived.Test.YtdbhdlgoecpeaaaZGraphWaysMath
import Derived.Deep.WholeRow
namespace Go.Proofs.Ytdbhdlgoecpeaaa.Graph.Im
open Go.RowKit Go.Lib IRows

/-- A row of 65 numbers of the call's own. -/
def RI (W : World) (A : Nat) (f : Nat → Int) : Prop := ∀ i, i < 65 → W.cell? ⟨A, i, none⟩ = some (.int .i64 (f i)) ∧ W.frozen? ⟨A, i, none⟩ = false
theorem RI.under {W W' : World} {A : Nat} {f : Nat → Int} (h : RI W A f) (hA : A < W.heap.size) (hb : Below W.heap.size W W') : RI W' A f := fun i hi => ⟨((bcell hb).1 A i hA).trans (h i hi).1, ((bcell hb).2 A i hA).trans (h i hi).2⟩
theorem RI.set {W : World} {A : Nat} {f : Nat → Int} (h : RI W A f) (k : Nat) (v : Int) : RI (W.setCell ⟨A, k, none⟩ (.int .i64 v)) A (up f k v) := fun i hi => by
  rw [World.frozen?_setCell]
  refine ⟨?_, (h i hi).2⟩
  unfold up
  by_cases e : i = k
  · subst e
    rw [if_pos rfl, World.cell?_setCell_same (h := (h i hi).1)]
  · rw [if_neg e, World.cell?_setCell_other (h := addr_ne (.inr fun x => e x.symm))]
    exact (h i hi).1
theorem RI.congr {W : World} {A : Nat} {f g : Nat → Int} (h : RI W A f) (e : ∀ i, i < 65 → f i = g i) : RI W A g := fun i hi => by rw [← e i hi]; exact h i hi
/-- The row, and what else stands. -/
structure Od (w wr : World) (A : Nat) (f : Nat → Int) : Prop where
  below : Below w.heap.size w wr
  new : w.heap.size ≤ A
  old : A < wr.heap.size
  row : RI wr A f
theorem Od.under {w wr W' : World} {A : Nat} {f : Nat → Int} (h : Od w wr A f) (hb : Below wr.heap.size wr W') : Od w W' A f := ⟨below_then h.below hb, h.new, Nat.lt_of_lt_of_le h.old hb.size, h.row.under h.old hb⟩
theorem Od.app {w wr W' : World} {A : Nat} {f : Nat → Int} (h : Od w wr A f) (hb : Below (A + 1) wr W') : Od w W' A f := by
  refine ⟨h.below.trans (hb.mono (by have := h.new; omega)), h.new, Nat.lt_of_lt_of_le h.old hb.size, fun i hi => ?_⟩
  have e := hb.block A (Nat.lt_succ_self A)
  obtain ⟨h1, h2⟩ := h.row i hi
  unfold World.cell? World.frozen? at *
  simp only [e] at *
  exact ⟨h1, h2⟩
theorem Od.set {w wr : World} {A : Nat} {f : Nat → Int} (h : Od w wr A f) (k : Nat) (v : Int) : Od w (wr.setCell ⟨A, k, none⟩ (.int .i64 v)) A (up f k v) :=
  ⟨h.below.trans ((Below.refl _ wr).setCell (p := ⟨A, k, none⟩) h.new _), h.new, by simpa [World.setCell] using h.old, h.row.set k v⟩
theorem Od.congr {w wr : World} {A : Nat} {f g : Nat → Int} (h : Od w wr A f) (e : ∀ i, i < 65 → f i = g i) : Od w wr A g := ⟨h.below, h.new, h.old, h.row.congr e⟩
/-- A row of one's own that lies behind it. -/
theorem ks_set {wr : World} {A k : Nat} {v : Value} {u : Value} {l : List Int} (h : KS wr (A + 1) u l) : KS (wr.setCell ⟨A, k, none⟩ v) (A + 1) u l :=
  h.moved fun q hq => Below.heap_setCell wr ⟨A, k, none⟩ v q (by have := (h.lt q hq).1; show q ≠ A; omega)
theorem ks_low {w : World} {B B' : Nat} {v : Value} {l : List Int} (h : KS w B v l) (hB : B' ≤ B) : KS w B' v l := by
  refine ⟨h.1, ?_⟩
  rcases h.2 with h1 | ⟨g, cap, cur, hv, h1, h2⟩
  · exact .inl h1
  · exact .inr ⟨g, cap, cur, hv, Nat.le_trans hB h1, h2⟩
/-- How many of the needs of a node do not stand there. -/
def cn (out : List Int) (k : Nat) (l : List Nd) : Nat := l.countP fun t => decide (t.a = (k : Int)) && !decide (t.b ∈ out)
theorem cn_le (out : List Int) (k : Nat) (l : List Nd) : cn out k l ≤ l.length := List.countP_le_length
theorem cn_append (out : List Int) (k : Nat) (l r : List Nd) : cn out k (l ++ r) = cn out k l + cn out k r := List.countP_append ..
theorem cn_yes {out : List Int} {k : Nat} {t : Nd} (h1 : t.a = (k : Int)) (h2 : t.b ∉ out) : cn out k [t] = 1 := by simp [cn, h1, h2]
theorem cn_no {out : List Int} {k : Nat} {t : Nd} (h : ¬ (t.a = (k : Int) ∧ t.b ∉ out)) : cn out k [t] = 0 := by
  unfold cn
  rw [List.countP_eq_zero]
  intro u hu
  simp at hu
  subst hu
  simpa using h
theorem cn_take {out : List Int} {k i : Nat} {l : List Nd} {t : Nd} (h : l[i]? = some t) : cn out k (l.take (i + 1)) = cn out k (l.take i) + cn out k [t] := by
  rw [List.take_add_one, h, ← cn_append]
  rfl
theorem cn_drop {out : List Int} {k i : Nat} {l : List Nd} {t : Nd} (h : l[i]? = some t) : cn out k (l.drop i) = cn out k [t] + cn out k (l.drop (i + 1)) := by
  obtain ⟨hi, e⟩ := List.getElem?_eq_some_iff.1 h
  rw [List.drop_eq_getElem_cons hi, e, ← cn_append]
  rfl
theorem cn_zero {out : List Int} {k : Nat} {l : List Nd} : cn out k l = 0 ↔ ∀ t ∈ l, t.a = (k : Int) → t.b ∈ out := by
  unfold cn
  rw [List.countP_eq_zero]
  refine forall₂_congr fun t _ => ?_
  simp
/-- What a node lacks, as long as it is looked for. -/
def lk (l : List Nd) (out : List Int) (k : Nat) : Int := if k = 0 ∨ (k : Int) ∈ out then -1 else (cn out k l : Nat)
def fst (l : List Nd) (i k : Nat) : Int := if k = 0 then -1 else (cn [] k (l.take i) : Nat)
def mid (l : List Nd) (out out' : List Int) (i k : Nat) : Int := if k = 0 ∨ (k : Int) ∈ out' then -1 else ((cn out' k (l.take i) + cn out k (l.drop i) : Nat) : Int)
theorem fst_zero (l : List Nd) (k : Nat) : fst l 0 k = if k = 0 then -1 else 0 := by simp [fst, cn]
theorem fst_b (l : List Nd) (i k : Nat) : -1 ≤ fst l i k ∧ fst l i k ≤ l.length := by
  have h1 := cn_le [] k (l.take i)
  have h2 := List.length_take_le' i l
  unfold fst
  split <;> omega
theorem lk_b (l : List Nd) (out : List Int) (k : Nat) : -1 ≤ lk l out k ∧ lk l out k ≤ l.length := by
  have h1 := cn_le out k l
  unfold lk
  split <;> omega
theorem mid_b (l : List Nd) (out out' : List Int) (i k : Nat) : -1 ≤ mid l out out' i k ∧ mid l out out' i k ≤ l.length := by
  have h1 := cn_le out' k (l.take i)
  have h2 := cn_le out k (l.drop i)
  have h3 : (l.take i).length + (l.drop i).length = l.length := by rw [← List.length_append, List.take_append_drop]
  unfold mid
  split <;> omega
theorem fst_step {l : List Nd} {i p : Nat} {t : Nd} (h : l[i]? = some t) (hp : t.a = (p : Int)) (h1 : 1 ≤ p) (k : Nat) : up (fst l i) p (fst l i p + 1) k = fst l (i + 1) k := by
  unfold up fst
  rw [cn_take h]
  by_cases e : k = p
  · subst e
    rw [if_pos rfl, if_neg (by omega), if_neg (by omega), cn_yes hp (by simp)]
    omega
  · rw [if_neg e, cn_no (fun hh => e (by omega))]
    rfl
theorem fst_end {l : List Nd} {k : Nat} : fst l l.length k = lk l [] k := by simp [fst, lk]
theorem mid_start {l : List Nd} {out : List Int} {p : Nat} (k : Nat) : up (lk l out) p (-1) k = mid l out (out ++ [(p : Int)]) 0 k := by
  unfold up lk mid
  by_cases e : k = p
  · subst e
    rw [if_pos rfl, if_pos (by simp)]
  · rw [if_neg e]
    have h : (k = 0 ∨ (k : Int) ∈ out ++ [(p : Int)]) ↔ (k = 0 ∨ (k : Int) ∈ out) := by
      have e2 : ¬ (k : Int) = (p : Int) := by omega
      simp [e2]
    by_cases h2 : k = 0 ∨ (k : Int) ∈ out
    · rw [if_pos h2, if_pos (h.2 h2)]
    · rw [if_neg h2, if_neg (fun x => h2 (h.1 x))]
      simp [cn]
theorem mid_end {l : List Nd} {out out' : List Int} {k : Nat} : mid l out out' l.length k = lk l out' k := by simp [mid, lk, cn]
theorem mid_yes {l : List Nd} {out : List Int} {x : Int} {i q : Nat} {t : Nd} (h : l[i]? = some t) (hq : t.a = (q : Int)) (hq1 : 1 ≤ q) (hb : t.b = x) (hx : x ∉ out) (hn : (q : Int) ∉ out ++ [x]) (k : Nat) : up (mid l out (out ++ [x]) i) q (mid l out (out ++ [x]) i q - 1) k = mid l out (out ++ [x]) (i + 1) k := by
  unfold up mid
  rw [cn_take h]
  by_cases e : k = q
  · subst e
    rw [if_pos rfl, if_neg (by simp only [not_or]; exact ⟨by omega, hn⟩), if_neg (by simp only [not_or]; exact ⟨by omega, hn⟩), cn_drop h, cn_no (out := out ++ [x]) (t := t) (by rw [hb]; simp), cn_yes hq (by rw [hb]; exact hx)]
    omega
  · rw [if_neg e, cn_drop (out := out) (k := k) h, cn_no (t := t) (fun hh => e (by omega)), cn_no (t := t) (fun hh => e (by omega))]
    split <;> omega
theorem mid_no {l : List Nd} {out : List Int} {x : Int} {i : Nat} {t : Nd} (h : l[i]? = some t) (hb : t.b ≠ x) (k : Nat) : mid l out (out ++ [x]) i k = mid l out (out ++ [x]) (i + 1) k := by
  unfold mid
  rw [cn_take h, cn_drop (out := out) (k := k) h]
  have e : cn (out ++ [x]) k [t] = cn out k [t] := by
    by_cases h2 : t.a = (k : Int) ∧ t.b ∉ out
    · rw [cn_yes h2.1 h2.2, cn_yes h2.1 (by simp [h2.2, hb])]
    · rw [cn_no h2, cn_no (fun h3 => h2 ⟨h3.1, fun h4 => h3.2 (by simp [h4])⟩)]
  rw [e]
  split <;> omega
theorem lk_zero {l : List Nd} {out : List Int} {k : Nat} (h : 1 ≤ k) : lk l out k = 0 ↔ Ready l out k := by
  unfold lk Ready
  by_cases h2 : (k : Int) ∈ out
  · rw [if_pos (.inr h2)]
    exact ⟨fun h => by omega, fun h => absurd h2 h.1⟩
  · rw [if_neg (by simp only [not_or]; exact ⟨by omega, h2⟩)]
    have := cn_zero (out := out) (k := k) (l := l)
    constructor
    · intro h3
      exact ⟨h2, this.1 (by omega)⟩
    · intro h3
      have := this.2 h3.2
      omega
/-- The first that lacks nothing is the least that is ready. -/
theorem first_nx {l : List Nd} {out : List Int} {N : Nat} {r : Int} (h : First (lk l out) (N + 1) 0 r) : (r = -1 ∧ nx N l out N = 0) ∨ ∃ p : Nat, r = (p : Int) ∧ 1 ≤ p ∧ p ≤ N ∧ nx N l out N = (p : Int) ∧ Ready l out p := by
  have hz : lk l out 0 = -1 := by unfold lk; rw [if_pos (.inl rfl)]
  rcases h.is with ⟨hr, hno⟩ | ⟨p, hr, hp, hp0, hlt⟩
  · refine .inl ⟨hr, ?_⟩
    rcases nx_is (n := N) (l := l) (out := out) N (Int.le_refl _) with ⟨h1, _⟩ | ⟨h1, h2, h3, _⟩
    · exact h1
    · obtain ⟨q, hq⟩ := Int.eq_ofNat_of_zero_le (show 0 ≤ nx N l out N by omega)
      rw [hq] at h1 h2 h3
      exact absurd ((lk_zero (by omega)).2 h3) (hno q (by omega))
  · have hp1 : 1 ≤ p := by
      rcases Nat.eq_zero_or_pos p with h0 | h0
      · rw [h0, hz] at hp0
        omega
      · exact h0
    have hrd := (lk_zero hp1).1 hp0
    refine .inr ⟨p, hr, hp1, by omega, ?_, hrd⟩
    rcases nx_is (n := N) (l := l) (out := out) N (Int.le_refl _) with ⟨_, h2⟩ | ⟨h1, h2, h3, h4⟩
    · exact absurd hrd (h2 p (by omega) (by omega))
    · obtain ⟨q, hq⟩ := Int.eq_ofNat_of_zero_le (show 0 ≤ nx N l out N by omega)
      rw [hq] at h1 h2 h3 h4 ⊢
      have a1 : ¬ p < q := fun hh => h4 p (by omega) (by omega) hrd
      have a2 : ¬ q < p := fun hh => hlt q hh ((lk_zero (by omega)).2 h3)
      omega
theorem stands_shut {n : Int} {l : List Nd} {out : List Int} {x : Int} (h : Stands n l (out ++ [x])) {t : Nd} (ht : t ∈ l) (ha : t.a ∈ out ++ [x]) : t.b ∈ out := by
  obtain ⟨i, hi, e⟩ := List.getElem_of_mem ha
  have := h.behind i t.a (by rw [← e]; exact List.getElem?_eq_getElem hi) t ht rfl
  rw [List.length_append, List.length_singleton] at hi
  rw [List.take_append_of_le_length (by omega)] at this
  exact List.mem_of_mem_take this
end Go.Proofs.Ytdbhdlgoecpeaaa.Graph.Im
namespace Go.Proofs.Ytdbhdlgoecpeaaa.Graph.Im
open Go.RowKit Go.Lib IRows

theorem info_arr : (Try.prog.info? 107).map (fun i => (i.zero, i.size)) = some (some (.agg (Array.replicate 65 (.int .i64 0))), 65) := by kernel_rfl
def lacks0 : Array Value := (Array.replicate 65 (.int .i64 0)).setIfInBounds 0 (.int .i64 (-1))
theorem lacks_at (i : Nat) (h : i < 65) : lacks0[i]? = some (.int .i64 (if i = 0 then -1 else 0)) := by
  unfold lacks0
  rw [Array.getElem?_setIfInBounds]
  by_cases e : 0 = i
  · subst e
    rfl
  · rw [if_neg e, if_neg (by omega), Array.getElem?_replicate, if_pos h]
theorem od_new {w w1 : World} (l : List Nd) (T : TypeId) (hb : Below w.heap.size w w1) : Od w (w1.alloc (.cells lacks0 T)) w1.heap.size (fst l 0) := by
  have h := heap_alloc_new w1 (.cells lacks0 T)
  refine ⟨below_then hb ((Below.refl _ w1).alloc (Nat.le_refl _) _), hb.size, by simp, fun i hi => ⟨?_, free_block i h⟩⟩
  rw [fst_zero]
  exact cell_block h (lacks_at i hi)
/-- A part of the row, from its beginning on. -/
theorem run_part (W : World) (A M : Nat) (h : M ≤ 65) : (Instr.sliceAt 107 (.pointer (some ⟨A, 0, none⟩)) none (some (.int .i64 (M : Int))) none).run Try.prog W = .ok (.slice (some ⟨A, 0, none⟩) M 65) W := by
  have e1 : Program.elem Try.prog 107 = 3 := by kernel_rfl
  have e2 : Program.arrayLen Try.prog 107 = 65 := by kernel_rfl
  have hu : Try.prog.underlying 107 = some (.array (Program.arrayLen Try.prog 107) (Program.elem Try.prog 107)) := by
    rw [e1, e2]
    exact Try.underlying107
  obtain ⟨i0, hi, hz0, hz1, hz2⟩ := info_parts info_int
  rw [run_sliceAt_array_h W 107 ⟨A, 0, none⟩ hu .i64 (M : Int) (by omega) (by rw [e2]; omega), e1, e2]
  simp [sizeOf, typeInfo, hi, hz1, slicedAt, Result.andThen, Addr.add]
open Classical in
set_option maxRecDepth 100000 in
set_option maxHeartbeats 8000000 in
theorem order_im (n : Int) (a : Option Addr) (m c : Nat) (l : List Nd) (w : World) (hl : l.length = m) (hs : Nds w a l) (hm : m ≤ 1048576) :
    Calls Try.prog 76 #[.int .i64 n, .slice a m c] w fun e w' => ∃ a' m' c', e = .returned (.tuple #[.slice a' m' c', .int .i64 (ordE n l)]) ∧ Hid ((ordV n l).length = m' ∧ KS w' w.heap.size (.slice a' m' c') (ordV n l) ∧ Below w.heap.size w w') := by
  have HY := may_im n a m c l w hl hs hm
  by_cases hok : May n l
  case neg =>
    obtain ⟨e1, e2⟩ := ord_arg hok
    rw [decide_eq_false hok] at HY
    have HM := Lib.hid HY
    have HE : Hid (∀ W, Below w.heap.size w W → (ordV n l).length = 0 ∧ KS W w.heap.size (.slice none 0 0) (ordV n l) ∧ Below w.heap.size w W) := Lib.hid (fun W hW => by rw [e2]; exact ⟨rfl, ks_nil _ _, hW⟩)
    rw [e1]
    clear hl hs hm HY hok e1 e2
    go_enter Try.func76, Try.ntmps76
    go_wp2_with fail
    refine HM.out.mono ?_
    rintro e w' ⟨rfl, hb⟩
    have HB := Lib.hid hb
    clear hb
    go_wp2_with fail
    go_ret2
    exact ⟨none, 0, 0, rfl, Lib.hid (HE.out _ HB.out)⟩
  rw [decide_eq_true hok] at HY
  have HM := Lib.hid HY
  have HOK := Lib.hid hok
  obtain ⟨N, rfl⟩ := Int.eq_ofNat_of_zero_le hok.1.1
  have hN : N ≤ 64 := by have := hok.1.2; omega
  have hN2 : (N : Int) ≤ 64 := by omega
  have HL := Lib.hid hl
  have HT := nds_at hs
  have hm1 : (m : Int) ≤ 256 := by have := hok.2.1; omega
  have HNT : Hid (((N : Int)).toNat = N) := Lib.hid (by omega)
  have hz := (zero_of_info info_arr).1
  obtain ⟨Z, hZ⟩ : ∃ Z, (Array.replicate 65 (.int .i64 0) : Array Value) = Z := ⟨_, rfl⟩
  rw [hZ] at hz
  have HZ := Lib.hid hZ
  have hZs : Z.size = 65 := by rw [← hZ]; exact Array.size_replicate
  have hZn : ¬ Z = #[] := fun e => by rw [e] at hZs; cases hZs
  obtain ⟨V, hV⟩ : ∃ V, Z.setIfInBounds 0 (.int .i64 (-1)) = V := ⟨_, rfl⟩
  have hVs : V.size = 65 := by rw [← hV]; simpa using hZs
  have HV : Hid (V = lacks0) := Lib.hid (by rw [← hV, ← hZ]; rfl)
  have hst : ∀ W : World, (storeCells ⟨W.heap.size, 0, none⟩ V.toList).run Try.prog (W.alloc (.cells Z 107)) = .ok () (W.alloc (.cells V 107)) := fun W => by
    have := run_storeCells_new (P := Try.prog) W 107 Z V (by rw [(zero_of_info info_arr).2, ← hV]; simp [hZs]) (by rw [← hV]; simp) (by rw [HV.out]; kernel_rfl)
    exact this
  clear hZ
  clear hl hs hm HY hok
  go_enter Try.func76, Try.ntmps76
  go_wp2_with fail
  refine HM.out.mono ?_
  rintro e w1 ⟨rfl, hb⟩
  have HB := Lib.hid hb
  clear hb
  go_wp2_with fail
  generalize hW : World.alloc w1 _ = W0
  have HO0 : Hid (Od w W0 w1.heap.size (fst l 0)) := Lib.hid (by
    rw [← hW, HV.out]
    exact od_new l _ HB.out)
  obtain ⟨A, hA⟩ : ∃ A, w1.heap.size = A := ⟨_, rfl⟩
  rw [hA] at HO0 ⊢
  clear hW hA hz hst hZs hZn HV hV hVs
  go_loopw [20] (fun s wr => ∃ i : Nat, s = .int .i64 i ∧ i ≤ m ∧ Hid (Od w wr A (fst l i))) (fun s _ => m - (RowKit.intOf s).toNat)
  case atStart => exact ⟨0, rfl, by omega, HO0⟩
  case round =>
    clear HO0
    obtain ⟨i, rfl, hi, HD⟩ := hrel
    have hi0 : (0 : Int) ≤ (i : Int) := by omega
    by_cases hlt : i < m
    · have hlt2 : (i : Int) < (m : Int) := by omega
      obtain ⟨g, off, t, rfl, ht, q0, q1⟩ := HT.out wr i HD.out.below (by rw [HL.out]; exact hlt)
      obtain ⟨U, Y, hU, hY, u0, u1, HU⟩ := box_nd wr t
      have HDY := Lib.hid (HD.out.under HU.out.1)
      have hok := HOK.out.2.2 t (List.mem_of_getElem? ht.out)
      obtain ⟨p, hp⟩ := Int.eq_ofNat_of_zero_le (show 0 ≤ t.a by have := hok.1.1; omega)
      have HP : Hid (t.a = (p : Int)) := Lib.hid hp
      have HP1 : Hid (1 ≤ p) := Lib.hid (by have := hok.1.1; omega)
      have hp0 : (0 : Int) ≤ (p : Int) := by omega
      have hp65 : (p : Int) < 65 := by have := hok.1.2; omega
      obtain ⟨x0, x1⟩ := HDY.out.row p (by omega)
      obtain ⟨b0, b1⟩ := fst_b l i p
      rw [HL.out] at b1
      rw [hp] at q0 u0 hY
      obtain ⟨v, hv⟩ : ∃ v, fst l i p = v := ⟨_, rfl⟩
      rw [hv] at x0 b0 b1
      have wv : IntKind.i64.wrap (v + 1) = v + 1 := IntWalk.i64_in _ (by omega)
      have HST : Hid (Od w (Y.setCell ⟨A, p, none⟩ (.int .i64 (v + 1))) A (fst l (i + 1))) := Lib.hid (by
        have := (HDY.out.set p (v + 1)).congr (g := fst l (i + 1)) (fun k _ => by rw [← hv]; exact fst_step ht.out HP.out HP1.out k)
        exact this)
      clear hok hp hv b0 b1
      go_wp2_with fail
      clear hY hU
      go_roundw
      case rel => exact ⟨i + 1, by go_num, by omega, HST⟩
      case measure => simp [RowKit.intOf]; omega
    · obtain rfl : i = m := by omega
      have HDL : Hid (Od w wr A (lk l [])) := Lib.hid (HD.out.congr fun k _ => by rw [← HL.out, fst_end])
      clear HD
      go_wp2_with fail
      go_loopw [9, 32] (fun s t wr' => ∃ (a1 : Option Addr) (j c1 : Nat) (out : List Int), s = .slice a1 j c1 ∧ t = .int .i64 (j : Int) ∧ j ≤ N ∧ Hid (out.length = j ∧ KS wr' (A + 1) (.slice a1 j c1) out) ∧ Hid (Od w wr' A (lk l out) ∧ Stands N l out) ∧ Hid (ordF N l (N - j) out = ordF N l N [])) (fun _ t _ => N - (RowKit.intOf t).toNat)
      case atStart => exact ⟨none, 0, 0, [], rfl, rfl, by omega, Lib.hid ⟨rfl, ks_nil _ _⟩, Lib.hid ⟨HDL.out, stands_nil _ _⟩, Lib.hid rfl⟩
      case round =>
        clear HDL
        obtain ⟨a1, j, c1, out, rfl, rfl, hj, HO, HS, HF⟩ := hrel
        have hj0 : (0 : Int) ≤ (j : Int) := by omega
        by_cases hjl : j < N
        · have hjl2 : (j : Int) < (N : Int) := by omega
          obtain ⟨M, hM⟩ : ∃ M, N + 1 = M := ⟨_, rfl⟩
          have hM2 : (N : Int) + 1 = (M : Int) := by omega
          have hM65 : M ≤ 65 := by omega
          have wM : IntKind.i64.wrap (M : Int) = (M : Int) := IntWalk.i64_in _ (by omega)
          have HIX := Lib.hid (index_im A M 65 (lk l out) 0 wr (fun k hk => (HS.out.1.row k (by omega)).1) (by omega))
          have HMN := Lib.hid hM
          have hsl := fun W => run_part W A M hM65
          clear hM
          go_wp2_with fail
          refine HIX.out.mono ?_
          rintro e w' ⟨r, rfl, HFI, rfl⟩
          have HNX := Lib.hid (first_nx (l := l) (out := out) (N := N) (r := r) (by have := HFI.out; rw [← HMN.out] at this; exact this))
          obtain ⟨r', hr'⟩ : ∃ r', N - j = r' + 1 := ⟨N - j - 1, by omega⟩
          rcases HNX.out with ⟨hr, hnx⟩ | ⟨p, hr, hp1, hpN, hnx, hrd⟩
          · subst hr
            have HE := Lib.hid (ord_none HOK.out (by rw [HNT.out, ← HF.out, hr']; exact ordF_none (by rw [HNT.out]; exact hnx)))
            have HE2 : Hid ((ordV N l).length = 0 ∧ KS wr w.heap.size (.slice none 0 0) (ordV N l) ∧ Below w.heap.size w wr) := Lib.hid (by rw [HE.out.2]; exact ⟨rfl, ks_nil _ _, HS.out.1.below⟩)
            clear hnx hr' hsl
            go_wp2_with fail
            go_ret2
            exact ⟨none, 0, 0, by rw [HE.out.1]; rfl, HE2⟩
          · subst hr
            have HX0 : Hid (((p : Nat) : Int) ∉ out) := Lib.hid hrd.1
            have HST := Lib.hid (HS.out.2.more hrd (by omega) (by omega))
            have HF2 : Hid (ordF N l (N - (j + 1)) (out ++ [(p : Int)]) = ordF N l N []) := Lib.hid (by
              have h := HF.out
              rw [hr', ordF_more (by rw [HNT.out, hnx]; omega), HNT.out, hnx] at h
              rw [show N - (j + 1) = r' by omega]
              exact h)
            obtain ⟨a3, c3, W3, HRUN, h2, h3, h4⟩ := app1 (p : Int) HO.out.1 HO.out.2 (by omega) (by have := HS.out.1.old; omega)
            have HO3 := Lib.hid (And.intro h2 h3)
            have HS3 := Lib.hid (HS.out.1.app h4)
            obtain ⟨x0, x1⟩ := HS3.out.row p (by omega)
            have hp0 : (0 : Int) ≤ (p : Int) := by omega
            have hp65 : (p : Int) < 65 := by omega
            have dp : decide ((p : Int) < 0) = false := decide_eq_false (by omega)
            have HM0 : Hid (Od w (W3.setCell ⟨A, p, none⟩ (.int .i64 (-1))) A (mid l out (out ++ [(p : Int)]) 0) ∧ KS (W3.setCell ⟨A, p, none⟩ (.int .i64 (-1))) (A + 1) (.slice a3 (j + 1) c3) (out ++ [(p : Int)])) := Lib.hid ⟨(HS3.out.set p (-1)).congr (fun k _ => mid_start k), ks_set HO3.out.2⟩
            clear hnx hr' hsl h2 h3 h4 hrd hp1
            go_wp2_with (at_builtin; refine walk_run (v' := .slice a3 (j + 1) c3) (w' := W3) rfl _ _ _ _ rfl _ _ rfl rfl HRUN.out ?_)
            clear x0 x1
            go_loopw [48] (fun s wr'' => ∃ k : Nat, s = .int .i64 k ∧ k ≤ i ∧ Hid (Od w wr'' A (mid l out (out ++ [(p : Int)]) k) ∧ KS wr'' (A + 1) (.slice a3 (j + 1) c3) (out ++ [(p : Int)]))) (fun s _ => i - (RowKit.intOf s).toNat)
            case atStart => exact ⟨0, rfl, by omega, HM0⟩
            case round =>
              clear HM0
              obtain ⟨k, rfl, hk, HK⟩ := hrel
              have hk0 : (0 : Int) ≤ (k : Int) := by omega
              by_cases hkl : k < i
              · have hkl2 : (k : Int) < (i : Int) := by omega
                obtain ⟨g, off, t, rfl, ht, q0, q1⟩ := HT.out _ k HK.out.1.below (by rw [HL.out]; exact hkl)
                obtain ⟨U, Y, hU, hY, u0, u1, HU⟩ := box_nd _ t
                have HKY := Lib.hid (And.intro (HK.out.1.under HU.out.1) (HK.out.2.under HU.out.1))
                have hok := HOK.out.2.2 t (List.mem_of_getElem? ht.out)
                obtain ⟨q, hq⟩ := Int.eq_ofNat_of_zero_le (show 0 ≤ t.a by have := hok.1.1; omega)
                have HQ : Hid (t.a = (q : Int) ∧ 1 ≤ q) := Lib.hid ⟨hq, by have := hok.1.1; omega⟩
                have hq0 : (0 : Int) ≤ (q : Int) := by omega
                have hq65 : (q : Int) < 65 := by have := hok.1.2; omega
                obtain ⟨x0, x1⟩ := HKY.out.1.row q (by omega)
                rw [hq] at q0 u0 hY
                by_cases cb : t.b = (p : Int)
                · have cb2 : (t.b == (p : Int)) = true := by simpa using cb
                  obtain ⟨b0, b1⟩ := mid_b l out (out ++ [(p : Int)]) k q
                  rw [HL.out] at b1
                  have HSTEP : Hid (∀ z, up (mid l out (out ++ [(p : Int)]) k) q (mid l out (out ++ [(p : Int)]) k q - 1) z = mid l out (out ++ [(p : Int)]) (k + 1) z) := Lib.hid (fun z => mid_yes ht.out HQ.out.1 HQ.out.2 cb HX0.out (fun h => HX0.out (by
                    have := stands_shut HST.out (List.mem_of_getElem? ht.out) (by rw [HQ.out.1]; exact h)
                    rw [cb] at this
                    exact this)) z)
                  obtain ⟨v, hv⟩ : ∃ v, mid l out (out ++ [(p : Int)]) k q = v := ⟨_, rfl⟩
                  rw [hv] at x0 b0 b1
                  have wv : IntKind.i64.wrap (v - 1) = v - 1 := IntWalk.i64_in _ (by omega)
                  have HK2 : Hid (Od w (Y.setCell ⟨A, q, none⟩ (.int .i64 (v - 1))) A (mid l out (out ++ [(p : Int)]) (k + 1)) ∧ KS (Y.setCell ⟨A, q, none⟩ (.int .i64 (v - 1))) (A + 1) (.slice a3 (j + 1) c3) (out ++ [(p : Int)])) := Lib.hid ⟨(HKY.out.1.set q (v - 1)).congr (fun z _ => by rw [← hv]; exact HSTEP.out z), ks_set HKY.out.2⟩
                  clear hok hq hv b0 b1 cb
                  go_wp2_with fail
                  clear hY hU
                  go_roundw
                  case rel => exact ⟨k + 1, by go_num, by omega, HK2⟩
                  case measure => simp [RowKit.intOf]; omega
                · have cb2 : (t.b == (p : Int)) = false := by simpa using cb
                  have HK2 : Hid (Od w Y A (mid l out (out ++ [(p : Int)]) (k + 1)) ∧ KS Y (A + 1) (.slice a3 (j + 1) c3) (out ++ [(p : Int)])) := Lib.hid ⟨HKY.out.1.congr (fun z _ => mid_no ht.out cb z), HKY.out.2⟩
                  clear hok hq cb x0 x1
                  go_wp2_with fail
                  clear hY hU
                  go_roundw
                  case rel => exact ⟨k + 1, by go_num, by omega, HK2⟩
                  case measure => simp [RowKit.intOf]; omega
              · obtain rfl : k = i := by omega
                have HK3 : Hid (∀ W, Od w W A (mid l out (out ++ [(p : Int)]) k) → Od w W A (lk l (out ++ [(p : Int)]))) := Lib.hid (fun W h => h.congr fun z _ => by rw [← HL.out, mid_end])
                have HS4 := Lib.hid (And.intro (HK3.out _ HK.out.1) HST.out)
                have HO4 := Lib.hid (And.intro HO3.out.1 HK.out.2)
                go_wp2_with fail
                go_roundw
                case rel => exact ⟨a3, j + 1, c3, out ++ [(p : Int)], rfl, by go_num, by omega, HO4, HS4, HF2⟩
                case measure => simp [RowKit.intOf]; omega
        · obtain rfl : j = N := by omega
          have HE := Lib.hid (ord_some HOK.out (k := out) (by
            rw [HNT.out, ← HF.out, Nat.sub_self]
            rfl))
          have HE2 : Hid ((ordV j l).length = j ∧ KS wr w.heap.size (.slice a1 j c1) (ordV j l) ∧ Below w.heap.size w wr) := Lib.hid (by rw [HE.out.2]; exact ⟨HO.out.1, ks_low HO.out.2 (by have := HS.out.1.new; omega), HS.out.1.below⟩)
          go_wp2_with fail
          go_ret2
          exact ⟨a1, j, c1, by rw [HE.out.1]; rfl, HE2⟩
end Go.Proofs.Ytdbhdlgoecpeaaa.Graph.Im
