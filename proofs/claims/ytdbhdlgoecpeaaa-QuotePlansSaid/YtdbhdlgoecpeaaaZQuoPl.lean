/- Plans of a catalogue's jobs: what a walk asks of them; said without a program. -/
import Derived.Test.YtdbhdlgoecpeaaaZQuoD
namespace Go.Proofs.Ytdbhdlgoecpeaaa.Quo
open Go.RowKit Go.Lib IRows
open Cat (Cat PB Ba CM CatAt Lim)
open Bom (RunsOk tim tim_le tim_nonneg)

/-- Whether a job may begin, as far as the first so many go. -/
def frx (J : Jb) (p : Pl) (k : Nat) : Nat → Bool
  | 0 => true
  | x + 1 => frx J p k x && (!J.w k x || (p.b x && decide (p.e x ≤ p.now)))
theorem frx_all (J : Jb) (p : Pl) (k : Nat) : ∀ n, frx J p k n = (List.range n).all fun x => !J.w k x || (p.b x && decide (p.e x ≤ p.now))
  | 0 => rfl
  | n + 1 => by rw [frx, frx_all J p k n, List.range_succ, List.all_append]; simp
theorem ready_frx (J : Jb) (p : Pl) (k : Nat) : ready J p k = (J.j k && !p.b k && frx J p k J.n) := by rw [frx_all]; rfl
theorem frx_false {J : Jb} {p : Pl} {k x : Nat} (h : frx J p k x = false) : ∀ {n}, x ≤ n → frx J p k n = false
  | 0, hx => by
    obtain rfl : x = 0 := by omega
    exact h
  | n + 1, hx => by
    by_cases e : x = n + 1
    · rw [← e]; exact h
    · rw [frx, frx_false h (n := n) (by omega)]
      rfl
theorem nxF_next {J : Jb} {p : Pl} {d i : Nat} (h : d + i + 1 = J.n) : nxF J p (d + 1) = if ready J p i then (i : Int) else nxF J p d := by
  rw [nxF, show J.n - (d + 1) = i by omega]
theorem stp_beg {J : Jb} {p : Pl} {k : Nat} (h : nxF J p J.n = (k : Int)) (h2 : (doing J p : Int) < J.m) : stp J p = some (beg J p k) := by
  unfold stp
  rw [if_pos ⟨by rw [h]; omega, h2⟩, h]
  rfl
theorem stp_not {J : Jb} {p : Pl} (h : ¬ (0 ≤ nxF J p J.n ∧ (doing J p : Int) < J.m)) (h2 : thF p J.n ≠ 0) : stp J p = some ⟨p.s, p.e, p.b, thF p J.n⟩ := by
  unfold stp
  rw [if_neg h, if_neg h2]
theorem stp_none {J : Jb} {p : Pl} (h : ¬ (0 ≤ nxF J p J.n ∧ (doing J p : Int) < J.m)) (h2 : thF p J.n = 0) : stp J p = none := by
  unfold stp
  rw [if_neg h, if_pos h2]
theorem left_beg {J : Jb} {p : Pl} {k : Nat} (hk : k < J.n) (hr : ready J p k = true) : left J p = left J (beg J p k) + 1 := by
  obtain ⟨h1, h2, _⟩ := ready_is hr
  unfold left
  have := cntB_one (f := fun i => J.j i && !(beg J p k).b i) (g := fun i => J.j i && !p.b i) (k := k) (by show (J.j k && !updN p.b k true k) = false; rw [updN_same]; simp) (by show (J.j k && !p.b k) = true; rw [h1, h2]; rfl) J.n (fun i _ hne => by show (J.j i && !updN p.b k true i) = (J.j i && !p.b i); rw [updN_other _ _ hne])
  rw [this, if_pos hk]
theorem nxF_ready {J : Jb} {p : Pl} {k : Nat} (h : nxF J p J.n = (k : Int)) : k < J.n ∧ ready J p k = true := by
  rcases nxF_is J p J.n (Nat.le_refl _) with ⟨h1, _⟩ | ⟨i, h1, h2, h3⟩
  · omega
  · obtain rfl : k = i := by omega
    exact ⟨h2, h3⟩
theorem allT_mono {J : Jb} (h : ∀ k, 0 ≤ J.t k) : ∀ n m, n ≤ m → allT J n ≤ allT J m
  | n, 0, hm => by
    obtain rfl : n = 0 := by omega
    exact Int.le_refl _
  | n, m + 1, hm => by
    by_cases e : n = m + 1
    · rw [e]; exact Int.le_refl _
    · have h1 := allT_mono h n m (by omega)
      have h2 := h m
      rw [allT]
      split <;> omega
theorem sumT_le {J : Jb} {p : Pl} (h : ∀ k, 0 ≤ J.t k) (hb : ∀ k, p.b k = true → J.j k = true) : ∀ n, sumT J p n ≤ allT J n
  | 0 => Int.le_refl _
  | n + 1 => by
    have h1 := sumT_le h hb n
    have h2 := h n
    rw [sumT, allT]
    cases hp : p.b n with
    | true => rw [hb n hp]; simp; omega
    | false => simp; split <;> omega
theorem Ok.end_le {J : Jb} {p : Pl} (h : Ok J p) (ht : ∀ k, 0 ≤ J.t k) {k : Nat} (hb : p.b k = true) : p.e k ≤ allT J J.n := Int.le_trans (h.ends k hb) (sumT_le ht (fun k hk => (h.job k hk).2.1) _)
theorem Ok.now_le {J : Jb} {p : Pl} (h : Ok J p) (ht : ∀ k, 0 ≤ J.t k) : p.now ≤ allT J J.n := by
  rcases h.here with h1 | ⟨x, h1, h2⟩
  · rw [h1]
    exact allT_mono ht 0 _ (Nat.zero_le _)
  · rw [← h2]
    exact h.end_le ht h1
theorem Ok.e_in {J : Jb} {p : Pl} (h : Ok J p) (ht : ∀ k, 0 ≤ J.t k) (k : Nat) : 0 ≤ p.e k ∧ p.e k ≤ allT J J.n := by
  cases hb : p.b k with
  | false =>
    rw [(h.none k hb).2]
    exact ⟨Int.le_refl _, allT_mono ht 0 _ (Nat.zero_le _)⟩
  | true =>
    obtain ⟨_, _, h1, _, h2⟩ := h.job k hb
    have := ht k
    exact ⟨by omega, h.end_le ht hb⟩
theorem allT_in {J : Jb} {M : Int} (h : ∀ k, 0 ≤ J.t k ∧ J.t k ≤ M) : ∀ n, 0 ≤ allT J n ∧ allT J n ≤ n * M
  | 0 => by simp [allT]
  | n + 1 => by
    have h1 := allT_in h n
    have h2 := h n
    rw [allT, Int.natCast_add, Int.add_mul]
    split <;> constructor <;> omega
/-! a catalogue's -/
theorem jb_t (C : Cat) (rs : List Int) (lv m : Int) (k : Nat) : 0 ≤ (jbOf C rs lv m).t k ∧ (jbOf C rs lv m).t k ≤ 104857600000 := by
  show 0 ≤ (match C.bs[k]? with
    | none => 0
    | some b => tim lv b (rs.getD k 0)) ∧ (match C.bs[k]? with
    | none => 0
    | some b => tim lv b (rs.getD k 0)) ≤ 104857600000
  cases C.bs[k]? with
  | none => exact ⟨Int.le_refl _, by show (0 : Int) ≤ 104857600000; omega⟩
  | some b => exact ⟨tim_nonneg _ _ _, tim_le _ _ _⟩
theorem jb_tk {C : Cat} {rs : List Int} {lv m : Int} {k : Nat} {b : PB} {r : Int} (h1 : C.bs[k]? = some b) (h2 : rs[k]? = some r) : (jbOf C rs lv m).t k = tim lv b r := by
  show (match C.bs[k]? with
    | none => 0
    | some b => tim lv b (rs.getD k 0)) = _
  rw [h1, List.getD_eq_getElem?_getD, h2]
  rfl
theorem jb_j {C : Cat} {rs : List Int} {lv m : Int} {k : Nat} {r : Int} (h2 : rs[k]? = some r) : (jbOf C rs lv m).j k = decide (0 < r) := by
  show decide (0 < rs.getD k 0) = _
  rw [List.getD_eq_getElem?_getD, h2]
  rfl
theorem ord_of {C : Cat} (h : Cat.chkC C = 0) : Graph.ordE C.ty (Cat.ndL C.bs) = 0 := by
  by_cases h1 : Graph.ordE C.ty (Cat.ndL C.bs) = 0
  · exact h1
  · rw [Cat.chk_err (Cat.chk_zero h) h1] at h
    exact h
theorem tim_pos {b : PB} {ty lv r : Int} (h : Recipe.BlOk b.b ty) (hl : 0 ≤ lv ∧ lv ≤ 10) (hr : 0 < r ∧ r ≤ 1000) : 1 ≤ tim lv b r := by
  have hk : Recipe.BlOk b.b 32 := ⟨⟨by omega, by omega⟩, ⟨h.2.1.1, by have := h.2.1.2; have := h.1.2; omega⟩, h.2.2.1, h.2.2.2.1, h.2.2.2.2.1, h.2.2.2.2.2.1, h.2.2.2.2.2.2.1, ⟨h.2.2.2.2.2.2.2.1.1, h.2.2.2.2.2.2.2.1.2.1, h.2.2.2.2.2.2.2.1.2.2.1, fun s hs => by have := h.2.2.2.2.2.2.2.1.2.2.2 s hs; have := h.1.2; omega⟩, h.2.2.2.2.2.2.2.2⟩
  unfold tim
  rw [if_neg (by omega), (Recipe.time_ok hk ⟨hl, by omega, hr.2⟩).2]
  have h1 : 0 < b.tm * r := Int.mul_pos (by have := h.2.2.2.1.1; show 0 < b.b.tm; omega) hr.1
  have h2 : 0 < b.tm * r * (100 - 2 * lv) := Int.mul_pos h1 (by omega)
  have := Bom.up_pos (k := 100) h2 (by omega)
  show 1 ≤ Recipe.up (b.tm * r * (100 - 2 * lv)) 100
  omega
theorem jb_ok {C : Cat} {rs : List Int} {lv m : Int} (h : Cat.chkC C = 0) (ha : ArgOk C rs lv) : Fine (jbOf C rs lv m) := by
  have hk := Cat.chk_zero h
  refine jb_fine (Bom.top_of (ord_of h)) (fun b hb => (hk.2.1 b hb).2.1) fun k b hb hr => tim_pos (hk.2.1 b (List.mem_of_getElem? hb)) ha.2 ⟨hr, ?_⟩
  rw [List.getD_eq_getElem?_getD] at hr ⊢
  cases hx : rs[k]? with
  | none => simp
  | some r => exact (ha.1.2 r (List.mem_of_getElem? hx)).2
theorem jb_go {C : Cat} {rs : List Int} {lv m : Int} (h : Cat.chkC C = 0) (ha : ArgOk C rs lv) (hm : 1 ≤ m) {p : Pl} (hp : Ok (jbOf C rs lv m) p) (h0 : left (jbOf C rs lv m) p ≠ 0) : stp (jbOf C rs lv m) p ≠ none :=
  jb_told (Bom.top_of (ord_of h)) (fun b hb => ((Cat.chk_zero h).2.1 b hb).2.1) (fun r hr => (ha.1.2 r hr).1) hm hp h0
theorem jb_all {C : Cat} (rs : List Int) (lv m : Int) (h : C.bs.length ≤ 20) : 0 ≤ allT (jbOf C rs lv m) (jbOf C rs lv m).n ∧ allT (jbOf C rs lv m) (jbOf C rs lv m).n ≤ 2097152000000 := by
  have h1 := allT_in (J := jbOf C rs lv m) (M := 104857600000) (fun k => jb_t C rs lv m k) (jbOf C rs lv m).n
  have h2 : (jbOf C rs lv m).n ≤ 20 := h
  refine ⟨h1.1, ?_⟩
  have h3 := h1.2
  generalize allT (jbOf C rs lv m) (jbOf C rs lv m).n = z at h1 h3 ⊢
  generalize (jbOf C rs lv m).n = n at h2 h3
  omega
theorem planF_some {J : Jb} (hF : Fine J) (hgo : ∀ p, Ok J p → left J p ≠ 0 → stp J p ≠ none) : ∀ (f : Nat) (p : Pl), Ok J p → ∃ q, planF J f p = some q
  | 0, p, _ => ⟨p, rfl⟩
  | f + 1, p, hp => by
    rw [planF]
    by_cases h0 : left J p = 0
    · rw [if_pos h0]
      exact ⟨p, rfl⟩
    · rw [if_neg h0]
      cases hs : stp J p with
      | none => exact absurd hs (hgo p hp h0)
      | some r => exact planF_some hF hgo f r (step_ok hp hF.t0 hF.tj hF.irr hs).1
/-- There is always a plan. -/
theorem jb_plan {C : Cat} {rs : List Int} {lv m : Int} (h : Cat.chkC C = 0) (ha : ArgOk C rs lv) (hm : 1 ≤ m ∨ left (jbOf C rs lv m) start = 0) : ∃ q, pl (jbOf C rs lv m) start = some q := by
  rcases hm with hm | hm
  · exact planF_some (jb_ok h ha) (fun p hp h0 => jb_go h ha hm hp h0) _ _ (start_ok _)
  · exact ⟨start, pl_done hm⟩
/-- A time. -/
structure Sp where
  s : Int
  e : Int
def spans (n : Nat) (s e : Nat → Int) : List Sp := (List.range n).map fun k => ⟨s k, e k⟩
theorem spans_len (n : Nat) (s e : Nat → Int) : (spans n s e).length = n := by simp [spans]
theorem spans_at {n : Nat} {s e : Nat → Int} {i : Nat} (h : i < n) : (spans n s e)[i]? = some ⟨s i, e i⟩ := by simp [spans, h]
noncomputable def jobsN (C : Cat) (rs : List Int) (lv m : Int) : Nat := left (jbOf C rs lv m) start
noncomputable def planE (C : Cat) (bay : Int) (rs : List Int) (lv : Int) : Int := if mayQ C bay rs lv = 0 then (if 0 < jobsN C rs lv (Cat.bayV C bay).mf ∧ (Cat.bayV C bay).mf = 0 then 10 else 0) else mayQ C bay rs lv
/-- The plan of a catalogue's jobs; none where it is not told. -/
noncomputable def planP (C : Cat) (bay : Int) (rs : List Int) (lv : Int) : Pl := (pl (jbOf C rs lv (Cat.bayV C bay).mf) start).getD start
noncomputable def planL (C : Cat) (bay : Int) (rs : List Int) (lv : Int) : List Sp := if planE C bay rs lv = 0 then spans C.bs.length (planP C bay rs lv).s (planP C bay rs lv).e else []
theorem plan_err {C : Cat} {bay lv : Int} {rs : List Int} (h : ¬ mayQ C bay rs lv = 0) : planE C bay rs lv = mayQ C bay rs lv ∧ planL C bay rs lv = [] := by
  have e : planE C bay rs lv = mayQ C bay rs lv := by unfold planE; rw [if_neg h]
  exact ⟨e, by unfold planL; rw [e, if_neg h]⟩
theorem plan_slots {C : Cat} {bay lv : Int} {rs : List Int} (h : mayQ C bay rs lv = 0) (h1 : 0 < jobsN C rs lv (Cat.bayV C bay).mf ∧ (Cat.bayV C bay).mf = 0) : planE C bay rs lv = 10 ∧ planL C bay rs lv = [] := by
  have e : planE C bay rs lv = 10 := by unfold planE; rw [if_pos h, if_pos h1]
  exact ⟨e, by unfold planL; rw [e, if_neg (by omega)]⟩
theorem plan_ok {C : Cat} {bay lv : Int} {rs : List Int} (h : mayQ C bay rs lv = 0) (h1 : ¬ (0 < jobsN C rs lv (Cat.bayV C bay).mf ∧ (Cat.bayV C bay).mf = 0)) : planE C bay rs lv = 0 ∧ planL C bay rs lv = spans C.bs.length (planP C bay rs lv).s (planP C bay rs lv).e := by
  have e : planE C bay rs lv = 0 := by unfold planE; rw [if_pos h, if_neg h1]
  exact ⟨e, by unfold planL; rw [e, if_pos rfl]⟩
/-! spans in memory -/
def Spa (w : World) (a : Option Addr) (l : List Sp) : Prop := ∀ (i : Nat) (t : Sp), l[i]? = some t → ∃ g off, a = some ⟨g, off, none⟩ ∧ g < w.heap.size ∧ w.cell? ⟨g, off + i * 2, none⟩ = some (.int .i64 t.s) ∧ w.cell? ⟨g, off + i * 2 + 1, none⟩ = some (.int .i64 t.e)
theorem Spa.under {w w' : World} {a : Option Addr} {l : List Sp} (h : Spa w a l) (hb : Below w.heap.size w w') : Spa w' a l := fun i t hi => by
  obtain ⟨g, off, e, hg, k0, k1⟩ := h i t hi
  exact ⟨g, off, e, Nat.lt_of_lt_of_le hg hb.size, ((bcell hb).1 g _ hg).trans k0, ((bcell hb).1 g _ hg).trans k1⟩
theorem spa_nil (w : World) (a : Option Addr) : Spa w a [] := fun i t h => by simp at h
theorem spa_at {w : World} {a : Option Addr} {l : List Sp} (h : Spa w a l) : Hid (∀ W i, Below w.heap.size w W → i < l.length → ∃ g off t, a = some ⟨g, off, none⟩ ∧ Hid (l[i]? = some t) ∧ W.cell? ⟨g, off + i * 2, none⟩ = some (.int .i64 t.s) ∧ W.cell? ⟨g, off + i * 2 + 1, none⟩ = some (.int .i64 t.e)) := Lib.hid fun W i hW hi => by
  obtain ⟨g, off, e, _, k0, k1⟩ := (h.under hW) i l[i] (List.getElem?_eq_getElem hi)
  exact ⟨g, off, _, e, Lib.hid (List.getElem?_eq_getElem hi), k0, k1⟩
theorem info_sp : (Try.prog.info? 46).map (fun i => (i.zero, i.size, i.bytes)) = some (some (.agg #[.int .i64 0, .int .i64 0]), 2, 16) := by kernel_rfl
/-- A made row of spans. -/
theorem run_make_sp (n : Nat) (hn : n ≤ 1048576) (w : World) : (Instr.makeSlice 32 (.int .i64 (n : Int)) (.int .i64 (n : Int))).run Try.prog w = .ok (.slice (some ⟨w.heap.size, 0, none⟩) n n) (w.alloc (.cells (madeCells #[.int .i64 0, .int .i64 0] (n * 2)) 46)) := by
  obtain ⟨i, hi, hzz⟩ := Option.map_eq_some_iff.1 info_sp
  simp only [Prod.mk.injEq] at hzz
  obtain ⟨hz, hs, hb⟩ := hzz
  have hr := run_make (P := Try.prog) w 32 46 i _ Try.underlying32 hi hz .i64 .i64 n n (by omega) (Int.le_refl _) (by rw [hb]; omega) (by omega)
  simp only [Int.toNat_natCast, hs] at hr
  exact hr
/-- Spans and bools that make has made: what stands in them. -/
structure PO (W : World) (A B n : Nat) (s e : Nat → Int) (b : Nat → Bool) : Prop where
  st : ∀ i, i < n → W.cell? ⟨A, i * 2, none⟩ = some (.int .i64 (s i)) ∧ W.frozen? ⟨A, i * 2, none⟩ = false
  en : ∀ i, i < n → W.cell? ⟨A, i * 2 + 1, none⟩ = some (.int .i64 (e i)) ∧ W.frozen? ⟨A, i * 2 + 1, none⟩ = false
  bo : ∀ i, i < n → W.cell? ⟨B, i, none⟩ = some (.bool (b i)) ∧ W.frozen? ⟨B, i, none⟩ = false
  ne : A ≠ B
  lt : A < W.heap.size ∧ B < W.heap.size
theorem PO.under {W W' : World} {A B n : Nat} {s e : Nat → Int} {b : Nat → Bool} (h : PO W A B n s e b) (hb : Below W.heap.size W W') : PO W' A B n s e b :=
  ⟨fun i hi => ⟨((bcell hb).1 A _ h.lt.1).trans (h.st i hi).1, ((bcell hb).2 A _ h.lt.1).trans (h.st i hi).2⟩, fun i hi => ⟨((bcell hb).1 A _ h.lt.1).trans (h.en i hi).1, ((bcell hb).2 A _ h.lt.1).trans (h.en i hi).2⟩, fun i hi => ⟨((bcell hb).1 B _ h.lt.2).trans (h.bo i hi).1, ((bcell hb).2 B _ h.lt.2).trans (h.bo i hi).2⟩, h.ne, Nat.lt_of_lt_of_le h.lt.1 hb.size, Nat.lt_of_lt_of_le h.lt.2 hb.size⟩
theorem PO.setS {W : World} {A B n : Nat} {s e : Nat → Int} {b : Nat → Bool} (h : PO W A B n s e b) (k : Nat) (x y : Int) : PO ((W.setCell ⟨A, k * 2, none⟩ (.int .i64 x)).setCell ⟨A, k * 2 + 1, none⟩ (.int .i64 y)) A B n (updN s k x) (updN e k y) b := by
  have hne : ∀ {P Q i j : Nat}, P ≠ Q ∨ i ≠ j → (⟨P, i, none⟩ : Addr) ≠ ⟨Q, j, none⟩ := fun h e => by
    injection e with e1 e2
    rcases h with h | h
    · exact h e1
    · exact h e2
  have fz : ∀ a, ((W.setCell ⟨A, k * 2, none⟩ (.int .i64 x)).setCell ⟨A, k * 2 + 1, none⟩ (.int .i64 y)).frozen? a = W.frozen? a := fun a => by rw [World.frozen?_setCell, World.frozen?_setCell]
  have oth : ∀ P i, P ≠ A ∨ (i ≠ k * 2 ∧ i ≠ k * 2 + 1) → ((W.setCell ⟨A, k * 2, none⟩ (.int .i64 x)).setCell ⟨A, k * 2 + 1, none⟩ (.int .i64 y)).cell? ⟨P, i, none⟩ = W.cell? ⟨P, i, none⟩ := fun P i hp => by
    have h1 : (⟨A, k * 2 + 1, none⟩ : Addr) ≠ ⟨P, i, none⟩ := hne (hp.elim (fun h => .inl fun e => h e.symm) fun h => .inr fun e => h.2 e.symm)
    have h2 : (⟨A, k * 2, none⟩ : Addr) ≠ ⟨P, i, none⟩ := hne (hp.elim (fun h => .inl fun e => h e.symm) fun h => .inr fun e => h.1 e.symm)
    rw [World.cell?_setCell_other (h := h1), World.cell?_setCell_other (h := h2)]
  refine ⟨fun i hi => ⟨?_, (fz _).trans (h.st i hi).2⟩, fun i hi => ⟨?_, (fz _).trans (h.en i hi).2⟩, fun i hi => ⟨(oth B i (.inl fun e => h.ne e.symm)).trans (h.bo i hi).1, (fz _).trans (h.bo i hi).2⟩, h.ne, by simpa using h.lt⟩
  · by_cases e1 : i = k
    · subst e1
      rw [updN_same, World.cell?_setCell_other (h := hne (.inr (by omega))), World.cell?_setCell_same (h := (h.st i hi).1)]
    · rw [updN_other _ _ e1, oth A (i * 2) (.inr ⟨by omega, by omega⟩)]
      exact (h.st i hi).1
  · by_cases e1 : i = k
    · subst e1
      have h3 : (W.setCell ⟨A, i * 2, none⟩ (.int .i64 x)).cell? ⟨A, i * 2 + 1, none⟩ = some (.int .i64 (e i)) := by rw [World.cell?_setCell_other (h := hne (.inr (by omega)))]; exact (h.en i hi).1
      rw [updN_same, World.cell?_setCell_same (h := h3)]
    · rw [updN_other _ _ e1, oth A (i * 2 + 1) (.inr ⟨by omega, by omega⟩)]
      exact (h.en i hi).1
theorem PO.setB {W : World} {A B n : Nat} {s e : Nat → Int} {b : Nat → Bool} (h : PO W A B n s e b) (k : Nat) (v : Bool) : PO (W.setCell ⟨B, k, none⟩ (.bool v)) A B n s e (updN b k v) := by
  have hne : ∀ {P Q i j : Nat}, P ≠ Q ∨ i ≠ j → (⟨P, i, none⟩ : Addr) ≠ ⟨Q, j, none⟩ := fun h e => by
    injection e with e1 e2
    rcases h with h | h
    · exact h e1
    · exact h e2
  refine ⟨fun i hi => ?_, fun i hi => ?_, fun i hi => ?_, h.ne, by simpa using h.lt⟩
  · rw [World.frozen?_setCell, World.cell?_setCell_other (h := hne (.inl h.ne.symm))]
    exact h.st i hi
  · rw [World.frozen?_setCell, World.cell?_setCell_other (h := hne (.inl h.ne.symm))]
    exact h.en i hi
  · rw [World.frozen?_setCell]
    refine ⟨?_, (h.bo i hi).2⟩
    by_cases e1 : i = k
    · subst e1
      rw [updN_same, World.cell?_setCell_same (h := (h.bo i hi).1)]
    · rw [updN_other _ _ e1, World.cell?_setCell_other (h := hne (.inr fun x => e1 x.symm))]
      exact (h.bo i hi).1
theorem PO.spa {W : World} {A B n : Nat} {s e : Nat → Int} {b : Nat → Bool} (h : PO W A B n s e b) : Spa W (some ⟨A, 0, none⟩) (spans n s e) := fun i t hi => by
  have hl := (List.getElem?_eq_some_iff.1 hi).1
  rw [spans_len] at hl
  rw [spans_at hl] at hi
  injection hi with hi
  subst hi
  exact ⟨A, 0, rfl, h.lt.1, by rw [Nat.zero_add]; exact (h.st i hl).1, by rw [Nat.zero_add]; exact (h.en i hl).1⟩
theorem made_two (x y : Value) (n i : Nat) (h : i < n) : (madeCells #[x, y] (n * 2))[i * 2]? = some x ∧ (madeCells #[x, y] (n * 2))[i * 2 + 1]? = some y := by
  constructor
  · simp [madeCells, show i * 2 < n * 2 by omega]
  · have h2 : (i * 2 + 1) % 2 = 1 := by omega
    simp [madeCells, show i * 2 + 1 < n * 2 by omega, h2]
end Go.Proofs.Ytdbhdlgoecpeaaa.Quo
