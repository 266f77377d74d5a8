/- The program's jobsOf. The program's Bay of a catalogue. -/
import Derived.Test.YtdbhdlgoecpeaaaZQuoImC
import Derived.Deep.RegionHeld3
import Derived.Deep.CutRange
import Derived.Test.YtdbhdlgoecpeaaaZCatImA
import Derived.Test.YtdbhdlgoecpeaaaZCatBy
namespace Go.Proofs.Ytdbhdlgoecpeaaa.Quo.Im
open Go.RowKit Go.Lib IRows
open Goods (St Sts)
open Cat (Cat PB Ba CM CatAt Lim box_cat pOf I64 mkr)
open Bom (RunsOk tim tim_blue tim_le tim_nonneg fm mkr_fm)
open Recipe (BlIn)

/-- How long a job takes, and for which it waits. -/
noncomputable def tmJ (C : Cat) (rs : List Int) (lv : Int) (k : Nat) : Int := (jbOf C rs lv 0).t k
def wsJ (C : Cat) (rs : List Int) (k : Nat) : List Int := if 0 < rs.getD k 0 then (match C.bs[k]? with
  | none => []
  | some b => wsL C.bs rs b.s) else []
theorem wsJ_bd {C : Cat} {rs : List Int} {k : Nat} {x : Int} (h : x ∈ wsJ C rs k) : 0 ≤ x ∧ x < C.bs.length := by
  unfold wsJ at h
  split at h
  · split at h
    · cases h
    · exact wsL_bd h
  · cases h
open Classical in
noncomputable def argE (C : Cat) (rs : List Int) (lv : Int) : Int := if ArgOk C rs lv then 0 else 1
/-- Ints that lie in another block. -/
def Rw (W : World) (A : Nat) (a : Option Addr) (l : List Int) : Prop := ∀ (i : Nat) (x : Int), l[i]? = some x → ∃ g off, a = some ⟨g, off, none⟩ ∧ A < g ∧ g < W.heap.size ∧ W.cell? ⟨g, off + i, none⟩ = some (.int .i64 x)
theorem Rw.to {W W' : World} {A : Nat} {a : Option Addr} {l : List Int} (h : Rw W A a l) (hs : W.heap.size ≤ W'.heap.size) (hc : ∀ g o, A < g → g < W.heap.size → W'.cell? ⟨g, o, none⟩ = W.cell? ⟨g, o, none⟩) : Rw W' A a l := fun i x hi => by
  obtain ⟨g, off, e, h1, h2, h3⟩ := h i x hi
  exact ⟨g, off, e, h1, Nat.lt_of_lt_of_le h2 hs, (hc g _ h1 h2).trans h3⟩
/-- A made row of jobs, as far as it is laid. -/
structure JW (W : World) (A n : Nat) (t : Nat → Int) (ws : Nat → List Int) : Prop where
  ct : ∀ k, k < n → W.cell? ⟨A, k * 2, none⟩ = some (.int .i64 (t k)) ∧ W.frozen? ⟨A, k * 2, none⟩ = false
  cw : ∀ k, k < n → ∃ ak ck, W.cell? ⟨A, k * 2 + 1, none⟩ = some (.slice ak (ws k).length ck) ∧ W.frozen? ⟨A, k * 2 + 1, none⟩ = false ∧ Rw W A ak (ws k)
  lt : A < W.heap.size
theorem JW.under {W W' : World} {A n : Nat} {t : Nat → Int} {ws : Nat → List Int} (h : JW W A n t ws) (hb : Below W.heap.size W W') : JW W' A n t ws :=
  ⟨fun k hk => ⟨((bcell hb).1 A _ h.lt).trans (h.ct k hk).1, ((bcell hb).2 A _ h.lt).trans (h.ct k hk).2⟩, fun k hk => by
    obtain ⟨ak, ck, h1, h2, h3⟩ := h.cw k hk
    exact ⟨ak, ck, ((bcell hb).1 A _ h.lt).trans h1, ((bcell hb).2 A _ h.lt).trans h2, h3.to hb.size fun g o _ hg => (bcell hb).1 g o hg⟩, Nat.lt_of_lt_of_le h.lt hb.size⟩
theorem JW.congr {W : World} {A n : Nat} {t t' : Nat → Int} {ws ws' : Nat → List Int} (h : JW W A n t ws) (ht : ∀ k, k < n → t k = t' k) (hw : ∀ k, k < n → ws k = ws' k) : JW W A n t' ws' :=
  ⟨fun k hk => by rw [← ht k hk]; exact h.ct k hk, fun k hk => by rw [← hw k hk]; exact h.cw k hk, h.lt⟩
theorem JW.set {W : World} {A n : Nat} {t : Nat → Int} {ws : Nat → List Int} (h : JW W A n t ws) (i : Nat) (x : Int) (a : Option Addr) (c : Nat) (l : List Int) (hr : Rw W A a l) :
    JW ((W.setCell ⟨A, i * 2, none⟩ (.int .i64 x)).setCell ⟨A, i * 2 + 1, none⟩ (.slice a l.length c)) A n (updN t i x) (updN ws i l) := by
  have hne : ∀ {P Q i j : Nat}, P ≠ Q ∨ i ≠ j → (⟨P, i, none⟩ : Addr) ≠ ⟨Q, j, none⟩ := fun h e => by
    injection e with e1 e2
    rcases h with h | h
    · exact h e1
    · exact h e2
  have fz : ∀ p, ((W.setCell ⟨A, i * 2, none⟩ (.int .i64 x)).setCell ⟨A, i * 2 + 1, none⟩ (.slice a l.length c)).frozen? p = W.frozen? p := fun p => by rw [World.frozen?_setCell, World.frozen?_setCell]
  have oth : ∀ P j, P ≠ A ∨ (j ≠ i * 2 ∧ j ≠ i * 2 + 1) → ((W.setCell ⟨A, i * 2, none⟩ (.int .i64 x)).setCell ⟨A, i * 2 + 1, none⟩ (.slice a l.length c)).cell? ⟨P, j, none⟩ = W.cell? ⟨P, j, none⟩ := fun P j hp => by
    have h1 : (⟨A, i * 2 + 1, none⟩ : Addr) ≠ ⟨P, j, none⟩ := hne (hp.elim (fun h => .inl fun e => h e.symm) fun h => .inr fun e => h.2 e.symm)
    have h2 : (⟨A, i * 2, none⟩ : Addr) ≠ ⟨P, j, none⟩ := hne (hp.elim (fun h => .inl fun e => h e.symm) fun h => .inr fun e => h.1 e.symm)
    rw [World.cell?_setCell_other (h := h1), World.cell?_setCell_other (h := h2)]
  have hto : ∀ {b : Option Addr} {m : List Int}, Rw W A b m → Rw ((W.setCell ⟨A, i * 2, none⟩ (.int .i64 x)).setCell ⟨A, i * 2 + 1, none⟩ (.slice a l.length c)) A b m := fun h => h.to (by simp) fun g o hg _ => oth g o (.inl (by omega))
  refine ⟨fun k hk => ⟨?_, (fz _).trans (h.ct k hk).2⟩, fun k hk => ?_, by simpa using h.lt⟩
  · by_cases e : k = i
    · subst e
      rw [updN_same, World.cell?_setCell_other (h := hne (.inr (by omega))), World.cell?_setCell_same (h := (h.ct k hk).1)]
    · rw [updN_other _ _ e, oth A (k * 2) (.inr ⟨by omega, by omega⟩)]
      exact (h.ct k hk).1
  · obtain ⟨ak, ck, h1, h2, h3⟩ := h.cw k hk
    by_cases e : k = i
    · subst e
      have h4 : (W.setCell ⟨A, k * 2, none⟩ (.int .i64 x)).cell? ⟨A, k * 2 + 1, none⟩ = some (.slice ak (ws k).length ck) := by rw [World.cell?_setCell_other (h := hne (.inr (by omega)))]; exact h1
      refine ⟨a, c, ?_, (fz _).trans h2, ?_⟩
      · rw [updN_same, World.cell?_setCell_same (h := h4)]
      · rw [updN_same]
        exact hto hr
    · refine ⟨ak, ck, ?_, (fz _).trans h2, ?_⟩
      · rw [updN_other _ _ e, oth A (k * 2 + 1) (.inr ⟨by omega, by omega⟩)]
        exact h1
      · rw [updN_other _ _ e]
        exact hto h3
theorem JW.jobs {W : World} {A n : Nat} {t : Nat → Int} {ws : Nat → List Int} (h : JW W A n t ws) : JobsAt W (some ⟨A, 0, none⟩) n t ws := fun k hk => by
  obtain ⟨ak, ck, h1, _, h3⟩ := h.cw k hk
  refine ⟨A, ak, ck, rfl, h.lt, (h.ct k hk).1, h1, fun i x hi => ?_⟩
  obtain ⟨g, off, e, _, h4, h5⟩ := h3 i x hi
  exact ⟨g, off, e, h4, h5⟩
/-- .. wherever only an older block has turned. -/
theorem JW.jobs_over {W W' : World} {A n G : Nat} {t : Nat → Int} {ws : Nat → List Int} (h : JW W A n t ws) (hG : G < A) (hg : W.grownBy W' (some G)) : JobsAt W' (some ⟨A, 0, none⟩) n t ws := by
  have hc : ∀ g o, A ≤ g → g < W.heap.size → W'.cell? ⟨g, o, none⟩ = W.cell? ⟨g, o, none⟩ := fun g o h1 h2 => by
    have e := hg.block g h2 (fun e => by injection e with e; omega)
    unfold World.cell?
    rw [e]
  intro k hk
  obtain ⟨ak, ck, h1, _, h3⟩ := h.cw k hk
  refine ⟨A, ak, ck, rfl, Nat.lt_of_lt_of_le h.lt hg.size, (hc A _ (Nat.le_refl _) h.lt).trans (h.ct k hk).1, (hc A _ (Nat.le_refl _) h.lt).trans h1, fun i x hi => ?_⟩
  obtain ⟨g, off, e, h5, h4, h6⟩ := h3 i x hi
  exact ⟨g, off, e, Nat.lt_of_lt_of_le h4 hg.size, (hc g _ (Nat.le_of_lt h5) h4).trans h6⟩
theorem rw_own {W : World} {A B : Nat} {a : Option Addr} {n c : Nat} {l : List Int} (h : KS W B (.slice a n c) l) (hA : A < B) : Rw W A a l := fun i x hi => by
  obtain ⟨a', c', e, h1, h2⟩ := h.at
  injection e with e1 _ _
  subst e1
  have hl := (List.getElem?_eq_some_iff.1 hi).1
  obtain ⟨g, e3, h3, h4⟩ := h1 (by omega)
  obtain ⟨g', e4, _, h5, _⟩ := h2 i x hi
  rw [e3] at e4
  injection e4 with e4
  injection e4 with e4
  subst e4
  exact ⟨g, 0, e3, by omega, h4, by rw [Nat.zero_add]; exact h5⟩
theorem info_job : (Try.prog.info? 59).map (fun i => (i.zero, i.size, i.bytes)) = some (some (.agg #[.int .i64 0, .slice none 0 0]), 2, 32) := by kernel_rfl
theorem run_make_job (n : Nat) (hn : n ≤ 1048576) (w : World) : (Instr.makeSlice 53 (.int .i64 (n : Int)) (.int .i64 (n : Int))).run Try.prog w = .ok (.slice (some ⟨w.heap.size, 0, none⟩) n n) (w.alloc (.cells (madeCells #[.int .i64 0, .slice none 0 0] (n * 2)) 59)) := by
  obtain ⟨i, hi, hzz⟩ := Option.map_eq_some_iff.1 info_job
  simp only [Prod.mk.injEq] at hzz
  obtain ⟨hz, hs, hb⟩ := hzz
  have hr := run_make (P := Try.prog) w 53 59 i _ Try.underlying53 hi hz .i64 .i64 n n (by omega) (Int.le_refl _) (by rw [hb]; omega) (by omega)
  simp only [Int.toNat_natCast, hs] at hr
  exact hr
/-- What stands of the first so many. -/
noncomputable def tmI (C : Cat) (rs : List Int) (lv : Int) (i k : Nat) : Int := if k < i then tmJ C rs lv k else 0
def wsI (C : Cat) (rs : List Int) (i k : Nat) : List Int := if k < i then wsJ C rs k else []
theorem tmI_next (C : Cat) (rs : List Int) (lv : Int) (i : Nat) : updN (tmI C rs lv i) i (tmJ C rs lv i) = tmI C rs lv (i + 1) := by
  funext k
  unfold updN tmI
  by_cases e : k = i
  · subst e
    rw [if_pos rfl, if_pos (by omega)]
  · rw [if_neg e]
    by_cases h : k < i
    · rw [if_pos h, if_pos (by omega)]
    · rw [if_neg h, if_neg (by omega)]
theorem wsI_next (C : Cat) (rs : List Int) (i : Nat) : updN (wsI C rs i) i (wsJ C rs i) = wsI C rs (i + 1) := by
  funext k
  unfold updN wsI
  by_cases e : k = i
  · subst e
    rw [if_pos rfl, if_pos (by omega)]
  · rw [if_neg e]
    by_cases h : k < i
    · rw [if_pos h, if_pos (by omega)]
    · rw [if_neg h, if_neg (by omega)]
theorem tmI_skip {C : Cat} {rs : List Int} {lv : Int} {i : Nat} (h : tmJ C rs lv i = 0) (k : Nat) : tmI C rs lv i k = tmI C rs lv (i + 1) k := by
  unfold tmI
  by_cases e : k = i
  · subst e
    rw [if_neg (by omega), if_pos (by omega), h]
  · by_cases h : k < i
    · rw [if_pos h, if_pos (by omega)]
    · rw [if_neg h, if_neg (by omega)]
theorem wsI_skip {C : Cat} {rs : List Int} {i : Nat} (h : wsJ C rs i = []) (k : Nat) : wsI C rs i k = wsI C rs (i + 1) k := by
  unfold wsI
  by_cases e : k = i
  · subst e
    rw [if_neg (by omega), if_pos (by omega), h]
  · by_cases h : k < i
    · rw [if_pos h, if_pos (by omega)]
    · rw [if_neg h, if_neg (by omega)]
theorem tmJ_at {C : Cat} {rs : List Int} {lv : Int} {k : Nat} {b : PB} {r : Int} (h1 : C.bs[k]? = some b) (h2 : rs[k]? = some r) : tmJ C rs lv k = tim lv b r := jb_tk h1 h2
theorem wsJ_at {C : Cat} {rs : List Int} {k : Nat} {b : PB} {r : Int} (h1 : C.bs[k]? = some b) (h2 : rs[k]? = some r) : wsJ C rs k = if 0 < r then wsL C.bs rs b.s else [] := by
  unfold wsJ
  rw [List.getD_eq_getElem?_getD, h2, h1]
  rfl
theorem bl32 {C : Cat} {b : PB} (h : Cat.chkC C = 0) (hb : b ∈ C.bs) : Recipe.BlOk b.b 32 := by
  have h := (Cat.chk_zero h).2.1 b hb
  exact ⟨⟨by omega, by omega⟩, ⟨h.2.1.1, by have := h.2.1.2; have := h.1.2; omega⟩, h.2.2.1, h.2.2.2.1, h.2.2.2.2.1, h.2.2.2.2.2.1, h.2.2.2.2.2.2.1, ⟨h.2.2.2.2.2.2.2.1.1, h.2.2.2.2.2.2.2.1.2.1, h.2.2.2.2.2.2.2.1.2.2.1, fun s hs => by have := h.2.2.2.2.2.2.2.1.2.2.2 s hs; have := h.1.2; omega⟩, h.2.2.2.2.2.2.2.2⟩
set_option maxRecDepth 100000 in
set_option maxHeartbeats 16000000 in
theorem jobs_im (C : CM) (a : Option Addr) (m c : Nat) (rs : List Int) (lv : Int) (w : World) (h : CatAt w C) (hl : Lim C) (hch : Cat.chkC C.p = 0) (hr : rs.length = m) (hs : IRow w a rs) (hm : m ≤ 1000) :
    Calls Try.prog 31 #[.agg #[.int .i64 C.ty, .slice C.ba C.bn C.bc, .int .i64 C.pl, .slice C.ya C.yn C.yc, .int .i64 C.ch, .int .i64 C.f.broker, .int .i64 C.f.least, .int .i64 C.f.sales], .slice a m c, .int .i64 lv] w fun e w' => ∃ a' n' c', e = .returned (.tuple #[.slice a' n' c', .int .i64 (argE C.p rs lv)]) ∧ Hid (Below w.heap.size w w' ∧ (argE C.p rs lv = 0 → n' = C.bn ∧ JobsAt w' a' C.bn (tmJ C.p rs lv) (wsJ C.p rs) ∧ ∀ W' G, G < w.heap.size → w'.grownBy W' (some G) → JobsAt W' a' C.bn (tmJ C.p rs lv) (wsJ C.p rs))) := by
  obtain ⟨V, X, hV, hX, HXB, HP⟩ := box_cat w C
  have HPE : Hid (∀ W, Below X.heap.size X W → W.cell? ⟨V, 0, none⟩ = some (.int .i64 C.ty) ∧ W.cell? ⟨V, 1, none⟩ = some (.slice C.ba C.bn C.bc) ∧ W.cell? ⟨V, 2, none⟩ = some (.int .i64 C.pl) ∧ W.cell? ⟨V, 3, none⟩ = some (.slice C.ya C.yn C.yc) ∧ W.cell? ⟨V, 4, none⟩ = some (.int .i64 C.ch) ∧ W.cell? ⟨V, 5, none⟩ = some (.int .i64 C.f.broker) ∧ W.cell? ⟨V, 6, none⟩ = some (.int .i64 C.f.least) ∧ W.cell? ⟨V, 7, none⟩ = some (.int .i64 C.f.sales)) := Lib.hid fun W hW => HP.out W hW
  obtain ⟨k0, k1, k2, k3, k4, k5, k6, k7⟩ := HPE.out X (Below.refl _ _)
  have HBN := Lib.hid (blues_len C w h)
  have hb1 : C.bn ≤ 20 := hl.2.1
  have hb2 : (C.bn : Int) ≤ 20 := by omega
  have hm2 : (m : Int) ≤ 1000 := by omega
  have HNO : Hid (∀ W, Below X.heap.size X W → Below w.heap.size w W) := Lib.hid fun W hW => below_then HXB.out hW
  have HBAD : Hid (¬ ArgOk C.p rs lv → argE C.p rs lv = 1) := Lib.hid fun h => by unfold argE; rw [if_neg h]
  by_cases c0 : m = C.bn
  case neg =>
    have n3 : ((m : Int) != (C.bn : Int)) = true := by simp; omega
    have HE := Lib.hid (HBAD.out fun h => c0 (by have := h.1.1; rw [HBN.out, hr] at this; exact this))
    clear h hl hr hs hm hch c0
    go_enter Try.func31, Try.ntmps31
    go_wp2_with fail
    clear hX hV
    go_ret2
    exact ⟨none, 0, 0, by rw [HE.out]; rfl, Lib.hid ⟨HXB.out, fun h => by rw [HE.out] at h; cases h⟩⟩
  subst c0
  have n3 : ((C.bn : Int) != (C.bn : Int)) = false := by simp
  by_cases c3 : lv < 0
  · have d3 : decide (lv < 0) = true := decide_eq_true c3
    have HE := Lib.hid (HBAD.out fun h => by have := h.2.1; omega)
    clear h hl hr hs hm hch c3
    go_enter Try.func31, Try.ntmps31
    go_wp2_with fail
    clear hX hV
    go_ret2
    exact ⟨none, 0, 0, by rw [HE.out]; rfl, Lib.hid ⟨HXB.out, fun h => by rw [HE.out] at h; cases h⟩⟩
  have d3 : decide (lv < 0) = false := decide_eq_false c3
  by_cases c4 : 10 < lv
  · have d4 : decide (10 < lv) = true := decide_eq_true c4
    have HE := Lib.hid (HBAD.out fun h => by have := h.2.2; omega)
    clear h hl hr hs hm hch c3 c4
    go_enter Try.func31, Try.ntmps31
    go_wp2_with fail
    clear hX hV
    go_ret2
    exact ⟨none, 0, 0, by rw [HE.out]; rfl, Lib.hid ⟨HXB.out, fun h => by rw [HE.out] at h; cases h⟩⟩
  have d4 : decide (10 < lv) = false := decide_eq_false c4
  have HLV : Hid (0 ≤ lv ∧ lv ≤ 10) := Lib.hid (by omega)
  obtain ⟨A, hA⟩ : ∃ A, X.heap.size = A := ⟨_, rfl⟩
  obtain ⟨Z, hZ⟩ : ∃ Z, X.alloc (.cells (madeCells #[.int .i64 0, .slice none 0 0] (C.bn * 2)) 59) = Z := ⟨_, rfl⟩
  have HZ : Hid (Below X.heap.size X Z ∧ JW Z A C.bn (tmI C.p rs lv 0) (wsI C.p rs 0)) := Lib.hid (by
    have g1 : Z.heap[A]? = some (.cells (madeCells #[.int .i64 0, .slice none 0 0] (C.bn * 2)) 59 (0, 0)) := by rw [← hZ, ← hA]; exact heap_alloc_new X _
    refine ⟨by rw [← hZ]; exact (Below.refl _ _).alloc (Nat.le_refl _) _, fun k hk => ⟨cell_block g1 (made_two _ _ _ _ hk).1, free_block _ g1⟩, fun k hk => ⟨none, 0, cell_block g1 (made_two _ _ _ _ hk).2, free_block _ g1, fun i x hi => by simp [wsI] at hi⟩, (Array.getElem?_eq_some_iff.1 g1).1⟩)
  have HXA : Hid (X.heap.size ≤ A) := Lib.hid (by omega)
  have hmk := run_make_job C.bn (by omega)
  have HTB := Lib.hid (fun (k : Nat) (hk : k < C.bn) => blue_cells HP (h.under HXB.out) hl hr (hs.under HXB.out) k hk)
  have HBOK : Hid (∀ b ∈ C.p.bs, Recipe.BlOk b.b 32) := Lib.hid fun b hb => bl32 hch hb
  have HWA : Hid (∀ (W : World) (b : Recipe.Bl), Below X.heap.size X W → BlIn W b → b.sm ≤ 12 → Calls Try.prog 60 #[.agg #[.int .i64 C.ty, .slice C.ba C.bn C.bc, .int .i64 C.pl, .slice C.ya C.yn C.yc, .int .i64 C.ch, .int .i64 C.f.broker, .int .i64 C.f.least, .int .i64 C.f.sales], .agg #[.int .i64 b.ot, .int .i64 b.per, .int .i64 b.tm, .slice b.sa b.sm b.sc, .int .i64 b.cp, .int .i64 b.st, .int .i64 b.mo], .slice a C.bn c] W fun e w' => ∃ a' c', e = .returned (.slice a' (wsL C.p.bs rs b.s).length c') ∧ Hid (KS w' W.heap.size (.slice a' (wsL C.p.bs rs b.s).length c') (wsL C.p.bs rs b.s) ∧ Below W.heap.size W w')) := Lib.hid fun W b hW hb h12 =>
    waits_im C b a c rs W ((h.under HXB.out).under hW) hl hr ((hs.under HXB.out).under hW) hb h12
  have HL := Lib.hid hr
  have HT := irow_at (hs.under HXB.out)
  clear h hl hr hs hm hch c3 c4
  obtain ⟨y0, y1, y2, y3, y4, y5, y6, y7⟩ := HPE.out Z HZ.out.1
  go_enter Try.func31, Try.ntmps31
  go_wp2_with fail
  clear hX hV hA hZ hmk k0 k1 k2 k3 k4 k5 k6 k7 y0 y1 y2 y3 y4 y5 y6 y7 n3 d3 d4
  go_loopw [34] (fun t wr => ∃ i : Nat, t = .int .i64 (i : Int) ∧ i ≤ C.bn ∧ Hid (∀ r ∈ rs.take i, 0 ≤ r ∧ r ≤ 1000) ∧ Hid (Below X.heap.size X wr ∧ JW wr A C.bn (tmI C.p rs lv i) (wsI C.p rs i))) (fun t _ => C.bn - (RowKit.intOf t).toNat)
  case atStart => exact ⟨0, rfl, by omega, Lib.hid (by simp), HZ⟩
  case round =>
    clear HZ
    obtain ⟨i, rfl, hi, HR, HW⟩ := hrel
    have hi0 : (0 : Int) ≤ (i : Int) := by omega
    by_cases hlt : i < C.bn
    case neg =>
      obtain rfl : i = C.bn := by omega
      have hd1 : decide (C.bn < C.bn) = false := by simp
      have HE : Hid (argE C.p rs lv = 0) := Lib.hid (by
        unfold argE
        refine if_pos ⟨⟨by rw [HL.out, HBN.out], fun r hr => HR.out r ?_⟩, HLV.out⟩
        rw [List.take_of_length_le (by rw [HL.out]; exact Nat.le_refl _)]
        exact hr)
      have HJ0 : Hid (JW wr A C.bn (tmJ C.p rs lv) (wsJ C.p rs)) := Lib.hid (HW.out.2.congr (fun k hk => by unfold tmI; rw [if_pos hk]) (fun k hk => by unfold wsI; rw [if_pos hk]))
      go_wp2_with fail
      go_ret2
      exact ⟨_, C.bn, C.bn, by rw [HE.out]; rfl, Lib.hid ⟨HNO.out _ HW.out.1, fun _ => ⟨rfl, HJ0.out.jobs, fun W' G hG hg => HJ0.out.jobs_over (Nat.lt_of_lt_of_le hG (Nat.le_trans HXB.out.size HXA.out)) hg⟩⟩⟩
    have hlt2 : (i : Int) < (C.bn : Int) := by omega
    have hd1 : decide (i < C.bn) = true := decide_eq_true hlt
    have wi : IntKind.i64.wrap ((i : Int) + 1) = (i : Int) + 1 := IntWalk.i64_in _ (by omega)
    obtain ⟨g, off, b, g2, off2, r, HBA, HA2, HTX, HCS⟩ := HTB.out i hlt
    obtain rfl : a = some ⟨g2, off2, none⟩ := HA2.out
    obtain ⟨y1, p0, p1, p2, p3, p4, p5, p6, z0⟩ := HCS.out wr HW.out.1
    obtain ⟨U, Y, hU, hY, HYB, HUC⟩ := Recipe.box_blue wr b
    have HXY : Hid (Below X.heap.size X Y) := Lib.hid (below_then HW.out.1 HYB.out)
    obtain ⟨_, _, _, _, _, _, _, _, z1⟩ := HCS.out Y HXY.out
    have HPB := Lib.hid (blue_p HTX.out.1)
    have HRC : Hid (∀ W, Below X.heap.size X W → W.cell? ⟨g2, off2 + i, none⟩ = some (.int .i64 r)) := Lib.hid fun W hW => by
      obtain ⟨_, _, _, _, _, _, _, _, z1⟩ := HCS.out W hW
      exact z1
    have z1 := HRC.out Y HXY.out
    have HMT := Lib.hid (fun x => (Cat.mem_take_succ HTX.out.2.1 : x ∈ rs.take (i + 1) ↔ x ∈ rs.take i ∨ x = r))
    have HTJ := Lib.hid (tmJ_at (lv := lv) HPB.out HTX.out.2.1)
    have HWJ := Lib.hid (wsJ_at HPB.out HTX.out.2.1)
    obtain ⟨u0, u1, u2, u3, u4, u5, u6⟩ := HUC.out Y (Below.refl _ _)
    by_cases hr0 : r = 0
    · have dr : (r == 0) = true := by simpa using hr0
      have HR2 : Hid (∀ r ∈ rs.take (i + 1), 0 ≤ r ∧ r ≤ 1000) := Lib.hid fun x hx => by
        rcases (HMT.out x).1 hx with h1 | h1
        · exact HR.out x h1
        · omega
      have HW2 : Hid (Below X.heap.size X Y ∧ JW Y A C.bn (tmI C.p rs lv (i + 1)) (wsI C.p rs (i + 1))) := Lib.hid ⟨HXY.out, (HW.out.2.under HYB.out).congr (fun k _ => tmI_skip (by rw [HTJ.out, hr0]; unfold tim; simp) k) (fun k _ => wsI_skip (by rw [HWJ.out, hr0]; simp) k)⟩
      rw [HBA.out]
      clear hr0
      go_wp2_with fail
      clear hU hY
      go_roundw
      case rel => exact ⟨i + 1, by go_num, by omega, HR2, HW2⟩
      case measure => simp [RowKit.intOf]; omega
    have dr : (r == 0) = false := by simpa using hr0
    have HR0 := Lib.hid hr0
    obtain ⟨tv, htv⟩ : ∃ tv, Recipe.timeV b lv r = tv := ⟨_, rfl⟩
    obtain ⟨te, hte⟩ : ∃ te, Recipe.timeE b lv r = te := ⟨_, rfl⟩
    have HB0 : Hid (Below Y.heap.size Y Y.drew) := Lib.hid (Below.refl _ Y).drew
    have HTI : Hid (Calls Try.prog 59 #[.agg #[.int .i64 b.ot, .int .i64 b.per, .int .i64 b.tm, .slice b.sa b.sm b.sc, .int .i64 b.cp, .int .i64 b.st, .int .i64 b.mo], .int .i64 lv, .int .i64 r] Y.drew fun e w' => e = .returned (.tuple #[.int .i64 tv, .int .i64 te]) ∧ Hid (Below Y.heap.size Y w')) := Lib.hid (by
      rw [← htv, ← hte]
      exact (Recipe.Im.time_im b lv r Y.drew (HTX.out.2.2.2 _ (below_then HXY.out HB0.out))).mono fun _ _ ⟨e, h⟩ => ⟨e, Lib.hid (HB0.out.trans h)⟩)
    have HCY : Hid (∀ W, Below Y.heap.size Y W → (W.cell? ⟨U, 0, none⟩ = some (.int .i64 b.ot) ∧ W.cell? ⟨U, 0 + 1, none⟩ = some (.int .i64 b.per) ∧ W.cell? ⟨U, 0 + 2, none⟩ = some (.int .i64 b.tm) ∧ W.cell? ⟨U, 0 + 3, none⟩ = some (.slice b.sa b.sm b.sc) ∧ W.cell? ⟨U, 0 + 4, none⟩ = some (.int .i64 b.cp) ∧ W.cell? ⟨U, 0 + 5, none⟩ = some (.int .i64 b.st) ∧ W.cell? ⟨U, 0 + 6, none⟩ = some (.int .i64 b.mo)) ∧ W.cell? ⟨g2, off2 + i, none⟩ = some (.int .i64 r)) := Lib.hid fun W hW => by
      obtain ⟨u0, u1, u2, u3, u4, u5, u6⟩ := HUC.out W hW
      exact ⟨⟨u0, u1, u2, u3, u4, u5, u6⟩, HRC.out W (below_then HXY.out hW)⟩
    have HTE : Hid ((1 ≤ r ∧ r ≤ 1000) ∧ te = 0 ∨ ¬ (1 ≤ r ∧ r ≤ 1000) ∧ te = 1) := Lib.hid (by
      by_cases h1 : 1 ≤ r ∧ r ≤ 1000
      · exact .inl ⟨h1, by rw [← hte]; exact (Recipe.time_ok (HBOK.out (pOf b) (List.mem_of_getElem? HPB.out)) ⟨HLV.out, h1⟩).1⟩
      · exact .inr ⟨h1, by rw [← hte]; exact (Recipe.time_arg fun h => h1 h.2.2).1⟩)
    have HTV : Hid (tmJ C.p rs lv i = tv) := Lib.hid (by rw [HTJ.out, tim_blue b lv hr0, htv])
    clear htv hte hr0
    rcases HTE.out with ⟨hrb, rfl⟩ | ⟨hrb, rfl⟩
    case inr =>
      have HE := Lib.hid (HBAD.out fun h => hrb (by have := h.1.2 r (List.mem_of_getElem? HTX.out.2.1); have := HR0.out; omega))
      rw [HBA.out]
      clear hrb HTE
      go_wp2_with fail
      clear hU hY
      go_region_held3 (fun W => (W.cell? ⟨U, 0, none⟩ = some (.int .i64 b.ot) ∧ W.cell? ⟨U, 0 + 1, none⟩ = some (.int .i64 b.per) ∧ W.cell? ⟨U, 0 + 2, none⟩ = some (.int .i64 b.tm) ∧ W.cell? ⟨U, 0 + 3, none⟩ = some (.slice b.sa b.sm b.sc) ∧ W.cell? ⟨U, 0 + 4, none⟩ = some (.int .i64 b.cp) ∧ W.cell? ⟨U, 0 + 5, none⟩ = some (.int .i64 b.st) ∧ W.cell? ⟨U, 0 + 6, none⟩ = some (.int .i64 b.mo)) ∧ W.cell? ⟨g2, off2 + i, none⟩ = some (.int .i64 r))
        (first | exact HCY.out _ HB0.out | exact HCY.out _ H6.out)
        (first
          | (go_at_call 59; refine HTI.out.mono ?_; rintro e w6 ⟨rfl, H6⟩))
      all_goals
        go_wp2_with fail
        go_ret2
        exact ⟨none, 0, 0, by rw [HE.out]; rfl, Lib.hid ⟨HNO.out _ (below_then HXY.out H6.out), fun h => by rw [HE.out] at h; cases h⟩⟩
    have HR2 : Hid (∀ r ∈ rs.take (i + 1), 0 ≤ r ∧ r ≤ 1000) := Lib.hid fun x hx => by
      rcases (HMT.out x).1 hx with h1 | h1
      · exact HR.out x h1
      · omega
    have HWJ2 : Hid (wsJ C.p rs i = wsL C.p.bs rs b.s) := Lib.hid (by rw [HWJ.out, if_pos (by omega)]; rfl)
    obtain ⟨nl, hnl⟩ : ∃ nl, (wsL C.p.bs rs b.s).length = nl := ⟨_, rfl⟩
    have HNL := Lib.hid hnl
    have HWB := Lib.hid (fun W hW hb => HWA.out W b hW hb HTX.out.2.2.1)
    rw [hnl] at HWB
    clear hrb HTE hnl y1 p0 p1 p2 p3 p4 p5 p6
    obtain ⟨y1, p0, p1, p2, p3, p4, p5, p6, _⟩ := HCS.out wr HW.out.1
    rw [HBA.out]
    go_wp2_with fail
    clear hU hY
    go_region_held3 (fun W => (W.cell? ⟨U, 0, none⟩ = some (.int .i64 b.ot) ∧ W.cell? ⟨U, 0 + 1, none⟩ = some (.int .i64 b.per) ∧ W.cell? ⟨U, 0 + 2, none⟩ = some (.int .i64 b.tm) ∧ W.cell? ⟨U, 0 + 3, none⟩ = some (.slice b.sa b.sm b.sc) ∧ W.cell? ⟨U, 0 + 4, none⟩ = some (.int .i64 b.cp) ∧ W.cell? ⟨U, 0 + 5, none⟩ = some (.int .i64 b.st) ∧ W.cell? ⟨U, 0 + 6, none⟩ = some (.int .i64 b.mo)) ∧ W.cell? ⟨g2, off2 + i, none⟩ = some (.int .i64 r))
      (first | exact HCY.out _ HB0.out | exact HCY.out _ H6.out)
      (first
        | (go_at_call 59; refine HTI.out.mono ?_; rintro e w6 ⟨rfl, H6⟩))
    all_goals
      have HX6 : Hid (Below X.heap.size X w6) := Lib.hid (below_then HXY.out H6.out)
      clear u0 u1 u2 u3 u4 u5 u6 z0 z1 y1 p0 p1 p2 p3 p4 p5 p6
      obtain ⟨u0, u1, u2, u3, u4, u5, u6⟩ := HUC.out w6 H6.out
      obtain ⟨y0, y1, y2, y3, y4, y5, y6, y7⟩ := HPE.out w6 HX6.out
      go_wp2_with fail
      refine (HWB.out w6 HX6.out (HTX.out.2.2.2 _ HX6.out)).mono ?_
      rintro e w7 ⟨a7, c7, rfl, H7⟩
      have HX7 : Hid (Below X.heap.size X w7) := Lib.hid (below_then HX6.out H7.out.2)
      clear u0 u1 u2 u3 u4 u5 u6 y0 y1 y2 y3 y4 y5 y6 y7
      have HJ7 : Hid (JW w7 A C.bn (tmI C.p rs lv i) (wsI C.p rs i)) := Lib.hid (((HW.out.2.under HYB.out).under H6.out).under H7.out.2)
      obtain ⟨ct, ft⟩ := HJ7.out.ct i hlt
      obtain ⟨a8, c8, cw, fw, _⟩ := HJ7.out.cw i hlt
      have HA6 : Hid (A < w6.heap.size) := Lib.hid (((HW.out.2.under HYB.out).under H6.out).lt)
      have HS7 : Hid (Below X.heap.size X ((w7.setCell ⟨A, i * 2, none⟩ (.int .i64 tv)).setCell ⟨A, i * 2 + 1, none⟩ (.slice a7 nl c7)) ∧ JW ((w7.setCell ⟨A, i * 2, none⟩ (.int .i64 tv)).setCell ⟨A, i * 2 + 1, none⟩ (.slice a7 nl c7)) A C.bn (tmI C.p rs lv (i + 1)) (wsI C.p rs (i + 1))) := Lib.hid (by
        refine ⟨(HX7.out.setCell (p := ⟨A, i * 2, none⟩) HXA.out _).setCell (p := ⟨A, i * 2 + 1, none⟩) HXA.out _, ?_⟩
        have h1 := HJ7.out.set i (tmJ C.p rs lv i) a7 c7 (wsL C.p.bs rs b.s) (by
          have := H7.out.1
          rw [← HNL.out] at this
          exact rw_own this HA6.out)
        rw [tmI_next, ← HWJ2.out, wsI_next, HTV.out, HWJ2.out, HNL.out] at h1
        exact h1)
      go_wp2_with fail
      go_roundw
      case rel => exact ⟨i + 1, by go_num, by omega, HR2, HS7⟩
      case measure => simp [RowKit.intOf]; omega
end Go.Proofs.Ytdbhdlgoecpeaaa.Quo.Im
namespace Go.Proofs.Ytdbhdlgoecpeaaa.Cat.Im
open Go.RowKit Go.Lib
open Goods (St Sts OwnS)
open Recipe (Bl BlIn blV)

set_option maxRecDepth 100000 in
set_option maxHeartbeats 4000000 in
theorem bay_im (C : CM) (n : Int) (w : World) (h : CatAt w C) (hb : C.yn ≤ 4611686018427387904) :
    Calls Try.prog 39 #[C.v, .int .i64 n] w fun e w' => e = .returned (.tuple #[baV (bayV C.p n), .int .i64 (bayE C.p n)]) ∧ Below w.heap.size w w' := by
  obtain ⟨V, X, hV, hX, HXB, HP⟩ := box_cat w C
  obtain ⟨G, hG⟩ : ∃ G, X.heap.size = G := ⟨_, rfl⟩
  obtain ⟨Z, hZ⟩ : ∃ Z, X.alloc (.cells #[.int .i64 0, .int .i64 0, .int .i64 0, .int .i64 0] 48) = Z := ⟨_, rfl⟩
  have HZB : Hid (Below X.heap.size X Z) := Lib.hid (by rw [← hZ]; exact (Below.refl _ X).alloc (Nat.le_refl _) _)
  have hGZ : Z.heap[G]? = some (.cells #[.int .i64 0, .int .i64 0, .int .i64 0, .int .i64 0] 48 (0, 0)) := by rw [← hZ, ← hG]; exact heap_alloc_new X _
  obtain ⟨k0, k1, k2, k3, k4, k5, k6, k7⟩ := HP.out Z HZB.out
  have c0 := cell_block (j := 0) hGZ rfl
  have c1 := cell_block (j := 1) hGZ rfl
  have c2 := cell_block (j := 2) hGZ rfl
  have c3 := cell_block (j := 3) hGZ rfl
  have f0 := free_block 0 hGZ
  have f1 := free_block 1 hGZ
  have f2 := free_block 2 hGZ
  have f3 := free_block 3 hGZ
  have HGZ := Lib.hid hGZ
  have HWG : Hid (w.heap.size ≤ G) := Lib.hid (by rw [← hG]; exact HXB.out.size)
  have HEND : Hid (∀ x0 x1 x2 x3, Below w.heap.size w ((((Z.setCell ⟨G, 0, none⟩ x0).setCell ⟨G, 1, none⟩ x1).setCell ⟨G, 2, none⟩ x2).setCell ⟨G, 3, none⟩ x3)) := Lib.hid (fun x0 x1 x2 x3 =>
    below_of_only (below_then HXB.out HZB.out) HWG.out (only_setCell (only_setCell (only_setCell (only_setCell (only_refl Z (some G)) 0 x0) 1 x1) 2 x2) 3 x3))
  have hb1 : (C.yn : Int) ≤ 4611686018427387904 := by omega
  have hlen : C.p.ys.length = C.yn := h.2.1
  by_cases hin : 1 ≤ n ∧ n ≤ (C.yn : Int)
  case neg =>
    obtain ⟨e1, e2⟩ := bay_no (C := C.p) (n := n) (by rw [hlen]; exact hin)
    have HN := Lib.hid (fun W => in_no n 1 (C.yn : Int) W (by omega))
    rw [e1, e2]
    clear e1 e2 hb h hin hlen hGZ
    go_enter Try.func39, Try.ntmps39
    go_wp2_with fail
    clear hX hV hZ hG
    refine (HN.out _).mono ?_
    rintro e w' ⟨rfl, rfl⟩
    go_wp2_with fail
    exact ret_ba2 rfl rfl rfl rfl (ba_set HGZ.out) ⟨rfl, HEND.out _ _ _ _⟩
  obtain ⟨i, hi⟩ := Int.eq_ofNat_of_zero_le (show 0 ≤ n - 1 by omega)
  obtain rfl : n = (i : Int) + 1 := by omega
  have hilt : i < C.yn := by omega
  have HI := Lib.hid (fun W => in_yes ((i : Int) + 1) 1 (C.yn : Int) W hin.1 hin.2)
  obtain ⟨g, off, b, hba, ht, q0, q1, q2, q3⟩ := (bay_at ((h.under HXB.out).under HZB.out)).out Z i (Below.refl _ _) hilt
  obtain ⟨e1, e2⟩ := bay_yes (C := C.p) (i := i) (b := b) ht.out
  rw [hba] at k3 hX
  have wi : IntKind.i64.wrap ((i : Int) + 1 - 1) = (i : Int) := by rw [show (i : Int) + 1 - 1 = (i : Int) by omega]; exact IntWalk.i64_in _ (by omega)
  have hi0 : (0 : Int) ≤ (i : Int) := by omega
  have hi1 : (i : Int) < (C.yn : Int) := by omega
  rw [e1, e2]
  clear e1 e2 hb h hin hlen hGZ hi
  go_enter Try.func39, Try.ntmps39
  go_wp2_with fail
  clear hX hV hZ hG
  refine (HI.out _).mono ?_
  rintro e w' ⟨rfl, rfl⟩
  go_wp2_with fail
  exact ret_ba2 rfl rfl rfl rfl (ba_set HGZ.out) ⟨rfl, HEND.out _ _ _ _⟩
end Go.Proofs.Ytdbhdlgoecpeaaa.Cat.Im
