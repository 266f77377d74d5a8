/- Jobs of a catalogue; that a plan never stands still; said without a program. The document's may, time. -/
import Derived.Test.YtdbhdlgoecpeaaaZQuoMath
import Derived.Test.YtdbhdlgoecpeaaaZBomMath
import Derived.Test.YtdbhdlgoecpeaaaZBomMy
import Derived.BigQuiet
import Derived.Deep.RegionHeld3
import Derived.Deep.CutRange
namespace Go.Proofs.Ytdbhdlgoecpeaaa.Quo
open Cat (Cat PB)
open Bom (fm fm_some Top nd_mem tim)

/-- Where nobody waits in a ring, somebody is ready, or somebody works. -/
theorem not_stuck {J : Jb} {p : Pl} (hm : 1 ≤ J.m) (hwj : ∀ k x, J.w k x = true → J.j x = true) (rank : Nat → Nat) (hr : ∀ k x, k < J.n → x < J.n → J.w k x = true → rank x < rank k) (h : Ok J p) (h0 : left J p ≠ 0) : stp J p ≠ none := by
  intro hs
  unfold stp at hs
  split at hs
  · cases hs
  rename_i hc
  split at hs
  case isFalse => cases hs
  rename_i ht
  rcases thF_is h.n0 J.n with ⟨_, h1⟩ | ⟨h1, _⟩
  case inr =>
    have := h.n0
    omega
  have hd : doing J p = 0 := by
    unfold doing
    have : ∀ n, n ≤ J.n → cntB (runs p) n = 0 := fun n => by
      induction n with
      | zero => intro _; rfl
      | succ n ih =>
        intro hn
        rw [cntB, ih (by omega), h1 n (by omega)]
        rfl
    exact this J.n (Nat.le_refl _)
  have hno : ∀ k, k < J.n → ready J p k = false := by
    rcases nxF_is J p J.n (Nat.le_refl _) with ⟨_, h2⟩ | ⟨k, h2, _, _⟩
    · exact fun k hk => h2 k (by omega) hk
    · exact absurd ⟨by omega, by omega⟩ hc
  have key : ∀ r k, rank k ≤ r → k < J.n → J.j k = true → p.b k = true := fun r => by
    induction r with
    | zero =>
      intro k hk hkn hj
      cases hb : p.b k with
      | true => rfl
      | false =>
        have hf := hno k hkn
        unfold ready free at hf
        rw [hj, hb] at hf
        have : ((List.range J.n).all fun x => !J.w k x || (p.b x && decide (p.e x ≤ p.now))) = true := by
          rw [List.all_eq_true]
          intro x hx
          cases hw : J.w k x with
          | false => rfl
          | true =>
            have := hr k x hkn (List.mem_range.1 hx) hw
            omega
        rw [this] at hf
        cases hf
    | succ r ih =>
      intro k hk hkn hj
      cases hb : p.b k with
      | true => rfl
      | false =>
        have hf := hno k hkn
        unfold ready free at hf
        rw [hj, hb] at hf
        have : ((List.range J.n).all fun x => !J.w k x || (p.b x && decide (p.e x ≤ p.now))) = true := by
          rw [List.all_eq_true]
          intro x hx
          have hxn := List.mem_range.1 hx
          cases hw : J.w k x with
          | false => rfl
          | true =>
            have h2 := hr k x hkn hxn hw
            have h3 := ih x (by omega) hxn (hwj k x hw)
            have h4 := h1 x hxn
            unfold runs at h4
            rw [h3] at h4 ⊢
            simp at h4 ⊢
            exact h4
        rw [this] at hf
        cases hf
  refine h0 ?_
  unfold left
  have : ∀ n, n ≤ J.n → cntB (fun k => J.j k && !p.b k) n = 0 := fun n => by
    induction n with
    | zero => intro _; rfl
    | succ n ih =>
      intro hn
      rw [cntB, ih (by omega)]
      cases hj : J.j n with
      | false => rfl
      | true =>
        rw [key (rank n) n (Nat.le_refl _) (by omega) hj]
        rfl
  exact this J.n (Nat.le_refl _)
/-! the jobs of a catalogue -/
def isMk (bs : List PB) (t : Int) (x : Nat) : Bool := match fm t bs with
  | none => false
  | some (i, _) => i == x
def waitsB (bs : List PB) (rs : List Int) (k x : Nat) : Bool := decide (rs.getD x 0 ≠ 0) && (match bs[k]? with
  | none => false
  | some b => b.s.any fun s => isMk bs s.kind x)
noncomputable def jbOf (C : Cat) (rs : List Int) (lv m : Int) : Jb := ⟨C.bs.length, fun k => decide (0 < rs.getD k 0), waitsB C.bs rs, fun k => match C.bs[k]? with
  | none => 0
  | some b => tim lv b (rs.getD k 0), m⟩
theorem waits_is {bs : List PB} {rs : List Int} {k x : Nat} (h : waitsB bs rs k x = true) : rs.getD x 0 ≠ 0 ∧ ∃ b c s, bs[k]? = some b ∧ s ∈ b.s ∧ fm s.kind bs = some (x, c) ∧ bs[x]? = some c ∧ c.ot = s.kind := by
  unfold waitsB at h
  rw [Bool.and_eq_true] at h
  obtain ⟨h1, h2⟩ := h
  refine ⟨of_decide_eq_true h1, ?_⟩
  cases hb : bs[k]? with
  | none => rw [hb] at h2; cases h2
  | some b =>
    rw [hb] at h2
    have h2 : (b.s.any fun s => isMk bs s.kind x) = true := h2
    rw [List.any_eq_true] at h2
    obtain ⟨s, hs, hm⟩ := h2
    unfold isMk at hm
    cases hf : fm s.kind bs with
    | none => rw [hf] at hm; cases hm
    | some q =>
      obtain ⟨i, c⟩ := q
      rw [hf] at hm
      have hm : (i == x) = true := hm
      have : i = x := by simpa using hm
      subst this
      exact ⟨b, c, s, rfl, hs, hf, (fm_some hf).1, (fm_some hf).2⟩
/-- How far a type stands from the end of an order. -/
def rankT (T : List Int) (t : Int) : Nat := T.length - T.idxOf t
theorem rank_less {ty : Int} {l : List Graph.Nd} {T : List Int} (hT : Top ty l T) {d : Graph.Nd} (hd : d ∈ l) (ha : 1 ≤ d.a ∧ d.a ≤ ty) : rankT T d.b < rankT T d.a := by
  obtain ⟨pre, post, e⟩ := List.append_of_mem ((hT.all d.a).2 ha)
  have hb := hT.ahead pre d.a post e d hd rfl
  have hn := hT.nodup
  rw [e] at hn
  have h1 : d.a ∉ pre := fun hm => (List.nodup_append.1 hn).2.2 d.a hm d.a (List.mem_cons_self ..) rfl
  have h2 : d.b ∉ pre := fun hm => (List.nodup_append.1 hn).2.2 d.b hm d.b (List.mem_cons_of_mem _ hb) rfl
  have h3 : d.a ≠ d.b := fun e2 => (List.nodup_cons.1 (List.nodup_append.1 hn).2.1).1 (by rw [e2]; exact hb)
  unfold rankT
  have i1 : T.idxOf d.a = pre.length := by
    rw [e, List.idxOf_append, if_neg h1, List.idxOf_cons_self]
    omega
  have i2 : T.idxOf d.b = pre.length + (post.idxOf d.b + 1) := by
    have e5 : (d.a :: post).idxOf d.b = post.idxOf d.b + 1 := by
      rw [List.idxOf_cons, show (d.a == d.b) = false from by simpa using h3]
      rfl
    rw [e, List.idxOf_append, if_neg h2, e5]
    omega
  have i3 : post.idxOf d.b < post.length := List.idxOf_lt_length_iff.2 hb
  have i4 : T.length = pre.length + (post.length + 1) := by rw [e]; simp
  omega
theorem jb_rank {C : Cat} {T : List Int} (hT : Top C.ty (Cat.ndL C.bs) T) (hot : ∀ b ∈ C.bs, 1 ≤ b.ot ∧ b.ot ≤ C.ty) {rs : List Int} {lv m : Int} {k x : Nat} (h : (jbOf C rs lv m).w k x = true) : rankT T ((C.bs[x]?).elim 0 PB.ot) < rankT T ((C.bs[k]?).elim 0 PB.ot) := by
  obtain ⟨_, b, c, s, h1, h2, _, h4, h5⟩ := waits_is (show waitsB C.bs rs k x = true from h)
  rw [h1, h4]
  have hb := List.mem_of_getElem? h1
  have := rank_less hT (nd_mem hb h2) (hot b hb)
  show rankT T c.ot < rankT T b.ot
  rw [h5]
  exact this
theorem jb_fine {C : Cat} {T : List Int} (hT : Top C.ty (Cat.ndL C.bs) T) (hot : ∀ b ∈ C.bs, 1 ≤ b.ot ∧ b.ot ≤ C.ty) {rs : List Int} {lv m : Int} (ht : ∀ (k : Nat) (b : PB), C.bs[k]? = some b → 0 < rs.getD k 0 → 1 ≤ tim lv b (rs.getD k 0)) : Fine (jbOf C rs lv m) := by
  refine ⟨fun k => ?_, fun k hk hj => ?_, fun k => ?_⟩
  · show 0 ≤ (match C.bs[k]? with
      | none => 0
      | some b => tim lv b (rs.getD k 0))
    split
    · exact Int.le_refl _
    · exact Bom.tim_nonneg _ _ _
  · have hk : k < C.bs.length := hk
    have e := List.getElem?_eq_getElem hk
    show 1 ≤ (match C.bs[k]? with
      | none => 0
      | some b => tim lv b (rs.getD k 0))
    rw [e]
    exact ht k _ e (of_decide_eq_true hj)
  · cases hw : (jbOf C rs lv m).w k k with
    | false => rfl
    | true =>
      have := jb_rank hT hot hw
      omega
/-- A plan is always told. -/
theorem jb_told {C : Cat} {T : List Int} (hT : Top C.ty (Cat.ndL C.bs) T) (hot : ∀ b ∈ C.bs, 1 ≤ b.ot ∧ b.ot ≤ C.ty) {rs : List Int} {lv m : Int} (hrs : ∀ r ∈ rs, 0 ≤ r) (hm : 1 ≤ m) {p : Pl} (h : Ok (jbOf C rs lv m) p) (h0 : left (jbOf C rs lv m) p ≠ 0) : stp (jbOf C rs lv m) p ≠ none :=
  not_stuck hm (fun k x hw => by
    obtain ⟨h1, _⟩ := waits_is (show waitsB C.bs rs k x = true from hw)
    refine decide_eq_true ?_
    rw [List.getD_eq_getElem?_getD] at h1 ⊢
    cases hx : rs[x]? with
    | none => rw [hx] at h1; exact absurd rfl h1
    | some r =>
      rw [hx] at h1
      have := hrs r (List.mem_of_getElem? hx)
      have h1 : r ≠ 0 := h1
      show 0 < r
      omega) (fun k => rankT T ((C.bs[k]?).elim 0 PB.ot)) (fun k x _ _ hw => jb_rank hT hot hw) h h0
end Go.Proofs.Ytdbhdlgoecpeaaa.Quo
namespace Go.Proofs.Ytdbhdlgoecpeaaa.Quo
open Go.RowKit Go.Lib IRows
open Cat (Cat PB CM CatAt Lim box_cat pOf)
open Bom (RunsOk tim tim_blue druns15)
open Recipe (BlIn)

open Classical in
noncomputable def mayQ (C : Cat) (bay : Int) (rs : List Int) (lv : Int) : Int := if Cat.chkC C = 0 then (if 1 ≤ bay ∧ bay ≤ C.ys.length then (if RunsOk C rs ∧ 0 ≤ lv ∧ lv ≤ 10 then 0 else 1) else 3) else Cat.chkC C
theorem may_err {C : Cat} {bay lv : Int} {rs : List Int} (h : ¬ Cat.chkC C = 0) : mayQ C bay rs lv = Cat.chkC C := by unfold mayQ; rw [if_neg h]
theorem may_none {C : Cat} {bay lv : Int} {rs : List Int} (h : Cat.chkC C = 0) (h1 : ¬ (1 ≤ bay ∧ bay ≤ C.ys.length)) : mayQ C bay rs lv = 3 := by unfold mayQ; rw [if_pos h, if_neg h1]
theorem may_arg {C : Cat} {bay lv : Int} {rs : List Int} (h : Cat.chkC C = 0) (h1 : 1 ≤ bay ∧ bay ≤ C.ys.length) (h2 : ¬ (RunsOk C rs ∧ 0 ≤ lv ∧ lv ≤ 10)) : mayQ C bay rs lv = 1 := by unfold mayQ; rw [if_pos h, if_pos h1, if_neg h2]
theorem may_ok {C : Cat} {bay lv : Int} {rs : List Int} (h : Cat.chkC C = 0) (h1 : 1 ≤ bay ∧ bay ≤ C.ys.length) (h2 : RunsOk C rs ∧ 0 ≤ lv ∧ lv ≤ 10) : mayQ C bay rs lv = 0 := by unfold mayQ; rw [if_pos h, if_pos h1, if_pos h2]
theorem may_zero {C : Cat} {bay lv : Int} {rs : List Int} (h : mayQ C bay rs lv = 0) : Cat.chkC C = 0 ∧ (1 ≤ bay ∧ bay ≤ C.ys.length) ∧ RunsOk C rs ∧ 0 ≤ lv ∧ lv ≤ 10 := by
  by_cases h0 : Cat.chkC C = 0
  · by_cases h1 : 1 ≤ bay ∧ bay ≤ C.ys.length
    · by_cases h2 : RunsOk C rs ∧ 0 ≤ lv ∧ lv ≤ 10
      · exact ⟨h0, h1, h2⟩
      · rw [may_arg h0 h1 h2] at h; omega
    · rw [may_none h0 h1] at h; omega
  · rw [may_err h0] at h
    exact absurd h h0

set_option maxRecDepth 100000 in
set_option maxHeartbeats 8000000 in
theorem dmayq (C : CM) (bay : Int) (a : Option Addr) (n c : Nat) (rs : List Int) (lv : Int) (w : World) (h : CatAt w C) (hl : Lim C) (hn : rs.length = n) (hs : IRow w a rs) (h4 : n ≤ 1000) :
    Calls Try.prog 24 #[C.v, .int .i64 bay, .slice a n c, .int .i64 lv] w fun e w' => e = .returned (.int .i64 (mayQ C.p bay rs lv)) ∧ Below w.heap.size w w' := by
  obtain ⟨V, X, hV, hX, HXB, HP⟩ := box_cat w C
  have HPE : Hid (∀ W, Below X.heap.size X W → W.cell? ⟨V, 0, none⟩ = some (.int .i64 C.ty) ∧ W.cell? ⟨V, 1, none⟩ = some (.slice C.ba C.bn C.bc) ∧ W.cell? ⟨V, 2, none⟩ = some (.int .i64 C.pl) ∧ W.cell? ⟨V, 3, none⟩ = some (.slice C.ya C.yn C.yc) ∧ W.cell? ⟨V, 4, none⟩ = some (.int .i64 C.ch) ∧ W.cell? ⟨V, 5, none⟩ = some (.int .i64 C.f.broker) ∧ W.cell? ⟨V, 6, none⟩ = some (.int .i64 C.f.least) ∧ W.cell? ⟨V, 7, none⟩ = some (.int .i64 C.f.sales)) := Lib.hid fun W hW => HP.out W hW
  obtain ⟨k0, k1, k2, k3, k4, k5, k6, k7⟩ := HPE.out X (Below.refl _ _)
  obtain ⟨er, her⟩ : ∃ er, Cat.chkC C.p = er := ⟨_, rfl⟩
  have HC : Hid (Calls Try.prog 32 #[.agg #[.int .i64 C.ty, .slice C.ba C.bn C.bc, .int .i64 C.pl, .slice C.ya C.yn C.yc, .int .i64 C.ch, .int .i64 C.f.broker, .int .i64 C.f.least, .int .i64 C.f.sales]] X fun e w' => e = .returned (.int .i64 er) ∧ Hid (Below X.heap.size X w')) := Lib.hid (by
    rw [← her]
    exact (Cat.dcheck C X (h.under HXB.out) hl).mono fun _ _ ⟨e, h⟩ => ⟨e, Lib.hid h⟩)
  have HNO : Hid (∀ W, Below X.heap.size X W → Below w.heap.size w W) := Lib.hid fun W hW => below_then HXB.out hW
  have HRU : Hid (∀ W t, Below X.heap.size X W → (@decide (RunsOk C.p rs) (Classical.propDecidable _)) = t → Calls Try.prog 37 #[.agg #[.int .i64 C.ty, .slice C.ba C.bn C.bc, .int .i64 C.pl, .slice C.ya C.yn C.yc, .int .i64 C.ch, .int .i64 C.f.broker, .int .i64 C.f.least, .int .i64 C.f.sales], .slice a n c] W fun e w' => e = .returned (.bool t) ∧ Hid (Below X.heap.size X w')) := Lib.hid fun W t hW ht => by
    subst ht
    exact (druns15 C a n c rs W h.1.1 hn (hs.under (below_then HXB.out hW)) h4).mono fun _ _ ⟨e, h⟩ => ⟨e, Lib.hid (below_then hW h)⟩
  have hyl : C.p.ys.length = C.yn := h.2.1
  have hyb : (C.yn : Int) ≤ 12 := by have := hl.2.2; omega
  clear h hl hn hs h4
  by_cases he : er = 0
  case neg =>
    have n1 : (er == 0) = false := by simpa using he
    have n2 : (er != 0) = true := by simpa using he
    rw [may_err (by rw [her]; exact he), her]
    clear her hyl
    go_enter Try.func24, Try.ntmps24
    go_wp2_with fail
    clear hX hV
    refine HC.out.mono ?_
    rintro e w1 ⟨rfl, H1⟩
    go_wp2_with fail
    go_ret
    exact ⟨rfl, HNO.out _ H1.out⟩
  subst he
  by_cases c1 : bay < 1
  · have d1 : decide (bay < 1) = true := decide_eq_true c1
    rw [may_none her (by omega)]
    clear her hyl
    go_enter Try.func24, Try.ntmps24
    go_wp2_with fail
    clear hX hV
    refine HC.out.mono ?_
    rintro e w1 ⟨rfl, H1⟩
    go_wp2_with fail
    go_ret
    exact ⟨rfl, HNO.out _ H1.out⟩
  have d1 : decide (bay < 1) = false := decide_eq_false c1
  by_cases c2 : (C.yn : Int) < bay
  · have d2 : decide ((C.yn : Int) < bay) = true := decide_eq_true c2
    rw [may_none her (by omega)]
    clear her hyl
    go_enter Try.func24, Try.ntmps24
    go_wp2_with fail
    clear hX hV
    refine HC.out.mono ?_
    rintro e w1 ⟨rfl, H1⟩
    obtain ⟨y0, y1, y2, y3, y4, y5, y6, y7⟩ := HPE.out w1 H1.out
    clear k0 k1 k2 k3 k4 k5 k6 k7
    go_wp2_with fail
    go_ret
    exact ⟨rfl, HNO.out _ H1.out⟩
  have d2 : decide ((C.yn : Int) < bay) = false := decide_eq_false c2
  have hb : 1 ≤ bay ∧ bay ≤ C.p.ys.length := by omega
  by_cases hk : RunsOk C.p rs
  case neg =>
    have HZ : Hid (@decide (RunsOk C.p rs) (Classical.propDecidable _) = false) := Lib.hid (by simpa using hk)
    rw [may_arg her hb fun h => hk h.1]
    clear her hyl hk hb
    go_enter Try.func24, Try.ntmps24
    go_wp2_with fail
    clear hX hV
    refine HC.out.mono ?_
    rintro e w1 ⟨rfl, H1⟩
    obtain ⟨y0, y1, y2, y3, y4, y5, y6, y7⟩ := HPE.out w1 H1.out
    clear k0 k1 k2 k3 k4 k5 k6 k7
    go_wp2_with fail
    refine (HRU.out w1 false H1.out HZ.out).mono ?_
    rintro e w2 ⟨rfl, H2⟩
    go_wp2_with fail
    go_ret
    exact ⟨rfl, HNO.out _ H2.out⟩
  have HZ : Hid (@decide (RunsOk C.p rs) (Classical.propDecidable _) = true) := Lib.hid (by simpa using hk)
  by_cases c3 : lv < 0
  · have d3 : decide (lv < 0) = true := decide_eq_true c3
    rw [may_arg her hb fun h => by omega]
    clear her hyl hk hb
    go_enter Try.func24, Try.ntmps24
    go_wp2_with fail
    clear hX hV
    refine HC.out.mono ?_
    rintro e w1 ⟨rfl, H1⟩
    obtain ⟨y0, y1, y2, y3, y4, y5, y6, y7⟩ := HPE.out w1 H1.out
    clear k0 k1 k2 k3 k4 k5 k6 k7
    go_wp2_with fail
    refine (HRU.out w1 true H1.out HZ.out).mono ?_
    rintro e w2 ⟨rfl, H2⟩
    go_wp2_with fail
    go_ret
    exact ⟨rfl, HNO.out _ H2.out⟩
  have d3 : decide (lv < 0) = false := decide_eq_false c3
  by_cases c4 : 10 < lv
  · have d4 : decide (10 < lv) = true := decide_eq_true c4
    rw [may_arg her hb fun h => by omega]
    clear her hyl hk hb
    go_enter Try.func24, Try.ntmps24
    go_wp2_with fail
    clear hX hV
    refine HC.out.mono ?_
    rintro e w1 ⟨rfl, H1⟩
    obtain ⟨y0, y1, y2, y3, y4, y5, y6, y7⟩ := HPE.out w1 H1.out
    clear k0 k1 k2 k3 k4 k5 k6 k7
    go_wp2_with fail
    refine (HRU.out w1 true H1.out HZ.out).mono ?_
    rintro e w2 ⟨rfl, H2⟩
    go_wp2_with fail
    go_ret
    exact ⟨rfl, HNO.out _ H2.out⟩
  have d4 : decide (10 < lv) = false := decide_eq_false c4
  rw [may_ok her hb ⟨hk, by omega⟩]
  clear her hyl hk hb
  go_enter Try.func24, Try.ntmps24
  go_wp2_with fail
  clear hX hV
  refine HC.out.mono ?_
  rintro e w1 ⟨rfl, H1⟩
  obtain ⟨y0, y1, y2, y3, y4, y5, y6, y7⟩ := HPE.out w1 H1.out
  clear k0 k1 k2 k3 k4 k5 k6 k7
  go_wp2_with fail
  refine (HRU.out w1 true H1.out HZ.out).mono ?_
  rintro e w2 ⟨rfl, H2⟩
  go_wp2_with fail
  go_ret
  exact ⟨rfl, HNO.out _ H2.out⟩

/-- A blueprint of a catalogue, and its runs: all cells that a walk reads, in any world from here on. -/
theorem blue_cells {X : World} {C : CM} {V : Nat} {a : Option Addr} {rs : List Int} (HP : Hid (∀ W, Below X.heap.size X W → Cat.CellsC W V C)) (h : CatAt X C) (hl : Lim C) (hr : rs.length = C.bn) (hs : IRow X a rs) (k : Nat) (hk : k < C.bn) :
    ∃ g off b g2 off2 r, Hid (C.ba = some ⟨g, off, none⟩) ∧ Hid (a = some ⟨g2, off2, none⟩) ∧ Hid (C.bs[k]? = some b ∧ rs[k]? = some r ∧ b.sm ≤ 12 ∧ ∀ W, Below X.heap.size X W → BlIn W b) ∧
    Hid (∀ W, Below X.heap.size X W → W.cell? ⟨V, 1, none⟩ = some (.slice (some ⟨g, off, none⟩) C.bn C.bc) ∧ W.cell? ⟨g, off + k * 7, none⟩ = some (.int .i64 b.ot) ∧ W.cell? ⟨g, off + k * 7 + 1, none⟩ = some (.int .i64 b.per) ∧ W.cell? ⟨g, off + k * 7 + 2, none⟩ = some (.int .i64 b.tm) ∧ W.cell? ⟨g, off + k * 7 + 3, none⟩ = some (.slice b.sa b.sm b.sc) ∧ W.cell? ⟨g, off + k * 7 + 4, none⟩ = some (.int .i64 b.cp) ∧ W.cell? ⟨g, off + k * 7 + 5, none⟩ = some (.int .i64 b.st) ∧ W.cell? ⟨g, off + k * 7 + 6, none⟩ = some (.int .i64 b.mo) ∧ W.cell? ⟨g2, off2 + k, none⟩ = some (.int .i64 r)) := by
  obtain ⟨g, off, b, hba, ht, _⟩ := (Cat.blue_at h).out X k (Below.refl _ _) hk
  obtain ⟨g2, off2, r, ha, hr2, _⟩ := (irow_at hs).out X k (Below.refl _ _) (by rw [hr]; exact hk)
  have h12 := hl.1 b (List.mem_of_getElem? ht.out.1)
  refine ⟨g, off, b, g2, off2, r, Lib.hid hba, Lib.hid ha, Lib.hid ⟨ht.out.1, hr2.out, h12, fun W hW => ?_⟩, Lib.hid fun W hW => ?_⟩
  · obtain ⟨_, _, b3, _, ht3, _⟩ := (Cat.blue_at h).out W k hW hk
    have e4 := ht3.out.1
    rw [ht.out.1] at e4
    cases e4
    exact ⟨ht3.out.2.1, ht3.out.2.2, by omega⟩
  · obtain ⟨g3, off3, b3, e3, ht3, p0, p1, p2, p3, p4, p5, p6⟩ := (Cat.blue_at h).out W k hW hk
    rw [hba] at e3
    injection e3 with e3
    cases e3
    have e4 := ht3.out.1
    rw [ht.out.1] at e4
    cases e4
    obtain ⟨g5, off5, r5, e5, hr5, c5⟩ := (irow_at hs).out W k hW (by rw [hr]; exact hk)
    rw [ha] at e5
    cases e5
    have e6 := hr5.out
    rw [hr2.out] at e6
    cases e6
    obtain ⟨_, v1, _⟩ := HP.out W hW
    rw [hba] at v1
    exact ⟨v1, p0, p1, p2, p3, p4, p5, p6, c5⟩
set_option maxRecDepth 100000 in
set_option maxHeartbeats 8000000 in
theorem dtimeq (C : CM) (k : Nat) (a : Option Addr) (c : Nat) (rs : List Int) (lv : Int) (w : World) (h : CatAt w C) (hl : Lim C) (hr : rs.length = C.bn) (hs : IRow w a rs) (hk : k < C.bn) (b0 : Recipe.Bl) (r0 : Int) (hb0 : C.bs[k]? = some b0) (hr0 : rs[k]? = some r0) :
    Calls Try.prog 26 #[C.v, .int .i64 (k : Int), .slice a C.bn c, .int .i64 lv] w fun e w' => e = .returned (.int .i64 (Recipe.timeV b0 lv r0)) ∧ Below w.heap.size w w' := by
  obtain ⟨V, X, hV, hX, HXB, HP⟩ := box_cat w C
  obtain ⟨g, off, b, g2, off2, r, HBA, HA, HT, HCS⟩ := blue_cells HP (h.under HXB.out) hl hr (hs.under HXB.out) k hk
  obtain rfl : a = some ⟨g2, off2, none⟩ := HA.out
  obtain rfl : b = b0 := by have := HT.out.1; rw [hb0] at this; injection this with this; exact this.symm
  obtain rfl : r = r0 := by have := HT.out.2.1; rw [hr0] at this; injection this with this; exact this.symm
  obtain ⟨tv, htv⟩ : ∃ tv, Recipe.timeV b lv r = tv := ⟨_, rfl⟩
  obtain ⟨te, hte⟩ : ∃ te, Recipe.timeE b lv r = te := ⟨_, rfl⟩
  have HTI : Hid (Calls Try.prog 38 #[.agg #[.int .i64 b.ot, .int .i64 b.per, .int .i64 b.tm, .slice b.sa b.sm b.sc, .int .i64 b.cp, .int .i64 b.st, .int .i64 b.mo], .int .i64 lv, .int .i64 r] X.drew fun e w' => e = .returned (.tuple #[.int .i64 tv, .int .i64 te]) ∧ Hid (Below X.heap.size X w')) := Lib.hid (by
    rw [← htv, ← hte]
    exact (Recipe.dtime b lv r X.drew (HT.out.2.2.2 _ (Below.refl _ X).drew)).mono fun _ _ ⟨e, h⟩ => ⟨e, Lib.hid (((Below.refl _ X).drew).trans h)⟩)
  have hb1 : C.bn ≤ 20 := hl.2.1
  have hk0 : (0 : Int) ≤ (k : Int) := by omega
  have hk1 : (k : Int) < (C.bn : Int) := by omega
  obtain ⟨y1, p0, p1, p2, p3, p4, p5, p6, z0⟩ := HCS.out X (Below.refl _ _)
  rw [htv]
  clear htv hte h hl hr hs hb0 hr0
  go_enter Try.func26, Try.ntmps26
  go_wp2_with fail
  clear hX hV
  go_region_held3 (fun W => W.cell? ⟨V, 1, none⟩ = some (.slice (some ⟨g, off, none⟩) C.bn C.bc) ∧ W.cell? ⟨g, off + k * 7, none⟩ = some (.int .i64 b.ot) ∧ W.cell? ⟨g, off + k * 7 + 1, none⟩ = some (.int .i64 b.per) ∧ W.cell? ⟨g, off + k * 7 + 2, none⟩ = some (.int .i64 b.tm) ∧ W.cell? ⟨g, off + k * 7 + 3, none⟩ = some (.slice b.sa b.sm b.sc) ∧ W.cell? ⟨g, off + k * 7 + 4, none⟩ = some (.int .i64 b.cp) ∧ W.cell? ⟨g, off + k * 7 + 5, none⟩ = some (.int .i64 b.st) ∧ W.cell? ⟨g, off + k * 7 + 6, none⟩ = some (.int .i64 b.mo) ∧ W.cell? ⟨g2, off2 + k, none⟩ = some (.int .i64 r))
    (first | exact HCS.out _ (Below.refl _ X).drew | exact HCS.out _ H6.out)
    (first
      | (go_at_call 38; refine HTI.out.mono ?_; rintro e w6 ⟨rfl, H6⟩))
  all_goals
    go_wp2_with fail
    go_ret
    exact ⟨rfl, below_then HXB.out H6.out⟩
end Go.Proofs.Ytdbhdlgoecpeaaa.Quo
