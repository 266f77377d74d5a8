/- How the program's plan stands to the document's; said without a walk. The program's plan. -/
import Derived.Test.YtdbhdlgoecpeaaaZQuoImH
import Derived.Test.YtdbhdlgoecpeaaaZQuoImD
import Derived.BigRegion
import Derived.Deep.LoopGhost
namespace Go.Proofs.Ytdbhdlgoecpeaaa.Quo.Im
open Go.RowKit Go.Lib IRows

/-- Jobs as the program has them are those of the document. -/
structure JJ (J : Jb) (n : Nat) (t : Nat → Int) (ws : Nat → List Int) : Prop where
  jn : J.n = n
  jt : ∀ k, k < n → t k = J.t k
  pos : ∀ k, k < n → decide (0 < t k) = J.j k
  jws : ∀ k, k < n → J.j k = true → ∀ x : Nat, (x : Int) ∈ ws k ↔ J.w k x = true
  bd : ∀ k, k < n → ∀ x ∈ ws k, 0 ≤ x ∧ x < (n : Int)
  few : ∀ k, k < n → (ws k).length ≤ 1048576
theorem over_b {J : Jb} (hF : Fine J) {p : Pl} (h : Ok J p) (k : Nat) : decide (0 < p.e k) = p.b k := by
  cases hb : p.b k with
  | false =>
    rw [(h.none k hb).2]
    rfl
  | true =>
    obtain ⟨h1, h2, h3, _, h4⟩ := h.job k hb
    have := hF.tj k h1 h2
    exact decide_eq_true (by omega)
theorem eAt_spans {n : Nat} {s e : Nat → Int} {k : Nat} (h : k < n) : eAt (spans n s e) k = e k := (at_is (spans_at h)).2
theorem sAt_spans {n : Nat} {s e : Nat → Int} {k : Nat} (h : k < n) : sAt (spans n s e) k = s k := (at_is (spans_at h)).1
theorem may_ready {J : Jb} {n : Nat} {t : Nat → Int} {ws : Nat → List Int} (hJ : JJ J n t ws) (hF : Fine J) {p : Pl} (h : Ok J p) {k : Nat} (hk : k < n) : mayN t ws (spans n p.s p.e) p.now k = ready J p k := by
  unfold mayN
  rw [hJ.pos k hk, eAt_spans hk, over_b hF h k]
  cases hj : J.j k with
  | false =>
    unfold ready
    rw [hj]
    rfl
  | true =>
    unfold ready
    rw [hj]
    congr 1
    unfold free
    have h1 : ∀ x : Nat, x < n → okW (spans n p.s p.e) p.now (x : Int) = (p.b x && decide (p.e x ≤ p.now)) := fun x hx => by
      unfold okW
      rw [Int.toNat_natCast, eAt_spans hx, over_b hF h x]
    rw [Bool.eq_iff_iff, List.all_eq_true, List.all_eq_true]
    constructor
    · intro h2 x hx
      have hx := List.mem_range.1 hx
      rw [hJ.jn] at hx
      cases hw : J.w k x with
      | false => rfl
      | true =>
        have h3 := h2 _ ((hJ.jws k hk hj x).2 hw)
        rw [h1 x hx] at h3
        rw [h3]
        rfl
    · intro h2 x hx
      obtain ⟨h3, h4⟩ := hJ.bd k hk x hx
      obtain ⟨y, rfl⟩ := Int.eq_ofNat_of_zero_le h3
      have hy : y < n := by omega
      have h5 := h2 y (List.mem_range.2 (by rw [hJ.jn]; exact hy))
      rw [(hJ.jws k hk hj y).1 hx] at h5
      rw [h1 y hy]
      simpa using h5
theorem nx1_congr {f g : Nat → Bool} : ∀ {d k : Nat}, (∀ i, k ≤ i → i < k + d → f i = g i) → nx1 f d k = nx1 g d k
  | 0, _, _ => rfl
  | d + 1, k, h => by rw [nx1, nx1, h k (Nat.le_refl _) (by omega), nx1_congr fun i h1 h2 => h i (by omega) (by omega)]
theorem nx1_nxF (J : Jb) (p : Pl) : ∀ d, d ≤ J.n → nx1 (ready J p) d (J.n - d) = nxF J p d
  | 0, _ => rfl
  | d + 1, h => by
    rw [nx1, nxF, show J.n - (d + 1) + 1 = J.n - d by omega, nx1_nxF J p d (by omega)]
theorem next_is {J : Jb} {n : Nat} {t : Nat → Int} {ws : Nat → List Int} (hJ : JJ J n t ws) (hF : Fine J) {p : Pl} (h : Ok J p) : nx1 (mayN t ws (spans n p.s p.e) p.now) n 0 = nxF J p J.n := by
  rw [nx1_congr (g := ready J p) fun i _ hi => may_ready hJ hF h (by omega)]
  have := nx1_nxF J p J.n (Nat.le_refl _)
  rw [Nat.sub_self] at this
  rw [← this, hJ.jn]
/-- As many as a row names. -/
theorem cnt_list {f : Nat → Bool} : ∀ (n : Nat) (l : List Int), l.Nodup → (∀ x ∈ l, 0 ≤ x ∧ x < (n : Int)) → (∀ k, k < n → ((k : Int) ∈ l ↔ f k = true)) → l.length = cntB f n
  | 0, [], _, _, _ => rfl
  | 0, x :: l, _, h, _ => by
    have := h x (List.mem_cons_self ..)
    omega
  | n + 1, l, hn, hb, hf => by
    have h1 := cnt_list n (l.erase (n : Int)) (hn.erase _) (fun x hx => by
      have h2 := (List.Nodup.mem_erase_iff hn).1 hx
      have h3 := hb x h2.2
      have h4 := h2.1
      omega) (fun k hk => by
      rw [List.Nodup.mem_erase_iff hn, ← hf k (by omega)]
      exact ⟨fun h => h.2, fun h => ⟨by omega, h⟩⟩)
    rw [cntB, ← h1]
    cases hv : f n with
    | true =>
      have hm : (n : Int) ∈ l := (hf n (by omega)).2 hv
      rw [List.length_erase_of_mem hm]
      have := List.length_pos_of_mem hm
      simp
      omega
    | false =>
      have hm : (n : Int) ∉ l := fun h => by
        have := (hf n (by omega)).1 h
        rw [hv] at this
        cases this
      rw [List.erase_of_not_mem hm]
      simp
/-- A row names those that are being done. -/
structure Doing (n : Nat) (p : Pl) (l : List Int) : Prop where
  nodup : l.Nodup
  bd : ∀ x ∈ l, 0 ≤ x ∧ x < (n : Int)
  is : ∀ k, k < n → ((k : Int) ∈ l ↔ runs p k = true)
theorem Doing.len {J : Jb} {n : Nat} {p : Pl} {l : List Int} (h : Doing n p l) (hn : J.n = n) : l.length = doing J p := by
  unfold doing
  rw [hn]
  exact cnt_list n l h.nodup h.bd h.is
/-- .. those of before, of which some are over by now. -/
structure Was (n : Nat) (p : Pl) (l : List Int) : Prop where
  nodup : l.Nodup
  bd : ∀ x ∈ l, 0 ≤ x ∧ x < (n : Int)
  b : ∀ k : Nat, (k : Int) ∈ l → p.b k = true
  all : ∀ k, k < n → runs p k = true → (k : Int) ∈ l
theorem Was.start (n : Nat) : Was n start [] := ⟨List.nodup_nil, fun x h => (by cases h), fun k h => (by cases h), fun k _ h => (by cases h)⟩
theorem Was.doing {n : Nat} {p : Pl} {l : List Int} (h : Was n p l) : Doing n p (l.filter (keepF p.e p.now)) := by
  refine ⟨h.nodup.filter _, fun x hx => h.bd x (List.mem_filter.1 hx).1, fun k hk => ?_⟩
  rw [List.mem_filter]
  unfold keepF runs
  rw [Int.toNat_natCast]
  constructor
  · rintro ⟨h1, h2⟩
    have h3 : decide (p.e k ≤ p.now) = false := by simpa using h2
    rw [h.b k h1, decide_eq_true (show p.now < p.e k by have := of_decide_eq_false h3; omega)]
    rfl
  · intro h1
    have h2 : runs p k = true := h1
    rw [Bool.and_eq_true] at h1
    have h3 := of_decide_eq_true h1.2
    exact ⟨h.all k hk h2, by rw [decide_eq_false (show ¬ p.e k ≤ p.now by omega)]; rfl⟩
theorem Doing.later {n : Nat} {p : Pl} {l : List Int} (h : Doing n p l) {v : Int} (hv : p.now ≤ v) : Was n ⟨p.s, p.e, p.b, v⟩ l := by
  refine ⟨h.nodup, h.bd, fun k hk => ?_, fun k hk hr => ?_⟩
  · have := h.bd _ hk
    have h1 := (h.is k (by omega)).1 hk
    unfold runs at h1
    rw [Bool.and_eq_true] at h1
    exact h1.1
  · refine (h.is k hk).2 ?_
    unfold runs at hr ⊢
    rw [Bool.and_eq_true] at hr ⊢
    exact ⟨hr.1, decide_eq_true (by have := of_decide_eq_true hr.2; show p.now < p.e k; have h3 : v < p.e k := this; omega)⟩
theorem Doing.beg {J : Jb} {n : Nat} {p : Pl} {l : List Int} (h : Doing n p l) {k : Nat} (hk : k < n) (hb : p.b k = false) (ht : 1 ≤ J.t k) : Doing n (beg J p k) (l ++ [(k : Int)]) := by
  have hnot : (k : Int) ∉ l := fun hm => by
    have h1 := (h.is k hk).1 hm
    unfold runs at h1
    rw [hb] at h1
    cases h1
  refine ⟨?_, fun x hx => ?_, fun x hx => ?_⟩
  · rw [List.nodup_append]
    exact ⟨h.nodup, by simp, fun a ha b hb => by
      rw [List.mem_singleton.1 hb]
      intro e
      rw [e] at ha
      exact hnot ha⟩
  · rcases List.mem_append.1 hx with h1 | h1
    · exact h.bd x h1
    · rw [List.mem_singleton.1 h1]
      omega
  · rw [List.mem_append, List.mem_singleton]
    by_cases e : x = k
    · subst e
      refine ⟨fun _ => ?_, fun _ => .inr rfl⟩
      show (updN p.b x true x && decide (p.now < updN p.e x (p.now + J.t x) x)) = true
      rw [updN_same, updN_same, decide_eq_true (show p.now < p.now + J.t x by omega)]
      rfl
    · have e1 : runs (Quo.beg J p k) x = runs p x := by
        show (updN p.b k true x && decide (p.now < updN p.e k (p.now + J.t k) x)) = _
        rw [updN_other _ _ e, updN_other _ _ e]
        rfl
      rw [e1, ← h.is x hx]
      exact ⟨fun h => h.elim id fun h => absurd (by omega) e, .inl⟩
/-- The next end is that of one of a row that ends first. -/
theorem Doing.least {n : Nat} {p : Pl} {l : List Int} (h : Doing n p l) (h0 : 0 ≤ p.now) (hne : l ≠ []) : thF p n ≠ 0 ∧ p.now < thF p n ∧ (∃ k, k < n ∧ runs p k = true ∧ p.e k = thF p n) ∧ ∀ x, Least p.e l x → p.e x.toNat = thF p n := by
  rcases thF_is h0 n with ⟨_, h1⟩ | ⟨h1, h2, h3⟩
  · exfalso
    cases l with
    | nil => exact hne rfl
    | cons x l =>
      have hb := h.bd x (List.mem_cons_self ..)
      obtain ⟨y, rfl⟩ := Int.eq_ofNat_of_zero_le hb.1
      have := (h.is y (by omega)).1 (List.mem_cons_self ..)
      rw [h1 y (by omega)] at this
      cases this
  · refine ⟨by omega, h1, h2, fun x hx => ?_⟩
    obtain ⟨k, hk, hr, hek⟩ := h2
    have hb := h.bd x hx.1
    obtain ⟨y, rfl⟩ := Int.eq_ofNat_of_zero_le hb.1
    have h4 := hx.2 _ ((h.is k hk).2 hr)
    have h5 := h3 y (by omega) ((h.is y (by omega)).1 hx.1)
    rw [Int.toNat_natCast] at h4 ⊢
    rw [Int.toNat_natCast] at h4
    omega
/-- Where nothing is done and nothing more may begin, nothing is left. -/
theorem none_left {J : Jb} {p : Pl} (h0 : 0 ≤ p.now) (hl : doing J p = 0) (hnb : ¬ (0 ≤ nxF J p J.n ∧ (doing J p : Int) < J.m)) (hgo : left J p ≠ 0 → stp J p ≠ none) : left J p = 0 := by
  by_cases hk : left J p = 0
  · exact hk
  · refine absurd (stp_none hnb ?_) (hgo hk)
    rcases thF_is h0 J.n with ⟨h1, _⟩ | ⟨_, ⟨k, h2, h3, _⟩, _⟩
    · exact h1
    · have := cntB_zero hl k h2
      rw [h3] at this
      cases this
/-- What is told in the end. -/
def Ends (J : Jb) (p : Pl) (Fs Fe : Nat → Int) : Prop := ∃ F, pl J p = some F ∧ F.s = Fs ∧ F.e = Fe
theorem Ends.done {J : Jb} {p : Pl} {Fs Fe : Nat → Int} (h : Ends J p Fs Fe) (h0 : left J p = 0) : p.s = Fs ∧ p.e = Fe := by
  obtain ⟨F, h1, h2, h3⟩ := h
  rw [pl_done h0] at h1
  injection h1 with h1
  subst h1
  exact ⟨h2, h3⟩
theorem Ends.beg {J : Jb} (hF : Fine J) {p : Pl} {Fs Fe : Nat → Int} {k : Nat} (h : Ends J p Fs Fe) (hp : Ok J p) (hk : k < J.n) (hr : ready J p k = true) (hs : stp J p = some (Quo.beg J p k)) : Ends J (Quo.beg J p k) Fs Fe := by
  obtain ⟨F, h1, h2, h3⟩ := h
  refine ⟨F, ?_, h2, h3⟩
  rw [← pl_next hF hp (fun h0 => ?_) hs]
  · exact h1
  · have := left_beg hk hr
    omega
theorem Ends.later {J : Jb} (hF : Fine J) {p : Pl} {Fs Fe : Nat → Int} {v : Int} (h : Ends J p Fs Fe) (hp : Ok J p) (hs : left J p ≠ 0 → stp J p = some ⟨p.s, p.e, p.b, v⟩) : Ends J ⟨p.s, p.e, p.b, v⟩ Fs Fe := by
  by_cases h0 : left J p = 0
  · obtain ⟨h1, h2⟩ := h.done h0
    have h3 : left J ⟨p.s, p.e, p.b, v⟩ = 0 := h0
    exact ⟨⟨p.s, p.e, p.b, v⟩, pl_done h3, h1, h2⟩
  · obtain ⟨F, h1, h2, h3⟩ := h
    exact ⟨F, by rw [← pl_next hF hp h0 (hs h0)]; exact h1, h2, h3⟩
end Go.Proofs.Ytdbhdlgoecpeaaa.Quo.Im
namespace Go.Proofs.Ytdbhdlgoecpeaaa.Quo.Im
open Go.RowKit Go.Lib IRows

/-- Spans that may be stored into. -/
structure SW (W : World) (A n : Nat) (s e : Nat → Int) : Prop where
  st : ∀ i, i < n → W.cell? ⟨A, i * 2, none⟩ = some (.int .i64 (s i)) ∧ W.frozen? ⟨A, i * 2, none⟩ = false
  en : ∀ i, i < n → W.cell? ⟨A, i * 2 + 1, none⟩ = some (.int .i64 (e i)) ∧ W.frozen? ⟨A, i * 2 + 1, none⟩ = false
theorem SW.to {W W' : World} {A n : Nat} {s e : Nat → Int} (h : SW W A n s e) (hc : ∀ o, W'.cell? ⟨A, o, none⟩ = W.cell? ⟨A, o, none⟩ ∧ W'.frozen? ⟨A, o, none⟩ = W.frozen? ⟨A, o, none⟩) : SW W' A n s e :=
  ⟨fun i hi => ⟨(hc _).1.trans (h.st i hi).1, (hc _).2.trans (h.st i hi).2⟩, fun i hi => ⟨(hc _).1.trans (h.en i hi).1, (hc _).2.trans (h.en i hi).2⟩⟩
theorem SW.set {W : World} {A n : Nat} {s e : Nat → Int} (h : SW W A n s e) (k : Nat) (x y : Int) : SW ((W.setCell ⟨A, k * 2, none⟩ (.int .i64 x)).setCell ⟨A, k * 2 + 1, none⟩ (.int .i64 y)) A n (updN s k x) (updN e k y) := by
  have hne : ∀ {i j : Nat}, i ≠ j → (⟨A, i, none⟩ : Addr) ≠ ⟨A, j, none⟩ := fun h e => by
    injection e with e1 e2
    exact h e2
  have fz : ∀ a, ((W.setCell ⟨A, k * 2, none⟩ (.int .i64 x)).setCell ⟨A, k * 2 + 1, none⟩ (.int .i64 y)).frozen? a = W.frozen? a := fun a => by rw [World.frozen?_setCell, World.frozen?_setCell]
  refine ⟨fun i hi => ⟨?_, (fz _).trans (h.st i hi).2⟩, fun i hi => ⟨?_, (fz _).trans (h.en i hi).2⟩⟩
  · by_cases e1 : i = k
    · subst e1
      rw [updN_same, World.cell?_setCell_other (h := hne (by omega)), World.cell?_setCell_same (h := (h.st i hi).1)]
    · rw [updN_other _ _ e1, World.cell?_setCell_other (h := hne (by omega)), World.cell?_setCell_other (h := hne (by omega))]
      exact (h.st i hi).1
  · by_cases e1 : i = k
    · subst e1
      have h3 : (W.setCell ⟨A, i * 2, none⟩ (.int .i64 x)).cell? ⟨A, i * 2 + 1, none⟩ = some (.int .i64 (e i)) := by rw [World.cell?_setCell_other (h := hne (by omega))]; exact (h.en i hi).1
      rw [updN_same, World.cell?_setCell_same (h := h3)]
    · rw [updN_other _ _ e1, World.cell?_setCell_other (h := hne (by omega)), World.cell?_setCell_other (h := hne (by omega))]
      exact (h.en i hi).1
theorem cell_heap {W W' : World} {g : Nat} (h : W'.heap[g]? = W.heap[g]?) (o : Nat) : W'.cell? ⟨g, o, none⟩ = W.cell? ⟨g, o, none⟩ ∧ W'.frozen? ⟨g, o, none⟩ = W.frozen? ⟨g, o, none⟩ := by
  unfold World.cell? World.frozen?
  rw [h]
  exact ⟨rfl, rfl⟩
/-- A plan under way in memory: the spans, the box that holds them, the box of those that are done, the box of the time. -/
structure PW (X W : World) (A P D B N n : Nat) (p : Pl) (v : Value) (l : List Int) : Prop where
  bel : Below X.heap.size X W
  sp : SW W A n p.s p.e
  pc : W.cell? ⟨P, 0, none⟩ = some (.slice (some ⟨A, 0, none⟩) n n)
  dc : W.cell? ⟨D, 0, none⟩ = some v ∧ W.frozen? ⟨D, 0, none⟩ = false
  nc : W.cell? ⟨N, 0, none⟩ = some (.int .i64 p.now) ∧ W.frozen? ⟨N, 0, none⟩ = false
  row : KS W B v l
  lt : X.heap.size ≤ A ∧ A < P ∧ P < D ∧ D < B ∧ B ≤ N ∧ N < W.heap.size
  far : v.ownBlock ≠ some N
theorem PW.view {X W : World} {A P D B N n : Nat} {p : Pl} {v : Value} {l : List Int} (h : PW X W A P D B N n p v l) : View W P A n p.e := ⟨h.pc, fun k hk => (h.sp.en k hk).1⟩
theorem PW.spa {X W : World} {A P D B N n : Nat} {p : Pl} {v : Value} {l : List Int} (h : PW X W A P D B N n p v l) : Spa W (some ⟨A, 0, none⟩) (spans n p.s p.e) := fun i t hi => by
  have hl := (List.getElem?_eq_some_iff.1 hi).1
  rw [spans_len] at hl
  rw [spans_at hl] at hi
  injection hi with hi
  subst hi
  exact ⟨A, 0, rfl, by have := h.lt; omega, by rw [Nat.zero_add]; exact (h.sp.st i hl).1, by rw [Nat.zero_add]; exact (h.sp.en i hl).1⟩
/-- Where only a block has turned that is none of a plan's. -/
theorem PW.to {X W W' : World} {A P D B N n : Nat} {p : Pl} {v : Value} {l : List Int} (h : PW X W A P D B N n p v l) (hb : Below X.heap.size X W') (hs : W.heap.size ≤ W'.heap.size) (hc : ∀ g, (g = A ∨ g = P ∨ g = D ∨ g = N ∨ v.ownBlock = some g) → W'.heap[g]? = W.heap[g]?) : PW X W' A P D B N n p v l :=
  ⟨hb, h.sp.to (cell_heap (hc A (.inl rfl))), (cell_heap (hc P (.inr (.inl rfl))) 0).1.trans h.pc, ⟨(cell_heap (hc D (.inr (.inr (.inl rfl)))) 0).1.trans h.dc.1, (cell_heap (hc D (.inr (.inr (.inl rfl)))) 0).2.trans h.dc.2⟩, ⟨(cell_heap (hc N (.inr (.inr (.inr (.inl rfl))))) 0).1.trans h.nc.1, (cell_heap (hc N (.inr (.inr (.inr (.inl rfl))))) 0).2.trans h.nc.2⟩, h.row.moved fun g hg => hc g (.inr (.inr (.inr (.inr hg)))), by have := h.lt; omega, h.far⟩
theorem PW.under {X W W' : World} {A P D B N n : Nat} {p : Pl} {v : Value} {l : List Int} (h : PW X W A P D B N n p v l) (hb : Below W.heap.size W W') : PW X W' A P D B N n p v l :=
  h.to (below_then h.bel hb) hb.size fun g hg => hb.block g (by
    have := h.lt
    rcases hg with h1 | h1 | h1 | h1 | h1
    · omega
    · omega
    · omega
    · omega
    · exact (h.row.lt g h1).2)
/-- Some of those that are done are taken away. -/
theorem PW.del {X W W' : World} {A P D B N n : Nat} {p : Pl} {a : Option Addr} {m m' c : Nat} {l l' : List Int} (h : PW X W A P D B N n p (.slice a m c) l) (hg : W.grownBy W' ((Value.slice a m c).ownBlock)) (hk : KS W' B (.slice a m' c) l') :
    (W'.cell? ⟨D, 0, none⟩ = some (.slice a m c) ∧ W'.frozen? ⟨D, 0, none⟩ = false) ∧ PW X (W'.setCell ⟨D, 0, none⟩ (.slice a m' c)) A P D B N n p (.slice a m' c) l' := by
  have hlt := h.lt
  have hown : ∀ g, (Value.slice a m c).ownBlock = some g → B ≤ g ∧ g < W.heap.size := fun g hg => h.row.lt g hg
  have hblk : ∀ g, g < W.heap.size → (Value.slice a m c).ownBlock ≠ some g → W'.heap[g]? = W.heap[g]? := fun g h1 h2 => hg.block g h1 (fun e => h2 e.symm)
  have hold : ∀ g, g < B → W'.heap[g]? = W.heap[g]? := fun g h1 => hblk g (by omega) fun e => by have := hown g e; omega
  have hD := cell_heap (hold D (by omega)) 0
  have hdc : W'.cell? ⟨D, 0, none⟩ = some (.slice a m c) := hD.1.trans h.dc.1
  have hsame : (Value.slice a m' c).ownBlock = (Value.slice a m c).ownBlock := by cases a <;> rfl
  refine ⟨⟨hdc, hD.2.trans h.dc.2⟩, ?_⟩
  have hset : ∀ g, g ≠ D → (W'.setCell ⟨D, 0, none⟩ (.slice a m' c)).heap[g]? = W'.heap[g]? := fun g hne => heap_setCell_other W' ⟨D, 0, none⟩ g _ (fun e => hne e)
  have hb1 : Below X.heap.size X W' := h.bel.grown hg (by omega) fun q hq => by have := hown q hq; omega
  refine ⟨hb1.setCell (p := ⟨D, 0, none⟩) (by show X.heap.size ≤ D; omega) _, h.sp.to fun o => ?_, ?_, ⟨World.cell?_setCell_same _ _ _ hdc, by rw [World.frozen?_setCell]; exact hD.2.trans h.dc.2⟩, ⟨?_, ?_⟩, hk.moved fun g hg2 => hset g (by rw [hsame] at hg2; have := hown g hg2; omega), by have := hg.size; simp; omega, by rw [hsame]; exact h.far⟩
  · have h1 := cell_heap ((hset A (by omega)).trans (hold A (by omega))) o
    exact h1
  · exact (cell_heap ((hset P (by omega)).trans (hold P (by omega))) 0).1.trans h.pc
  · exact (cell_heap ((hset N (by omega)).trans (hblk N hlt.2.2.2.2.2 h.far)) 0).1.trans h.nc.1
  · exact (cell_heap ((hset N (by omega)).trans (hblk N hlt.2.2.2.2.2 h.far)) 0).2.trans h.nc.2
/-- One begins: its span is laid. -/
theorem PW.lay {X W : World} {A P D B N n : Nat} {J : Jb} {p : Pl} {v : Value} {l : List Int} (h : PW X W A P D B N n p v l) (k : Nat) (x : Int) (hx : p.now + J.t k = x) : PW X ((W.setCell ⟨A, k * 2, none⟩ (.int .i64 p.now)).setCell ⟨A, k * 2 + 1, none⟩ (.int .i64 x)) A P D B N n (beg J p k) v l := by
  have hlt := h.lt
  have hset : ∀ g, g ≠ A → ((W.setCell ⟨A, k * 2, none⟩ (.int .i64 p.now)).setCell ⟨A, k * 2 + 1, none⟩ (.int .i64 x)).heap[g]? = W.heap[g]? := fun g hne => (heap_setCell_other _ ⟨A, k * 2 + 1, none⟩ g _ (fun e => hne e)).trans (heap_setCell_other W ⟨A, k * 2, none⟩ g _ (fun e => hne e))
  subst hx
  exact ⟨(h.bel.setCell (p := ⟨A, k * 2, none⟩) (by show X.heap.size ≤ A; omega) _).setCell (p := ⟨A, k * 2 + 1, none⟩) (by show X.heap.size ≤ A; omega) _, h.sp.set k _ _, (cell_heap (hset P (by omega)) 0).1.trans h.pc, ⟨(cell_heap (hset D (by omega)) 0).1.trans h.dc.1, (cell_heap (hset D (by omega)) 0).2.trans h.dc.2⟩, ⟨(cell_heap (hset N (by omega)) 0).1.trans h.nc.1, (cell_heap (hset N (by omega)) 0).2.trans h.nc.2⟩, h.row.moved fun g hg => hset g (by have := h.row.lt g hg; omega), by simpa using hlt, h.far⟩
/-- .. and it is put to those that are done. -/
theorem PW.app {X W : World} {A P D B N n : Nat} {p : Pl} {a : Option Addr} {m c : Nat} {l : List Int} (h : PW X W A P D B N n p (.slice a m c) l) (x : Int) (hm : m ≤ 1000) :
    ∃ g cap W2, (Builtin.append_ #[29, 29] 29 #[.slice a m c, .slice (some ⟨W.heap.size, 0, none⟩) 1 1]).run Try.prog (W.alloc (.cells #[.int .i64 x] 3)) = .ok (.slice (some ⟨g, 0, none⟩) (m + 1) cap) W2 ∧
      (W2.cell? ⟨D, 0, none⟩ = some (.slice a m c) ∧ W2.frozen? ⟨D, 0, none⟩ = false) ∧ PW X (W2.setCell ⟨D, 0, none⟩ (.slice (some ⟨g, 0, none⟩) (m + 1) cap)) A P D B N n p (.slice (some ⟨g, 0, none⟩) (m + 1) cap) (l ++ [x]) := by
  have hlt := h.lt
  have hlen := ks_len h.row
  obtain ⟨g, cap, W2, hr, h1, h2, h3, h4, h5⟩ := app_int W B _ l x h.row (by omega) (by omega)
  rw [hlen] at hr h1
  have hown : ∀ q, (Value.slice a m c).ownBlock = some q → B ≤ q ∧ q < W.heap.size := fun q hq => h.row.lt q hq
  have hold : ∀ q, q < B → W2.heap[q]? = W.heap[q]? := fun q hq => h3 q (by omega) fun e => by have := hown q e; omega
  have hgB : B ≤ g ∧ g ≠ N := by
    rcases h4 with h4 | h4
    · exact ⟨(hown g h4).1, fun e => h.far (by rw [h4, e])⟩
    · exact ⟨by omega, by omega⟩
  have hD := cell_heap (hold D (by omega)) 0
  have hdc : W2.cell? ⟨D, 0, none⟩ = some (.slice a m c) := hD.1.trans h.dc.1
  refine ⟨g, cap, W2, hr, ⟨hdc, hD.2.trans h.dc.2⟩, ?_⟩
  have hset : ∀ q, q ≠ D → (W2.setCell ⟨D, 0, none⟩ (.slice (some ⟨g, 0, none⟩) (m + 1) cap)).heap[q]? = W2.heap[q]? := fun q hne => heap_setCell_other W2 ⟨D, 0, none⟩ q _ (fun e => hne e)
  have hb1 : Below X.heap.size X W2 := h.bel.trans (h2.mono (by omega))
  refine ⟨hb1.setCell (p := ⟨D, 0, none⟩) (by show X.heap.size ≤ D; omega) _, h.sp.to fun o => ?_, ?_, ⟨World.cell?_setCell_same _ _ _ hdc, by rw [World.frozen?_setCell]; exact hD.2.trans h.dc.2⟩, ⟨?_, ?_⟩, h1.moved fun q hq => hset q ?_, by have := h2.size; simp; omega, ?_⟩
  · exact cell_heap ((hset A (by omega)).trans (hold A (by omega))) o
  · exact (cell_heap ((hset P (by omega)).trans (hold P (by omega))) 0).1.trans h.pc
  · exact (cell_heap ((hset N (by omega)).trans (h3 N hlt.2.2.2.2.2 h.far)) 0).1.trans h.nc.1
  · exact (cell_heap ((hset N (by omega)).trans (h3 N hlt.2.2.2.2.2 h.far)) 0).2.trans h.nc.2
  · have e : g = q := by simpa [Value.ownBlock] using hq
    omega
  · intro e
    have e : g = N := by simpa [Value.ownBlock] using e
    exact hgB.2 e
/-- A box of its own for the next time. -/
theorem PW.next {X W : World} {A P D B N n : Nat} {p : Pl} {v : Value} {l : List Int} (h : PW X W A P D B N n p v l) : PW X (W.alloc (.cells #[.int .i64 p.now] 3)) A P D B W.heap.size n p v l := by
  have hlt := h.lt
  have hb := (Below.refl _ W).alloc (Nat.le_refl _) (.cells #[.int .i64 p.now] 3)
  have h1 := h.under hb
  have hn := heap_alloc_new W (.cells #[.int .i64 p.now] 3)
  exact ⟨h1.bel, h1.sp, h1.pc, h1.dc, ⟨cell_block (j := 0) hn rfl, free_block 0 hn⟩, h1.row, by simp; omega, fun e => by have := (h.row.lt _ e).2; omega⟩
theorem PW.time {X W : World} {A P D B N n : Nat} {p : Pl} {v : Value} {l : List Int} (h : PW X W A P D B N n p v l) (x : Int) : PW X (W.setCell ⟨N, 0, none⟩ (.int .i64 x)) A P D B N n ⟨p.s, p.e, p.b, x⟩ v l := by
  have hlt := h.lt
  have hset : ∀ q, q ≠ N → (W.setCell ⟨N, 0, none⟩ (.int .i64 x)).heap[q]? = W.heap[q]? := fun q hne => heap_setCell_other W ⟨N, 0, none⟩ q _ (fun e => hne e)
  exact ⟨h.bel.setCell (p := ⟨N, 0, none⟩) (by show X.heap.size ≤ N; omega) _, h.sp.to (cell_heap (hset A (by omega))), (cell_heap (hset P (by omega)) 0).1.trans h.pc, ⟨(cell_heap (hset D (by omega)) 0).1.trans h.dc.1, (cell_heap (hset D (by omega)) 0).2.trans h.dc.2⟩, ⟨World.cell?_setCell_same _ _ _ h.nc.1, by rw [World.frozen?_setCell]; exact h.nc.2⟩, h.row.moved fun g hg => hset g (fun e => h.far (by rw [hg, e])), by simpa using hlt, h.far⟩
end Go.Proofs.Ytdbhdlgoecpeaaa.Quo.Im
