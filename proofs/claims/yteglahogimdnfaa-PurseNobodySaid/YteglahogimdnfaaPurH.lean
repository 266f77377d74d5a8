/- What the laws ask of the program's purse, said once: an implementation; a purse beside rows and a clone. -/
import Derived.Test.YteglahogimdnfaaPurF
import Derived.Test.YteglahogimdnfaaPurG
import Derived.Test.YteglahogimdnfaaPurZero
import Derived.Test.YteglahogimdnfaaStep
namespace Go.Proofs.Yteglahogimdnfaa.Purse
open Go.RowKit Go.Lib

abbrev ptr (q : Nat) : Value := .pointer (some ⟨q, 0, none⟩)
def I64 (x : Int) : Prop := -9223372036854775808 ≤ x ∧ x ≤ 9223372036854775807
def InA (l : List Ac) : Prop := ∀ a ∈ l, I64 a.own ∧ I64 a.mon
def InP (ps : List Pay) : Prop := ∀ p ∈ ps, I64 p.src ∧ I64 p.dst ∧ I64 p.num
/-- A purse of the program's: what it is, and what its calls do: F is what a call may turn, R what it reads. -/
structure Impl where
  PQ : World → Nat → (Nat → Prop) → (Nat → Prop) → List Ac → Prop
  lt : ∀ {w Q F R l}, PQ w Q F R l → ∀ k, F k ∨ R k → k < w.heap.size
  keep : ∀ {w w' : World} {Q F R l}, PQ w Q F R l → w.heap.size ≤ w'.heap.size → (∀ k, F k ∨ R k → w'.heap[k]? = w.heap[k]?) → PQ w' Q F R l
  zero : ∀ w : World, PQ (w.alloc (.cells zeroPurse 59)) w.heap.size (fun k => k = w.heap.size) (fun k => k = w.heap.size) []
  load : ∀ (a : Option Addr) (n c : Nat) (l : List Ac) (w : World), Accs w a l → l.length = n → n ≤ 1000 → InA l →
    Calls Try.prog 8 #[.slice a n c] w fun e w' => ∃ p, e = .returned (.tuple #[.pointer p, .int .i64 (loadE l)]) ∧ Below w.heap.size w w' ∧ (loadE l ≠ 0 → p = none) ∧ (loadE l = 0 → ∃ Q F R, p = some ⟨Q, 0, none⟩ ∧ PQ w' Q F R (loadL l) ∧ ∀ k, F k → w.heap.size ≤ k)
  open_ : ∀ {Q F R l} (o : Int) (w : World), PQ w Q F R l → Good l → l.length ≤ 1000 → I64 o →
    Calls Try.prog 20 #[ptr Q, .int .i64 o] w fun e w' => e = .returned (.int .i64 (openE l o)) ∧ ∃ F' R', PQ w' Q F' R' (openL l o) ∧ StepF w w' F F'
  money : ∀ {Q F R l} (o : Int) (w : World), PQ w Q F R l → Good l → l.length ≤ 1000 → I64 o →
    Calls Try.prog 22 #[ptr Q, .int .i64 o] w fun e w' => e = .returned (.tuple #[.int .i64 (monV l o), .int .i64 (monE l o)]) ∧ ∃ F' R', PQ w' Q F' R' l ∧ StepF w w' F F'
  give : ∀ {Q F R l} (o n : Int) (w : World), PQ w Q F R l → Good l → l.length ≤ 1000 → I64 o → I64 n →
    Calls Try.prog 21 #[ptr Q, .int .i64 o, .int .i64 n] w fun e w' => e = .returned (.int .i64 (giveE l o n)) ∧ ∃ F' R', PQ w' Q F' R' (giveL l o n) ∧ StepF w w' F F'
  take : ∀ {Q F R l} (o n : Int) (w : World), PQ w Q F R l → Good l → l.length ≤ 1000 → I64 o → I64 n →
    Calls Try.prog 33 #[ptr Q, .int .i64 o, .int .i64 n] w fun e w' => e = .returned (.int .i64 (takeE l o n)) ∧ ∃ F' R', PQ w' Q F' R' (takeL l o n) ∧ StepF w w' F F'
  move : ∀ {Q F R l} (f t n : Int) (w : World), PQ w Q F R l → Good l → l.length ≤ 1000 → I64 f → I64 t → I64 n →
    Calls Try.prog 19 #[ptr Q, .int .i64 f, .int .i64 t, .int .i64 n] w fun e w' => e = .returned (.int .i64 (moveE l f t n)) ∧ ∃ F' R', PQ w' Q F' R' (moveL l f t n) ∧ StepF w w' F F'
  moves : ∀ {Q F R l} (b : Option Addr) (m d : Nat) (ps : List Pay) (w : World), PQ w Q F R l → Good l → l.length ≤ 1000 → Pays w b ps → ps.length = m → m ≤ 1000 → InP ps → (∀ ad, b = some ad → 0 < m → ¬ F ad.block) →
    Calls Try.prog 16 #[ptr Q, .slice b m d] w fun e w' => e = .returned (.tuple #[.int .i64 (movesN l ps : Nat), .int .i64 (movesE l ps)]) ∧ ∃ F' R', PQ w' Q F' R' (movesL l ps) ∧ StepF w w' F F'
  total : ∀ {Q F R l} (w : World), PQ w Q F R l → Good l → l.length ≤ 1000 →
    Calls Try.prog 14 #[ptr Q] w fun e w' => e = .returned (.int .i64 (tot l)) ∧ ∃ F' R', PQ w' Q F' R' l ∧ StepF w w' F F'
  list : ∀ {Q F R l} (w : World), PQ w Q F R l → Good l → l.length ≤ 1000 →
    Calls Try.prog 13 #[ptr Q] w fun e w' => ∃ a n c, e = .returned (.slice a n c) ∧ ∃ F' R', PQ w' Q F' R' l ∧ StepF w w' F F' ∧ OwnA w' w.heap.size (.slice a n c) l ∧ ∀ k, (Value.slice a n c).ownBlock = some k → ¬ F' k
  clone : ∀ {Q F R l} (w : World), PQ w Q F R l → Good l → l.length ≤ 1000 →
    Calls Try.prog 18 #[ptr Q] w fun e w' => ∃ Q2, e = .returned (ptr Q2) ∧ ∃ F2 R2 F' R', PQ w' Q F' R' l ∧ StepF w w' F F' ∧ PQ w' Q2 F2 R2 l ∧ (∀ k, F2 k → w.heap.size ≤ k) ∧ ∀ k, F2 k ∨ R2 k → ¬ F' k
  n_open : ∀ (o : Int) (w : World), Calls Try.prog 20 #[.pointer none, .int .i64 o] w fun e w' => e = .returned (.int .i64 1) ∧ Below w.heap.size w w'
  n_money : ∀ (o : Int) (w : World), Calls Try.prog 22 #[.pointer none, .int .i64 o] w fun e w' => e = .returned (.tuple #[.int .i64 0, .int .i64 1]) ∧ Below w.heap.size w w'
  n_give : ∀ (o n : Int) (w : World), Calls Try.prog 21 #[.pointer none, .int .i64 o, .int .i64 n] w fun e w' => e = .returned (.int .i64 1) ∧ Below w.heap.size w w'
  n_take : ∀ (o n : Int) (w : World), Calls Try.prog 33 #[.pointer none, .int .i64 o, .int .i64 n] w fun e w' => e = .returned (.int .i64 1) ∧ Below w.heap.size w w'
  n_move : ∀ (f t n : Int) (w : World), Calls Try.prog 19 #[.pointer none, .int .i64 f, .int .i64 t, .int .i64 n] w fun e w' => e = .returned (.int .i64 1) ∧ Below w.heap.size w w'
  n_moves : ∀ (b : Option Addr) (m d : Nat) (ps : List Pay) (w : World), Pays w b ps → ps.length = m → m ≤ 1000 → Calls Try.prog 16 #[.pointer none, .slice b m d] w fun e w' => e = .returned (.tuple #[.int .i64 0, .int .i64 1]) ∧ Below w.heap.size w w'
  n_total : ∀ (w : World), Calls Try.prog 14 #[.pointer none] w fun e w' => e = .returned (.int .i64 0) ∧ Below w.heap.size w w'
  n_list : ∀ (w : World), Calls Try.prog 13 #[.pointer none] w fun e w' => ∃ a c, e = .returned (.slice a 0 c) ∧ Below w.heap.size w w'
  n_clone : ∀ (w : World), Calls Try.prog 18 #[.pointer none] w fun e w' => ∃ Q, e = .returned (ptr Q) ∧ ∃ F R, PQ w' Q F R [] ∧ Below w.heap.size w w' ∧ ∀ k, F k → w.heap.size ≤ k
variable {I : Impl}
theorem Impl.under {w w' : World} {Q : Nat} {F R : Nat → Prop} {l : List Ac} (h : I.PQ w Q F R l) (hb : Below w.heap.size w w') : I.PQ w' Q F R l := I.keep h hb.size fun k hk => hb.block k (I.lt h k hk)
/-- A clone, and a row beside it. -/
structure Cl where
  q : Nat
  l : List Ac
  v : Value
  r : List Ac
/-- A purse in a call's own memory, beside rows and clones that its calls do not turn. -/
structure PWF (I : Impl) (w W : World) (Q : Nat) (l : List Ac) (rows : List (Value × List Ac)) (cl : List Cl) (F R : Nat → Prop) : Prop where
  pq : I.PQ W Q F R l
  below : Below w.heap.size w W
  new : ∀ k, F k → w.heap.size ≤ k
  row : ∀ r ∈ rows, OwnA W 0 r.1 r.2 ∧ ∀ k, r.1.ownBlock = some k → ¬ F k
  clone : ∀ c ∈ cl, ∃ F2 R2, I.PQ W c.q F2 R2 c.l ∧ OwnA W 0 c.v c.r ∧ (∀ k, F2 k ∨ R2 k ∨ c.v.ownBlock = some k → ¬ F k) ∧ (∀ k, F2 k → w.heap.size ≤ k) ∧ ∀ k, c.v.ownBlock = some k → ¬ F2 k
def PS (I : Impl) (w W : World) (Q : Nat) (l : List Ac) (rows : List (Value × List Ac)) (cl : List Cl) : Prop := ∃ F R, PWF I w W Q l rows cl F R
section
variable {w W : World} {Q : Nat} {l : List Ac} {rows : List (Value × List Ac)} {cl : List Cl}
theorem PS.below (h : PS I w W Q l rows cl) : Below w.heap.size w W := by
  obtain ⟨F, R, h⟩ := h
  exact h.below
theorem PWF.under {F R : Nat → Prop} {W' : World} (h : PWF I w W Q l rows cl F R) (hb : Below W.heap.size W W') : PWF I w W' Q l rows cl F R :=
  ⟨Impl.under h.pq hb, below_then h.below hb, h.new, fun r hr => ⟨own_under (h.row r hr).1 hb, (h.row r hr).2⟩, fun c hc => by
    obtain ⟨F2, R2, h1, h2, h3, h4, h5⟩ := h.clone c hc
    exact ⟨F2, R2, Impl.under h1 hb, own_under h2 hb, h3, h4, h5⟩⟩
theorem PS.under {W' : World} (h : PS I w W Q l rows cl) (hb : Below W.heap.size W W') : PS I w W' Q l rows cl := by
  obtain ⟨F, R, h⟩ := h
  exact ⟨F, R, h.under hb⟩
theorem PWF.step {F R F' R' : Nat → Prop} {W' : World} {l' : List Ac} (h : PWF I w W Q l rows cl F R) (h1 : I.PQ W' Q F' R' l') (s : StepF W W' F F') : PWF I w W' Q l' rows cl F' R' := by
  obtain ⟨b1, b2⟩ := StepF.fresh h.below s h.new
  have hF : ∀ k, k < W.heap.size → ¬ F k → ¬ F' k := fun k hk hn hf => by
    rcases s.grows k hf with h2 | h2
    · exact hn h2
    · omega
  refine ⟨h1, b1, b2, fun r hr => ?_, fun c hc => ?_⟩
  · obtain ⟨o1, o2⟩ := h.row r hr
    exact ⟨own_same o1 fun k hk => s.block k (o1.lt k hk).2 (o2 k hk), fun k hk => hF k (o1.lt k hk).2 (o2 k hk)⟩
  · obtain ⟨F2, R2, g1, g2, g3, g4, g5⟩ := h.clone c hc
    refine ⟨F2, R2, I.keep g1 s.size fun k hk => s.block k (I.lt g1 k hk) (g3 k (hk.elim .inl fun e => .inr (.inl e))), own_same g2 fun k hk => s.block k (g2.lt k hk).2 (g3 k (.inr (.inr hk))), fun k hk => ?_, g4, g5⟩
    have hlt : k < W.heap.size := by
      rcases hk with h2 | h2 | h2
      · exact I.lt g1 k (.inl h2)
      · exact I.lt g1 k (.inr h2)
      · exact (g2.lt k h2).2
    exact hF k hlt (g3 k hk)
/-- A row that is what one of the rows was, or new. -/
theorem PS.res {W' : World} {v v' : Value} {lx lx' : List Ac} (h : PS I w W Q l ((v, lx) :: rows) cl) (hr : Res W W' v v' lx') : PS I w W' Q l ((v', lx') :: rows) cl := by
  obtain ⟨F, R, h⟩ := h
  have h2 := h.under hr.below
  refine ⟨F, R, h2.pq, h2.below, h2.new, fun r hm => ?_, h2.clone⟩
  rcases List.mem_cons.1 hm with rfl | hm
  · refine ⟨hr.own, fun k hk => ?_⟩
    rcases hr.was k hk with h3 | h3
    · exact (h.row (v, lx) (by simp)).2 k h3
    · intro hf
      have := I.lt h.pq k (.inl hf)
      omega
  · exact h2.row r (by simp [hm])
theorem PS.rest {r : Value × List Ac} (h : PS I w W Q l (r :: rows) cl) : PS I w W Q l rows cl := by
  obtain ⟨F, R, h⟩ := h
  exact ⟨F, R, h.pq, h.below, h.new, fun x hx => h.row x (by simp [hx]), h.clone⟩
theorem PS.own {v : Value} {lx : List Ac} (h : PS I w W Q l rows cl) (hm : (v, lx) ∈ rows) : OwnA W 0 v lx := by
  obtain ⟨F, R, h⟩ := h
  exact (h.row _ hm).1
theorem ps_open (o : Int) (h : PS I w W Q l rows cl) (hg : Good l) (hl : l.length ≤ 1000) (ho : I64 o) : Calls Try.prog 20 #[ptr Q, .int .i64 o] W fun e w' => e = .returned (.int .i64 (openE l o)) ∧ Hid (PS I w w' Q (openL l o) rows cl) := by
  obtain ⟨F, R, h⟩ := h
  exact (I.open_ o W h.pq hg hl ho).mono fun _ _ ⟨e, F', R', h1, s⟩ => ⟨e, Lib.hid ⟨F', R', h.step h1 s⟩⟩
theorem ps_money (o : Int) (h : PS I w W Q l rows cl) (hg : Good l) (hl : l.length ≤ 1000) (ho : I64 o) : Calls Try.prog 22 #[ptr Q, .int .i64 o] W fun e w' => e = .returned (.tuple #[.int .i64 (monV l o), .int .i64 (monE l o)]) ∧ Hid (PS I w w' Q l rows cl) := by
  obtain ⟨F, R, h⟩ := h
  exact (I.money o W h.pq hg hl ho).mono fun _ _ ⟨e, F', R', h1, s⟩ => ⟨e, Lib.hid ⟨F', R', h.step h1 s⟩⟩
theorem ps_give (o n : Int) (h : PS I w W Q l rows cl) (hg : Good l) (hl : l.length ≤ 1000) (ho : I64 o) (hn : I64 n) : Calls Try.prog 21 #[ptr Q, .int .i64 o, .int .i64 n] W fun e w' => e = .returned (.int .i64 (giveE l o n)) ∧ Hid (PS I w w' Q (giveL l o n) rows cl) := by
  obtain ⟨F, R, h⟩ := h
  exact (I.give o n W h.pq hg hl ho hn).mono fun _ _ ⟨e, F', R', h1, s⟩ => ⟨e, Lib.hid ⟨F', R', h.step h1 s⟩⟩
theorem ps_take (o n : Int) (h : PS I w W Q l rows cl) (hg : Good l) (hl : l.length ≤ 1000) (ho : I64 o) (hn : I64 n) : Calls Try.prog 33 #[ptr Q, .int .i64 o, .int .i64 n] W fun e w' => e = .returned (.int .i64 (takeE l o n)) ∧ Hid (PS I w w' Q (takeL l o n) rows cl) := by
  obtain ⟨F, R, h⟩ := h
  exact (I.take o n W h.pq hg hl ho hn).mono fun _ _ ⟨e, F', R', h1, s⟩ => ⟨e, Lib.hid ⟨F', R', h.step h1 s⟩⟩
theorem ps_move (f t n : Int) (h : PS I w W Q l rows cl) (hg : Good l) (hl : l.length ≤ 1000) (hf : I64 f) (ht : I64 t) (hn : I64 n) : Calls Try.prog 19 #[ptr Q, .int .i64 f, .int .i64 t, .int .i64 n] W fun e w' => e = .returned (.int .i64 (moveE l f t n)) ∧ Hid (PS I w w' Q (moveL l f t n) rows cl) := by
  obtain ⟨F, R, h⟩ := h
  exact (I.move f t n W h.pq hg hl hf ht hn).mono fun _ _ ⟨e, F', R', h1, s⟩ => ⟨e, Lib.hid ⟨F', R', h.step h1 s⟩⟩
theorem ps_moves (b : Option Addr) (m d : Nat) (ps : List Pay) (h : PS I w W Q l rows cl) (hg : Good l) (hl : l.length ≤ 1000) (hp : Pays w b ps) (hm : ps.length = m) (hm2 : m ≤ 1000) (hi : InP ps) :
    Calls Try.prog 16 #[ptr Q, .slice b m d] W fun e w' => e = .returned (.tuple #[.int .i64 (movesN l ps : Nat), .int .i64 (movesE l ps)]) ∧ Hid (PS I w w' Q (movesL l ps) rows cl) := by
  obtain ⟨F, R, h⟩ := h
  have hno : ∀ ad, b = some ad → 0 < m → ¬ F ad.block := fun ad e h0 hf => by
    have h1 := h.new _ hf
    obtain ⟨g, off, e2, hg2, _⟩ := hp 0 ps[0] (List.getElem?_eq_getElem (by omega))
    rw [e] at e2
    cases e2
    simp only at h1
    omega
  exact (I.moves b m d ps W h.pq hg hl (hp.under h.below) hm hm2 hi hno).mono fun _ _ ⟨e, F', R', h1, s⟩ => ⟨e, Lib.hid ⟨F', R', h.step h1 s⟩⟩
theorem ps_total (h : PS I w W Q l rows cl) (hg : Good l) (hl : l.length ≤ 1000) : Calls Try.prog 14 #[ptr Q] W fun e w' => e = .returned (.int .i64 (tot l)) ∧ Hid (PS I w w' Q l rows cl) := by
  obtain ⟨F, R, h⟩ := h
  exact (I.total W h.pq hg hl).mono fun _ _ ⟨e, F', R', h1, s⟩ => ⟨e, Lib.hid ⟨F', R', h.step h1 s⟩⟩
theorem ps_list (h : PS I w W Q l rows cl) (hg : Good l) (hl : l.length ≤ 1000) : Calls Try.prog 13 #[ptr Q] W fun e w' => ∃ a n c, e = .returned (.slice a n c) ∧ Hid (PS I w w' Q l ((.slice a n c, l) :: rows) cl ∧ OwnA w' 0 (.slice a n c) l) := by
  obtain ⟨F, R, h⟩ := h
  refine (I.list W h.pq hg hl).mono ?_
  rintro e w' ⟨a, n, c, rfl, F', R', h1, s, o1, o2⟩
  have h2 := h.step h1 s
  have o3 := World.ownsRow.mono o1 (Nat.zero_le _)
  refine ⟨a, n, c, rfl, Lib.hid ⟨⟨F', R', h2.pq, h2.below, h2.new, fun r hr => ?_, h2.clone⟩, o3⟩⟩
  rcases List.mem_cons.1 hr with rfl | hr
  · exact ⟨o3, o2⟩
  · exact h2.row r hr
end
open Classical in
/-- Two rows of the same accounts. -/
theorem same_at {W : World} {l : List Ac} {a b : Option Addr} {n c m d : Nat} (h1 : OwnA W 0 (.slice a n c) l) (h2 : OwnA W 0 (.slice b m d) l) (hl : l.length ≤ 1000) : Calls Try.prog 12 #[.slice a n c, .slice b m d] W fun e w' => e = .returned (.bool true) ∧ Hid (Below W.heap.size W w') := by
  obtain ⟨e1, _, _, _, s1⟩ := own_form h1
  obtain ⟨e2, _, _, _, s2⟩ := own_form h2
  have := dsame a n c l b m d l W e1 s1 (by omega) e2 s2 (by omega)
  rw [decide_eq_true rfl] at this
  exact this.mono fun _ _ ⟨e, h⟩ => ⟨e, Lib.hid h⟩
end Go.Proofs.Yteglahogimdnfaa.Purse
