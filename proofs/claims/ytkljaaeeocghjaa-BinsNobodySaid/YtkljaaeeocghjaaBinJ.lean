/- The cells of the program's zero bins: two nil lists; to be written anew for another struct. What the laws ask of the program's bins, said once: an implementation; bins beside rows and a clone. -/
import Derived.Test.YtkljaaeeocghjaaRows
import Derived.Test.YtkljaaeeocghjaaBinI
import Derived.Test.YtkljaaeeocghjaaStep
namespace Go.Proofs.Ytkljaaeeocghjaa.Bins

abbrev zeroBins : Array Value := #[.slice none 0 0, .slice none 0 0]
end Go.Proofs.Ytkljaaeeocghjaa.Bins
namespace Go.Proofs.Ytkljaaeeocghjaa.Bins
open Go.RowKit Go.Lib
open Goods (St Sts OwnS)

abbrev ptr (q : Nat) : Value := .pointer (some ⟨q, 0, none⟩)
def I64 (x : Int) : Prop := -9223372036854775808 ≤ x ∧ x ≤ 9223372036854775807
def InB (x : Bn) : Prop := I64 x.o ∧ I64 x.d ∧ I64 x.p ∧ I64 x.t
def InL (l : List Lt) : Prop := ∀ a ∈ l, InB a.b ∧ I64 a.q
def InS (s : List St) : Prop := ∀ t ∈ s, I64 t.kind ∧ I64 t.qty
/-- Bins of the program's: what they are, and what their calls do: F is what a call may turn, R what it reads. -/
structure Impl where
  PQ : World → Nat → (Nat → Prop) → (Nat → Prop) → List Lt → Prop
  lt : ∀ {w Q F R l}, PQ w Q F R l → ∀ k, F k ∨ R k → k < w.heap.size
  keep : ∀ {w w' : World} {Q F R l}, PQ w Q F R l → w.heap.size ≤ w'.heap.size → (∀ k, F k ∨ R k → w'.heap[k]? = w.heap[k]?) → PQ w' Q F R l
  zero : ∀ w : World, PQ (w.alloc (.cells zeroBins 64)) w.heap.size (fun k => k = w.heap.size) (fun k => k = w.heap.size) []
  load : ∀ (a : Option Addr) (n c : Nat) (l : List Lt) (w : World), Lots w a l → l.length = n → n ≤ 1000 → InL l →
    Calls Try.prog 9 #[.slice a n c] w fun e w' => ∃ p, e = .returned (.tuple #[.pointer p, .int .i64 (loadE l)]) ∧ Below w.heap.size w w' ∧ (loadE l ≠ 0 → p = none) ∧ (loadE l = 0 → ∃ Q F R, p = some ⟨Q, 0, none⟩ ∧ PQ w' Q F R (loadL l) ∧ ∀ k, F k → w.heap.size ≤ k)
  qty : ∀ {Q F R l} (x : Bn) (w : World), PQ w Q F R l → Good l → l.length ≤ 1000 → InB x →
    Calls Try.prog 15 #[ptr Q, bV x] w fun e w' => e = .returned (.int .i64 (Bins.qty l x)) ∧ ∃ F' R', PQ w' Q F' R' l ∧ StepF w w' F F'
  put : ∀ {Q F R l} (x : Bn) (n : Int) (w : World), PQ w Q F R l → Good l → l.length ≤ 1000 → InB x → I64 n →
    Calls Try.prog 25 #[ptr Q, bV x, .int .i64 n] w fun e w' => e = .returned (.int .i64 (putE l x n)) ∧ ∃ F' R', PQ w' Q F' R' (putL l x n) ∧ StepF w w' F F'
  take : ∀ {Q F R l} (x : Bn) (n : Int) (w : World), PQ w Q F R l → Good l → l.length ≤ 1000 → InB x → I64 n →
    Calls Try.prog 24 #[ptr Q, bV x, .int .i64 n] w fun e w' => e = .returned (.int .i64 (takeE l x n)) ∧ ∃ F' R', PQ w' Q F' R' (takeL l x n) ∧ StepF w w' F F'
  move : ∀ {Q F R l} (x y : Bn) (n : Int) (w : World), PQ w Q F R l → Good l → l.length ≤ 1000 → InB x → InB y → I64 n →
    Calls Try.prog 37 #[ptr Q, bV x, bV y, .int .i64 n] w fun e w' => e = .returned (.int .i64 (moveE l x y n)) ∧ ∃ F' R', PQ w' Q F' R' (moveL l x y n) ∧ StepF w w' F F'
  puts : ∀ {Q F R l} (x : Bn) (b : Option Addr) (m d : Nat) (s : List St) (w : World), PQ w Q F R l → Good l → l.length ≤ 900 → InB x → Sts w b s → s.length = m → m ≤ 100 → InS s → (∀ ad, b = some ad → 0 < m → ¬ F ad.block) →
    Calls Try.prog 23 #[ptr Q, bV x, .slice b m d] w fun e w' => e = .returned (.int .i64 (putsE l x s)) ∧ ∃ F' R', PQ w' Q F' R' (putsL l x s) ∧ StepF w w' F F'
  takes : ∀ {Q F R l} (x : Bn) (b : Option Addr) (m d : Nat) (s : List St) (w : World), PQ w Q F R l → Good l → l.length ≤ 900 → InB x → Sts w b s → s.length = m → m ≤ 100 → InS s → (∀ ad, b = some ad → 0 < m → ¬ F ad.block) →
    Calls Try.prog 38 #[ptr Q, bV x, .slice b m d] w fun e w' => e = .returned (.int .i64 (takesE l x s)) ∧ ∃ F' R', PQ w' Q F' R' (takesL l x s) ∧ StepF w w' F F'
  of_ : ∀ {Q F R l} (x : Bn) (w : World), PQ w Q F R l → Good l → l.length ≤ 1000 → InB x →
    Calls Try.prog 20 #[ptr Q, bV x] w fun e w' => ∃ a n c, e = .returned (.slice a n c) ∧ ∃ F' R', PQ w' Q F' R' l ∧ StepF w w' F F' ∧ OwnS w' w.heap.size (.slice a n c) (ofL l x)
  total : ∀ {Q F R l} (k : Int) (w : World), PQ w Q F R l → Good l → l.length ≤ 1000 → I64 k →
    Calls Try.prog 17 #[ptr Q, .int .i64 k] w fun e w' => e = .returned (.int .i64 (Bins.tot l k)) ∧ ∃ F' R', PQ w' Q F' R' l ∧ StepF w w' F F'
  list : ∀ {Q F R l} (w : World), PQ w Q F R l → Good l → l.length ≤ 1000 →
    Calls Try.prog 14 #[ptr Q] w fun e w' => ∃ a n c, e = .returned (.slice a n c) ∧ ∃ F' R', PQ w' Q F' R' l ∧ StepF w w' F F' ∧ OwnL w' w.heap.size (.slice a n c) l ∧ ∀ k, (Value.slice a n c).ownBlock = some k → ¬ F' k
  clone : ∀ {Q F R l} (w : World), PQ w Q F R l → Good l → l.length ≤ 1000 →
    Calls Try.prog 22 #[ptr Q] w fun e w' => ∃ Q2, e = .returned (ptr Q2) ∧ ∃ F2 R2 F' R', PQ w' Q F' R' l ∧ StepF w w' F F' ∧ PQ w' Q2 F2 R2 l ∧ (∀ k, F2 k → w.heap.size ≤ k) ∧ ∀ k, F2 k ∨ R2 k → ¬ F' k
  n_qty : ∀ (x : Bn) (w : World), Calls Try.prog 15 #[.pointer none, bV x] w fun e w' => e = .returned (.int .i64 0) ∧ Below w.heap.size w w'
  n_put : ∀ (x : Bn) (n : Int) (w : World), Calls Try.prog 25 #[.pointer none, bV x, .int .i64 n] w fun e w' => e = .returned (.int .i64 1) ∧ Below w.heap.size w w'
  n_take : ∀ (x : Bn) (n : Int) (w : World), Calls Try.prog 24 #[.pointer none, bV x, .int .i64 n] w fun e w' => e = .returned (.int .i64 1) ∧ Below w.heap.size w w'
  n_move : ∀ (x y : Bn) (n : Int) (w : World), Calls Try.prog 37 #[.pointer none, bV x, bV y, .int .i64 n] w fun e w' => e = .returned (.int .i64 1) ∧ Below w.heap.size w w'
  n_puts : ∀ (x : Bn) (b : Option Addr) (m d : Nat) (s : List St) (w : World), Sts w b s → s.length = m → m ≤ 100 → InS s → Calls Try.prog 23 #[.pointer none, bV x, .slice b m d] w fun e w' => e = .returned (.int .i64 1) ∧ Below w.heap.size w w'
  n_takes : ∀ (x : Bn) (b : Option Addr) (m d : Nat) (s : List St) (w : World), Sts w b s → s.length = m → m ≤ 100 → InS s → Calls Try.prog 38 #[.pointer none, bV x, .slice b m d] w fun e w' => e = .returned (.int .i64 1) ∧ Below w.heap.size w w'
  n_total : ∀ (k : Int) (w : World), Calls Try.prog 17 #[.pointer none, .int .i64 k] w fun e w' => e = .returned (.int .i64 0) ∧ Below w.heap.size w w'
  n_list : ∀ (w : World), Calls Try.prog 14 #[.pointer none] w fun e w' => ∃ a c, e = .returned (.slice a 0 c) ∧ Below w.heap.size w w'
  n_of : ∀ (x : Bn) (w : World), Calls Try.prog 20 #[.pointer none, bV x] w fun e w' => ∃ a c, e = .returned (.slice a 0 c) ∧ Below w.heap.size w w'
  n_clone : ∀ (w : World), Calls Try.prog 22 #[.pointer none] w fun e w' => ∃ Q, e = .returned (ptr Q) ∧ ∃ F R, PQ w' Q F R [] ∧ Below w.heap.size w w' ∧ ∀ k, F k → w.heap.size ≤ k
variable {I : Impl}
theorem Impl.under {w w' : World} {Q : Nat} {F R : Nat → Prop} {l : List Lt} (h : I.PQ w Q F R l) (hb : Below w.heap.size w w') : I.PQ w' Q F R l := I.keep h hb.size fun k hk => hb.block k (I.lt h k hk)
/-- A clone, and a row beside it. -/
structure Cl where
  q : Nat
  l : List Lt
  v : Value
  r : List Lt
/-- Bins in a call's own memory, beside rows, clones and blocks that their calls do not turn. -/
structure PWF (I : Impl) (w W : World) (Q : Nat) (l : List Lt) (rows : List (Value × List Lt)) (cl : List Cl) (K : List (Nat × Obj)) (F R : Nat → Prop) : Prop where
  pq : I.PQ W Q F R l
  below : Below w.heap.size w W
  new : ∀ k, F k → w.heap.size ≤ k
  row : ∀ r ∈ rows, OwnL W 0 r.1 r.2 ∧ ∀ k, r.1.ownBlock = some k → ¬ F k
  clone : ∀ c ∈ cl, ∃ F2 R2, I.PQ W c.q F2 R2 c.l ∧ OwnL W 0 c.v c.r ∧ (∀ k, F2 k ∨ R2 k ∨ c.v.ownBlock = some k → ¬ F k) ∧ (∀ k, F2 k → w.heap.size ≤ k) ∧ ∀ k, c.v.ownBlock = some k → ¬ F2 k
  kept : ∀ b ∈ K, ¬ F b.1 ∧ W.heap[b.1]? = some b.2
def PS (I : Impl) (w W : World) (Q : Nat) (l : List Lt) (rows : List (Value × List Lt)) (cl : List Cl) (K : List (Nat × Obj)) : Prop := ∃ F R, PWF I w W Q l rows cl K F R
section
variable {w W : World} {Q : Nat} {l : List Lt} {rows : List (Value × List Lt)} {cl : List Cl} {K : List (Nat × Obj)}
theorem PS.below (h : PS I w W Q l rows cl K) : Below w.heap.size w W := by
  obtain ⟨F, R, h⟩ := h
  exact h.below
theorem PWF.under {F R : Nat → Prop} {W' : World} (h : PWF I w W Q l rows cl K F R) (hb : Below W.heap.size W W') : PWF I w W' Q l rows cl K F R :=
  ⟨Impl.under h.pq hb, below_then h.below hb, h.new, fun r hr => ⟨own_under (h.row r hr).1 hb, (h.row r hr).2⟩, fun c hc => by
    obtain ⟨F2, R2, h1, h2, h3, h4, h5⟩ := h.clone c hc
    exact ⟨F2, R2, Impl.under h1 hb, own_under h2 hb, h3, h4, h5⟩, fun b hm => ⟨(h.kept b hm).1, (hb.block b.1 (Array.getElem?_eq_some_iff.1 (h.kept b hm).2).1).trans (h.kept b hm).2⟩⟩
theorem PS.under {W' : World} (h : PS I w W Q l rows cl K) (hb : Below W.heap.size W W') : PS I w W' Q l rows cl K := by
  obtain ⟨F, R, h⟩ := h
  exact ⟨F, R, h.under hb⟩
theorem PWF.step {F R F' R' : Nat → Prop} {W' : World} {l' : List Lt} (h : PWF I w W Q l rows cl K F R) (h1 : I.PQ W' Q F' R' l') (s : StepF W W' F F') : PWF I w W' Q l' rows cl K F' R' := by
  obtain ⟨b1, b2⟩ := StepF.fresh h.below s h.new
  have hF : ∀ k, k < W.heap.size → ¬ F k → ¬ F' k := fun k hk hn hf => by
    rcases s.grows k hf with h2 | h2
    · exact hn h2
    · omega
  refine ⟨h1, b1, b2, fun r hr => ?_, fun c hc => ?_, fun b hm => ⟨hF _ (Array.getElem?_eq_some_iff.1 (h.kept b hm).2).1 (h.kept b hm).1, (s.block b.1 (Array.getElem?_eq_some_iff.1 (h.kept b hm).2).1 (h.kept b hm).1).trans (h.kept b hm).2⟩⟩
  · obtain ⟨o1, o2⟩ := h.row r hr
    exact ⟨own_same o1 fun k hk => s.block k (o1.lt k hk).2 (o2 k hk), fun k hk => hF k (o1.lt k hk).2 (o2 k hk)⟩
  · obtain ⟨F2, R2, g1, g2, g3, g4, g5⟩ := h.clone c hc
    refine ⟨F2, R2, I.keep g1 s.size fun k hk => s.block k (I.lt g1 k hk) (g3 k (hk.elim .inl fun e => .inr (.inl e))), own_same g2 fun k hk => s.block k (g2.lt k hk).2 (g3 k (.inr (.inr hk))), fun k hk => ?_, g4, g5⟩
    have hlt : k < W.heap.size := by
      rcases hk with h2 | h2 | h2
      · exact I.lt g1 k (.inl h2)
      · exact I.lt g1 k (.inr h2)
      · exact (g2.lt k h2).2
    exact hF k hlt (g3 k hk)
/-- A row that is what one of the rows was, or new. -/
theorem PS.res {W' : World} {v v' : Value} {lx lx' : List Lt} (h : PS I w W Q l ((v, lx) :: rows) cl K) (hr : Res W W' v v' lx') : PS I w W' Q l ((v', lx') :: rows) cl K := by
  obtain ⟨F, R, h⟩ := h
  have h2 := h.under hr.below
  refine ⟨F, R, h2.pq, h2.below, h2.new, fun r hm => ?_, h2.clone, h2.kept⟩
  rcases List.mem_cons.1 hm with rfl | hm
  · refine ⟨hr.own, fun k hk => ?_⟩
    rcases hr.was k hk with h3 | h3
    · exact (h.row (v, lx) (by simp)).2 k h3
    · intro hf
      have := I.lt h.pq k (.inl hf)
      omega
  · exact h2.row r (by simp [hm])
theorem PS.rest {r : Value × List Lt} (h : PS I w W Q l (r :: rows) cl K) : PS I w W Q l rows cl K := by
  obtain ⟨F, R, h⟩ := h
  exact ⟨F, R, h.pq, h.below, h.new, fun x hx => h.row x (by simp [hx]), h.clone, h.kept⟩
theorem PS.own {v : Value} {lx : List Lt} (h : PS I w W Q l rows cl K) (hm : (v, lx) ∈ rows) : OwnL W 0 v lx := by
  obtain ⟨F, R, h⟩ := h
  exact (h.row _ hm).1
theorem bs_qty (x : Bn) (h : PS I w W Q l rows cl K) (hg : Good l) (hl : l.length ≤ 1000) (hx : InB x) : Calls Try.prog 15 #[ptr Q, bV x] W fun e w' => e = .returned (.int .i64 (Bins.qty l x)) ∧ Hid (PS I w w' Q l rows cl K) := by
  obtain ⟨F, R, h⟩ := h
  exact (I.qty x W h.pq hg hl hx).mono fun _ _ ⟨e, F', R', h1, s⟩ => ⟨e, Lib.hid ⟨F', R', h.step h1 s⟩⟩
theorem bs_put (x : Bn) (n : Int) (h : PS I w W Q l rows cl K) (hg : Good l) (hl : l.length ≤ 1000) (hx : InB x) (hn : I64 n) : Calls Try.prog 25 #[ptr Q, bV x, .int .i64 n] W fun e w' => e = .returned (.int .i64 (putE l x n)) ∧ Hid (PS I w w' Q (putL l x n) rows cl K) := by
  obtain ⟨F, R, h⟩ := h
  exact (I.put x n W h.pq hg hl hx hn).mono fun _ _ ⟨e, F', R', h1, s⟩ => ⟨e, Lib.hid ⟨F', R', h.step h1 s⟩⟩
theorem bs_take (x : Bn) (n : Int) (h : PS I w W Q l rows cl K) (hg : Good l) (hl : l.length ≤ 1000) (hx : InB x) (hn : I64 n) : Calls Try.prog 24 #[ptr Q, bV x, .int .i64 n] W fun e w' => e = .returned (.int .i64 (takeE l x n)) ∧ Hid (PS I w w' Q (takeL l x n) rows cl K) := by
  obtain ⟨F, R, h⟩ := h
  exact (I.take x n W h.pq hg hl hx hn).mono fun _ _ ⟨e, F', R', h1, s⟩ => ⟨e, Lib.hid ⟨F', R', h.step h1 s⟩⟩
theorem bs_move (x y : Bn) (n : Int) (h : PS I w W Q l rows cl K) (hg : Good l) (hl : l.length ≤ 1000) (hx : InB x) (hy : InB y) (hn : I64 n) : Calls Try.prog 37 #[ptr Q, bV x, bV y, .int .i64 n] W fun e w' => e = .returned (.int .i64 (moveE l x y n)) ∧ Hid (PS I w w' Q (moveL l x y n) rows cl K) := by
  obtain ⟨F, R, h⟩ := h
  exact (I.move x y n W h.pq hg hl hx hy hn).mono fun _ _ ⟨e, F', R', h1, s⟩ => ⟨e, Lib.hid ⟨F', R', h.step h1 s⟩⟩
theorem sts_far {w : World} {F : Nat → Prop} {b : Option Addr} {m : Nat} {s : List St} (hs : Sts w b s) (hm : s.length = m) (hF : ∀ k, F k → w.heap.size ≤ k) : ∀ ad, b = some ad → 0 < m → ¬ F ad.block := fun ad e h0 hf => by
  have h1 := hF _ hf
  obtain ⟨g, off, e2, hg2, _⟩ := hs 0 s[0] (List.getElem?_eq_getElem (by omega))
  rw [e] at e2
  cases e2
  simp only at h1
  omega
theorem bs_puts (x : Bn) (b : Option Addr) (m d : Nat) (s : List St) (h : PS I w W Q l rows cl K) (hg : Good l) (hl : l.length ≤ 900) (hx : InB x) (hs : Sts w b s) (hm : s.length = m) (hm2 : m ≤ 100) (hi : InS s) :
    Calls Try.prog 23 #[ptr Q, bV x, .slice b m d] W fun e w' => e = .returned (.int .i64 (putsE l x s)) ∧ Hid (PS I w w' Q (putsL l x s) rows cl K) := by
  obtain ⟨F, R, h⟩ := h
  exact (I.puts x b m d s W h.pq hg hl hx (hs.under h.below) hm hm2 hi (sts_far hs hm h.new)).mono fun _ _ ⟨e, F', R', h1, s⟩ => ⟨e, Lib.hid ⟨F', R', h.step h1 s⟩⟩
theorem bs_takes (x : Bn) (b : Option Addr) (m d : Nat) (s : List St) (h : PS I w W Q l rows cl K) (hg : Good l) (hl : l.length ≤ 900) (hx : InB x) (hs : Sts w b s) (hm : s.length = m) (hm2 : m ≤ 100) (hi : InS s) :
    Calls Try.prog 38 #[ptr Q, bV x, .slice b m d] W fun e w' => e = .returned (.int .i64 (takesE l x s)) ∧ Hid (PS I w w' Q (takesL l x s) rows cl K) := by
  obtain ⟨F, R, h⟩ := h
  exact (I.takes x b m d s W h.pq hg hl hx (hs.under h.below) hm hm2 hi (sts_far hs hm h.new)).mono fun _ _ ⟨e, F', R', h1, s⟩ => ⟨e, Lib.hid ⟨F', R', h.step h1 s⟩⟩
theorem bs_of (x : Bn) (h : PS I w W Q l rows cl K) (hg : Good l) (hl : l.length ≤ 1000) (hx : InB x) : Calls Try.prog 20 #[ptr Q, bV x] W fun e w' => ∃ a n c, e = .returned (.slice a n c) ∧ Hid (PS I w w' Q l rows cl K ∧ OwnS w' 0 (.slice a n c) (ofL l x)) := by
  obtain ⟨F, R, h⟩ := h
  refine (I.of_ x W h.pq hg hl hx).mono ?_
  rintro e w' ⟨a, n, c, rfl, F', R', h1, s, o1⟩
  exact ⟨a, n, c, rfl, Lib.hid ⟨⟨F', R', h.step h1 s⟩, World.ownsRow.mono o1 (Nat.zero_le _)⟩⟩
theorem bs_total (k : Int) (h : PS I w W Q l rows cl K) (hg : Good l) (hl : l.length ≤ 1000) (hk : I64 k) : Calls Try.prog 17 #[ptr Q, .int .i64 k] W fun e w' => e = .returned (.int .i64 (Bins.tot l k)) ∧ Hid (PS I w w' Q l rows cl K) := by
  obtain ⟨F, R, h⟩ := h
  exact (I.total k W h.pq hg hl hk).mono fun _ _ ⟨e, F', R', h1, s⟩ => ⟨e, Lib.hid ⟨F', R', h.step h1 s⟩⟩
theorem bs_list (h : PS I w W Q l rows cl K) (hg : Good l) (hl : l.length ≤ 1000) : Calls Try.prog 14 #[ptr Q] W fun e w' => ∃ a n c, e = .returned (.slice a n c) ∧ Hid (PS I w w' Q l ((.slice a n c, l) :: rows) cl K ∧ OwnL w' 0 (.slice a n c) l) := by
  obtain ⟨F, R, h⟩ := h
  refine (I.list W h.pq hg hl).mono ?_
  rintro e w' ⟨a, n, c, rfl, F', R', h1, s, o1, o2⟩
  have h2 := h.step h1 s
  have o3 := World.ownsRow.mono o1 (Nat.zero_le _)
  refine ⟨a, n, c, rfl, Lib.hid ⟨⟨F', R', h2.pq, h2.below, h2.new, fun r hr => ?_, h2.clone, h2.kept⟩, o3⟩⟩
  rcases List.mem_cons.1 hr with rfl | hr
  · exact ⟨o3, o2⟩
  · exact h2.row r hr
theorem bs_clone {w W : World} {Q : Nat} {l : List Lt} {rows : List (Value × List Lt)} (h : PS I w W Q l rows [] K) (hg : Good l) (hl : l.length ≤ 1000) :
    Calls Try.prog 22 #[ptr Q] W fun e w' => ∃ Q2, e = .returned (ptr Q2) ∧ Hid (PS I w w' Q l rows [⟨Q2, l, .slice none 0 0, []⟩] K) := by
  obtain ⟨F, R, h⟩ := h
  refine (I.clone W h.pq hg hl).mono ?_
  rintro e w' ⟨Q2, rfl, F2, R2, F', R', h1, s, h2, h3, h4⟩
  have h5 := h.step h1 s
  refine ⟨Q2, rfl, Lib.hid ⟨F', R', h5.pq, h5.below, h5.new, h5.row, fun c hc => ?_, h5.kept⟩⟩
  obtain rfl := List.mem_singleton.1 hc
  refine ⟨F2, R2, h2, World.ownsRow_nil _ _ _ _, fun k hk => ?_, fun k hk => Nat.le_trans h.below.size (h3 k hk), fun k hk => (by simp [Value.ownBlock] at hk)⟩
  rcases hk with h6 | h6 | h6
  · exact h4 k (.inl h6)
  · exact h4 k (.inr h6)
  · simp [Value.ownBlock] at h6
/-- A list that is told beside a clone: neither turns it. -/
theorem bs_list_cl {w W : World} {Q q2 : Nat} {l l2 : List Lt} {rows : List (Value × List Lt)} (h : PS I w W Q l rows [⟨q2, l2, .slice none 0 0, []⟩] K) (hg : Good l) (hl : l.length ≤ 1000) :
    Calls Try.prog 14 #[ptr Q] W fun e w' => ∃ a n c, e = .returned (.slice a n c) ∧ Hid (PS I w w' Q l rows [⟨q2, l2, .slice a n c, l⟩] K) := by
  obtain ⟨F, R, h⟩ := h
  refine (I.list W h.pq hg hl).mono ?_
  rintro e w' ⟨a, n, c, rfl, F', R', h1, s, o1, o2⟩
  have h2 := h.step h1 s
  refine ⟨a, n, c, rfl, Lib.hid ⟨F', R', h2.pq, h2.below, h2.new, h2.row, fun c hc => ?_, h2.kept⟩⟩
  obtain rfl := List.mem_singleton.1 hc
  obtain ⟨F2, R2, g1, _, g3, g4, _⟩ := h.clone ⟨q2, l2, .slice none 0 0, []⟩ (by simp)
  have hF : ∀ k, k < W.heap.size → ¬ F k → ¬ F' k := fun k hk hn hf => by
    rcases s.grows k hf with h2 | h2
    · exact hn h2
    · omega
  refine ⟨F2, R2, I.keep g1 s.size fun k hk => s.block k (I.lt g1 k hk) (g3 k (hk.elim .inl fun e => .inr (.inl e))), World.ownsRow.mono o1 (Nat.zero_le _), fun k hk => ?_, g4, fun k hk hf => ?_⟩
  · rcases hk with h6 | h6 | h6
    · exact hF k (I.lt g1 k (.inl h6)) (g3 k (.inl h6))
    · exact hF k (I.lt g1 k (.inr h6)) (g3 k (.inr (.inl h6)))
    · exact o2 k h6
  · have h6 := (o1.lt k hk).1
    have h7 := I.lt g1 k (.inl hf)
    omega
/-- The clone, beside its row. -/
theorem PS.ofClone {w W : World} {Q : Nat} {l : List Lt} {rows : List (Value × List Lt)} {c : Cl} (h : PS I w W Q l rows [c] K) : PS I w W c.q c.l [(c.v, c.r)] [] [] := by
  obtain ⟨F, R, h⟩ := h
  obtain ⟨F2, R2, h1, h2, h3, h4, h5⟩ := h.clone c (by simp)
  refine ⟨F2, R2, h1, h.below, h4, fun r hr => ?_, fun c hc => (by cases hc), fun b hb => (by cases hb)⟩
  obtain rfl := List.mem_singleton.1 hr
  exact ⟨h2, h5⟩
end
open Classical in
/-- Two rows of the same lots. -/
theorem same_at {W : World} {l : List Lt} {a b : Option Addr} {n c m d : Nat} (h1 : OwnL W 0 (.slice a n c) l) (h2 : OwnL W 0 (.slice b m d) l) (hl : l.length ≤ 1000) : Calls Try.prog 13 #[.slice a n c, .slice b m d] W fun e w' => e = .returned (.bool true) ∧ Hid (Below W.heap.size W w') := by
  obtain ⟨e1, _, _, _, s1⟩ := own_form h1
  obtain ⟨e2, _, _, _, s2⟩ := own_form h2
  have := dsame a n c l b m d l W e1 s1 (by omega) e2 s2 (by omega)
  rw [decide_eq_true rfl] at this
  exact this.mono fun _ _ ⟨e, h⟩ => ⟨e, Lib.hid h⟩
open Classical in
/-- Two rows of the same stacks. -/
theorem stks_at {W : World} {l : List St} {a b : Option Addr} {n c m d : Nat} (h1 : OwnS W 0 (.slice a n c) l) (h2 : OwnS W 0 (.slice b m d) l) (hl : l.length ≤ 1000) : Calls Try.prog 19 #[.slice a n c, .slice b m d] W fun e w' => e = .returned (.bool true) ∧ Hid (Below W.heap.size W w') := by
  obtain ⟨e1, s1⟩ := stk_own h1
  obtain ⟨e2, s2⟩ := stk_own h2
  have := Goods.dsame a n c l b m d l W e1 s1 (by omega) e2 s2 (by omega)
  rw [decide_eq_true rfl] at this
  exact this.mono fun _ _ ⟨e, h⟩ => ⟨e, Lib.hid h⟩
end Go.Proofs.Ytkljaaeeocghjaa.Bins
