/- A range over a function whose own body ranges over another one: what such a function owes, and a caller's law for it. A round that goes on, and one that stops, leaves alone whatever is no cells and lies behind the loop's own record. -/
import Derived.RangeFuncNested
import Derived.RangeFuncCalls
import Derived.Test.YtfebaiefoonncaaCommon
namespace Go.Proofs.Ytfebaiefoonncaa
open Go.RowKit

section
variable {F : Fence} {n : Nat} {P : Program}
/-- What a round that goes on keeps: the blocks that the iterator reads. -/
def Keep (R : Nat → Prop) (W W' : World) : Prop := W.heap.size ≤ W'.heap.size ∧ ∀ k, R k → W'.heap[k]? = W.heap[k]?
theorem Keep.trans {R : Nat → Prop} {A B C : World} (h : Keep R A B) (k : Keep R B C) : Keep R A C := ⟨Nat.le_trans h.1 k.1, fun i hi => (k.2 i hi).trans (h.2 i hi)⟩
theorem keep_below {R : Nat → Prop} {B : Nat} {W W' : World} (hR : ∀ k, R k → k < B) (h : Below B W W') : Keep R W W' := ⟨h.size, fun k hk => h.block k (hR k hk)⟩
theorem keep_put {R : Nat → Prop} {B : Nat} (hR : ∀ k, R k → k < B) (W : World) (l : Nat) (o : Obj) (hl : B ≤ l) : Keep R W (W.putObj l o) :=
  ⟨by simp, fun k hk => World.putObj_heap_other (fun e => by have := hR k hk; omega)⟩
theorem keep_b {R : Nat → Prop} {w : World} (hR : ∀ k, R k → k < w.heap.size) (W : World) (l : Nat) (o o' : Obj) (hl : w.heap.size ≤ l) (_ : W.heap[l]? = some o) (_ : o.isCells = false) (_ : o.isWalk = false) : Keep R W (W.putObj l o') :=
  keep_put hR W l o' hl
/-- What is no cells and lies behind block l lies as it lay. -/
def High (l : Nat) (W W' : World) : Prop := W.heap.size ≤ W'.heap.size ∧ ∀ k o, l < k → W.heap[k]? = some o → o.isCells = false → W'.heap[k]? = some o
theorem High.trans {l : Nat} {A B C : World} (h : High l A B) (k : High l B C) : High l A C := ⟨Nat.le_trans h.1 k.1, fun i o hi h1 h2 => k.2 i o hi (h.2 i o hi h1 h2) h2⟩
theorem high_of {B l : Nat} {W W' : World} (h : KeepsFrom B W W') (hb : B ≤ l + 1) : High l W W' := ⟨h.size, fun k o hk h1 h2 => h.same k o (by omega) h1 h2⟩
theorem high_put (l : Nat) (W : World) (o : Obj) : High l W (W.putObj l o) := ⟨by simp, fun k o' hk h1 _ => (World.putObj_heap_other (by omega)).trans h1⟩
/-- What a round that goes on leaves alone: all cells but those that it may touch; and it may touch no more than it might. -/
structure Leaves (T : World → Nat → Prop) (W W' : World) : Prop where
  size : W.heap.size ≤ W'.heap.size
  kept : ∀ k o, W.heap[k]? = some o → o.isCells = true → ¬ T W k → W'.heap[k]? = some o ∧ ¬ T W' k
theorem Leaves.trans {T : World → Nat → Prop} {A B C : World} (h : Leaves T A B) (k : Leaves T B C) : Leaves T A C :=
  ⟨Nat.le_trans h.size k.size, fun i o hi ho ht => by obtain ⟨h1, h2⟩ := h.kept i o hi ho ht; exact k.kept i o h1 ho h2⟩
/-- New blocks, and a turn of what is no cells: T says no more than it did. -/
theorem leaves_grown {T : World → Nat → Prop} {A B : World} {row : Option Nat} (hg : A.grownBy B row) (hr : ∀ r, row = some r → ∃ o : Obj, A.heap[r]? = some o ∧ o.isCells = false) (hT : ∀ k, T B k → T A k) : Leaves T A B :=
  ⟨hg.size, fun k o hk hc ht => ⟨(hg.block k (Array.getElem?_eq_some_iff.1 hk).1 (fun e => by
    obtain ⟨o2, h1, h2⟩ := hr k e.symm
    rw [hk] at h1
    cases h1
    rw [hc] at h2
    cases h2)).trans hk, fun h => ht (hT k h)⟩⟩
/-- What T says hangs on cells that lay there. -/
def Steady (l : Nat) {β : Type} (J : β → World → Prop) (T : World → Nat → Prop) : Prop :=
  ∀ s A, J s A → (∀ k, T A k → k < A.heap.size) ∧ ∀ B row, A.grownBy B row → (∀ r, row = some r → l < r ∧ ∃ o : Obj, A.heap[r]? = some o ∧ o.isCells = false) → ∀ k, T B k → T A k
/-- It abides new blocks, and turns of what is no cells and lies behind block l. -/
def Abides (l : Nat) {β : Type} (J : β → World → Prop) : Prop := ∀ s W W' row, J s W → W.grownBy W' row → (∀ r, row = some r → l < r ∧ ∃ o : Obj, W.heap[r]? = some o ∧ o.isCells = false) → J s W'
/-- A function that hands on what another one goes over, whatever a round does that leaves R alone. -/
def SeqF {α : Type} (F : Fence) (n : Nat) (P : Program) (g : Nat) (lb : Array Value) (encs : α → Array Value) (R : Nat → Prop) (S Sp : List α → Prop) (N : Nat) (w : World) : Prop :=
  ∀ (l : Nat) (T : World → Nat → Prop) (J Jx : List α → World → Prop) (W : World), Below w.heap.size w W → l < W.heap.size → Abides l J → Abides l Jx → Steady l J T → (∀ k, R k → ¬ T W k) →
    (∀ pre x W1, J pre W1 → pre.length < N → YieldAt F (n - 1) P l (encs x) W1 fun e W' => High l W1 W' ∧ ((e = .returned (.bool true) ∧ J (pre ++ [x]) W' ∧ Leaves T W1 W') ∨ (e = .returned (.bool false) ∧ Jx (pre ++ [x]) W'))) →
    J [] W →
    CallsIn F n P g (#[.func (.yield l) #[] #[]] ++ lb) W fun e W' => (∃ v, e = .returned v) ∧ ((∃ xs, S xs ∧ J xs W') ∨ (∃ pre, Sp pre ∧ Jx pre W'))
/-- The two blocks that a loop lays for itself. -/
structure Book (D : Nat) (L : Loop) (W : World) : Prop where
  lp : W.heap[D + 1]? = some (.loop L)
  df : W.heap[D]? = some (.deferred (some []))
theorem Book.grown {D : Nat} {L : Loop} {W W' : World} {row : Option Nat} (h : Book D L W) (hg : W.grownBy W' row) (hr : ∀ r, row = some r → D + 1 < r) : Book D L W' :=
  ⟨(hg.block _ (Array.getElem?_eq_some_iff.1 h.lp).1 (fun e => by have := hr _ e.symm; omega)).trans h.lp, (hg.block _ (Array.getElem?_eq_some_iff.1 h.df).1 (fun e => by have := hr _ e.symm; omega)).trans h.df⟩
theorem Book.kept {D : Nat} {L : Loop} {W W' : World} (h : Book D L W) (hk : KeepsFrom D W W') : Book D L W' := ⟨hk.same _ _ (by omega) h.lp rfl, hk.same _ _ (Nat.le_refl _) h.df rfl⟩
theorem Book.turn {D : Nat} {L : Loop} {W : World} (h : Book D L W) (L' : Loop) : Book D L' (W.putObj (D + 1) (.loop L')) :=
  ⟨World.putObj_heap_same (Array.getElem?_eq_some_iff.1 h.lp).1, (World.putObj_heap_other (by omega)).trans h.df⟩
theorem book_new (w : World) (L : Loop) : Book w.heap.size L ((w.alloc (.deferred (some []))).alloc (.loop L)) :=
  ⟨by have := World.alloc_heap_new (w.alloc (.deferred (some []))) (.loop L); rwa [World.size_alloc] at this, (Below.heap_alloc _ _ _ (by simp)).trans (World.alloc_heap_new w _)⟩
/-- The caller's law. -/
theorem wpIn_rangeFunc_fwd {α : Type} {g : Operand} {ps : Array Tmp} {assign body : Code} {Q : Exit → Act → World → Prop} {a : Act} {w : World}
    (hro : F.round = none) (h1 : 1 ≤ n) {gf : Nat} {lb : Array Value} (hg : a.eval g = .func (.func gf) #[] lb) (hFg : F.fn gf) (eg : ∀ args w, (callFunc gf args).run P w = .ok (.enter gf args) w)
    {encs : α → Array Value} {R : Nat → Prop} {S Sp : List α → Prop} {N : Nat} {w0 : World} (hseq : SeqF F (n - 1) P gf lb encs R S Sp N w0) (hb0 : Below w0.heap.size w0 w) (hps : ∀ x, (encs x).size = ps.size) (T : World → Nat → Prop) (hRT : ∀ k, R k → ¬ T w k)
    (I : List α → World → Prop) (Ix : Code → List α → World → Prop) (hI : OwnFrom w.heap.size I) (hIx : ∀ c, OwnFrom w.heap.size (Ix c))
    (hT : ∀ pre A, I pre A → (∀ k, T A k → k < A.heap.size) ∧ ∀ B row, A.grownBy B row → (∀ r, row = some r → w.heap.size ≤ r ∧ ∃ o : Obj, A.heap[r]? = some o ∧ o.isCells = false) → ∀ k, T B k → T A k)
    (h0 : I [] w) (Ax : α → Act → World → Prop) (hAx : ∀ x a', OwnFrom w.heap.size (fun (_ : Unit) W => Ax x a' W))
    (hassign : ∀ (l : Nat) (pre : List α) (x : α) (W : World) (K : Act → World → Prop), I pre W → (∀ a' W', KeepsFrom w.heap.size W W' → Leaves T W W' → I pre W' → Ax x a' W' → K a' W') →
      assign.wpIn (F.inRound l) (n - 1 - 1) P (Exit.then K (fun _ _ _ => False)) { tmps := (ps.zip (encs x)).foldl (fun t (p, v) => t.setIfInBounds p v) a.tmps, defers := [] } W)
    (hbody : ∀ (l : Nat) (pre : List α) (x : α) (a' : Act) (W : World), w.heap.size ≤ l → (∃ r, W.heap[l]? = some (.loop r)) → I pre W → Ax x a' W → pre.length < N → body.wpIn (F.inRound l) (n - 1 - 1) P (ownPostG w.heap.size (Leaves T) I Ix (pre ++ [x]) W) a' W)
    (hdone : ∀ (D : Nat) (xs : List α) (W : World), w.heap.size ≤ D → S xs → I xs W → W.heap[D]? = some (.deferred (some [])) → Q .normal { a with defers := { target := .collected D, args := #[] } :: a.defers } W)
    (hstop : ∀ (D : Nat) (c : Code) (pre : List α) (W : World), w.heap.size ≤ D → Sp pre → Ix c pre W → W.heap[D]? = some (.deferred (some [])) → c.wpIn F n P Q { a with defers := { target := .collected D, args := #[] } :: a.defers } W) :
    (Code.rangeFunc g ps assign body).wpIn F n P Q a w := by
  refine wpIn_rangeFunc fun fn hfn => ?_
  let L : LoopState → Option Code → Loop := fun st pe => { state := st, pending := pe, fn := fn, tmps := a.tmps, params := ps, assign := assign, body := body, defers := w.heap.size }
  have book0 := book_new w (L .ready none)
  have below0 : Below w0.heap.size w0 ((w.alloc (.deferred (some []))).alloc (.loop (L .ready none))) := hb0.trans ((((Below.refl _ w).alloc (Nat.le_refl _) _).alloc (by simp) _).mono hb0.size)
  have inv0 : I [] ((w.alloc (.deferred (some []))).alloc (.loop (L .ready none))) := hI.alloc _ (hI.alloc _ h0)
  have T0 : ∀ k, T ((w.alloc (.deferred (some []))).alloc (.loop (L .ready none))) k → T w k := fun k ht => (hT [] w h0).2 _ none (World.grownBy_alloc w _ none) (fun r e => by cases e) k ((hT [] _ (hI.alloc _ h0)).2 _ none (World.grownBy_alloc _ _ none) (fun r e => by cases e) k ht)
  obtain ⟨W1, hW1⟩ : ∃ W1, (w.alloc (.deferred (some []))).alloc (.loop (L .ready none)) = W1 := ⟨_, rfl⟩
  have enter : (Instr.enterLoop fn a.tmps ps assign body F.round).run P w = .ok (w.heap.size + 1, [{ target := .collected w.heap.size, args := #[] }]) W1 := by
    rw [hro, ← hW1]
    exact run_enterLoop_outer _ _ _ _ _
  rw [hW1] at book0 below0 inv0 T0
  refine ⟨_, _, W1, ⟨.fn (.func gf) lb, #[.func (.yield (w.heap.size + 1)) #[] #[]]⟩, W1, gf, #[.func (.yield (w.heap.size + 1)) #[] #[]] ++ lb, W1, enter, ?_, ?_, ?_, fun _ => h1, ?_⟩
  · simp only [resolve, hg]
    simp [go_sem]
  · intro f hf
    simp [Target.leads] at hf
    exact hf ▸ hFg
  · simp [invoke, go_sem, eg]
  have ends : ∀ (W : World) (L' : Loop) (s : List α) (J : List α → World → Prop), Book w.heap.size L' W → OwnFrom w.heap.size J → J s W → ∀ o, J s (W.putObj (w.heap.size + 1) o) := fun _ _ _ _ hb hJ hs o => hJ.putObj o hs (by omega) hb.lp rfl
  have put : ∀ (W : World) (L' : Loop) (s : List α) (o : Obj), Book w.heap.size L' W → I s W → Leaves T W (W.putObj (w.heap.size + 1) o) := fun W L' s o hb hs =>
    leaves_grown (grownBy_putObj' W _ o) (fun r e => by cases e; exact ⟨_, hb.lp, rfl⟩) ((hT s W hs).2 _ _ (grownBy_putObj' W _ o) (fun r e => by cases e; exact ⟨by omega, _, hb.lp, rfl⟩))
  refine (hseq (w.heap.size + 1) T (fun pre W => I pre W ∧ Book w.heap.size (L .ready none) W) (fun pre W => ∃ c, Ix c pre W ∧ Book w.heap.size (L .done (some c)) W) W1 below0 (Array.getElem?_eq_some_iff.1 book0.lp).1
    (fun s A B row hs hgr hr => ⟨hI s A B row hs.1 hgr (fun r e => ⟨by have := (hr r e).1; omega, (hr r e).2⟩), hs.2.grown hgr (fun r e => (hr r e).1)⟩)
    (fun s A B row hs hgr hr => by
      obtain ⟨c, h2, h3⟩ := hs
      exact ⟨c, hIx c s A B row h2 hgr (fun r e => ⟨by have := (hr r e).1; omega, (hr r e).2⟩), h3.grown hgr (fun r e => (hr r e).1)⟩)
    (fun s A hs => ⟨(hT s A hs.1).1, fun B row hgr hr => (hT s A hs.1).2 B row hgr (fun r e => ⟨by have := (hr r e).1; omega, (hr r e).2⟩)⟩)
    (fun k hk ht => hRT k hk (T0 k ht))
    (fun pre x W0 hJ hlen => ?_) ⟨inv0, book0⟩).mono ?_
  · refine ⟨fn, _, assign, body, run_yield (P := P) (args := encs x) hJ.2.lp (hps x), roundIn_of_wpIn hfn (hassign _ pre x W0 _ hJ.1 fun a2 W2 hk2 hr2 hi2 hx2 => ?_)⟩
    have b2 := hJ.2.kept hk2
    have b3 := b2.turn (L .busy none)
    refine ⟨_, run_beginRound b2.lp rfl, wpIn_mono (hbody _ pre x a2 _ (by omega) ⟨_, b3.lp⟩ (ends _ _ _ _ b2 hI hi2 _) ((hAx x a2).putObj (s := ()) _ hx2 (by omega) b2.lp rfl) hlen) ?_⟩
    have hk13 : High (w.heap.size + 1) W0 (W2.putObj (w.heap.size + 1) (.loop (L .busy none))) := (high_of hk2 (by omega)).trans (high_put _ _ _)
    have stops : ∀ (c : Code) (W3 : World), KeepsFrom w.heap.size (W2.putObj (w.heap.size + 1) (.loop (L .busy none))) W3 ∧ Ix c (pre ++ [x]) W3 → ∃ v w', (Instr.endRound (w.heap.size + 1) (some c)).run P W3 = .ok v w' ∧ High (w.heap.size + 1) W0 w' ∧ ((Ending.returned v = .returned (.bool true) ∧ (I (pre ++ [x]) w' ∧ Book w.heap.size (L .ready none) w') ∧ Leaves T W0 w') ∨ (Ending.returned v = .returned (.bool false) ∧ ∃ c, Ix c (pre ++ [x]) w' ∧ Book w.heap.size (L .done (some c)) w')) := fun c W3 ⟨hk3, hi3⟩ => by
      have b4 := b3.kept hk3
      exact ⟨_, _, run_endRound (some c) b4.lp, hk13.trans ((high_of hk3 (by omega)).trans (high_put _ _ _)), .inr ⟨rfl, c, ends _ _ _ _ b4 (hIx c) hi3 _, b4.turn _⟩⟩
    intro e a3 W3 hp
    cases e with
    | normal =>
      obtain ⟨hk3, hr3, hi3⟩ := hp
      have b4 := b3.kept hk3
      exact ⟨_, _, run_endRound none b4.lp, hk13.trans ((high_of hk3 (by omega)).trans (high_put _ _ _)), .inl ⟨rfl, ⟨ends _ _ _ _ b4 hI hi3 _, b4.turn _⟩, hr2.trans ((put _ _ _ _ b2 hi2).trans (hr3.trans (put _ _ _ _ b4 hi3)))⟩⟩
    | ret => exact stops _ W3 hp
    | exit id => exact stops _ W3 hp
    | goto t => exact stops _ W3 hp
    | panic ch => exact hp.elim
    | outgrown => exact hp.elim
  · rintro e W2 ⟨⟨v, rfl⟩, ⟨xs, hS, hi, hb⟩ | ⟨pre, hSp, c, hi, hb⟩⟩
    · exact ⟨none, _, run_endLoop hb.lp (by simp [L]), hdone _ xs _ (Nat.le_refl _) hS (ends _ _ _ _ hb hI hi _) (hb.turn _).df⟩
    · exact ⟨some c, _, run_endLoop hb.lp (by simp [L]), hstop _ c pre _ (Nat.le_refl _) hSp (ends _ _ _ _ hb (hIx c) hi _) (hb.turn _).df⟩
end
end Go.Proofs.Ytfebaiefoonncaa
