/- The program's table as the laws ask for it. -/
import Derived.Test.YtighjiiaplihjaaTabImP
namespace Go.Proofs.Ytighjiiaplihjaa.Tab.Im
open Go.RowKit Go.Lib Go.Shelf

/-- The blocks of two lists. -/
def Two (ks vs : Value) (k : Nat) : Prop := ks.ownBlock = some k ∨ vs.ownBlock = some k
theorem TL.reads {w : World} {q : Option Addr} {l : List Pair} {ks vs : Value} (h : TL w q l ks vs) : Reads w (Two ks vs) l ks vs := by
  obtain ⟨a, c, e1, h1, hk⟩ := row_key h.keys
  obtain ⟨b, d, e2, h2, hv⟩ := row_int h.vals
  rw [len_keys] at e1 h1
  rw [len_vals] at e2 h2
  refine ⟨a, c, b, d, e1, e2, h1, h2, fun i p hp => ?_⟩
  obtain ⟨g, rfl, _, q⟩ := hk i p.k (key_of hp)
  obtain ⟨f, rfl, _, r⟩ := hv i p.v (val_of hp)
  exact ⟨g, 0, f, 0, rfl, rfl, .inl (by rw [e1]; rfl), .inr (by rw [e2]; rfl), by simpa using q.1, by simpa using q.2.1, by simpa using q.2.2.1, by simpa using q.2.2.2, by simpa using r⟩
theorem TL.two {w : World} {q : Option Addr} {l : List Pair} {ks vs : Value} (h : TL w q l ks vs) (k : Nat) (hk : Two ks vs k) : ∃ o : Obj, w.heap[k]? = some o ∧ o.isCells = true := by
  rcases hk with hk | hk
  · rcases h.keys.2 with ⟨hv, _⟩ | ⟨g, cap, cur, hv, _, hg, _⟩
    · rw [hv] at hk; cases hk
    · rw [hv] at hk
      cases hk
      exact ⟨_, hg, rfl⟩
  · rcases h.vals.2 with ⟨hv, _⟩ | ⟨g, cap, cur, hv, _, hg, _⟩
    · rw [hv] at hk; cases hk
    · rw [hv] at hk
      cases hk
      exact ⟨_, hg, rfl⟩
theorem TL.two_lt {w : World} {q : Option Addr} {l : List Pair} {ks vs : Value} (h : TL w q l ks vs) (k : Nat) (hk : Two ks vs k) : k < w.heap.size := by
  obtain ⟨o, ho, _⟩ := h.two k hk
  exact (Array.getElem?_eq_some_iff.1 ho).1
theorem all_tl {q : Option Addr} {l : List Pair} {ks vs : Value} (w : World) (h : TL w q l ks vs) (hl : l.length ≤ 1000) :
    Calls Try.prog 30 #[.pointer q] w fun e w' => ∃ gf lb, e = .returned (.func (.func gf) #[] lb) ∧ Hid (Below w.heap.size w w' ∧ Goes w' (Two ks vs) gf lb l) :=
  all_goes w h.two_lt h.reads hl h.lists
set_option maxRecDepth 100000 in
theorem range_call (q : Option Addr) (x y : Key) (w : World) :
    Calls Try.prog 33 #[.pointer q, kV x, kV y] w fun e w' => e = .returned (.func (.func 42) #[] #[.pointer (some ⟨w.heap.size, 0, none⟩), .pointer (some ⟨w.heap.size + 1, 0, none⟩), .pointer (some ⟨w.heap.size + 1 + 1, 0, none⟩)]) ∧
      w' = ((w.alloc (.cells #[.pointer q] 24)).alloc (.cells x.cells 38)).alloc (.cells y.cells 38) := by
  go_enter Try.func33, Try.ntmps33
  go_wp2_with fail
  go_ret
  exact ⟨rfl, rfl⟩
theorem range_tl {q : Option Addr} {l : List Pair} {ks vs : Value} (x y : Key) (w : World) (h : TL w q l ks vs) (hr : Rising l) (hl : l.length ≤ 1000) :
    Calls Try.prog 33 #[.pointer q, kV x, kV y] w fun e w' => ∃ gf lb, e = .returned (.func (.func gf) #[] lb) ∧ Hid (Below w.heap.size w w' ∧ GoesF w' (Two ks vs) gf lb (l.filter (within x y))) := by
  refine (range_call q x y w).mono ?_
  rintro e w' ⟨rfl, rfl⟩
  have hb : Below w.heap.size w (((w.alloc (.cells #[.pointer q] 24)).alloc (.cells x.cells 38)).alloc (.cells y.cells 38)) := (((Below.refl _ w).alloc (Nat.le_refl _) _).alloc (by simp) _).alloc (by simp; omega) _
  have g0 : (((w.alloc (.cells #[.pointer q] 24)).alloc (.cells x.cells 38)).alloc (.cells y.cells 38)).heap[w.heap.size]? = some (.cells #[.pointer q] 24 (0, 0)) := by
    rw [Below.heap_alloc _ _ _ (by simp; omega), Below.heap_alloc _ _ _ (by simp)]
    exact heap_alloc_new w _
  have g1 : (((w.alloc (.cells #[.pointer q] 24)).alloc (.cells x.cells 38)).alloc (.cells y.cells 38)).heap[w.heap.size + 1]? = some (.cells x.cells 38 (0, 0)) := by
    rw [Below.heap_alloc _ _ _ (by simp)]
    have := heap_alloc_new (w.alloc (.cells #[.pointer q] 24)) (.cells x.cells 38)
    simpa using this
  have g2 : (((w.alloc (.cells #[.pointer q] 24)).alloc (.cells x.cells 38)).alloc (.cells y.cells 38)).heap[w.heap.size + 1 + 1]? = some (.cells y.cells 38 (0, 0)) := by
    have := heap_alloc_new ((w.alloc (.cells #[.pointer q] 24)).alloc (.cells x.cells 38)) (.cells y.cells 38)
    simpa using this
  refine ⟨_, _, rfl, Lib.hid ⟨hb, enters_of Try.func42 (by kernel_rfl) rfl, fun n hn lp T J Jx W hW hlp hJ hJx hS hRT hY h0 => ?_⟩⟩
  have hT := h.under (below_then hb hW)
  have up : ∀ {k : Nat} {o : Obj}, (((w.alloc (.cells #[.pointer q] 24)).alloc (.cells x.cells 38)).alloc (.cells y.cells 38)).heap[k]? = some o → W.heap[k]? = some o := fun hk => (hW.block _ (Array.getElem?_eq_some_iff.1 hk).1).trans hk
  exact range1_in n hn lp w.heap.size (w.heap.size + 1) (w.heap.size + 1 + 1) q (Two ks vs) l ks vs x y hl hr T J Jx W hlp hJ hJx hS hRT hY h0 hT.two (cell_block (j := 0) (up g0) rfl) (up g1) (up g2) hT hT.reads
theorem step_of {w w' : World} {Q : Nat} {F F' : Nat → Prop} (hQ : F Q) (hg : w.grownBy w' (some Q)) (hF : ∀ j, F' j → F j ∨ w.heap.size ≤ j) : StepF w w' F F' :=
  ⟨hg.os, hg.tape, hg.output, hg.size, fun k hk hn => hg.block k hk (fun e => by cases e; exact hn hQ), hF⟩
theorem put_im {Q : Nat} {F : Nat → Prop} {l : List Pair} (k : Key) (x : Int) (w : World) (h : PT w Q F l) (hr : Rising l) (hl : l.length ≤ 1000) :
    Calls Try.prog 22 #[ptr Q, kV k, .int .i64 x] w fun e w' => e = .returned (.bool (!has l k)) ∧ ∃ F', PT w' Q F' (put l k x) ∧ w.grownBy w' (some Q) ∧ ∀ j, F' j → F j ∨ w.heap.size ≤ j := by
  cases hh : has l k with
  | true => exact put_yes k x w h hr hl hh
  | false => exact put_no k x w h hr hl hh
theorem del_im {Q : Nat} {F : Nat → Prop} {l : List Pair} (k : Key) (w : World) (h : PT w Q F l) (hr : Rising l) (hl : l.length ≤ 1000) :
    Calls Try.prog 21 #[ptr Q, kV k] w fun e w' => e = .returned (.bool (has l k)) ∧ ∃ F', PT w' Q F' (del l k) ∧ w.grownBy w' (some Q) ∧ ∀ j, F' j → F j ∨ w.heap.size ≤ j := by
  cases hh : has l k with
  | true => exact del_yes k w h hr hl hh
  | false =>
    obtain ⟨ks, vs, hv⟩ := h
    refine (del_no k w hv.tl hr hl hh).mono ?_
    rintro e w' ⟨rfl, hb⟩
    have : del l k = l := by unfold del; rw [hh]; rfl
    rw [this]
    exact ⟨rfl, F, ⟨ks, vs, hv.under hb⟩, ⟨hb.os, hb.tape, hb.output, hb.size, fun i hi _ => hb.block i hi⟩, fun j hj => .inl hj⟩
theorem below_drawn {w w' : World} (h : ∃ m, w.drewN m = w') : Below w.heap.size w w' := by
  obtain ⟨m, rfl⟩ := h
  exact below_drewN (Below.refl _ w) m
def impl : Impl where
  PT := PT
  lt := fun h => h.lt
  keep := fun h => h.keep
  put := fun Q F l k x w h hr hl => (put_im k x w h hr hl).mono (fun e w' ⟨h1, F', h2, h3, h4⟩ => ⟨h1, F', h2, step_of (by obtain ⟨_, _, hv⟩ := h; exact hv.self) h3 h4⟩)
  del := fun Q F l k w h hr hl => (del_im k w h hr hl).mono (fun e w' ⟨h1, F', h2, h3, h4⟩ => ⟨h1, F', h2, step_of (by obtain ⟨_, _, hv⟩ := h; exact hv.self) h3 h4⟩)
  get := fun Q F l k w h hr hl => get_im k w h hr hl
  place := fun Q F l k w h hr hl => place_im k w h hr hl
  len := fun Q F l w h _ _ => (len_im w h).mono (fun e w' ⟨h1, h2⟩ => ⟨h1, below_drawn h2⟩)
  at' := fun Q F l i w h _ _ => at_im i w h
  keys' := fun Q F l w h _ hl => by
    obtain ⟨_, _, hv⟩ := h
    exact keys_tl w hv.tl hl
  zero := fun w => ⟨_, _, ⟨heap_alloc_new w _, World.ownsRow_nil _ _ _ _, World.ownsRow_nil _ _ _ _, rfl, (fun q hq => by cases hq), (fun q hq => by cases hq), (fun k hk => by rw [hk]; simp)⟩⟩
  compare := fun x y w => (tcompare_any x y w).mono (fun e w' ⟨h1, h2⟩ => ⟨cmp x y, h1, ⟨Iff.rfl, Iff.rfl⟩, h2⟩)
theorem PTV.two {w : World} {Q : Nat} {F : Nat → Prop} {l : List Pair} {ks vs : Value} (h : PTV w Q F l ks vs) (k : Nat) (hk : Two ks vs k) : F k ∧ k ≠ Q := by
  rcases hk with hk | hk
  · exact h.kb k hk
  · exact h.vb k hk
theorem iters : Iters impl where
  all := fun Q F l w h _ hl => by
    obtain ⟨ks, vs, hv⟩ := h
    refine (all_tl w hv.tl hl).mono ?_
    rintro e w' ⟨gf, lb, rfl, H⟩
    exact ⟨gf, lb, rfl, Lib.hid ⟨H.out.1, H.out.2.mono (fun k hk => (hv.two k hk).1)⟩⟩
  range := fun Q F l x y w h hr hl => by
    obtain ⟨ks, vs, hv⟩ := h
    refine (range_tl x y w hv.tl hr hl).mono ?_
    rintro e w' ⟨gf, lb, rfl, H⟩
    exact ⟨gf, lb, rfl, Lib.hid ⟨H.out.1, H.out.2.mono (fun k hk => (hv.two k hk).1)⟩⟩
end Go.Proofs.Ytighjiiaplihjaa.Tab.Im
