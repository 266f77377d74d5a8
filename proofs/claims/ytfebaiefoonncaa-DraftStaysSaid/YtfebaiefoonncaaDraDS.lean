/- The program's drafts in a law's own memory: beside rows and clones. -/
import Derived.Test.YtfebaiefoonncaaDraDo
import Derived.Test.YtfebaiefoonncaaDraImJ
import Derived.Test.YtfebaiefoonncaaDraImK
import Derived.Test.YtfebaiefoonncaaDraSame
namespace Go.Proofs.Ytfebaiefoonncaa.Draft
open Go.RowKit Go.Lib IRows

/-- A clone: where it is, its drafts, the number that was given last. -/
structure Cl where
  q : Nat
  l : List Dr
  z : Int
structure DSF (w W : World) (Q : Nat) (l : List Dr) (z : Int) (rows : List (Value × List Dr)) (cl : List Cl) (K : List (Nat × Obj)) (F : Nat → Prop) : Prop where
  dp : DP W Q F l z
  good : Good l z
  below : Below w.heap.size w W
  new : w.heap.size ≤ Q
  row : ∀ r ∈ rows, OwnV W 0 r.1 r.2 ∧ r.1.ownBlock ≠ some Q
  clone : ∀ c ∈ cl, ∃ F2, DP W c.q F2 c.l c.z ∧ Good c.l c.z ∧ ¬ F2 Q
  kept : ∀ b ∈ K, b.1 ≠ Q ∧ W.heap[b.1]? = some b.2
def DS (w W : World) (Q : Nat) (l : List Dr) (z : Int) (rows : List (Value × List Dr)) (cl : List Cl) (K : List (Nat × Obj)) : Prop := ∃ F, DSF w W Q l z rows cl K F
section
variable {w W W' : World} {Q : Nat} {l : List Dr} {z : Int} {rows : List (Value × List Dr)} {cl : List Cl} {K : List (Nat × Obj)}
theorem DS.below (h : DS w W Q l z rows cl K) : Below w.heap.size w W := by
  obtain ⟨F, h⟩ := h
  exact h.below
theorem DS.good (h : DS w W Q l z rows cl K) : Good l z := by
  obtain ⟨F, h⟩ := h
  exact h.good
theorem DSF.under {F : Nat → Prop} (h : DSF w W Q l z rows cl K F) (hb : Below W.heap.size W W') : DSF w W' Q l z rows cl K F :=
  ⟨h.dp.under hb, h.good, below_then h.below hb, h.new, fun r hr => ⟨Tb.own_under (h.row r hr).1 hb, (h.row r hr).2⟩, fun c hc => by
    obtain ⟨F2, h1, h2, h3⟩ := h.clone c hc
    exact ⟨F2, h1.under hb, h2, h3⟩, fun b hm => ⟨(h.kept b hm).1, (hb.block b.1 (Array.getElem?_eq_some_iff.1 (h.kept b hm).2).1).trans (h.kept b hm).2⟩⟩
theorem DS.under (h : DS w W Q l z rows cl K) (hb : Below W.heap.size W W') : DS w W' Q l z rows cl K := by
  obtain ⟨F, h⟩ := h
  exact ⟨F, h.under hb⟩
theorem DSF.step {F F' : Nat → Prop} {l' : List Dr} {z' : Int} (h : DSF w W Q l z rows cl K F) (h1 : DP W' Q F' l' z') (h2 : Up W W' Q F F') (hg : Good l' z') : DSF w W' Q l' z' rows cl K F' :=
  ⟨h1, hg, below_of_only h.below h.new h2.grown, h.new, fun r hr => ⟨Tb.own_same (h.row r hr).1 fun k hk => h2.grown.block k ((h.row r hr).1.lt k hk).2 (fun e => (h.row r hr).2 (by rw [hk, e])), (h.row r hr).2⟩, fun c hc => by
    obtain ⟨F2, g1, g2, g3⟩ := h.clone c hc
    exact ⟨F2, g1.keep h2.grown.size fun k hk => h2.grown.block k (g1.lt k hk) (fun e => g3 (by cases e; exact hk)), g2, g3⟩, fun b hm => ⟨(h.kept b hm).1, (h2.grown.block b.1 (Array.getElem?_eq_some_iff.1 (h.kept b hm).2).1 (fun e => (h.kept b hm).1 (by cases e; rfl))).trans (h.kept b hm).2⟩⟩
theorem DS.rest {r : Value × List Dr} (h : DS w W Q l z (r :: rows) cl K) : DS w W Q l z rows cl K := by
  obtain ⟨F, h⟩ := h
  exact ⟨F, h.dp, h.good, h.below, h.new, fun x hx => h.row x (by simp [hx]), h.clone, h.kept⟩
/-- A box of one's own, kept. -/
theorem DS.box (h : DS w W Q l z rows cl K) (cs : Array Value) (T : TypeId) : DS w (W.alloc (.cells cs T)) Q l z rows cl ((W.heap.size, .cells cs T (0, 0)) :: K) := by
  obtain ⟨F, h⟩ := h
  have h2 := h.under ((Below.refl _ W).alloc (Nat.le_refl _) (.cells cs T))
  refine ⟨F, h2.dp, h2.good, h2.below, h2.new, h2.row, h2.clone, fun b hb => ?_⟩
  rcases List.mem_cons.1 hb with rfl | hb
  · refine ⟨fun e => ?_, heap_alloc_new W _⟩
    have e2 : W.heap.size = Q := e
    have := h.dp.lt Q h.dp.self
    omega
  · exact h2.kept b hb
theorem DS.keep {b : Nat} {o : Obj} (h : DS w W Q l z rows cl K) (hm : (b, o) ∈ K) : W.heap[b]? = some o := by
  obtain ⟨F, h⟩ := h
  exact (h.kept _ hm).2
theorem DS.own {v : Value} {lx : List Dr} (h : DS w W Q l z rows cl K) (hm : (v, lx) ∈ rows) : OwnV W 0 v lx := by
  obtain ⟨F, h⟩ := h
  exact (h.row _ hm).1
theorem ds_next (h : DS w W Q l z rows cl K) : Calls Try.prog 10 #[ptr Q] W fun e w' => e = .returned (.int .i64 (z + 1)) ∧ W = w' := by
  obtain ⟨F, h⟩ := h
  exact next_im W h.dp h.good
theorem ds_list (h : DS w W Q l z rows cl K) : Calls Try.prog 9 #[ptr Q] W fun e w' => ∃ a n c, e = .returned (.slice a n c) ∧ Hid (DS w w' Q l z ((.slice a n c, l) :: rows) cl K ∧ l.length = n) := by
  obtain ⟨F, h⟩ := h
  refine (list_im W h.dp (by have := h.good.len; omega)).mono ?_
  rintro e w' ⟨v, rfl, ho, hb⟩
  obtain ⟨a, c, rfl, _⟩ := rowV ho
  have h2 := h.under hb
  refine ⟨a, _, c, rfl, Lib.hid ⟨⟨F, h2.dp, h2.good, h2.below, h2.new, fun r hr => ?_, h2.clone, h2.kept⟩, rfl⟩⟩
  rcases List.mem_cons.1 hr with rfl | hr
  · refine ⟨World.ownsRow.mono ho (Nat.zero_le _), fun e => ?_⟩
    have := (ho.lt Q e).1
    have := h.dp.lt Q h.dp.self
    omega
  · exact h2.row r hr
theorem ds_clone (h : DS w W Q l z rows cl K) : Calls Try.prog 8 #[ptr Q] W fun e w' => ∃ Q2, e = .returned (ptr Q2) ∧ Hid (DS w w' Q l z rows (⟨Q2, l, z⟩ :: cl) K) := by
  obtain ⟨F, h⟩ := h
  refine (clone_im W h.dp).mono ?_
  rintro e w' ⟨Q2, rfl, F2, h1, h2, h3, h4⟩
  have h5 := h.under h3
  refine ⟨Q2, rfl, Lib.hid ⟨F, h5.dp, h5.good, h5.below, h5.new, h5.row, fun c hc => ?_, h5.kept⟩⟩
  rcases List.mem_cons.1 hc with rfl | hc
  · refine ⟨F2, h1, h.good, fun hf => ?_⟩
    rcases h4 Q hf with h6 | h6
    · exact h6.2 rfl
    · have := h.dp.lt Q h.dp.self
      omega
  · exact h5.clone c hc
/-- A clone's own calls. -/
theorem cl_next {c : Cl} (h : DS w W Q l z rows cl K) (hc : c ∈ cl) : Calls Try.prog 10 #[ptr c.q] W fun e w' => e = .returned (.int .i64 (c.z + 1)) ∧ W = w' := by
  obtain ⟨F, h⟩ := h
  obtain ⟨F2, h1, h2, _⟩ := h.clone c hc
  exact next_im W h1 h2
theorem cl_list {c : Cl} (h : DS w W Q l z rows cl K) (hc : c ∈ cl) : Calls Try.prog 9 #[ptr c.q] W fun e w' => ∃ a n d, e = .returned (.slice a n d) ∧ Hid (DS w w' Q l z rows cl K ∧ OwnV w' 0 (.slice a n d) c.l ∧ c.l.length = n) := by
  obtain ⟨F, h⟩ := h
  obtain ⟨F2, h1, h2, _⟩ := h.clone c hc
  refine (list_im W h1 (by have := h2.len; omega)).mono ?_
  rintro e w' ⟨v, rfl, ho, hb⟩
  obtain ⟨a, d, rfl, _⟩ := rowV ho
  exact ⟨a, _, d, rfl, Lib.hid ⟨⟨F, h.under hb⟩, World.ownsRow.mono ho (Nat.zero_le _), rfl⟩⟩
theorem ds_do (x : Act) (h : DS w W Q l z rows cl K) (hi : InAct x) : Calls Try.prog 11 #[ptr Q, actV x] W fun e w' => ∃ a n c, e = .returned (.tuple #[.slice a n c, .int .i64 (doE l z x)]) ∧ Hid (DS w w' Q (doL l z x) (doZ l z x) rows cl K ∧ n ≤ 10 ∧ (doE l z x = 0 → x.kind = 1 ∨ x.kind = 5 → Row w' a n z)) := by
  obtain ⟨F, h⟩ := h
  refine (do_im x W h.dp h.good hi).mono ?_
  rintro e w' ⟨a, n, c, rfl, H⟩
  obtain ⟨⟨F', h1, h2⟩, h3, h4⟩ := H.out
  exact ⟨a, n, c, rfl, Lib.hid ⟨⟨F', h.step h1 h2 (good_do h.good x).1⟩, h3, h4⟩⟩
theorem ds_add (d : Dr) (h : DS w W Q l z rows cl K) : Calls Try.prog 13 #[ptr Q, elV d] W fun e w' => e = .returned (.tuple #[.int .i64 (if addE l z d = 0 then z + 1 else 0), .int .i64 (addE l z d)]) ∧ Hid (DS w w' Q (addL l z d) (addZ l z d) rows cl K) := by
  obtain ⟨F, h⟩ := h
  exact (add_im d W h.dp h.good).mono fun _ _ ⟨e, F', h1, h2⟩ => ⟨e, Lib.hid ⟨F', h.step h1 h2 (good_addL h.good d)⟩⟩
theorem ds_get (i : Int) (h : DS w W Q l z rows cl K) : Calls Try.prog 14 #[ptr Q, .int .i64 i] W fun e w' => e = .returned (.tuple #[elV ((find l i).getD default), .int .i64 (if (find l i).isSome then 0 else 3)]) ∧ Hid (DS w w' Q l z rows cl K) := by
  obtain ⟨F, h⟩ := h
  exact (get_is i W h.dp h.good.rise (by have := h.good.len; omega)).mono fun _ _ ⟨e, hb⟩ => ⟨e, Lib.hid ⟨F, h.under hb⟩⟩
theorem ds_use (i x y : Int) (h : DS w W Q l z rows cl K) : Calls Try.prog 15 #[ptr Q, .int .i64 i, .int .i64 x, .int .i64 y] W fun e w' => e = .returned (.int .i64 (chE l i (useE x y))) ∧ Hid (DS w w' Q (chL l i (useE x y) (useD x y)) z rows cl K) := by
  obtain ⟨F, h⟩ := h
  exact (use_is i x y W h.dp h.good).mono fun _ _ ⟨e, F', h1, h2⟩ => ⟨e, Lib.hid ⟨F', h.step h1 h2 (good_ch h.good i use_ok)⟩⟩
theorem ds_free (i x y : Int) (h : DS w W Q l z rows cl K) : Calls Try.prog 17 #[ptr Q, .int .i64 i, .int .i64 x, .int .i64 y] W fun e w' => e = .returned (.int .i64 (chE l i (freeE x y))) ∧ Hid (DS w w' Q (chL l i (freeE x y) (freeD x y)) z rows cl K) := by
  obtain ⟨F, h⟩ := h
  exact (free_is i x y W h.dp h.good).mono fun _ _ ⟨e, F', h1, h2⟩ => ⟨e, Lib.hid ⟨F', h.step h1 h2 (good_ch h.good i free_ok)⟩⟩
theorem ds_give (i x y : Int) (h : DS w W Q l z rows cl K) : Calls Try.prog 16 #[ptr Q, .int .i64 i, .int .i64 x, .int .i64 y] W fun e w' => e = .returned (.int .i64 (chE l i (giveE x y))) ∧ Hid (DS w w' Q (chL l i (giveE x y) (giveD x y)) z rows cl K) := by
  obtain ⟨F, h⟩ := h
  exact (give_is i x y W h.dp h.good).mono fun _ _ ⟨e, F', h1, h2⟩ => ⟨e, Lib.hid ⟨F', h.step h1 h2 (good_ch h.good i give_ok)⟩⟩
theorem ds_copies (i x y : Int) (h : DS w W Q l z rows cl K) : Calls Try.prog 18 #[ptr Q, .int .i64 i, .int .i64 x, .int .i64 y] W fun e w' => ∃ a n c, e = .returned (.tuple #[.slice a n c, .int .i64 (copE l z i x y)]) ∧ Hid (DS w w' Q (copL l z i x y) (copZ l z i x y) rows cl K ∧ (copE l z i x y = 0 → n = x.toNat ∧ KS w' 0 (.slice a n c) (nums x.toNat z))) := by
  obtain ⟨F, h⟩ := h
  refine (copies_im i x y W h.dp h.good).mono ?_
  rintro e w' ⟨a, n, c, rfl, H⟩
  obtain ⟨h1, _, F', h3, h4⟩ := H.out
  refine ⟨a, n, c, rfl, Lib.hid ⟨⟨F', h.step h3 h4 (good_cop h.good i x y)⟩, fun e => ⟨(h1 e).1, World.ownsRow.mono (h1 e).2 (Nat.zero_le _)⟩⟩⟩
end
/-- Fresh drafts. -/
theorem ds_zero (w W : World) (h : Below w.heap.size w W) : DS w (W.alloc (.cells zeroD 47)) W.heap.size [] 0 [] [] [] :=
  ⟨_, dp_zero W, good_nil, h.alloc h.size _, h.size, fun r hr => (by cases hr), fun c hc => (by cases hc), fun b hb => (by cases hb)⟩
/-- Two rows of the same drafts. -/
theorem same_own {W : World} {a b : Option Addr} {n c d : Nat} {l : List Dr} (h1 : OwnV W 0 (.slice a n c) l) (h2 : OwnV W 0 (.slice b n d) l) (hn : l.length = n) (hl : n ≤ 1048576) :
    Calls Try.prog 12 #[.slice a n c, .slice b n d] W fun e w' => e = .returned (.bool true) ∧ Below W.heap.size W w' := by
  obtain ⟨a', c', e1, g1⟩ := els_own h1
  obtain ⟨b', d', e2, g2⟩ := els_own h2
  injection e1 with e1 _ _
  injection e2 with e2 _ _
  exact same_yes a n c b d l W hn (e1 ▸ g1) hl (e2 ▸ g2)
end Go.Proofs.Ytfebaiefoonncaa.Draft
