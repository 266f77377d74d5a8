/- A table that is gone over while its pairs are deleted. -/
import Derived.Test.YtighjiiaplihjaaTabImQ
namespace Go.Proofs.Ytighjiiaplihjaa.Tab.Im
open Go.RowKit Go.Lib Go.Shelf
attribute [local go_sem] Oper.semAt_some

/-! What is left. -/
theorem has_below {l : List Pair} {k : Key} (h : ∀ p ∈ l, cmp k p.k < 0) : has l k = false := by
  unfold has
  rw [List.any_eq_false]
  intro p hp
  have h1 := h p hp
  have h2 := cmp_swap k p.k
  unfold hits
  simp
  omega
theorem del_head {p : Pair} {r : List Pair} (h : Rising (p :: r)) : del (p :: r) p.k = r := by
  obtain ⟨h1, h2⟩ := List.pairwise_cons.1 h
  have hh : has (p :: r) p.k = true := by unfold has; rw [List.any_cons]; simp [hits, cmp_zero.2 (rfl : p.k = p.k)]
  have hp : place (p :: r) p.k = 0 := by
    refine place_bound (by simp) (fun t q ht _ => by omega) (fun t q _ hq => ?_)
    rcases List.mem_cons.1 (List.mem_of_getElem? hq) with rfl | hm
    · have := cmp_zero.2 (rfl : q.k = q.k); omega
    · have := h1 q hm
      have := cmp_swap p.k q.k
      omega
  unfold del
  rw [if_pos hh, hp]
  rfl
theorem del_none {l : List Pair} {k : Key} (h : has l k = false) : del l k = l := by unfold del; rw [h]; rfl
def left1 (l : List Pair) (p : Pair) : List Pair := (del l p.k).drop 1
def leftP (l : List Pair) (pre : List Pair) : List Pair := pre.foldl left1 l
theorem leftP_snoc (l pre : List Pair) (p : Pair) : leftP l (pre ++ [p]) = (del (leftP l pre) p.k).drop 1 := by unfold leftP; rw [List.foldl_append]; rfl
theorem rising_drop {l : List Pair} (h : Rising l) (n : Nat) : Rising (l.drop n) := h.sublist (List.drop_sublist _ _)
theorem leftP_ok {l : List Pair} (h : Rising l) : ∀ pre : List Pair, Rising (leftP l pre) ∧ (leftP l pre).length ≤ l.length := by
  intro pre
  unfold leftP
  induction pre generalizing l with
  | nil => exact ⟨h, Nat.le_refl _⟩
  | cons p pre ih =>
    have h1 : Rising (left1 l p) := rising_drop (rising_del h _) 1
    have h2 : (left1 l p).length ≤ l.length := by
      have := length_del l p.k
      unfold left1
      rw [List.length_drop]
      omega
    obtain ⟨h3, h4⟩ := ih h1
    exact ⟨h3, Nat.le_trans h4 h2⟩
theorem leftP_behind : ∀ (r : List Pair), Rising r → leftP (r.drop 1) r = []
  | [], _ => rfl
  | p :: r, h => by
    obtain ⟨h1, h2⟩ := List.pairwise_cons.1 h
    show leftP (left1 r p) r = []
    have : left1 r p = r.drop 1 := by unfold left1; rw [del_none (has_below h1)]
    rw [this]
    exact leftP_behind r h2
theorem leftP_all {l : List Pair} (h : Rising l) : leftP l l = [] := by
  cases l with
  | nil => rfl
  | cons p r =>
    show leftP (left1 (p :: r) p) r = []
    have : left1 (p :: r) p = r.drop 1 := by unfold left1; rw [del_head h]
    rw [this]
    exact leftP_behind r (List.pairwise_cons.1 h).2
/-! All but the table's block lies as it lay. -/
structure But (B Q : Nat) (w w' : World) : Prop where
  os : w'.os = w.os
  tape : w'.tape = w.tape
  output : w'.output = w.output
  size : w.heap.size ≤ w'.heap.size
  block : ∀ k, k < B → k ≠ Q → w'.heap[k]? = w.heap[k]?
theorem But.refl (B Q : Nat) (w : World) : But B Q w w := ⟨rfl, rfl, rfl, Nat.le_refl _, fun _ _ _ => rfl⟩
theorem But.trans {B Q : Nat} {a b c : World} (h : But B Q a b) (k : But B Q b c) : But B Q a c := ⟨k.os.trans h.os, k.tape.trans h.tape, k.output.trans h.output, Nat.le_trans h.size k.size, fun i h1 h2 => (k.block i h1 h2).trans (h.block i h1 h2)⟩
theorem but_below {B Q : Nat} {w w' : World} (h : Below B w w') : But B Q w w' := ⟨h.os, h.tape, h.output, h.size, fun k h1 _ => h.block k h1⟩
theorem but_grown {B Q : Nat} {w w' : World} (hB : B ≤ w.heap.size) (h : w.grownBy w' (some Q)) : But B Q w w' := ⟨h.os, h.tape, h.output, h.size, fun k h1 h2 => h.block k (by omega) (fun e => h2 (by cases e; rfl))⟩
theorem cells_stay {X Y : World} {row : Option Nat} {D k : Nat} {o : Obj} (hg : X.grownBy Y row) (hr : ∀ r, row = some r → D ≤ r ∧ ∃ o : Obj, X.heap[r]? = some o ∧ o.isCells = false) (hk : X.heap[k]? = some o) (hc : o.isCells = true) : Y.heap[k]? = X.heap[k]? :=
  hg.block k (Array.getElem?_eq_some_iff.1 hk).1 (fun e => by
    obtain ⟨_, o2, h1, h2⟩ := hr k e.symm
    rw [hk] at h1
    cases h1
    rw [hc] at h2
    cases h2)
theorem others_of {X Y : World} {row : Option Nat} (hg : X.grownBy Y row) (hc : ∀ r, row = some r → ∃ o : Obj, X.heap[r]? = some o ∧ o.isCells = true) : KeepsOthers X Y :=
  ⟨hg.size, fun k o hk ho => (hg.block k (Array.getElem?_eq_some_iff.1 hk).1 (fun e => by
    obtain ⟨o2, h1, h2⟩ := hc k e.symm
    rw [hk] at h1
    cases h1
    rw [ho] at h2
    cases h2)).trans hk⟩
/-- The table and its two lists, and nothing else. -/
def Me (Q : Nat) (ks vs : Value) (k : Nat) : Prop := k = Q ∨ Two ks vs k
theorem PTV.me {w : World} {Q : Nat} {F : Nat → Prop} {l : List Pair} {ks vs : Value} (h : PTV w Q F l ks vs) : PTV w Q (Me Q ks vs) l ks vs :=
  ⟨h.head, h.keys, h.vals, .inl rfl, fun q hq => ⟨.inr (.inl hq), (h.kb q hq).2⟩, fun q hq => ⟨.inr (.inr hq), (h.vb q hq).2⟩, fun k hk => by
    rcases hk with rfl | hk
    · exact h.lt _ h.self
    · exact h.lt k (h.two k hk).1⟩
/-- What stands between two rounds: the pairs that came, and the table with what is left. -/
structure Gone (w : World) (Q Bt Bo : Nat) (l : List Pair) (pre : List Pair) (W : World) : Prop where
  out : ∃ v, Boxed W Bo 29 v ∧ W.ownsRow w.heap.size 42 5 v pre.length (cells pre) ∧ ∃ ks vs, PTV W Q (Me Q ks vs) (leftP l pre) ks vs ∧ ∀ k, Two ks vs k → k ≠ Bo ∧ v.ownBlock ≠ some k
  box : Boxed W Bt 24 (ptr Q)
  but : But w.heap.size Q w W
theorem Gone.own {w : World} {Q Bt Bo D : Nat} {l : List Pair} (hD : w.heap.size ≤ D) : OwnFrom D (Gone w Q Bt Bo l) := fun pre A B row h hg hr => by
  obtain ⟨v, hv, hrow, ks, vs, hp, hsep⟩ := h.out
  refine ⟨⟨v, (cells_stay hg hr hv rfl).trans hv, own_same hrow (fun q hq => ?_), ks, vs, hp.keep hg.size (fun k hk => ?_), hsep⟩, (cells_stay hg hr h.box rfl).trans h.box, ⟨hg.os.trans h.but.os, hg.tape.trans h.but.tape, hg.output.trans h.but.output, Nat.le_trans h.but.size hg.size, fun k h1 h2 => (hg.block k (Nat.lt_of_lt_of_le h1 h.but.size) (fun e => by have := (hr k e.symm).1; omega)).trans (h.but.block k h1 h2)⟩⟩
  · rcases hrow.2 with ⟨h1, _⟩ | ⟨g, cap, cur, h1, _, h2, _⟩
    · rw [h1] at hq; cases hq
    · rw [h1] at hq
      cases hq
      exact cells_stay hg hr h2 rfl
  · rcases hk with rfl | hk
    · exact cells_stay hg hr hp.head rfl
    · obtain ⟨o, ho, hc⟩ := hp.tl.two k hk
      exact cells_stay hg hr ho hc
theorem del_me {Q : Nat} {L : List Pair} {ks vs : Value} (k : Key) (W : World) (h : PTV W Q (Me Q ks vs) L ks vs) (hr : Rising L) (hl : L.length ≤ 1000) :
    Calls Try.prog 21 #[ptr Q, kV k] W fun e w' => e = .returned (.bool (has L k)) ∧ Hid (∃ ks2 vs2, PTV w' Q (Me Q ks2 vs2) (del L k) ks2 vs2 ∧ W.grownBy w' (some Q) ∧ ∀ j, Two ks2 vs2 j → Two ks vs j ∨ W.heap.size ≤ j) := by
  refine (del_im k W ⟨ks, vs, h⟩ hr hl).mono ?_
  rintro e w' ⟨rfl, F', ⟨ks2, vs2, h2⟩, hg, hF⟩
  refine ⟨rfl, Lib.hid ⟨ks2, vs2, h2.me, hg, fun j hj => ?_⟩⟩
  obtain ⟨h3, h4⟩ := h2.two j hj
  rcases hF j h3 with (h5 | h5) | h5
  · exact absurd h5 h4
  · exact .inl h5
  · exact .inr h5
/-- A row and a box behind a turn of the table's block. -/
theorem Gone.start {w X : World} {Q Bt Bo : Nat} {l : List Pair} {ks vs : Value} (h : PTV X Q (Me Q ks vs) l ks vs) (hb : Below w.heap.size w X) (hk : ∀ k, Two ks vs k → k < w.heap.size) (hBo : w.heap.size ≤ Bo) (h1 : Boxed X Bo 29 (.slice none 0 0)) (h2 : Boxed X Bt 24 (ptr Q)) : Gone w Q Bt Bo l [] X :=
  ⟨⟨_, h1, World.ownsRow_nil _ _ _ _, ks, vs, h, fun k h3 => ⟨by have := hk k h3; omega, by simp [Value.ownBlock]⟩⟩, h2, but_below hb⟩
set_option maxRecDepth 100000 in
set_option maxHeartbeats 8000000 in
theorem gone_any {Q : Nat} {F : Nat → Prop} {l : List Pair} (w : World) (h : PT w Q F l) (hr : Rising l) (hl : l.length ≤ 1000) :
    Calls Try.prog 23 #[ptr Q] w fun e w' => ∃ v, e = .returned v ∧ Own w' w.heap.size v l ∧ (∃ F', PT w' Q F' []) ∧ But w.heap.size Q w w' := by
  obtain ⟨i0, hi, hz0, hz1, hz2⟩ := info_parts info_pair
  obtain ⟨ks0, vs0, hv0⟩ := h
  have hQ : Q < w.heap.size := hv0.lt Q hv0.self
  have hRlt : ∀ k, Two ks0 vs0 k → k < w.heap.size := hv0.tl.two_lt
  have hRQ : ∀ k, Two ks0 vs0 k → k ≠ Q := fun k hk => (hv0.two k hk).2
  obtain ⟨X, hX⟩ : ∃ X, (w.alloc (.cells #[ptr Q] 24)).alloc (.cells #[.slice none 0 0] 29) = X := ⟨_, rfl⟩
  have hbX : Below w.heap.size w X := by rw [← hX]; exact ((Below.refl _ w).alloc (Nat.le_refl _) _).alloc (by simp) _
  have hbt : Boxed X w.heap.size 24 (ptr Q) := by
    unfold Boxed
    rw [← hX, Below.heap_alloc _ _ _ (by simp)]
    exact heap_alloc_new w _
  have hbo : Boxed X (w.heap.size + 1) 29 (.slice none 0 0) := by
    unfold Boxed
    rw [← hX]
    have := heap_alloc_new (w.alloc (.cells #[ptr Q] 24)) (.cells #[.slice none 0 0] 29)
    simpa using this
  have hc0 := hbt.cell
  have HC := Lib.hid (all_tl X (hv0.under hbX).tl hl)
  have HV := Lib.hid hv0; have HRL := Lib.hid hRlt; have HRQ := Lib.hid hRQ; have HBX := Lib.hid hbX; have HBT := Lib.hid hbt; have HBO := Lib.hid hbo; have HR := Lib.hid hr; have HQ := Lib.hid hQ; have HLL := Lib.hid hl
  clear hv0 hQ hRlt hRQ hbX hbt hbo hr hl
  refine (callsIn_wide (n := 6)).1 ?_
  refine callsIn_of_wp_marks Try.func23 rfl trivial ?_ rfl
  simp only [Try.ntmps23, List.size_toArray, List.length_cons, List.length_nil, Nat.reduceAdd, Nat.reduceSub, Array.replicate_succ, Array.replicate_zero, List.push_toArray, List.append_toArray, List.nil_append, List.cons_append]
  gi_wp2_with (refine ⟨trivial, ?_⟩; gi_at_call 30; refine (callsIn_wide.2 HC.out).mono ?_; rintro e w1 ⟨gf, lb, rfl, H1⟩; have hnil := seq_nil gf lb w1)
  clear hX
  obtain ⟨hb1, eg, hgo⟩ := H1.out
  have hB1 : Below w.heap.size w w1 := below_then HBX.out hb1
  have bT : Boxed w1 w.heap.size 24 (ptr Q) := (hb1.block _ HBT.out.lt).trans HBT.out
  have bO : Boxed w1 (w.heap.size + 1) 29 (.slice none 0 0) := (hb1.block _ HBO.out.lt).trans HBO.out
  have hlt1 : w.heap.size + 1 < w1.heap.size := bO.lt
  clear hnil hc0
  refine wpIn_rangeFunc_ownH rfl (by omega) (gf := gf) (lb := lb) rfl trivial eg
    (hgo (6 - 1) (by omega)) Keep.trans (keep_b (fun k hk => by have := HRL.out k hk; omega)) (Below.refl _ _) (fun _ => rfl)
    (Gone w Q w.heap.size (w.heap.size + 1) l)
    (fun _ _ _ => False)
    (Gone.own (by omega))
    (fun _ _ _ _ _ hs _ _ => hs)
    (Gone.start (HV.out.under hB1).me hB1 HRL.out (by omega) bO bT)
    (fun x a' W => ∃ Bx, w.heap.size + 1 < Bx ∧ W.heap[Bx]? = some (.cells x.k.cells 38 (0, 0)) ∧ a' = { tmps := #[ptr Q, .pointer (some ⟨w.heap.size, 0, none⟩), .slice none 0 0, .pointer (some ⟨w.heap.size + 1, 0, none⟩), .func (.func gf) #[] lb, .pointer (some ⟨Bx, 0, none⟩), .int .i64 x.v, undef, undef, undef, ptr Q, .func (.func gf) #[] lb, .func (.func gf) #[] lb, .bool false, .func (.func gf) #[] lb, kV x.k, .int .i64 x.v, undef, undef, undef, undef, undef, undef, undef, undef, undef, undef, undef, undef, undef, undef, undef, undef, undef, undef, undef, undef], defers := [] })
    (fun x a' _ X Y row hs hg hr => by
      obtain ⟨Bx, h1, h2, h3⟩ := hs
      exact ⟨Bx, h1, (cells_stay hg hr h2 rfl).trans h2, h3⟩)
    ?assign ?body ?done ?stop
  case assign =>
    rintro lo pre x W K hG hK
    have hsz := hG.but.size
    obtain ⟨v, hv, _⟩ := hG.out
    have hlv := hv.lt
    gi_wp2
    exact hK _ _ ((KeepsOthers.alloc _ _).from _) (keep_below (B := w.heap.size) HRL.out ((Below.refl _ W).alloc hsz _)) ((Gone.own (Nat.le_refl w.heap.size)).alloc _ hG) ⟨W.heap.size, hlv, heap_alloc_new W _, rfl⟩
  case body =>
    rintro lo pre x a' W hlo ⟨r, hrr⟩ hG ⟨Bx, hBx, hbx, rfl⟩ hlt
    obtain ⟨v, hv, hrow, ks, vs, hpt, hsep⟩ := hG.out
    have hQ := HQ.out
    have hsz := hG.but.size
    obtain ⟨hLr, hLl⟩ := leftP_ok HR.out pre
    obtain ⟨L, hL⟩ : ∃ L, leftP l pre = L := ⟨_, rfl⟩
    rw [hL] at hpt hLr hLl
    have hLl2 : L.length ≤ 1000 := Nat.le_trans hLl HLL.out
    obtain ⟨b1, hb1⟩ : ∃ b, has L x.k = b := ⟨_, rfl⟩
    have HD1 := Lib.hid (del_me x.k W hpt hLr hLl2)
    rw [hb1] at HD1
    have hct := hG.box.cell
    have k0 : W.cell? ⟨Bx, 0, none⟩ = some (.int .i64 x.k.a) := key_at hbx 0 (by omega)
    have k1 : W.cell? ⟨Bx, 1, none⟩ = some (.int .i64 x.k.b) := key_at hbx 1 (by omega)
    have k2 : W.cell? ⟨Bx, 2, none⟩ = some (.int .i64 x.k.c) := key_at hbx 2 (by omega)
    have k3 : W.cell? ⟨Bx, 3, none⟩ = some (.int .i64 x.k.d) := key_at hbx 3 (by omega)
    -- What stays of a world while the table's block turns.
    have HST : Hid (∀ V, KeepsOthers W V → But W.heap.size Q W V → Boxed V (w.heap.size + 1) 29 v ∧ V.ownsRow w.heap.size 42 5 v pre.length (cells pre) ∧ Boxed V w.heap.size 24 (ptr Q) ∧ V.heap[Bx]? = some (.cells x.k.cells 38 (0, 0)) ∧ But w.heap.size Q w V) := Lib.hid (fun V _ hV => by
      have hBxl := (Array.getElem?_eq_some_iff.1 hbx).1
      refine ⟨(hV.block _ hv.lt (by omega)).trans hv, own_same hrow (fun q hq => hV.block q (hrow.lt q hq).2 (by have := (hrow.lt q hq).1; omega)), (hV.block _ hG.box.lt (by omega)).trans hG.box, (hV.block _ hBxl (by omega)).trans hbx, hG.but.trans ⟨hV.os, hV.tape, hV.output, hV.size, fun k h1 h2 => hV.block k (by omega) h2⟩⟩)
    -- What comes of the append.
    have HEND : Hid (∀ (V E : World) (tmp : Obj) (w5 : World) (v' : Value) (ks2 vs2 : Value), KeepsOthers W V → But W.heap.size Q W V → PTV V Q (Me Q ks2 vs2) (leftP l (pre ++ [x])) ks2 vs2 → (∀ j, Two ks2 vs2 j → Two ks vs j ∨ W.heap.size ≤ j) →
        (V.alloc tmp).grownBy w5 v.ownBlock → E = w5.setCell ⟨w.heap.size + 1, 0, none⟩ v' → (v'.ownBlock = v.ownBlock ∨ v'.ownBlock = some (V.alloc tmp).heap.size) → KeepsOthers V E → Below w.heap.size V E → Boxed E (w.heap.size + 1) 29 v' → E.ownsRow w.heap.size 42 5 v' (pre ++ [x]).length (cells (pre ++ [x])) →
        KeepsFrom w1.heap.size W E ∧ Keep (Two ks0 vs0) W E ∧ Gone w Q w.heap.size (w.heap.size + 1) l (pre ++ [x]) E) := Lib.hid (fun V E tmp w5 v' ks2 vs2 hko hbut hp2 hnew hgr hE hat hko2 hbE hbox hrow2 => by
      obtain ⟨g1, g2, g3, g4, g5⟩ := HST.out V hko hbut
      have hsV : W.heap.size ≤ V.heap.size := hbut.size
      have same : ∀ k, k < V.heap.size → k ≠ w.heap.size + 1 → v.ownBlock ≠ some k → E.heap[k]? = V.heap[k]? := fun k h1 h2 h3 => by
        rw [hE]
        have q1 := (grownBy_setCell' w5 (w.heap.size + 1) v').block k (by have := hgr.size; simp at this; omega) (fun e => h2 (by cases e; rfl))
        have q2 := hgr.block k (by simp; omega) (fun e => h3 e.symm)
        exact q1.trans (q2.trans (Below.heap_alloc V tmp k h1))
      have hsep2 : ∀ k, Two ks2 vs2 k → k ≠ w.heap.size + 1 ∧ v.ownBlock ≠ some k := fun k hk => by
        rcases hnew k hk with h1 | h1
        · exact hsep k h1
        · exact ⟨by have := hv.lt; omega, fun e => by have := (hrow.lt k e).2; omega⟩
      have hvQ : v.ownBlock ≠ some Q := fun e => by have := (hrow.lt Q e).1; omega
      refine ⟨(hko.trans hko2).from _, ⟨Nat.le_trans hsV hbE.size, fun k hk => ?_⟩, ⟨⟨v', hbox, hrow2, ks2, vs2, hp2.keep hbE.size (fun k hk => ?_), fun k hk => ⟨(hsep2 k hk).1, fun e => ?_⟩⟩, ?_, g5.trans (but_below hbE)⟩⟩
      · have h1 := HRL.out k hk
        exact (hbE.block k h1).trans (hbut.block k (by omega) (HRQ.out k hk))
      · rcases hk with rfl | hk
        · exact same _ (by omega) (by omega) hvQ
        · exact same k (hp2.tl.two_lt k hk) (hsep2 k hk).1 (hsep2 k hk).2
      · have h1 := hp2.tl.two_lt k hk
        rcases hat with h2 | h2
        · exact (hsep2 k hk).2 (h2 ▸ e)
        · rw [e] at h2
          have h3 : k = (V.alloc tmp).heap.size := by simpa using h2
          simp at h3
          omega
      · refine (same _ g3.lt (by omega) (fun e => ?_)).trans g3
        rcases hrow.2 with ⟨h1, _⟩ | ⟨g, cap, cur, h1, _, h2, _⟩
        · rw [h1] at e; cases e
        · rw [h1] at e
          cases e
          have h6 : some (Obj.cells cur 42 (0, 0)) = some (Obj.cells #[ptr Q] 24 (0, 0)) := Eq.trans (Eq.symm h2) hG.box
          cases h6)
    have hpre : pre.length ≤ 1000 := by have := HLL.out; omega
    gi_wp2
    refine ⟨trivial, (CallsIn.inRound lo (callsIn_wide.2 HD1.out)).mono ?_⟩
    rintro e w2 ⟨rfl, H2⟩
    obtain ⟨ks1, vs1, hp1, hg1, hn1⟩ := H2.out
    have ko1 : KeepsOthers W w2 := others_of hg1 (fun r e => by cases e; exact ⟨_, hpt.head, rfl⟩)
    have bt1 : But W.heap.size Q W w2 := but_grown (Nat.le_refl _) hg1
    obtain ⟨s1, s2, s3, s4, s5⟩ := HST.out w2 ko1 bt1
    have hd1 : Rising (del L x.k) := rising_del hLr _
    have hd2 : (del L x.k).length ≤ 1000 := by have := length_del L x.k; omega
    obtain ⟨L1, hL1⟩ : ∃ L1, del L x.k = L1 := ⟨_, rfl⟩
    rw [hL1] at hp1 hd1 hd2
    have hleft : leftP l (pre ++ [x]) = L1.drop 1 := by rw [leftP_snoc, hL, hL1]
    have hct2 := s3.cell
    have hsz2 : w.heap.size ≤ w2.heap.size := Nat.le_trans hsz hg1.size
    cases L1 with
    | nil =>
      have HA : Hid (Calls Try.prog 15 #[ptr Q, .int .i64 0] w2 fun e w' => ∃ nk : Key, ∃ nx : Int, e = .returned (.tuple #[kV nk, .int .i64 nx, .bool false]) ∧ Hid (Below w2.heap.size w2 w')) := Lib.hid ((at_im 0 w2 ⟨ks1, vs1, hp1⟩).mono (fun e w' ⟨h1, h2⟩ => ⟨zeroKey, 0, h1, Lib.hid h2⟩))
      gi_wp2
      refine ⟨trivial, (CallsIn.inRound lo (callsIn_wide.2 HA.out)).mono ?_⟩
      rintro e w3 ⟨nk, nx, rfl, H3⟩
      obtain ⟨Z, hZ⟩ : ∃ Z, w3.alloc (.cells #[.int .i64 nk.a, .int .i64 nk.b, .int .i64 nk.c, .int .i64 nk.d] 38) = Z := ⟨_, rfl⟩
      have bZ : Below w2.heap.size w2 Z := by rw [← hZ]; exact H3.out.alloc H3.out.size _
      have koZ : KeepsOthers W Z := ko1.trans (others_of (row := none) (grown_of bZ) (fun r e => by cases e))
      have btZ : But W.heap.size Q W Z := bt1.trans (but_below (bZ.mono hg1.size))
      obtain ⟨hvZ, hrowZ, hTZ, hKZ, _⟩ := HST.out Z koZ btZ
      have hszZ : w.heap.size ≤ Z.heap.size := Nat.le_trans hsz2 bZ.size
      have hcZ := hvZ.cell
      have z0 : Z.cell? ⟨Bx, 0, none⟩ = some (.int .i64 x.k.a) := key_at hKZ 0 (by omega)
      have z1 : Z.cell? ⟨Bx, 1, none⟩ = some (.int .i64 x.k.b) := key_at hKZ 1 (by omega)
      have z2 : Z.cell? ⟨Bx, 2, none⟩ = some (.int .i64 x.k.c) := key_at hKZ 2 (by omega)
      have z3 : Z.cell? ⟨Bx, 3, none⟩ = some (.int .i64 x.k.d) := key_at hKZ 3 (by omega)
      gi_wp2_with (gi_at_builtin; go_loud (refine wpListIn_append_own_at _ rfl _ _ 29 rfl w.heap.size 42 i0 zeroPair 5 40 Try.underlying29 hi hz0 hz1 hz2 rfl (by decide) _ _ _ rfl (hrowZ.alloc _) ⟨Z.heap.size, 0, none⟩ 1 1 (pairCells x) rfl rfl (src_one Z x _) (pair_one x) (by unfold maxLen; omega) (by omega) (by have := hszZ; simp; omega) ?_); intro v' w5 hown' hgrow _ hat; obtain ⟨g', cap', rfl⟩ := ownsRow_succ hown'; obtain ⟨hv1, hv2, hr2, hk2, hb2⟩ := hvZ.appended (by decide) hrowZ hszZ (by omega) hown' hgrow; have hc1 := hv1.cell; have hf1 := hv1.frozen)
      exact HEND.out Z _ _ w5 _ ks1 vs1 koZ btZ (by rw [hleft]; exact hp1.under bZ) hn1 hgrow rfl hat hk2 hb2 hv2 (by rw [cells_snoc, List.length_append]; exact hr2)
    | cons p rest =>
      have HA : Hid (Calls Try.prog 15 #[ptr Q, .int .i64 0] w2 fun e w' => ∃ nx : Int, e = .returned (.tuple #[kV p.k, .int .i64 nx, .bool true]) ∧ Hid (Below w2.heap.size w2 w')) := Lib.hid ((at_yes 0 p w2 ⟨ks1, vs1, hp1⟩ rfl).mono (fun e w' ⟨h1, h2⟩ => ⟨p.v, h1, Lib.hid h2⟩))
      gi_wp2
      refine ⟨trivial, (CallsIn.inRound lo (callsIn_wide.2 HA.out)).mono ?_⟩
      rintro e w3 ⟨nx, rfl, H3⟩
      obtain ⟨Z, hZ⟩ : ∃ Z, w3.alloc (.cells #[.int .i64 p.k.a, .int .i64 p.k.b, .int .i64 p.k.c, .int .i64 p.k.d] 38) = Z := ⟨_, rfl⟩
      have bZ : Below w2.heap.size w2 Z := by rw [← hZ]; exact H3.out.alloc H3.out.size _
      have nZ : Z.heap[w3.heap.size]? = some (.cells p.k.cells 38 (0, 0)) := by rw [← hZ]; exact heap_alloc_new w3 _
      have koZ : KeepsOthers W Z := ko1.trans (others_of (row := none) (grown_of bZ) (fun r e => by cases e))
      have btZ : But W.heap.size Q W Z := bt1.trans (but_below (bZ.mono hg1.size))
      obtain ⟨_, _, hTZ, _, _⟩ := HST.out Z koZ btZ
      have hcZ := hTZ.cell
      have z0 : Z.cell? ⟨w3.heap.size, 0, none⟩ = some (.int .i64 p.k.a) := key_at nZ 0 (by omega)
      have z1 : Z.cell? ⟨w3.heap.size, 1, none⟩ = some (.int .i64 p.k.b) := key_at nZ 1 (by omega)
      have z2 : Z.cell? ⟨w3.heap.size, 2, none⟩ = some (.int .i64 p.k.c) := key_at nZ 2 (by omega)
      have z3 : Z.cell? ⟨w3.heap.size, 3, none⟩ = some (.int .i64 p.k.d) := key_at nZ 3 (by omega)
      have hpZ := hp1.under bZ
      obtain ⟨b2, hb2'⟩ : ∃ b, has (p :: rest) p.k = b := ⟨_, rfl⟩
      have HD2 := Lib.hid (del_me p.k Z hpZ hd1 hd2)
      rw [hb2'] at HD2
      gi_wp2
      refine ⟨trivial, (CallsIn.inRound lo (callsIn_wide.2 HD2.out)).mono ?_⟩
      rintro e w4 ⟨rfl, H4⟩
      obtain ⟨ks2, vs2, hp2, hg2, hn2⟩ := H4.out
      rw [del_head hd1] at hp2
      have ko4 : KeepsOthers W w4 := koZ.trans (others_of hg2 (fun r e => by cases e; exact ⟨_, hpZ.head, rfl⟩))
      have bt4 : But W.heap.size Q W w4 := btZ.trans (but_grown (Nat.le_trans hg1.size bZ.size) hg2)
      obtain ⟨hv4, hrow4, _, hK4, _⟩ := HST.out w4 ko4 bt4
      have hsz4 : w.heap.size ≤ w4.heap.size := Nat.le_trans hsz bt4.size
      have hc4 := hv4.cell
      have y0 : w4.cell? ⟨Bx, 0, none⟩ = some (.int .i64 x.k.a) := key_at hK4 0 (by omega)
      have y1 : w4.cell? ⟨Bx, 1, none⟩ = some (.int .i64 x.k.b) := key_at hK4 1 (by omega)
      have y2 : w4.cell? ⟨Bx, 2, none⟩ = some (.int .i64 x.k.c) := key_at hK4 2 (by omega)
      have y3 : w4.cell? ⟨Bx, 3, none⟩ = some (.int .i64 x.k.d) := key_at hK4 3 (by omega)
      gi_wp2_with (gi_at_builtin; go_loud (refine wpListIn_append_own_at _ rfl _ _ 29 rfl w.heap.size 42 i0 zeroPair 5 40 Try.underlying29 hi hz0 hz1 hz2 rfl (by decide) _ _ _ rfl (hrow4.alloc _) ⟨w4.heap.size, 0, none⟩ 1 1 (pairCells x) rfl rfl (src_one w4 x _) (pair_one x) (by unfold maxLen; omega) (by omega) (by have := hsz4; simp; omega) ?_); intro v' w5 hown' hgrow _ hat; obtain ⟨g', cap', rfl⟩ := ownsRow_succ hown'; obtain ⟨hv1, hv2, hr2, hk2, hb2⟩ := hv4.appended (by decide) hrow4 hsz4 (by omega) hown' hgrow; have hc1 := hv1.cell; have hf1 := hv1.frozen)
      exact HEND.out w4 _ _ w5 _ ks2 vs2 ko4 bt4 (by rw [hleft]; exact hp2) (fun j hj => by
        rcases hn2 j hj with h1 | h1
        · exact hn1 j h1
        · exact .inr (Nat.le_trans btZ.size h1)) hgrow rfl hat hk2 hb2 hv2 (by rw [cells_snoc, List.length_append]; exact hr2)
  case done =>
    rintro D ys W hD rfl hG hK
    obtain ⟨v, hv, hrow, ks, vs, hpt, hsep⟩ := hG.out
    have hc := hv.cell
    have hG2 := (Gone.own (Nat.le_refl w.heap.size)).putObj (.deferred none) hG (by omega) hK rfl
    obtain ⟨v2, hv2, hrow2, ks2, vs2, hpt2, _⟩ := hG2.out
    have hvv : v2 = v := by
      have h1 := hv.kept (grownBy_putObj' W D (.deferred none)) (fun e => by
        cases e
        rw [show W.heap[w.heap.size + 1]? = _ from hv] at hK
        cases hK)
      have h2 : some (Obj.cells #[v2] 29 (0, 0)) = some (Obj.cells #[v] 29 (0, 0)) := Eq.trans (Eq.symm hv2) h1
      cases h2
      rfl
    subst hvv
    gi_wp2
    refine ⟨by simp, .inl ⟨_, _, rfl, run_takeDeferred hK, ?_⟩⟩
    rw [leftP_all HR.out] at hpt2
    exact ⟨_, results_tmp rfl _ _ _, v2, rfl, hrow2, ⟨_, ks2, vs2, hpt2⟩, hG2.but⟩
  case stop =>
    rintro D c pre W _ _ h _
    exact h.elim
end Go.Proofs.Ytighjiiaplihjaa.Tab.Im
