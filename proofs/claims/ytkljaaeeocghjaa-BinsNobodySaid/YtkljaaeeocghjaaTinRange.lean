/- The program's Range: the part of a table between two keys, and what who goes over it may count on. -/
import Derived.Test.YtkljaaeeocghjaaTinImN
import Derived.Test.YtkljaaeeocghjaaTinImE
import Derived.Test.YtkljaaeeocghjaaTinImF
namespace Go.Proofs.Ytkljaaeeocghjaa.Tab.Im
open Go.RowKit Go.Lib Go.Shelf
attribute [local go_sem] Oper.semAt_some

theorem place_idx {l : List Pair} (hr : Rising l) (k : Key) (i : Nat) (p : Pair) (hp : l[i]? = some p) : i < place l k ↔ cmp p.k k < 0 := by
  obtain ⟨A, B, hA, hB, hpl, hc⟩ := rising_split k hr
  rw [hpl]
  have hx : ∀ x, cmp k x < 0 → ¬ cmp x k < 0 := fun x h => by have := cmp_swap k x; omega
  rcases hc with ⟨_, rfl⟩ | ⟨_, v, rfl⟩
  · rcases Nat.lt_or_ge i A.length with h | h
    · rw [List.getElem?_append_left h] at hp
      exact ⟨fun _ => hA p (List.mem_of_getElem? hp), fun _ => h⟩
    · rw [List.getElem?_append_right h] at hp
      exact ⟨fun h2 => by omega, fun h2 => absurd h2 (hx _ (hB p (List.mem_of_getElem? hp)))⟩
  · rcases Nat.lt_or_ge i A.length with h | h
    · rw [List.getElem?_append_left h] at hp
      exact ⟨fun _ => hA p (List.mem_of_getElem? hp), fun _ => h⟩
    · rw [List.getElem?_append_right h] at hp
      refine ⟨fun h2 => by omega, fun h2 => ?_⟩
      rcases List.mem_cons.1 (List.mem_of_getElem? hp) with rfl | hm
      · have h3 : cmp k k = 0 := cmp_zero.2 rfl
        have h4 : cmp k k < 0 := h2
        omega
      · exact absurd h2 (hx _ (hB p hm))
/-- Those between two keys stand side by side. -/
theorem between_part {l : List Pair} (hr : Rising l) (x y : Key) (f e : Nat) (hf : place l x = f) (he : e = max f (place l y)) : l.filter (within x y) = (l.take e).drop f := by
  have hfe : f ≤ e := by omega
  have hpl := place_le l x
  have hpy := place_le l y
  have hsplit : l = l.take f ++ ((l.take e).drop f ++ l.drop e) := by
    have h1 : l.take e = l.take f ++ (l.take e).drop f := by
      have h2 := (List.take_append_drop f (l.take e)).symm
      rw [List.take_take, Nat.min_eq_left hfe] at h2
      exact h2
    rw [← List.append_assoc, ← h1, List.take_append_drop]
  have hidx : ∀ i (hi : i < l.length), (i < f ↔ cmp l[i].k x < 0) ∧ (i < place l y ↔ cmp l[i].k y < 0) := fun i hi => ⟨by rw [← hf]; exact place_idx hr x i _ (List.getElem?_eq_getElem hi), place_idx hr y i _ (List.getElem?_eq_getElem hi)⟩
  have h1 : (l.take f).filter (within x y) = [] := List.filter_eq_nil_iff.2 (fun p hp => by
    obtain ⟨i, hi, rfl⟩ := List.getElem_of_mem hp
    rw [List.length_take] at hi
    rw [List.getElem_take]
    have := (hidx i (by omega)).1.1 (by omega)
    unfold within
    simp
    omega)
  have h3 : (l.drop e).filter (within x y) = [] := List.filter_eq_nil_iff.2 (fun p hp => by
    obtain ⟨i, hi, rfl⟩ := List.getElem_of_mem hp
    rw [List.length_drop] at hi
    rw [List.getElem_drop]
    have h4 := (hidx (e + i) (by omega)).2
    have h5 : ¬ cmp l[e + i].k y < 0 := fun h => by have := h4.2 h; omega
    unfold within
    simp
    omega)
  have h2 : ((l.take e).drop f).filter (within x y) = (l.take e).drop f := List.filter_eq_self.2 (fun p hp => by
    obtain ⟨i, hi, rfl⟩ := List.getElem_of_mem hp
    rw [List.length_drop, List.length_take] at hi
    rw [List.getElem_drop, List.getElem_take]
    have h4 := hidx (f + i) (by omega)
    have h5 : ¬ cmp l[f + i].k x < 0 := fun h => by have := h4.1.2 h; omega
    have h6 := h4.2.1 (by omega)
    unfold within
    simp
    omega)
  have h4 : l.filter (within x y) = (l.take f ++ ((l.take e).drop f ++ l.drop e)).filter (within x y) := by rw [← hsplit]
  rw [h4, List.filter_append, List.filter_append, h1, h2, h3, List.nil_append, List.append_nil]
/-- A part of two lists, read. -/
theorem Reads.part {w : World} {R : Nat → Prop} {l : List Pair} {a b : Option Addr} {c d : Nat} (h : Reads w R l (.slice a l.length c) (.slice b l.length d)) (f e : Nat) (hfe : f ≤ e) (hel : e ≤ l.length) :
    Reads w R ((l.take e).drop f) (.slice (if e = f then a else a.map (·.add (f * 4))) (e - f) (e - f)) (.slice (if e = f then b else b.map (·.add (f * 1))) (e - f) (e - f)) := by
  obtain ⟨a', c', b', d', e1, e2, _, _, hat⟩ := h
  injection e1 with e1 _ _
  injection e2 with e2 _ _
  subst e1; subst e2
  have hlen : ((l.take e).drop f).length = e - f := by rw [List.length_drop, List.length_take]; omega
  refine ⟨_, _, _, _, by rw [hlen], by rw [hlen], by omega, by omega, fun i p hp => ?_⟩
  have hi := (List.getElem?_eq_some_iff.1 hp).1
  rw [hlen] at hi
  have hp2 : l[f + i]? = some p := by
    rw [List.getElem?_drop, List.getElem?_take_of_lt (by omega)] at hp
    exact hp
  obtain ⟨g, o, k, u, rfl, rfl, r1, r2, q0, q1, q2, q3, q4⟩ := hat (f + i) p hp2
  refine ⟨g, o + f * 4, k, u + f * 1, ?_, ?_, r1, r2, ?_⟩
  · rw [if_neg (by omega)]
    simp [addr_add]
  · rw [if_neg (by omega)]
    simp [addr_add]
  · rw [show o + f * 4 + i * 4 = o + (f + i) * 4 by omega, show u + f * 1 + i = u + (f + i) by omega]
    exact ⟨q0, q1, q2, q3, q4⟩
theorem TL.slices {w : World} {q : Option Addr} {l : List Pair} {ks vs : Value} (h : TL w q l ks vs) : ∃ a c b d, ks = .slice a l.length c ∧ vs = .slice b l.length d ∧ l.length ≤ c ∧ l.length ≤ d := by
  obtain ⟨a, c, e1, h1, _⟩ := rowK h.keys
  obtain ⟨b, d, e2, h2, _⟩ := rowI h.vals
  rw [len_keys] at e1 h1
  rw [len_vals] at e2 h2
  exact ⟨a, c, b, d, e1, e2, h1, h2⟩
set_option maxRecDepth 100000 in
set_option maxHeartbeats 8000000 in
theorem between_tl {q : Option Addr} {R : Nat → Prop} {l : List Pair} {ks vs : Value} (x y : Key) (w : World) (h : TL w q l ks vs) (hT : Reads w R l ks vs) (hR : ∀ k, R k → k < w.heap.size) (hr : Rising l) (hl : l.length ≤ 1000) :
    Calls Try.prog 57 #[.pointer q, kV x, kV y] w fun e w' => ∃ Q k2 v2, e = .returned (ptr Q) ∧ Below w.heap.size w w' ∧ w'.heap[Q]? = some (.cells #[k2, v2] 60 (0, 0)) ∧ Reads w' R (l.filter (within x y)) k2 v2 := by
  obtain ⟨i0, hi, hz0, hz1, hz2⟩ := info_parts info_key
  obtain ⟨i1, hj, hy0, hy1, hy2⟩ := info_parts info_int
  obtain ⟨X, hX⟩ : ∃ X, (w.alloc (.cells #[.int .i64 x.a, .int .i64 x.b, .int .i64 x.c, .int .i64 x.d] 81)).alloc (.cells #[.int .i64 y.a, .int .i64 y.b, .int .i64 y.c, .int .i64 y.d] 81) = X := ⟨_, rfl⟩
  have hY : (w.alloc (.cells x.cells 81)).alloc (.cells y.cells 81) = X := hX
  have hbX : Below w.heap.size w X := by rw [← hX]; exact ((Below.refl _ w).alloc (Nat.le_refl _) _).alloc (by simp) _
  have x0 : X.heap[w.heap.size]? = some (.cells x.cells 81 (0, 0)) := by
    rw [← hY, Below.heap_alloc _ _ _ (by simp)]
    exact heap_alloc_new w _
  have y0 : X.heap[w.heap.size + 1]? = some (.cells y.cells 81 (0, 0)) := by
    rw [← hY]
    have := heap_alloc_new (w.alloc (.cells x.cells 81)) (.cells y.cells 81)
    simpa using this
  have HL := Lib.hid (h.lists X hbX)
  have HH := Lib.hid h; have HT := Lib.hid hT; have HRR := Lib.hid hR; have HR := Lib.hid hr; have HB := Lib.hid hbX
  obtain ⟨a, c, b, d, rfl, rfl, hlc, hld⟩ := h.slices
  obtain ⟨n, hn⟩ : ∃ n, l.length = n := ⟨_, rfl⟩
  have HN := Lib.hid hn
  rw [hn] at HL hlc hld
  obtain ⟨f, hf⟩ : ∃ f, place l x = f := ⟨_, rfl⟩
  obtain ⟨s, hs⟩ : ∃ s, place l y = s := ⟨_, rfl⟩
  have hfn : f ≤ n := by have := place_le l x; omega
  have hsn : s ≤ n := by have := place_le l y; omega
  have HC : Hid (∀ W, Below w.heap.size w W → Calls Try.prog 59 #[.pointer q, kV x] W fun e w' => ∃ b, e = .returned (.tuple #[.int .i64 (f : Nat), .bool b]) ∧ Hid (Below X.heap.size X W → Below X.heap.size X w')) := Lib.hid (fun W hW => by
    refine (place_tl x W (HH.out.under hW) HR.out hl).mono ?_
    rintro e w' ⟨rfl, hb⟩
    unfold placeV
    rw [hf]
    exact ⟨_, rfl, Lib.hid (fun h => below_then h hb)⟩)
  have HD : Hid (∀ W, Below w.heap.size w W → Calls Try.prog 59 #[.pointer q, kV y] W fun e w' => ∃ b, e = .returned (.tuple #[.int .i64 (s : Nat), .bool b]) ∧ Hid (Below X.heap.size X W → Below X.heap.size X w')) := Lib.hid (fun W hW => by
    refine (place_tl y W (HH.out.under hW) HR.out hl).mono ?_
    rintro e w' ⟨rfl, hb⟩
    unfold placeV
    rw [hs]
    exact ⟨_, rfl, Lib.hid (fun h => below_then h hb)⟩)
  have HK : Hid (∀ W, Below X.heap.size X W → (W.cell? ⟨w.heap.size, 0, none⟩ = some (.int .i64 x.a) ∧ W.cell? ⟨w.heap.size, 1, none⟩ = some (.int .i64 x.b) ∧ W.cell? ⟨w.heap.size, 2, none⟩ = some (.int .i64 x.c) ∧ W.cell? ⟨w.heap.size, 3, none⟩ = some (.int .i64 x.d)) ∧
      W.cell? ⟨w.heap.size + 1, 0, none⟩ = some (.int .i64 y.a) ∧ W.cell? ⟨w.heap.size + 1, 1, none⟩ = some (.int .i64 y.b) ∧ W.cell? ⟨w.heap.size + 1, 2, none⟩ = some (.int .i64 y.c) ∧ W.cell? ⟨w.heap.size + 1, 3, none⟩ = some (.int .i64 y.d)) := Lib.hid (fun W hW => by
    have g1 := (hW.block _ (Array.getElem?_eq_some_iff.1 x0).1).trans x0
    have g2 := (hW.block _ (Array.getElem?_eq_some_iff.1 y0).1).trans y0
    exact ⟨⟨key_at g1 0 (by omega), key_at g1 1 (by omega), key_at g1 2 (by omega), key_at g1 3 (by omega)⟩, key_at g2 0 (by omega), key_at g2 1 (by omega), key_at g2 2 (by omega), key_at g2 3 (by omega)⟩)
  obtain ⟨e, he⟩ : ∃ e, e = max f s := ⟨_, rfl⟩
  have hen : e ≤ n := by omega
  have hfe : f ≤ e := by omega
  have hs1 : ∀ W, (Instr.slice 57 (.slice a n c) (some (.int .i64 (f : Nat))) (some (.int .i64 (e : Nat))) (some (.int .i64 (e : Nat)))).run Try.prog W = .ok (.slice (if e = f then a else a.map (·.add (f * 4))) (e - f) (e - f)) W := fun W => run_part_bound (P := Try.prog) W elem_key under_key hi hz1 a n c f e hfe (by omega)
  have hs2 : ∀ W, (Instr.slice 58 (.slice b n d) (some (.int .i64 (f : Nat))) (some (.int .i64 (e : Nat))) (some (.int .i64 (e : Nat)))).run Try.prog W = .ok (.slice (if e = f then b else b.map (·.add (f * 1))) (e - f) (e - f)) W := fun W => run_part_bound (P := Try.prog) W elem_int under_int hj hy1 b n d f e hfe (by omega)
  obtain ⟨k2, hk2⟩ : ∃ k2, (if e = f then a else a.map (·.add (f * 4))) = k2 := ⟨_, rfl⟩
  obtain ⟨v2, hv2⟩ : ∃ v2, (if e = f then b else b.map (·.add (f * 1))) = v2 := ⟨_, rfl⟩
  obtain ⟨m2, hm2⟩ : ∃ m, e - f = m := ⟨_, rfl⟩
  have HP : Hid (∀ W, Below w.heap.size w W → Reads W R (l.filter (within x y)) (.slice k2 m2 m2) (.slice v2 m2 m2)) := Lib.hid (fun W hW => by
    rw [between_part hr x y f e hf (by rw [hs]; exact he), ← hk2, ← hv2, ← hm2]
    exact (HT.out.keep (fun k hk => hW.block k (HRR.out k hk))).part f e hfe (by omega))
  rw [hk2, hm2] at hs1
  rw [hv2, hm2] at hs2
  obtain ⟨⟨p0, p1, p2, p3⟩, p4, p5, p6, p7⟩ := HK.out X (Below.refl _ _)
  have hf0 : (0 : Int) ≤ (f : Int) := by omega
  have hs0 : (0 : Int) ≤ (s : Int) := by omega
  clear h hT hR hr hbX hY x0 y0 hn hf hs hk2 hv2 hm2 hlc hld hi hz0 hz1 hz2 hj hy0 hy1 hy2 hl hen hfn hsn
  go_enter Try.func57, Try.ntmps57
  go_wp2_with fail
  clear hX
  refine HL.out.mono ?_
  rintro e1 w1 ⟨rfl, j, rfl⟩
  have hb1 : Below X.heap.size X (X.drewN j) := below_drewN (Below.refl _ X) j
  obtain ⟨⟨q0, q1, q2, q3⟩, q4, q5, q6, q7⟩ := HK.out _ hb1
  have HB1 := Lib.hid hb1
  clear hb1
  go_wp2_with fail
  refine (HC.out _ (below_then HB.out HB1.out)).mono ?_
  rintro e2 w2 ⟨r1, rfl, H2⟩
  have HB2 := Lib.hid (H2.out HB1.out)
  obtain ⟨⟨t0, t1, t2, t3⟩, t4, t5, t6, t7⟩ := HK.out _ HB2.out
  go_wp2_with fail
  refine (HD.out _ (below_then HB.out HB2.out)).mono ?_
  rintro e3 w3 ⟨r2, rfl, H3⟩
  have HB3 := Lib.hid (H3.out HB2.out)
  have HE : Hid (Below w.heap.size w (w3.drew.alloc (.cells #[.slice k2 m2 m2, .slice v2 m2 m2] 60)) ∧ (w3.drew.alloc (.cells #[.slice k2 m2 m2, .slice v2 m2 m2] 60)).heap[w3.heap.size]? = some (.cells #[.slice k2 m2 m2, .slice v2 m2 m2] 60 (0, 0)) ∧ Reads (w3.drew.alloc (.cells #[.slice k2 m2 m2, .slice v2 m2 m2] 60)) R (l.filter (within x y)) (.slice k2 m2 m2) (.slice v2 m2 m2)) := Lib.hid (by
    have h1 := below_then HB.out HB3.out
    have h2 := h1.drew.alloc h1.drew.size (.cells #[.slice k2 m2 m2, .slice v2 m2 m2] 60)
    exact ⟨h2, heap_alloc_new w3.drew _, HP.out _ h2⟩)
  rcases Nat.lt_trichotomy f s with hlt | hlt | hlt
  · obtain rfl : e = s := by omega
    have hi1 : (f : Int) < (e : Int) := by omega
    clear he
    go_wp2_with fail
    go_region
    all_goals go_wp2_with fail
    all_goals go_ret
    all_goals exact ⟨_, _, _, rfl, HE.out⟩
  · subst hlt
    obtain rfl : e = f := by omega
    clear he
    go_wp2_with fail
    go_region
    all_goals go_wp2_with fail
    all_goals go_ret
    all_goals exact ⟨_, _, _, rfl, HE.out⟩
  · obtain rfl : e = f := by omega
    have hi1 : (s : Int) < (e : Int) := by omega
    clear he
    go_wp2_with fail
    go_region
    all_goals go_wp2_with fail
    all_goals go_ret
    all_goals exact ⟨_, _, _, rfl, HE.out⟩
attribute [local go_sem] Oper.semAt_some
theorem room_wide (k : Nat) : Fence.wide.room k := fun d h => by cases h
theorem round_any {l m m' lp : Nat} {P : Program} {f : FuncId} {tmps : Array Value} {assign body : Code} {w : World} {R : Ending → World → Prop} (h : RoundIn Fence.wide m P lp f tmps assign body w R) : RoundIn (Fence.wide.inRound l) m' P lp f tmps assign body w R :=
  ⟨h.1, fun c cs _ => h.2 c cs (room_wide _)⟩
theorem grown_of {w w' : World} (h : Below w.heap.size w w') : w.grownBy w' none := ⟨h.os, h.tape, h.output, h.size, fun i hi _ => h.block i hi⟩
set_option maxRecDepth 100000 in
theorem all_goes2 {q : Option Addr} {R : Nat → Prop} {l : List Pair} {ks vs : Value} (w : World) (hR : ∀ k, R k → k < w.heap.size) (hT : Reads w R l ks vs) (hl : l.length ≤ 1000)
    (hL : ∀ W', Below w.heap.size w W' → Calls Try.prog 55 #[.pointer q] W' fun e w' => e = .returned (.tuple #[ks, vs]) ∧ ∃ m, W'.drewN m = w') :
    Calls Try.prog 39 #[.pointer q] w fun e w' => ∃ gf lb, e = .returned (.func (.func gf) #[] lb) ∧ Hid (Below w.heap.size w w' ∧ (∀ args w, (callFunc gf args).run Try.prog w = .ok (.enter gf args) w) ∧
      ∀ n : Nat, 2 ≤ n → SeqStopsK Fence.wide n Try.prog gf lb (fun p : Pair => #[kV p.k, .int .i64 p.v]) (Keep R) (fun xs => xs = l) (fun pre => pre <+: l) l.length w') := by
  refine (all_call q w).mono ?_
  rintro e w' ⟨rfl, rfl⟩
  have hb := (Below.refl _ w).alloc (Nat.le_refl _) (.cells #[.pointer q] 86)
  refine ⟨_, _, rfl, Lib.hid ⟨hb, enters_of Try.func54 (by kernel_rfl) rfl, fun n hn lp J Jx W hW hJ hJx hY h0 => ?_⟩⟩
  have hbW := below_then hb hW
  have hbox : (w.alloc (.cells #[.pointer q] 86)).heap[w.heap.size]? = some (.cells #[.pointer q] 86 (0, 0)) := heap_alloc_new w _
  exact all1_in n hn lp w.heap.size q R l ks vs hl J Jx W hJ hY (fun k hk => Nat.lt_of_lt_of_le (hR k hk) hbW.size) (cell_block (j := 0) ((hW.block _ (Array.getElem?_eq_some_iff.1 hbox).1).trans hbox) rfl)
    (hT.keep (fun k hk => hbW.block k (hR k hk))) (fun W' hW' => hL W' (below_then hbW hW')) h0
/-- What stands between two rounds. -/
structure Mid (J : List Pair → World → Prop) (T : World → Nat → Prop) (R : Nat → Prop) (By lp : Nat) (pre : List Pair) (V : World) : Prop where
  j : J pre V
  box : Boxed V By 95 (.func (.yield lp) #[] #[])
  far : ∀ k, R k ∨ k = By → ¬ T V k
  cells : ∀ k, R k → ∃ o : Obj, V.heap[k]? = some o ∧ o.isCells = true
theorem Mid.own {J : List Pair → World → Prop} {T : World → Nat → Prop} {R : Nat → Prop} {By lp D : Nat} (hD : lp < D) (hJ : Abides lp J) (hS : Steady lp J T) : OwnFrom D (Mid J T R By lp) := fun pre A B row h hg hr =>
  ⟨hJ pre A B row h.j hg (fun r e => ⟨by have := (hr r e).1; omega, (hr r e).2⟩), h.box.kept hg (fun e => by
      obtain ⟨_, o, ho, hc⟩ := hr By e.symm
      rw [show A.heap[By]? = _ from h.box] at ho
      cases ho
      cases hc), fun k hk ht => h.far k hk ((hS pre A h.j).2 B row hg (fun r e => ⟨by have := (hr r e).1; omega, (hr r e).2⟩) k ht), fun k hk => by
    obtain ⟨o, ho, hc⟩ := h.cells k hk
    refine ⟨o, (hg.block k (Array.getElem?_eq_some_iff.1 ho).1 (fun e => ?_)).trans ho, hc⟩
    obtain ⟨_, o2, ho2, hc2⟩ := hr k e.symm
    rw [ho] at ho2
    cases ho2
    rw [hc] at hc2
    cases hc2⟩
set_option maxRecDepth 100000 in
set_option maxHeartbeats 8000000 in
theorem range1_in (n : Nat) (hn : 4 ≤ n) (lp b0 b1 b2 : Nat) (q : Option Addr) (R : Nat → Prop) (l : List Pair) (ks vs : Value) (x y : Key) (hl : l.length ≤ 1000) (hr : Rising l) (T : World → Nat → Prop) (J Jx : List Pair → World → Prop) (W : World) (hlp : lp < W.heap.size)
    (hJ : Abides lp J) (hJx : Abides lp Jx) (hS : Steady lp J T) (hRT : ∀ k, R k → ¬ T W k)
    (hY : ∀ pre p W1, J pre W1 → pre.length < (l.filter (within x y)).length → YieldAt Fence.wide (n - 1) Try.prog lp #[kV p.k, .int .i64 p.v] W1 fun e W' => High lp W1 W' ∧ ((e = .returned (.bool true) ∧ J (pre ++ [p]) W' ∧ Leaves T W1 W') ∨ (e = .returned (.bool false) ∧ Jx (pre ++ [p]) W')))
    (h0 : J [] W) (hR : ∀ k, R k → ∃ o : Obj, W.heap[k]? = some o ∧ o.isCells = true) (g0 : W.cell? ⟨b0, 0, none⟩ = some (.pointer q)) (g1 : W.heap[b1]? = some (.cells x.cells 81 (0, 0))) (g2 : W.heap[b2]? = some (.cells y.cells 81 (0, 0)))
    (hT : TL W q l ks vs) (hRd : Reads W R l ks vs) :
    CallsIn Fence.wide n Try.prog 56 #[.func (.yield lp) #[] #[], .pointer (some ⟨b0, 0, none⟩), .pointer (some ⟨b1, 0, none⟩), .pointer (some ⟨b2, 0, none⟩)] W fun e W' => (∃ v, e = .returned v) ∧ ((∃ ys, ys = l.filter (within x y) ∧ J ys W') ∨ (∃ pre, pre <+: l.filter (within x y) ∧ Jx pre W')) := by
  have hRlt : ∀ k, R k → k < W.heap.size := fun k hk => by
    obtain ⟨o, ho, _⟩ := hR k hk
    exact (Array.getElem?_eq_some_iff.1 ho).1
  obtain ⟨X, hX⟩ : ∃ X, W.alloc (.cells #[.func (.yield lp) #[] #[]] 95) = X := ⟨_, rfl⟩
  have hbX : Below W.heap.size W X := by rw [← hX]; exact (Below.refl _ W).alloc (Nat.le_refl _) _
  have hbox : Boxed X W.heap.size 95 (.func (.yield lp) #[] #[]) := by rw [← hX]; exact Boxed.new W _ _
  have g0l : b0 < W.heap.size := World.block_lt_of_cell? _ _ g0
  have x0 := ((bcell hbX).1 b0 0 g0l).trans g0
  have x1 := (hbX.block _ (Array.getElem?_eq_some_iff.1 g1).1).trans g1
  have x2 := (hbX.block _ (Array.getElem?_eq_some_iff.1 g2).1).trans g2
  have u0 := key_at x1 0 (by omega); have u1 := key_at x1 1 (by omega); have u2 := key_at x1 2 (by omega); have u3 := key_at x1 3 (by omega)
  have t0 := key_at x2 0 (by omega); have t1 := key_at x2 1 (by omega); have t2 := key_at x2 2 (by omega); have t3 := key_at x2 3 (by omega)
  simp only [Key.at] at u0 u1 u2 u3 t0 t1 t2 t3
  obtain ⟨L, hL⟩ : ∃ L, l.filter (within x y) = L := ⟨_, rfl⟩
  have hLl : L.length ≤ 1000 := by rw [← hL]; exact Nat.le_trans (List.length_filter_le _ _) hl
  have HBT := Lib.hid (between_tl x y X (hT.under hbX) (hRd.keep (fun k hk => hbX.block k (hRlt k hk))) (fun k hk => Nat.lt_of_lt_of_le (hRlt k hk) hbX.size) hr hl)
  rw [hL] at HBT hY ⊢
  have HJ := Lib.hid hJ; have HJX := Lib.hid hJx; have HS := Lib.hid hS; have HRT := Lib.hid hRT; have HY := Lib.hid hY; have H0 := Lib.hid h0; have HR := Lib.hid hR; have HRL := Lib.hid hRlt; have HBX := Lib.hid hbX; have HBOX := Lib.hid hbox; have HLP := Lib.hid hlp; have HLL := Lib.hid hLl
  have h1n : 1 ≤ n := by omega
  have h2n : 1 ≤ n - 1 := by omega
  clear hJ hJx hS hRT hY h0 hR hRlt hbX hbox hlp g0 g1 g2 g0l x1 x2 hT hRd hL hl hr hLl
  refine callsIn_of_wp_marks Try.func56 rfl trivial ?_ rfl
  simp only [Try.ntmps56, List.size_toArray, List.length_cons, List.length_nil, Nat.reduceAdd, Nat.reduceSub, Array.replicate_succ, Array.replicate_zero, List.push_toArray, List.append_toArray, List.nil_append, List.cons_append]
  gi_wp2
  clear hX
  refine ⟨trivial, (callsIn_wide.2 HBT.out).mono ?_⟩
  rintro e w1 ⟨Q2, k2, v2, rfl, hb1, hq2, hrd2⟩
  have HALL := Lib.hid (all_goes2 (q := some ⟨Q2, 0, none⟩) w1 (fun k hk => Nat.lt_of_lt_of_le (HRL.out k hk) (Nat.le_trans HBX.out.size hb1.size)) hrd2 HLL.out (fun W' hW' => lists_head W' ((hW'.block _ (Array.getElem?_eq_some_iff.1 hq2).1).trans hq2)))
  have HB1 := Lib.hid hb1
  clear hb1 hq2 hrd2 u0 u1 u2 u3 t0 t1 t2 t3 x0
  gi_wp2
  refine ⟨trivial, (callsIn_wide.2 HALL.out).mono ?_⟩
  rintro e w2 ⟨gf, lb, rfl, H2⟩
  obtain ⟨hb2, eg, hgo⟩ := H2.out
  have hbW2 : Below W.heap.size W w2 := below_then (below_then HBX.out HB1.out) hb2
  have hsz : W.heap.size < w2.heap.size := Nat.lt_of_lt_of_le HBOX.out.lt (Nat.le_trans HB1.out.size hb2.size)
  have hlp2 : lp < w2.heap.size := by have := HLP.out; omega
  have hMid : Mid J T R W.heap.size lp [] w2 := by
    have hst : ∀ k, T w2 k → T W k := fun k ht => (HS.out [] W H0.out).2 w2 none (grown_of hbW2) (fun r e => by cases e) k ht
    refine ⟨HJ.out [] W w2 none H0.out (grown_of hbW2) (fun r e => by cases e), (hb2.block _ (Nat.lt_of_lt_of_le HBOX.out.lt HB1.out.size)).trans ((HB1.out.block _ HBOX.out.lt).trans HBOX.out), fun k hk ht => ?_, fun k hk => ?_⟩
    · have h3 := hst k ht
      rcases hk with hk | rfl
      · exact HRT.out k hk h3
      · have := (HS.out [] W H0.out).1 _ h3
        omega
    · obtain ⟨o, ho, hc⟩ := HR.out k hk
      exact ⟨o, (hbW2.block k (HRL.out k hk)).trans ho, hc⟩
  have hOwn : OwnFrom w2.heap.size (Mid J T R W.heap.size lp) := Mid.own hlp2 HJ.out HS.out
  gi_wp2
  refine wpIn_rangeFunc_ownH rfl (by omega) (gf := gf) (lb := lb) rfl trivial eg
    (hgo (n - 1) (by omega)) Keep.trans (keep_b (fun k hk => by have := HRL.out k hk; omega)) (Below.refl _ _) (fun _ => rfl)
    (Mid J T R W.heap.size lp)
    (fun c pre V => c = .ret ∧ Jx pre V)
    hOwn
    (fun c pre A B row h hg hr => ⟨h.1, HJX.out pre A B row h.2 hg (fun r e => ⟨by have := (hr r e).1; omega, (hr r e).2⟩)⟩)
    hMid
    (fun p a' V => ∃ Bx, V.heap[Bx]? = some (.cells p.k.cells 81 (0, 0)) ∧ a' = { tmps := #[.func (.yield lp) #[] #[], .pointer (some ⟨b0, 0, none⟩), .pointer (some ⟨b1, 0, none⟩), .pointer (some ⟨b2, 0, none⟩), .pointer (some ⟨W.heap.size, 0, none⟩), .pointer (some ⟨Bx, 0, none⟩), .int .i64 p.v, .pointer q, kV x, kV y, ptr Q2, .func (.func gf) #[] lb, kV p.k, .int .i64 p.v, undef, undef, undef, undef, undef], defers := [] })
    (fun p a' _ X Y row hs hg hr => by
      obtain ⟨Bx, h2, h3⟩ := hs
      exact ⟨Bx, (hg.block Bx (Array.getElem?_eq_some_iff.1 h2).1 (fun e => by
        obtain ⟨_, o, ho, hc⟩ := hr Bx e.symm
        rw [h2] at ho
        cases ho
        cases hc)).trans h2, h3⟩)
    ?assign ?body ?done ?stop
  case assign =>
    rintro lo pre p V K hM hK
    gi_wp2
    exact hK _ _ ((KeepsOthers.alloc _ _).from _) ⟨by simp, fun k hk => by
      obtain ⟨o, ho, _⟩ := hM.cells k hk
      exact Below.heap_alloc _ _ _ (Array.getElem?_eq_some_iff.1 ho).1⟩ (hOwn.alloc _ hM) ⟨V.heap.size, heap_alloc_new V _, rfl⟩
  case body =>
    rintro lo pre p a' V hlo ⟨r, hr⟩ hM ⟨Bx, hbx, rfl⟩ hlt
    have hc := hM.box.cell
    have k0 : V.cell? ⟨Bx, 0, none⟩ = some (.int .i64 p.k.a) := key_at hbx 0 (by omega)
    have k1 : V.cell? ⟨Bx, 1, none⟩ = some (.int .i64 p.k.b) := key_at hbx 1 (by omega)
    have k2 : V.cell? ⟨Bx, 2, none⟩ = some (.int .i64 p.k.c) := key_at hbx 2 (by omega)
    have k3 : V.cell? ⟨Bx, 3, none⟩ = some (.int .i64 p.k.d) := key_at hbx 3 (by omega)
    obtain ⟨fn, tmps, assign, body, hy, hRn⟩ := HY.out pre p V hM.j hlt
    have h3n : 1 ≤ n - 1 - 1 := by omega
    gi_wp2
    refine (round_any hRn).mono ?_
    rintro e V' ⟨hH, ⟨rfl, hj, hlv⟩ | ⟨rfl, hjx⟩⟩
    · gi_wp2
      have hkf : KeepsFrom w2.heap.size V V' := ⟨hH.1, fun k o hk h1 h2 => hH.2 k o (by omega) h1 h2⟩
      refine ⟨hkf, ⟨hH.1, fun k hk => ?_⟩, ⟨hj, ?_, fun k hk => ?_, fun k hk => ?_⟩⟩
      · obtain ⟨o, ho, hc⟩ := hM.cells k hk
        exact (hlv.kept k o ho hc (hM.far k (.inl hk))).1.trans ho.symm
      · exact (hlv.kept _ _ hM.box rfl (hM.far _ (.inr rfl))).1
      · rcases hk with hk | rfl
        · obtain ⟨o, ho, hc⟩ := hM.cells k hk
          exact (hlv.kept k o ho hc (hM.far k (.inl hk))).2
        · exact (hlv.kept _ _ hM.box rfl (hM.far _ (.inr rfl))).2
      · obtain ⟨o, ho, hc⟩ := hM.cells k hk
        exact ⟨o, (hlv.kept k o ho hc (hM.far k (.inl hk))).1, hc⟩
    · gi_wp2
      exact ⟨⟨hH.1, fun k o hk h1 h2 => hH.2 k o (by omega) h1 h2⟩, rfl, hjx⟩
  case done =>
    rintro D ys V hD rfl hM hK
    gi_wp2
    refine ⟨by simp, .inl ⟨_, _, rfl, run_takeDeferred hK, ?_⟩⟩
    exact ⟨_, results_none rfl _ _ _, ⟨_, rfl⟩, .inl ⟨_, rfl, (hOwn.putObj _ hM hD hK rfl).j⟩⟩
  case stop =>
    rintro D c pre V hD hsp ⟨rfl, hjx⟩ hK
    gi_wp2
    refine ⟨by simp, .inl ⟨_, _, rfl, run_takeDeferred hK, ?_⟩⟩
    exact ⟨_, results_none rfl _ _ _, ⟨_, rfl⟩, .inr ⟨pre, hsp, HJX.out pre V _ (some D) hjx (grownBy_putObj' V D _) (fun r e => by cases e; exact ⟨by omega, _, hK, rfl⟩)⟩⟩
set_option maxRecDepth 100000 in
theorem range_call (q : Option Addr) (x y : Key) (w : World) :
    Calls Try.prog 41 #[.pointer q, kV x, kV y] w fun e w' => e = .returned (.func (.func 56) #[] #[.pointer (some ⟨w.heap.size, 0, none⟩), .pointer (some ⟨w.heap.size + 1, 0, none⟩), .pointer (some ⟨w.heap.size + 1 + 1, 0, none⟩)]) ∧
      w' = ((w.alloc (.cells #[.pointer q] 86)).alloc (.cells x.cells 81)).alloc (.cells y.cells 81) := by
  go_enter Try.func41, Try.ntmps41
  go_wp2_with fail
  go_ret
  exact ⟨rfl, rfl⟩
set_option maxRecDepth 100000 in
theorem range_tl {q : Option Addr} {l : List Pair} {ks vs : Value} (x y : Key) (w : World) (h : TL w q l ks vs) (hr : Rising l) (hl : l.length ≤ 1000) :
    Calls Try.prog 41 #[.pointer q, kV x, kV y] w fun e w' => ∃ gf lb, e = .returned (.func (.func gf) #[] lb) ∧ Hid (Below w.heap.size w w' ∧ GoesF w' (Two ks vs) gf lb (l.filter (within x y))) := by
  refine (range_call q x y w).mono ?_
  rintro e w' ⟨rfl, rfl⟩
  have hb : Below w.heap.size w (((w.alloc (.cells #[.pointer q] 86)).alloc (.cells x.cells 81)).alloc (.cells y.cells 81)) := (((Below.refl _ w).alloc (Nat.le_refl _) _).alloc (by simp) _).alloc (by simp; omega) _
  have g0 : (((w.alloc (.cells #[.pointer q] 86)).alloc (.cells x.cells 81)).alloc (.cells y.cells 81)).heap[w.heap.size]? = some (.cells #[.pointer q] 86 (0, 0)) := by
    rw [Below.heap_alloc _ _ _ (by simp; omega), Below.heap_alloc _ _ _ (by simp)]
    exact heap_alloc_new w _
  have g1 : (((w.alloc (.cells #[.pointer q] 86)).alloc (.cells x.cells 81)).alloc (.cells y.cells 81)).heap[w.heap.size + 1]? = some (.cells x.cells 81 (0, 0)) := by
    rw [Below.heap_alloc _ _ _ (by simp)]
    have := heap_alloc_new (w.alloc (.cells #[.pointer q] 86)) (.cells x.cells 81)
    simpa using this
  have g2 : (((w.alloc (.cells #[.pointer q] 86)).alloc (.cells x.cells 81)).alloc (.cells y.cells 81)).heap[w.heap.size + 1 + 1]? = some (.cells y.cells 81 (0, 0)) := by
    have := heap_alloc_new ((w.alloc (.cells #[.pointer q] 86)).alloc (.cells x.cells 81)) (.cells y.cells 81)
    simpa using this
  refine ⟨_, _, rfl, Lib.hid ⟨hb, enters_of Try.func56 (by kernel_rfl) rfl, fun n hn lp T J Jx W hW hlp hJ hJx hS hRT hY h0 => ?_⟩⟩
  have hT := h.under (below_then hb hW)
  have up : ∀ {k : Nat} {o : Obj}, (((w.alloc (.cells #[.pointer q] 86)).alloc (.cells x.cells 81)).alloc (.cells y.cells 81)).heap[k]? = some o → W.heap[k]? = some o := fun hk => (hW.block _ (Array.getElem?_eq_some_iff.1 hk).1).trans hk
  exact range1_in n hn lp w.heap.size (w.heap.size + 1) (w.heap.size + 1 + 1) q (Two ks vs) l ks vs x y hl hr T J Jx W hlp hJ hJx hS hRT hY h0 hT.two (cell_block (j := 0) (up g0) rfl) (up g1) (up g2) hT hT.reads
end Go.Proofs.Ytkljaaeeocghjaa.Tab.Im
