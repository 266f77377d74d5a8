/- The program's All as its callers meet it; the part of a table between two keys. -/
import Derived.Test.YtighjiiaplihjaaTabImN
namespace Go.Proofs.Ytighjiiaplihjaa.Tab.Im
open Go.RowKit Go.Lib Go.Shelf
attribute [local go_sem] Oper.semAt_some

set_option maxRecDepth 100000 in
theorem all_call (q : Option Addr) (w : World) :
    Calls Try.prog 30 #[.pointer q] w fun e w' => e = .returned (.func (.func 41) #[] #[.pointer (some ⟨w.heap.size, 0, none⟩)]) ∧ w' = w.alloc (.cells #[.pointer q] 24) := by
  go_enter Try.func30, Try.ntmps30
  go_wp2_with fail
  go_ret
  exact ⟨rfl, rfl⟩
theorem all_goes {q : Option Addr} {R : Nat → Prop} {l : List Pair} {ks vs : Value} (w : World) (hR : ∀ k, R k → k < w.heap.size) (hT : Reads w R l ks vs) (hl : l.length ≤ 1000)
    (hL : ∀ W', Below w.heap.size w W' → Calls Try.prog 31 #[.pointer q] W' fun e w' => e = .returned (.tuple #[ks, vs]) ∧ ∃ m, W'.drewN m = w') :
    Calls Try.prog 30 #[.pointer q] w fun e w' => ∃ gf lb, e = .returned (.func (.func gf) #[] lb) ∧ Hid (Below w.heap.size w w' ∧ Goes w' R gf lb l) := by
  refine (all_call q w).mono ?_
  rintro e w' ⟨rfl, rfl⟩
  have hb := (Below.refl _ w).alloc (Nat.le_refl _) (.cells #[.pointer q] 24)
  refine ⟨_, _, rfl, Lib.hid ⟨hb, enters_of Try.func41 (by kernel_rfl) rfl, fun n hn lp J Jx W hW hJ hJx hY h0 => ?_⟩⟩
  have hbW := below_then hb hW
  have hbox : (w.alloc (.cells #[.pointer q] 24)).heap[w.heap.size]? = some (.cells #[.pointer q] 24 (0, 0)) := heap_alloc_new w _
  exact all1_in n (by omega) lp w.heap.size q R l ks vs hl J Jx W hJ hY (fun k hk => Nat.lt_of_lt_of_le (hR k hk) hbW.size) (cell_block (j := 0) ((hW.block _ (Array.getElem?_eq_some_iff.1 hbox).1).trans hbox) rfl)
    (hT.keep (fun k hk => hbW.block k (hR k hk))) (fun W' hW' => hL W' (below_then hbW hW')) h0
/-! between -/
theorem place_idx {l : List Pair} (hr : Rising l) (k : Key) (i : Nat) (p : Pair) (hp : l[i]? = some p) : i < place l k ↔ cmp p.k k < 0 := by
  obtain ⟨A, B, hA, hB, hpl, hc⟩ := rising_split k hr
  rw [hpl]
  have hx : ∀ x, cmp k x < 0 → ¬ cmp x k < 0 := fun x h => by have := cmp_swap k x; omega
  rcases hc with ⟨_, rfl⟩ | ⟨_, v, rfl⟩
  · rcases Nat.lt_or_ge i A.length with h | h
    · rw [List.getElem?_append_left h] at hp
      exact ⟨fun _ => hA p (List.mem_of_getElem? hp), fun _ => h⟩
    · rw [List.getElem?_append_right h] at hp
      exact ⟨fun h2 => by omega, fun h2 => absurd h2 (hx _ (hB p (List.mem_of_getElem? hp)))⟩
  · rcases Nat.lt_or_ge i A.length with h | h
    · rw [List.getElem?_append_left h] at hp
      exact ⟨fun _ => hA p (List.mem_of_getElem? hp), fun _ => h⟩
    · rw [List.getElem?_append_right h] at hp
      refine ⟨fun h2 => by omega, fun h2 => ?_⟩
      rcases List.mem_cons.1 (List.mem_of_getElem? hp) with rfl | hm
      · have h3 : cmp k k = 0 := cmp_zero.2 rfl
        have h4 : cmp k k < 0 := h2
        omega
      · exact absurd h2 (hx _ (hB p hm))
/-- Those between two keys stand side by side. -/
theorem between_part {l : List Pair} (hr : Rising l) (x y : Key) (f e : Nat) (hf : place l x = f) (he : e = max f (place l y)) : l.filter (within x y) = (l.take e).drop f := by
  have hfe : f ≤ e := by omega
  have hpl := place_le l x
  have hpy := place_le l y
  have hsplit : l = l.take f ++ ((l.take e).drop f ++ l.drop e) := by
    have h1 : l.take e = l.take f ++ (l.take e).drop f := by
      have h2 := (List.take_append_drop f (l.take e)).symm
      rw [List.take_take, Nat.min_eq_left hfe] at h2
      exact h2
    rw [← List.append_assoc, ← h1, List.take_append_drop]
  have hidx : ∀ i (hi : i < l.length), (i < f ↔ cmp l[i].k x < 0) ∧ (i < place l y ↔ cmp l[i].k y < 0) := fun i hi => ⟨by rw [← hf]; exact place_idx hr x i _ (List.getElem?_eq_getElem hi), place_idx hr y i _ (List.getElem?_eq_getElem hi)⟩
  have h1 : (l.take f).filter (within x y) = [] := List.filter_eq_nil_iff.2 (fun p hp => by
    obtain ⟨i, hi, rfl⟩ := List.getElem_of_mem hp
    rw [List.length_take] at hi
    rw [List.getElem_take]
    have := (hidx i (by omega)).1.1 (by omega)
    unfold within
    simp
    omega)
  have h3 : (l.drop e).filter (within x y) = [] := List.filter_eq_nil_iff.2 (fun p hp => by
    obtain ⟨i, hi, rfl⟩ := List.getElem_of_mem hp
    rw [List.length_drop] at hi
    rw [List.getElem_drop]
    have h4 := (hidx (e + i) (by omega)).2
    have h5 : ¬ cmp l[e + i].k y < 0 := fun h => by have := h4.2 h; omega
    unfold within
    simp
    omega)
  have h2 : ((l.take e).drop f).filter (within x y) = (l.take e).drop f := List.filter_eq_self.2 (fun p hp => by
    obtain ⟨i, hi, rfl⟩ := List.getElem_of_mem hp
    rw [List.length_drop, List.length_take] at hi
    rw [List.getElem_drop, List.getElem_take]
    have h4 := hidx (f + i) (by omega)
    have h5 : ¬ cmp l[f + i].k x < 0 := fun h => by have := h4.1.2 h; omega
    have h6 := h4.2.1 (by omega)
    unfold within
    simp
    omega)
  have h4 : l.filter (within x y) = (l.take f ++ ((l.take e).drop f ++ l.drop e)).filter (within x y) := by rw [← hsplit]
  rw [h4, List.filter_append, List.filter_append, h1, h2, h3, List.nil_append, List.append_nil]
/-- A part of two lists, read. -/
theorem Reads.part {w : World} {R : Nat → Prop} {l : List Pair} {a b : Option Addr} {c d : Nat} (h : Reads w R l (.slice a l.length c) (.slice b l.length d)) (f e : Nat) (hfe : f ≤ e) (hel : e ≤ l.length) :
    Reads w R ((l.take e).drop f) (.slice (if e = f then a else a.map (·.add (f * 4))) (e - f) (e - f)) (.slice (if e = f then b else b.map (·.add (f * 1))) (e - f) (e - f)) := by
  obtain ⟨a', c', b', d', e1, e2, _, _, hat⟩ := h
  injection e1 with e1 _ _
  injection e2 with e2 _ _
  subst e1; subst e2
  have hlen : ((l.take e).drop f).length = e - f := by rw [List.length_drop, List.length_take]; omega
  refine ⟨_, _, _, _, by rw [hlen], by rw [hlen], by omega, by omega, fun i p hp => ?_⟩
  have hi := (List.getElem?_eq_some_iff.1 hp).1
  rw [hlen] at hi
  have hp2 : l[f + i]? = some p := by
    rw [List.getElem?_drop, List.getElem?_take_of_lt (by omega)] at hp
    exact hp
  obtain ⟨g, o, k, u, rfl, rfl, r1, r2, q0, q1, q2, q3, q4⟩ := hat (f + i) p hp2
  refine ⟨g, o + f * 4, k, u + f * 1, ?_, ?_, r1, r2, ?_⟩
  · rw [if_neg (by omega)]
    simp [addr_add]
  · rw [if_neg (by omega)]
    simp [addr_add]
  · rw [show o + f * 4 + i * 4 = o + (f + i) * 4 by omega, show u + f * 1 + i = u + (f + i) by omega]
    exact ⟨q0, q1, q2, q3, q4⟩
theorem TL.slices {w : World} {q : Option Addr} {l : List Pair} {ks vs : Value} (h : TL w q l ks vs) : ∃ a c b d, ks = .slice a l.length c ∧ vs = .slice b l.length d ∧ l.length ≤ c ∧ l.length ≤ d := by
  obtain ⟨a, c, e1, h1, _⟩ := rowK h.keys
  obtain ⟨b, d, e2, h2, _⟩ := rowI h.vals
  rw [len_keys] at e1 h1
  rw [len_vals] at e2 h2
  exact ⟨a, c, b, d, e1, e2, h1, h2⟩
set_option maxRecDepth 100000 in
set_option maxHeartbeats 8000000 in
theorem between_tl {q : Option Addr} {R : Nat → Prop} {l : List Pair} {ks vs : Value} (x y : Key) (w : World) (h : TL w q l ks vs) (hT : Reads w R l ks vs) (hR : ∀ k, R k → k < w.heap.size) (hr : Rising l) (hl : l.length ≤ 1000) :
    Calls Try.prog 43 #[.pointer q, kV x, kV y] w fun e w' => ∃ Q k2 v2, e = .returned (ptr Q) ∧ Below w.heap.size w w' ∧ w'.heap[Q]? = some (.cells #[k2, v2] 28 (0, 0)) ∧ Reads w' R (l.filter (within x y)) k2 v2 := by
  obtain ⟨i0, hi, hz0, hz1, hz2⟩ := info_parts info_key
  obtain ⟨i1, hj, hy0, hy1, hy2⟩ := info_parts info_int
  obtain ⟨X, hX⟩ : ∃ X, (w.alloc (.cells #[.int .i64 x.a, .int .i64 x.b, .int .i64 x.c, .int .i64 x.d] 38)).alloc (.cells #[.int .i64 y.a, .int .i64 y.b, .int .i64 y.c, .int .i64 y.d] 38) = X := ⟨_, rfl⟩
  have hY : (w.alloc (.cells x.cells 38)).alloc (.cells y.cells 38) = X := hX
  have hbX : Below w.heap.size w X := by rw [← hX]; exact ((Below.refl _ w).alloc (Nat.le_refl _) _).alloc (by simp) _
  have x0 : X.heap[w.heap.size]? = some (.cells x.cells 38 (0, 0)) := by
    rw [← hY, Below.heap_alloc _ _ _ (by simp)]
    exact heap_alloc_new w _
  have y0 : X.heap[w.heap.size + 1]? = some (.cells y.cells 38 (0, 0)) := by
    rw [← hY]
    have := heap_alloc_new (w.alloc (.cells x.cells 38)) (.cells y.cells 38)
    simpa using this
  have HL := Lib.hid (h.lists X hbX)
  have HH := Lib.hid h; have HT := Lib.hid hT; have HRR := Lib.hid hR; have HR := Lib.hid hr; have HB := Lib.hid hbX
  obtain ⟨a, c, b, d, rfl, rfl, hlc, hld⟩ := h.slices
  obtain ⟨n, hn⟩ : ∃ n, l.length = n := ⟨_, rfl⟩
  have HN := Lib.hid hn
  rw [hn] at HL hlc hld
  obtain ⟨f, hf⟩ : ∃ f, place l x = f := ⟨_, rfl⟩
  obtain ⟨s, hs⟩ : ∃ s, place l y = s := ⟨_, rfl⟩
  have hfn : f ≤ n := by have := place_le l x; omega
  have hsn : s ≤ n := by have := place_le l y; omega
  have HC : Hid (∀ W, Below w.heap.size w W → Calls Try.prog 26 #[.pointer q, kV x] W fun e w' => ∃ b, e = .returned (.tuple #[.int .i64 (f : Nat), .bool b]) ∧ Hid (Below X.heap.size X W → Below X.heap.size X w')) := Lib.hid (fun W hW => by
    refine (place_tl x W (HH.out.under hW) HR.out hl).mono ?_
    rintro e w' ⟨rfl, hb⟩
    unfold placeV
    rw [hf]
    exact ⟨_, rfl, Lib.hid (fun h => below_then h hb)⟩)
  have HD : Hid (∀ W, Below w.heap.size w W → Calls Try.prog 26 #[.pointer q, kV y] W fun e w' => ∃ b, e = .returned (.tuple #[.int .i64 (s : Nat), .bool b]) ∧ Hid (Below X.heap.size X W → Below X.heap.size X w')) := Lib.hid (fun W hW => by
    refine (place_tl y W (HH.out.under hW) HR.out hl).mono ?_
    rintro e w' ⟨rfl, hb⟩
    unfold placeV
    rw [hs]
    exact ⟨_, rfl, Lib.hid (fun h => below_then h hb)⟩)
  have HK : Hid (∀ W, Below X.heap.size X W → (W.cell? ⟨w.heap.size, 0, none⟩ = some (.int .i64 x.a) ∧ W.cell? ⟨w.heap.size, 1, none⟩ = some (.int .i64 x.b) ∧ W.cell? ⟨w.heap.size, 2, none⟩ = some (.int .i64 x.c) ∧ W.cell? ⟨w.heap.size, 3, none⟩ = some (.int .i64 x.d)) ∧
      W.cell? ⟨w.heap.size + 1, 0, none⟩ = some (.int .i64 y.a) ∧ W.cell? ⟨w.heap.size + 1, 1, none⟩ = some (.int .i64 y.b) ∧ W.cell? ⟨w.heap.size + 1, 2, none⟩ = some (.int .i64 y.c) ∧ W.cell? ⟨w.heap.size + 1, 3, none⟩ = some (.int .i64 y.d)) := Lib.hid (fun W hW => by
    have g1 := (hW.block _ (Array.getElem?_eq_some_iff.1 x0).1).trans x0
    have g2 := (hW.block _ (Array.getElem?_eq_some_iff.1 y0).1).trans y0
    exact ⟨⟨key_at g1 0 (by omega), key_at g1 1 (by omega), key_at g1 2 (by omega), key_at g1 3 (by omega)⟩, key_at g2 0 (by omega), key_at g2 1 (by omega), key_at g2 2 (by omega), key_at g2 3 (by omega)⟩)
  obtain ⟨e, he⟩ : ∃ e, e = max f s := ⟨_, rfl⟩
  have hen : e ≤ n := by omega
  have hfe : f ≤ e := by omega
  have hs1 : ∀ W, (Instr.slice 25 (.slice a n c) (some (.int .i64 (f : Nat))) (some (.int .i64 (e : Nat))) (some (.int .i64 (e : Nat)))).run Try.prog W = .ok (.slice (if e = f then a else a.map (·.add (f * 4))) (e - f) (e - f)) W := fun W => run_part_bound (P := Try.prog) W elem_key under_key hi hz1 a n c f e hfe (by omega)
  have hs2 : ∀ W, (Instr.slice 26 (.slice b n d) (some (.int .i64 (f : Nat))) (some (.int .i64 (e : Nat))) (some (.int .i64 (e : Nat)))).run Try.prog W = .ok (.slice (if e = f then b else b.map (·.add (f * 1))) (e - f) (e - f)) W := fun W => run_part_bound (P := Try.prog) W elem_int under_int hj hy1 b n d f e hfe (by omega)
  obtain ⟨k2, hk2⟩ : ∃ k2, (if e = f then a else a.map (·.add (f * 4))) = k2 := ⟨_, rfl⟩
  obtain ⟨v2, hv2⟩ : ∃ v2, (if e = f then b else b.map (·.add (f * 1))) = v2 := ⟨_, rfl⟩
  obtain ⟨m2, hm2⟩ : ∃ m, e - f = m := ⟨_, rfl⟩
  have HP : Hid (∀ W, Below w.heap.size w W → Reads W R (l.filter (within x y)) (.slice k2 m2 m2) (.slice v2 m2 m2)) := Lib.hid (fun W hW => by
    rw [between_part hr x y f e hf (by rw [hs]; exact he), ← hk2, ← hv2, ← hm2]
    exact (HT.out.keep (fun k hk => hW.block k (HRR.out k hk))).part f e hfe (by omega))
  rw [hk2, hm2] at hs1
  rw [hv2, hm2] at hs2
  obtain ⟨⟨p0, p1, p2, p3⟩, p4, p5, p6, p7⟩ := HK.out X (Below.refl _ _)
  have hf0 : (0 : Int) ≤ (f : Int) := by omega
  have hs0 : (0 : Int) ≤ (s : Int) := by omega
  clear h hT hR hr hbX hY x0 y0 hn hf hs hk2 hv2 hm2 hlc hld hi hz0 hz1 hz2 hj hy0 hy1 hy2 hl hen hfn hsn
  go_enter Try.func43, Try.ntmps43
  go_wp2_with fail
  clear hX
  refine HL.out.mono ?_
  rintro e1 w1 ⟨rfl, j, rfl⟩
  have hb1 : Below X.heap.size X (X.drewN j) := below_drewN (Below.refl _ X) j
  obtain ⟨⟨q0, q1, q2, q3⟩, q4, q5, q6, q7⟩ := HK.out _ hb1
  have HB1 := Lib.hid hb1
  clear hb1
  go_wp2_with fail
  refine (HC.out _ (below_then HB.out HB1.out)).mono ?_
  rintro e2 w2 ⟨r1, rfl, H2⟩
  have HB2 := Lib.hid (H2.out HB1.out)
  obtain ⟨⟨t0, t1, t2, t3⟩, t4, t5, t6, t7⟩ := HK.out _ HB2.out
  go_wp2_with fail
  refine (HD.out _ (below_then HB.out HB2.out)).mono ?_
  rintro e3 w3 ⟨r2, rfl, H3⟩
  have HB3 := Lib.hid (H3.out HB2.out)
  have HE : Hid (Below w.heap.size w (w3.drew.alloc (.cells #[.slice k2 m2 m2, .slice v2 m2 m2] 28)) ∧ (w3.drew.alloc (.cells #[.slice k2 m2 m2, .slice v2 m2 m2] 28)).heap[w3.heap.size]? = some (.cells #[.slice k2 m2 m2, .slice v2 m2 m2] 28 (0, 0)) ∧ Reads (w3.drew.alloc (.cells #[.slice k2 m2 m2, .slice v2 m2 m2] 28)) R (l.filter (within x y)) (.slice k2 m2 m2) (.slice v2 m2 m2)) := Lib.hid (by
    have h1 := below_then HB.out HB3.out
    have h2 := h1.drew.alloc h1.drew.size (.cells #[.slice k2 m2 m2, .slice v2 m2 m2] 28)
    exact ⟨h2, heap_alloc_new w3.drew _, HP.out _ h2⟩)
  rcases Nat.lt_trichotomy f s with hlt | hlt | hlt
  · obtain rfl : e = s := by omega
    have hi1 : (f : Int) < (e : Int) := by omega
    clear he
    go_wp2_with fail
    go_region
    all_goals go_wp2_with fail
    all_goals go_ret
    all_goals exact ⟨_, _, _, rfl, HE.out⟩
  · subst hlt
    obtain rfl : e = f := by omega
    clear he
    go_wp2_with fail
    go_region
    all_goals go_wp2_with fail
    all_goals go_ret
    all_goals exact ⟨_, _, _, rfl, HE.out⟩
  · obtain rfl : e = f := by omega
    have hi1 : (s : Int) < (e : Int) := by omega
    clear he
    go_wp2_with fail
    go_region
    all_goals go_wp2_with fail
    all_goals go_ret
    all_goals exact ⟨_, _, _, rfl, HE.out⟩
end Go.Proofs.Ytighjiiaplihjaa.Tab.Im
