/- The program's At and Get. -/
import Derived.Test.YtighjiiaplihjaaTabImC
import Derived.Laws.ResultCell
namespace Go.Proofs.Ytighjiiaplihjaa.Tab.Im
open Go.RowKit Go.Lib

theorem results_cell_two {fn : Func} {p u v : Tmp} {ty : TypeId} (h : fn.results = #[.cell p ty, .tmp u, .tmp v]) (tmps : Array Value) (P : Program) (w : World) :
    (results fn tmps).run P w =
      ((asAddr (tmps.getD p undef)).run P w).andThen fun a w₁ => ((loadVar ty a).run P w₁).andThen fun x w₂ => .ok (.tuple #[x, tmps.getD u undef, tmps.getD v undef]) w₂ := by
  simp only [results, h]
  simp [Sem.run_bind, Result.andThen]
theorem ret_key3 {fn : Func} {R : Ending → World → Prop} {a : Act} {w : World} {p u s : Tmp} {g : Nat} {k : Key} {x y : Value} {T : TypeId} (h : fn.results = #[.cell p 38, .tmp u, .tmp s]) (hd : a.defers = [])
    (ht : a.tmps.getD p undef = .pointer (some ⟨g, 0, none⟩)) (hu : a.tmps.getD u undef = x) (hs : a.tmps.getD s undef = y) (hb : w.heap[g]? = some (.cells k.cells T (0, 0))) (hR : R (.returned (.tuple #[kV k, x, y])) w) : bodyPost Try.prog fn R .ret a w := by
  refine bodyPost_ret (v := .tuple #[kV k, x, y]) ?_ hd hR
  rw [results_cell_two h, ht, hu, hs]
  simp [asAddr, run_loadVar_row (P := Try.prog) w g T 38 k.cells (0, 0) _ hb Try.underlying38 rfl (by kernel_rfl), Result.andThen]
  rfl
theorem key_set {w : World} {g : Nat} {k x : Key} {T : TypeId} (h : w.heap[g]? = some (.cells k.cells T (0, 0))) :
    ((((w.setCell ⟨g, 0, none⟩ (.int .i64 x.a)).setCell ⟨g, 1, none⟩ (.int .i64 x.b)).setCell ⟨g, 2, none⟩ (.int .i64 x.c)).setCell ⟨g, 3, none⟩ (.int .i64 x.d)).heap[g]? = some (.cells x.cells T (0, 0)) := by
  have h0 := heap_setCell_same w g 0 _ _ (.int .i64 x.a) h
  have h1 := heap_setCell_same _ g 1 _ _ (.int .i64 x.b) h0
  have h2 := heap_setCell_same _ g 2 _ _ (.int .i64 x.c) h1
  have h3 := heap_setCell_same _ g 3 _ _ (.int .i64 x.d) h2
  exact h3
theorem row_int {w : World} {B : Nat} {v : Value} {l : List Int} (h : OwnI w B v l) : ∃ a c, v = .slice a l.length c ∧ l.length ≤ c ∧ ∀ (i : Nat) (x : Int), l[i]? = some x → ∃ g, a = some ⟨g, 0, none⟩ ∧ g < w.heap.size ∧ w.cell? ⟨g, i, none⟩ = some (.int .i64 x) := by
  obtain ⟨a, c, hv, hc, _, _, hat⟩ := rowI h
  refine ⟨a, c, hv, hc, fun i x hi => hat i _ ?_⟩
  rw [List.getElem?_map, hi]
  rfl
theorem len_keys (l : List Pair) : (keys l).length = l.length := by unfold keys; rw [List.length_map]
theorem len_vals (l : List Pair) : (vals l).length = l.length := List.length_map _
theorem key_of {l : List Pair} {i : Nat} {p : Pair} (h : l[i]? = some p) : (keys l)[i]? = some p.k := by unfold keys; rw [List.getElem?_map, h]; rfl
theorem val_of {l : List Pair} {i : Nat} {p : Pair} (h : l[i]? = some p) : (vals l)[i]? = some p.v := by rw [List.getElem?_map, h]; rfl
/-- What lies at the i-th place. -/
theorem PTV.at' {w : World} {Q : Nat} {F : Nat → Prop} {l : List Pair} {ks vs : Value} (h : PTV w Q F l ks vs) : ∃ a c b d, ks = .slice a l.length c ∧ vs = .slice b l.length d ∧ l.length ≤ c ∧ l.length ≤ d ∧ ∀ (i : Nat) (p : Pair), l[i]? = some p →
    ∃ g f, a = some ⟨g, 0, none⟩ ∧ b = some ⟨f, 0, none⟩ ∧ F g ∧ F f ∧ g ≠ Q ∧ f ≠ Q ∧ w.cell? ⟨g, i * 4, none⟩ = some (.int .i64 p.k.a) ∧ w.cell? ⟨g, i * 4 + 1, none⟩ = some (.int .i64 p.k.b) ∧ w.cell? ⟨g, i * 4 + 2, none⟩ = some (.int .i64 p.k.c) ∧ w.cell? ⟨g, i * 4 + 3, none⟩ = some (.int .i64 p.k.d) ∧
      w.cell? ⟨f, i, none⟩ = some (.int .i64 p.v) := by
  obtain ⟨a, c, e1, h1, hk⟩ := row_key h.keys
  obtain ⟨b, d, e2, h2, hv⟩ := row_int h.vals
  rw [len_keys] at e1 h1
  rw [len_vals] at e2 h2
  refine ⟨a, c, b, d, e1, e2, h1, h2, fun i p hp => ?_⟩
  obtain ⟨g, rfl, _, q⟩ := hk i p.k (key_of hp)
  obtain ⟨f, rfl, _, r⟩ := hv i p.v (val_of hp)
  have h3 := h.kb g (by rw [e1]; rfl)
  have h4 := h.vb f (by rw [e2]; rfl)
  exact ⟨g, f, rfl, rfl, h3.1, h4.1, h3.2, h4.2, q.1, q.2.1, q.2.2.1, q.2.2.2, r⟩
set_option maxRecDepth 100000 in
set_option maxHeartbeats 4000000 in
theorem at_yes {Q : Nat} {F : Nat → Prop} {l : List Pair} (i : Nat) (p : Pair) (w : World) (h : PT w Q F l) (hp : l[i]? = some p) :
    Calls Try.prog 15 #[ptr Q, .int .i64 (i : Nat)] w fun e w' => e = .returned (.tuple #[kV p.k, .int .i64 p.v, .bool true]) ∧ Below w.heap.size w w' := by
  obtain ⟨X, hX⟩ : ∃ X, w.alloc (.cells #[.int .i64 0, .int .i64 0, .int .i64 0, .int .i64 0] 38) = X := ⟨_, rfl⟩
  have hbX : Below w.heap.size w X := by rw [← hX]; exact (Below.refl _ w).alloc (Nat.le_refl _) _
  have hkX : X.heap[w.heap.size]? = some (.cells zeroKey.cells 38 (0, 0)) := by rw [← hX]; exact heap_alloc_new w _
  have hQ : Q < w.heap.size := by obtain ⟨ks, vs, h⟩ := h; exact h.lt Q h.self
  have hPX : PT X Q F l := h.keep hbX.size (fun k hk => hbX.block k (h.lt k hk))
  obtain ⟨n, hn⟩ : ∃ n, l.length = n := ⟨_, rfl⟩
  have HL := Lib.hid (len_im X hPX)
  rw [hn] at HL
  obtain ⟨ks, vs, hv⟩ := hPX
  obtain ⟨c0, c1⟩ := hv.cells
  obtain ⟨a, c, b, d, rfl, rfl, hlc, hld, hat⟩ := hv.at'
  obtain ⟨g, f, rfl, rfl, hFg, hFf, hgQ, hfQ, k0, k1, k2, k3, v0⟩ := hat i p hp
  have hg := h.lt g hFg
  have hf := h.lt f hFf
  rw [hn] at c0 c1 hlc hld
  have hin : (i : Int) < (n : Int) := by have := (List.getElem?_eq_some_iff.1 hp).1; omega
  have hi0 : ¬ (i : Int) < 0 := by omega
  have hin2 : ¬ (n : Int) ≤ (i : Int) := by omega
  have z0 := cell_block (j := 0) hkX rfl; have z1 := cell_block (j := 1) hkX rfl; have z2 := cell_block (j := 2) hkX rfl; have z3 := cell_block (j := 3) hkX rfl
  have f0 := free_block 0 hkX; have f1 := free_block 1 hkX; have f2 := free_block 2 hkX; have f3 := free_block 3 hkX
  have HB := Lib.hid hbX; have HK := Lib.hid hkX
  have hne1 : ¬ w.heap.size = g := by omega
  have hne2 : ¬ w.heap.size = f := by omega
  have hne3 : ¬ w.heap.size = Q := by omega
  clear h hv hat hp hn hbX hkX hFg hFf hgQ hfQ
  go_enter Try.func15, Try.ntmps15
  go_wp2_with fail
  clear hX
  refine HL.out.mono ?_
  rintro e w1 ⟨rfl, m, rfl⟩
  go_wp2_with fail
  go_region
  all_goals go_wp2_with fail
  all_goals exact ret_key3 rfl rfl rfl rfl rfl (key_set (k := zeroKey) (x := p.k) HK.out) ⟨rfl, below_of_only HB.out (Nat.le_refl _) (only_setCell (only_setCell (only_setCell (only_setCell (only_drewN (only_refl X _) _) _ _) _ _) _ _) _ _)⟩
theorem build_key (W : World) : (Instr.build 38 #[]).run Try.prog W = .ok (.agg #[.int .i64 0, .int .i64 0, .int .i64 0, .int .i64 0]) W := by kernel_rfl
set_option maxRecDepth 100000 in
set_option maxHeartbeats 4000000 in
theorem at_no (q : Option Addr) (n : Nat) (i : Int) (w : World) (hL : ∀ W, Below w.heap.size w W → Calls Try.prog 24 #[.pointer q] W fun e w' => e = .returned (.int .i64 (n : Nat)) ∧ ∃ m, W.drewN m = w') (hi : i < 0 ∨ (n : Int) ≤ i) :
    Calls Try.prog 15 #[.pointer q, .int .i64 i] w fun e w' => e = .returned (.tuple #[kV zeroKey, .int .i64 0, .bool false]) ∧ Below w.heap.size w w' := by
  obtain ⟨X, hX⟩ : ∃ X, w.alloc (.cells #[.int .i64 0, .int .i64 0, .int .i64 0, .int .i64 0] 38) = X := ⟨_, rfl⟩
  have hbX : Below w.heap.size w X := by rw [← hX]; exact (Below.refl _ w).alloc (Nat.le_refl _) _
  have hkX : X.heap[w.heap.size]? = some (.cells zeroKey.cells 38 (0, 0)) := by rw [← hX]; exact heap_alloc_new w _
  have HL := Lib.hid (hL X hbX)
  have z0 := cell_block (j := 0) hkX rfl; have z1 := cell_block (j := 1) hkX rfl; have z2 := cell_block (j := 2) hkX rfl; have z3 := cell_block (j := 3) hkX rfl
  have f0 := free_block 0 hkX; have f1 := free_block 1 hkX; have f2 := free_block 2 hkX; have f3 := free_block 3 hkX
  have HB := Lib.hid hbX; have HK := Lib.hid hkX
  have hbk := build_key
  clear hbX hkX hL
  by_cases hneg : i < 0
  · clear hi
    go_enter Try.func15, Try.ntmps15
    go_wp2_with fail
    exact ret_key3 (k := zeroKey) rfl rfl rfl rfl rfl (key_set (k := zeroKey) (x := zeroKey) HK.out) ⟨rfl, below_of_only HB.out (Nat.le_refl _) (only_setCell (only_setCell (only_setCell (only_setCell (only_refl X _) _ _) _ _) _ _) _ _)⟩
  · have hin : (n : Int) ≤ i := by omega
    clear hi
    go_enter Try.func15, Try.ntmps15
    go_wp2_with fail
    clear hX
    refine HL.out.mono ?_
    rintro e w1 ⟨rfl, m, rfl⟩
    go_wp2_with fail
    exact ret_key3 (k := zeroKey) rfl rfl rfl rfl rfl (key_set (k := zeroKey) (x := zeroKey) HK.out) ⟨rfl, below_of_only HB.out (Nat.le_refl _) (only_setCell (only_setCell (only_setCell (only_setCell (only_drewN (only_refl X _) _) _ _) _ _) _ _) _ _)⟩
theorem at_im {Q : Nat} {F : Nat → Prop} {l : List Pair} (i : Int) (w : World) (h : PT w Q F l) :
    Calls Try.prog 15 #[ptr Q, .int .i64 i] w fun e w' => e = .returned (atV l i) ∧ Below w.heap.size w w' := by
  by_cases hi : 0 ≤ i ∧ i < l.length
  · have hp : l[i.toNat]? = some (l[i.toNat]'(by omega)) := List.getElem?_eq_getElem _
    have h1 := at_yes i.toNat _ w h hp
    rw [show ((i.toNat : Nat) : Int) = i by omega] at h1
    have e : nthP l i.toNat = l[i.toNat]'(by omega) := by unfold nthP; rw [List.getD_eq_getElem?_getD, hp]; rfl
    unfold atV
    rw [if_pos hi, e]
    exact h1
  · unfold atV
    rw [if_neg hi]
    exact at_no _ l.length i w (fun W hW => len_im W (h.keep hW.size (fun k hk => hW.block k (h.lt k hk)))) (by omega)
theorem at_nil (i : Int) (w : World) :
    Calls Try.prog 15 #[.pointer none, .int .i64 i] w fun e w' => e = .returned (.tuple #[kV zeroKey, .int .i64 0, .bool false]) ∧ Below w.heap.size w w' :=
  at_no none 0 i w (fun W _ => len_nil W) (by omega)
/-! Get -/
set_option maxRecDepth 100000 in
set_option maxHeartbeats 4000000 in
theorem get_im {Q : Nat} {F : Nat → Prop} {l : List Pair} (k : Key) (w : World) (h : PT w Q F l) (hr : Rising l) (hl : l.length ≤ 1000) :
    Calls Try.prog 25 #[ptr Q, kV k] w fun e w' => e = .returned (.tuple #[.int .i64 (valueAt l k), .bool (has l k)]) ∧ Below w.heap.size w w' := by
  obtain ⟨X, hX⟩ : ∃ X, w.alloc (.cells #[.int .i64 k.a, .int .i64 k.b, .int .i64 k.c, .int .i64 k.d] 38) = X := ⟨_, rfl⟩
  have hbX : Below w.heap.size w X := by rw [← hX]; exact (Below.refl _ w).alloc (Nat.le_refl _) _
  have hkX : X.heap[w.heap.size]? = some (.cells k.cells 38 (0, 0)) := by rw [← hX]; exact heap_alloc_new w _
  have k0 := key_at hkX 0 (by omega); have k1 := key_at hkX 1 (by omega); have k2 := key_at hkX 2 (by omega); have k3 := key_at hkX 3 (by omega)
  simp only [Key.at] at k0 k1 k2 k3
  have hPX : PT X Q F l := h.keep hbX.size (fun k hk => hbX.block k (h.lt k hk))
  obtain ⟨n, hn⟩ : ∃ n, place l k = n := ⟨_, rfl⟩
  obtain ⟨b, hb⟩ : ∃ b, has l k = b := ⟨_, rfl⟩
  obtain ⟨x, hx⟩ : ∃ x, valueAt l k = x := ⟨_, rfl⟩
  have HP := Lib.hid (place_im k X hPX hr hl)
  unfold placeV at HP
  rw [hn, hb] at HP
  rw [hb, hx]
  have HPX := Lib.hid hPX; have HB := Lib.hid hbX; have HN := Lib.hid hn; have HH := Lib.hid hb; have HX := Lib.hid hx; have HR := Lib.hid hr
  clear hbX hkX hPX h hn hb hx hl hr
  go_enter Try.func25, Try.ntmps25
  go_wp2_with fail
  clear hX
  refine HP.out.mono ?_
  rintro e w2 ⟨rfl, hb2⟩
  have HB2 := Lib.hid (below_then HB.out hb2)
  cases b with
  | false =>
    obtain rfl : (0 : Int) = x := by
      rw [← HX.out]
      unfold valueAt
      rw [HH.out]
      rfl
    go_wp2_with fail
    go_ret2
    exact ⟨rfl, HB2.out⟩
  | true =>
    obtain ⟨p, hp, hpk⟩ := (has_at HR.out k).1 HH.out
    rw [HN.out] at hp
    have hpx : p.v = x := by
      rw [← HX.out]
      unfold valueAt nthP
      rw [HH.out, HN.out, List.getD_eq_getElem?_getD, hp]
      rfl
    obtain ⟨ks, vs, hv⟩ := HPX.out.keep hb2.size (fun k hk => hb2.block k (HPX.out.lt k hk))
    obtain ⟨c0, c1⟩ := hv.cells
    obtain ⟨a, c, b, d, rfl, rfl, hlc, hld, hat⟩ := hv.at'
    obtain ⟨g, f, rfl, rfl, _, _, _, _, _, _, _, _, v0⟩ := hat n p hp
    rw [hpx] at v0
    have hnl : (n : Int) < (l.length : Int) := by have := (List.getElem?_eq_some_iff.1 hp).1; omega
    have hn0 : (0 : Int) ≤ (n : Int) := by omega
    clear hv hat hp hpk hpx hb2
    go_wp2_with fail
    go_ret2
    exact ⟨rfl, HB2.out⟩
end Go.Proofs.Ytighjiiaplihjaa.Tab.Im
