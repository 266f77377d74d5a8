/- The program's Next, Clone, and those of nobody's drafts. -/
import Derived.Test.YtfebaiefoonncaaDraImB
import Derived.Test.YtfebaiefoonncaaTdrM
namespace Go.Proofs.Ytfebaiefoonncaa.Draft
open Go.RowKit Go.Lib

/-- Zero drafts. -/
abbrev zeroD : Array Value := #[.slice none 0 0, .slice none 0 0, .int .i64 0]
theorem dp_zero (w : World) : DP (w.alloc (.cells zeroD 47)) w.heap.size (fun k => k = w.heap.size) [] 0 := by
  refine ⟨.slice none 0 0, .slice none 0 0, ⟨⟨_, heap_alloc_new w _⟩, World.ownsRow_nil _ _ _ _, World.ownsRow_nil _ _ _ _, rfl, fun q hq => (by cases hq), fun q hq => (by cases hq), fun k hk => ?_⟩⟩
  rw [hk]
  simp
set_option maxRecDepth 100000 in
theorem next_im {Q : Nat} {F : Nat → Prop} {l : List Dr} {z : Int} (w : World) (h : DP w Q F l z) (hg : Good l z) :
    Calls Try.prog 10 #[ptr Q] w fun e w' => e = .returned (.int .i64 (z + 1)) ∧ w = w' := by
  have c2 := h.last.1
  have hz : 0 ≤ z ∧ z < 1099511627776 := hg.last
  obtain ⟨y, hy⟩ : ∃ y, z + 1 = y := ⟨_, rfl⟩
  have hw : IntKind.i64.wrap (z + 1) = y := by rw [hy]; exact IntWalk.i64_in _ (by omega)
  rw [hy]
  clear h hg hz hy
  go_enter Try.func10, Try.ntmps10
  go_wp2_with fail
  go_ret
  exact ⟨rfl, rfl⟩
set_option maxRecDepth 100000 in
theorem next_nil (w : World) : Calls Try.prog 10 #[.pointer none] w fun e w' => e = .returned (.int .i64 0) ∧ w = w' := by
  go_enter Try.func10, Try.ntmps10
  go_wp2_with fail
  go_ret
  exact ⟨rfl, rfl⟩
set_option maxRecDepth 100000 in
theorem clone_nil (w : World) : Calls Try.prog 8 #[.pointer none] w fun e w' => e = .returned (ptr w.heap.size) ∧ DP w' w.heap.size (fun k => k = w.heap.size) [] 0 ∧ Below w.heap.size w w' := by
  have H := Lib.hid (dp_zero w)
  have HB := Lib.hid ((Below.refl _ w).alloc (Nat.le_refl _) (.cells zeroD 47))
  go_enter Try.func8, Try.ntmps8
  go_wp2_with fail
  go_ret
  exact ⟨rfl, H.out, HB.out⟩
set_option maxRecDepth 100000 in
theorem add_nil (d : Dr) (w : World) : Calls Try.prog 13 #[.pointer none, elV d] w fun e w' => e = .returned (.tuple #[.int .i64 0, .int .i64 1]) ∧ Below w.heap.size w w' := by
  have HB := Lib.hid ((Below.refl _ w).alloc (Nat.le_refl _) (.cells #[.int .i64 d.id, .int .i64 d.owner, .int .i64 d.div, .int .i64 d.place, .int .i64 d.blue, .int .i64 d.me, .int .i64 d.te, .int .i64 d.runs, .int .i64 d.busy] 36))
  go_enter Try.func13, Try.ntmps13
  go_wp2_with fail
  go_ret2
  exact ⟨rfl, HB.out⟩
set_option maxRecDepth 100000 in
theorem list_nil (w : World) : Calls Try.prog 9 #[.pointer none] w fun e w' => e = .returned (.slice none 0 0) ∧ w = w' := by
  go_enter Try.func9, Try.ntmps9
  go_wp2_with fail
  go_ret
  exact ⟨rfl, rfl⟩
set_option maxRecDepth 100000 in
set_option maxHeartbeats 2000000 in
theorem clone_im {Q : Nat} {F : Nat → Prop} {l : List Dr} {z : Int} (w : World) (h : DP w Q F l z) :
    Calls Try.prog 8 #[ptr Q] w fun e w' => ∃ Q2, e = .returned (ptr Q2) ∧ ∃ F2, DP w' Q2 F2 l z ∧ w.heap.size ≤ Q2 ∧ Below w.heap.size w w' ∧ ∀ k, F2 k → (F k ∧ k ≠ Q) ∨ w.heap.size ≤ k := by
  have hD := h.under (Below.refl _ w).drew
  have c2 := hD.last.1
  obtain ⟨ks, vs, hv⟩ := h
  have hv1 := hv.under (Below.refl _ w).drew
  obtain ⟨a, c, rfl, _, _, _, _⟩ := Tb.rowK hv.keys
  obtain ⟨b, d, rfl, _, _, _, _⟩ := rowV hv.vals
  obtain ⟨n, hn⟩ : ∃ n, (Tb.keys (prs l)).length = n := ⟨_, rfl⟩
  obtain ⟨m, hm⟩ : ∃ m, (Tb.Dr.vals (prs l)).length = m := ⟨_, rfl⟩
  have HV := Lib.hid hv
  have hC := Tb.Dr.clone_tl w.drew hv1.tl
  rw [hn, hm] at hC HV
  have HC : Hid (Calls Try.prog 23 #[ptr Q] w.drew fun e w' => ∃ Q1, e = .returned (ptr Q1) ∧ (w'.cell? ⟨Q1, 0, none⟩ = some (.slice a n c) ∧ w'.cell? ⟨Q1, 1, none⟩ = some (.slice b m d)) ∧ w'.cell? ⟨Q, 2, none⟩ = some (.int .i64 z) ∧ (w'.alloc (.cells #[.slice a n c, .slice b m d, .int .i64 z] 47)).cell? ⟨Q, 2, none⟩ = some (.int .i64 z) ∧ Hid (Below w.heap.size w w')) := Lib.hid (by
    refine hC.mono ?_
    rintro e w' ⟨Q1, F1, rfl, h1, h2, h3⟩
    exact ⟨Q1, rfl, h1.cells, (hD.under h3).last.1, ((hD.under h3).under ((Below.refl _ w').alloc (Nat.le_refl _) _)).last.1, Lib.hid (below_then (Below.refl _ w).drew h3)⟩)
  have HE : Hid (∀ W, Below w.heap.size w W → ∃ F2, DP (W.alloc (.cells #[.slice a n c, .slice b m d, .int .i64 z] 47)) W.heap.size F2 l z ∧ w.heap.size ≤ W.heap.size ∧ Below w.heap.size w (W.alloc (.cells #[.slice a n c, .slice b m d, .int .i64 z] 47)) ∧ ∀ k, F2 k → (F k ∧ k ≠ Q) ∨ w.heap.size ≤ k) := Lib.hid (fun W hb => by
    have hbl := hb.alloc hb.size (.cells #[.slice a n c, .slice b m d, .int .i64 z] 47)
    have hk := Tb.own_under HV.out.keys hbl
    have hv := Tb.own_under HV.out.vals hbl
    refine ⟨fun k => k = W.heap.size ∨ (Value.slice a n c).ownBlock = some k ∨ (Value.slice b m d).ownBlock = some k, ⟨_, _, ⟨⟨_, heap_alloc_new W _⟩, hk, hv, .inl rfl, fun q hq => ⟨.inr (.inl hq), ?_⟩, fun q hq => ⟨.inr (.inr hq), ?_⟩, ?_⟩⟩, hb.size, hbl, ?_⟩
    · have := (HV.out.keys.lt q hq).2
      have := hb.size
      omega
    · have := (HV.out.vals.lt q hq).2
      have := hb.size
      omega
    · rintro k (rfl | hk' | hk')
      · simp
      · exact (hk.lt k hk').2
      · exact (hv.lt k hk').2
    · rintro k (rfl | hk' | hk')
      · exact .inr hb.size
      · exact .inl (HV.out.kb k hk')
      · exact .inl (HV.out.vb k hk'))
  clear hD hv hv1 hn hm hC
  go_enter Try.func8, Try.ntmps8
  go_wp2_with fail
  go_region_with (go_at_call 23; refine HC.out.mono ?_; rintro e w1 ⟨Q1, rfl, ⟨g0, g1⟩, g2, g3, hb⟩)
  all_goals
    go_wp2_with fail
    go_ret
    exact ⟨_, rfl, HE.out _ hb.out⟩
end Go.Proofs.Ytfebaiefoonncaa.Draft
