/- The program's change: a draft read, handed to a closure, and put back if no error comes of it; Use, Free, Learn, Give. -/
import Derived.Test.YtfebaiefoonncaaDraImC
import Derived.Test.YtfebaiefoonncaaDraImE
namespace Go.Proofs.Ytfebaiefoonncaa.Draft
open Go.RowKit Go.Lib

/-- What a closure does to a block of its own leaves the drafts alone. -/
theorem closed {w X w2 : World} {Q T : Nat} {F : Nat → Prop} {l : List Dr} {z : Int} (hT : T = w.heap.size ∨ w.heap.size ≤ T) (h0 : DP w Q F l z) (h1 : DP X Q F l z) (h2 : Up w X Q F F) (h3 : X.grownBy w2 (some T)) : DP w2 Q F l z ∧ Up w w2 Q F F := by
  have hTw : w.heap.size ≤ T := by omega
  have hk : ∀ k, F k → k ≠ T := fun k hk e => by
    have := h0.lt k hk
    omega
  refine ⟨h1.keep h3.size fun k hf => h3.block k (h1.lt k hf) (by intro e; cases e; exact hk _ hf rfl), ⟨⟨h3.os.trans h2.grown.os, h3.tape.trans h2.grown.tape, h3.output.trans h2.grown.output, Nat.le_trans h2.grown.size h3.size, fun k hk1 hk2 => ?_⟩, fun j hj => .inl hj⟩⟩
  exact (h3.block k (Nat.lt_of_lt_of_le hk1 h2.grown.size) (by intro e; cases e; omega)).trans (h2.grown.block k hk1 hk2)
theorem ch_none {l : List Dr} {i : Int} {E : Dr → Int} {D : Dr → Dr} (h : find l i = none) : chE l i E = 3 ∧ chL l i E D = l := by
  unfold chE chL
  rw [h]
  exact ⟨rfl, rfl⟩
theorem ch_some {l : List Dr} {i : Int} {E : Dr → Int} {D : Dr → Dr} {d : Dr} (h : find l i = some d) : chE l i E = E d ∧ chL l i E D = if E d = 0 then ins l (D d) else l := by
  unfold chE chL
  rw [h]
  exact ⟨rfl, rfl⟩

set_option maxRecDepth 100000 in
set_option maxHeartbeats 4000000 in
theorem change_use {Q : Nat} {F : Nat → Prop} {l : List Dr} {z : Int} (i x y : Int) (E : Dr → Int) (D : Dr → Dr) (b1 b2 : Nat) (w : World) (h : DP w Q F l z) (hg : Good l z)
    (hF : Does 30 x y E D) (hD : ∀ d, Ok d → E d = 0 → Ok (D d) ∧ (D d).id = d.id) (c1 : w.cell? ⟨b1, 0, none⟩ = some (.int .i64 x)) (c2 : w.cell? ⟨b2, 0, none⟩ = some (.int .i64 y)) :
    Calls Try.prog 29 #[ptr Q, .int .i64 i, .func (.func 30) #[] #[ptr b1, ptr b2]] w fun e w' => e = .returned (.int .i64 (chE l i E)) ∧ ∃ F', DP w' Q F' (chL l i E D) z ∧ Up w w' Q F F' := by
  have l1 : b1 < w.heap.size := World.block_lt_of_cell? _ _ c1
  have l2 : b2 < w.heap.size := World.block_lt_of_cell? _ _ c2
  have HG := Lib.hid (get_is i w h hg.rise (by have := hg.len; omega))
  have HP := Lib.hid h; have HGD := Lib.hid hg
  cases hf : find l i with
  | none =>
    obtain ⟨e1, e2⟩ := ch_none (E := E) (D := D) hf
    rw [e1, e2]
    rw [hf] at HG
    have HX : Hid (∀ W, Below w.heap.size w W → DP (W.alloc (.cells #[.int .i64 (default : Dr).id, .int .i64 (default : Dr).owner, .int .i64 (default : Dr).div, .int .i64 (default : Dr).place, .int .i64 (default : Dr).blue, .int .i64 (default : Dr).me, .int .i64 (default : Dr).te, .int .i64 (default : Dr).runs, .int .i64 (default : Dr).busy] 36)) Q F l z ∧ Up w (W.alloc (.cells #[.int .i64 (default : Dr).id, .int .i64 (default : Dr).owner, .int .i64 (default : Dr).div, .int .i64 (default : Dr).place, .int .i64 (default : Dr).blue, .int .i64 (default : Dr).me, .int .i64 (default : Dr).te, .int .i64 (default : Dr).runs, .int .i64 (default : Dr).busy] 36)) Q F F) := Lib.hid (fun W hW => by
      have hb := hW.alloc hW.size (.cells #[.int .i64 (default : Dr).id, .int .i64 (default : Dr).owner, .int .i64 (default : Dr).div, .int .i64 (default : Dr).place, .int .i64 (default : Dr).blue, .int .i64 (default : Dr).me, .int .i64 (default : Dr).te, .int .i64 (default : Dr).runs, .int .i64 (default : Dr).busy] 36)
      exact ⟨HP.out.under hb, Up.of_below hb⟩)
    obtain ⟨dz, hdz⟩ : ∃ dz : Dr, dz = default := ⟨_, rfl⟩
    have e3 : (none : Option Dr).getD default = dz := by rw [hdz]; rfl
    rw [e3] at HG
    rw [← hdz] at HX
    clear h hg hF hD c1 c2 hf e1 e2 l1 l2 e3 hdz
    go_enter Try.func29, Try.ntmps29
    go_wp2_with fail
    refine HG.out.mono ?_
    rintro e w1 ⟨rfl, hb1⟩
    have HE := Lib.hid (HX.out w1 hb1)
    clear hb1
    go_wp2_with fail
    go_ret
    exact ⟨rfl, F, HE.out⟩
  | some d =>
    obtain ⟨e1, e2⟩ := ch_some (E := E) (D := D) hf
    have hm := find_mem hf
    have hok := (hg.ok d hm.1).1
    rw [e1, e2]
    rw [hf] at HG
    have e3 : (some d).getD default = d := rfl
    have e4 : (if (some d).isSome then (0 : Int) else 3) = 0 := rfl
    rw [e3, e4] at HG
    obtain ⟨q, hq⟩ : ∃ q, E d = q := ⟨_, rfl⟩
    rw [hq]
    have HX : Hid (∀ W, Below w.heap.size w W → ∃ X T, W.alloc (.cells #[.int .i64 d.id, .int .i64 d.owner, .int .i64 d.div, .int .i64 d.place, .int .i64 d.blue, .int .i64 d.me, .int .i64 d.te, .int .i64 d.runs, .int .i64 d.busy] 36) = X ∧ W.heap.size = T ∧ Hid (DP X Q F l z ∧ Up w X Q F F ∧ w.heap.size ≤ T ∧ Has X T d) ∧
        Hid (Calls Try.prog 30 #[ptr T, ptr b1, ptr b2] X fun e w' => e = .returned (.int .i64 q) ∧ (∃ d', Has w' T d' ∧ (q = 0 → d' = D d)) ∧ X.grownBy w' (some T))) := Lib.hid (fun W hW => by
      have hb := hW.alloc hW.size (.cells #[.int .i64 d.id, .int .i64 d.owner, .int .i64 d.div, .int .i64 d.place, .int .i64 d.blue, .int .i64 d.me, .int .i64 d.te, .int .i64 d.runs, .int .i64 d.busy] 36)
      have hT : Has (W.alloc (.cells #[.int .i64 d.id, .int .i64 d.owner, .int .i64 d.div, .int .i64 d.place, .int .i64 d.blue, .int .i64 d.me, .int .i64 d.te, .int .i64 d.runs, .int .i64 d.busy] 36)) W.heap.size d := heap_alloc_new W _
      have hs := hW.size
      refine ⟨_, _, rfl, rfl, Lib.hid ⟨HP.out.under hb, Up.of_below hb, hs, hT⟩, Lib.hid ?_⟩
      rw [← hq]
      exact hF _ W.heap.size b1 b2 d ((bcell hb).1 b1 0 l1 |>.trans c1) ((bcell hb).1 b2 0 l2 |>.trans c2) (by omega) (by omega) hT hok)
    by_cases h0 : q = 0
    · subst h0
      rw [if_pos rfl]
      have hDd := hD d hok hq
      have HI := Lib.hid hDd.2
      obtain ⟨d2, hd2⟩ : ∃ d2, D d = d2 := ⟨_, rfl⟩
      rw [hd2] at HI HX ⊢
      have HPU : Hid (∀ W F', DP W Q F' l z → Calls Try.prog 22 #[ptr Q, elV d2] W fun e w' => ∃ b, e = .returned (.bool b) ∧ Hid (∃ F'', DP w' Q F'' (ins l d2) z ∧ Up W w' Q F' F'')) := Lib.hid (fun W F' hW => by
        refine (put_is d2 W hW HGD.out.rise (by have := HGD.out.len; omega)).mono ?_
        rintro e w' ⟨rfl, F'', h1, h2⟩
        exact ⟨_, rfl, Lib.hid ⟨F'', h1, h2⟩⟩)
      clear h hg hF hD c1 c2 hf e1 e2 l1 l2 hq hDd hd2 hm hok e3 e4
      go_enter Try.func29, Try.ntmps29
      go_wp2_with fail
      refine HG.out.mono ?_
      rintro e w1 ⟨rfl, hb1⟩
      obtain ⟨X, T, hX, hT, HA, HB⟩ := HX.out w1 hb1
      clear hb1
      go_wp2_with fail
      clear hX hT
      refine HB.out.mono ?_
      rintro e w2 ⟨rfl, h2, h3⟩
      have HW : Hid (DP w2 Q F l z ∧ Up w w2 Q F F) := Lib.hid (closed (.inr HA.out.2.2.1) HP.out HA.out.1 HA.out.2.1 h3)
      obtain ⟨d', h4, h5⟩ := h2
      obtain rfl := h5 (by first | trivial | rfl)
      obtain ⟨k0, k1, k2, k3, k4, k5, k6, k7, k8⟩ := el_at h4
      have HC := Lib.hid (HPU.out w2.drew F (HW.out.1.under (Below.refl _ w2).drew))
      clear h3 h4
      go_wp2_with fail
      go_region_with (go_at_call 22; refine HC.out.mono ?_; rintro e w3 ⟨b, rfl, H3⟩)
      all_goals
        have HE : Hid (∃ F', DP w3 Q F' (ins l d') z ∧ Up w w3 Q F F') := Lib.hid (by
          obtain ⟨F', g1, g2⟩ := H3.out
          exact ⟨F', g1, HW.out.2.trans ((Up.of_below (Below.refl _ w2).drew).trans g2)⟩)
        clear HW H3
        go_wp2_with fail
        go_ret
        exact ⟨rfl, HE.out⟩
    · rw [if_neg h0]
      have hne : (q != 0) = true := by simpa using h0
      have hne2 : (q == 0) = false := by simpa using h0
      clear h hg hF hD c1 c2 hf e1 e2 l1 l2 hq hm hok e3 e4
      go_enter Try.func29, Try.ntmps29
      go_wp2_with fail
      refine HG.out.mono ?_
      rintro e w1 ⟨rfl, hb1⟩
      obtain ⟨X, T, hX, hT, HA, HB⟩ := HX.out w1 hb1
      clear hb1
      go_wp2_with fail
      clear hX hT
      refine HB.out.mono ?_
      rintro e w2 ⟨rfl, h2, h3⟩
      have HW : Hid (DP w2 Q F l z ∧ Up w w2 Q F F) := Lib.hid (closed (.inr HA.out.2.2.1) HP.out HA.out.1 HA.out.2.1 h3)
      clear h2 h3
      go_wp2_with fail
      go_ret
      exact ⟨rfl, F, HW.out⟩

set_option maxRecDepth 100000 in
set_option maxHeartbeats 2000000 in
theorem use_is {Q : Nat} {F : Nat → Prop} {l : List Dr} {z : Int} (i x y : Int) (w : World) (h : DP w Q F l z) (hg : Good l z) :
    Calls Try.prog 15 #[ptr Q, .int .i64 i, .int .i64 x, .int .i64 y] w fun e w' => e = .returned (.int .i64 (chE l i (useE x y))) ∧ ∃ F', DP w' Q F' (chL l i (useE x y) (useD x y)) z ∧ Up w w' Q F F' := by
  obtain ⟨B, hB⟩ : ∃ B, w.heap.size = B := ⟨_, rfl⟩
  obtain ⟨X, hX⟩ : ∃ X, (w.alloc (.cells #[.int .i64 x] 3)).alloc (.cells #[.int .i64 y] 3) = X := ⟨_, rfl⟩
  have hbX : Below w.heap.size w X := by rw [← hX]; exact ((Below.refl _ w).alloc (Nat.le_refl _) _).alloc (by simp) _
  have h1 : X.heap[B]? = some (.cells #[.int .i64 x] 3 (0, 0)) := by rw [← hX, ← hB, heap_alloc_old _ _ (by simp)]; exact heap_alloc_new w _
  have h2 : X.heap[B + 1]? = some (.cells #[.int .i64 y] 3 (0, 0)) := by
    rw [← hX, ← hB]
    have := heap_alloc_new (w.alloc (.cells #[.int .i64 x] 3)) (.cells #[.int .i64 y] 3)
    simpa using this
  obtain ⟨q, hq⟩ : ∃ q, chE l i (useE x y) = q := ⟨_, rfl⟩
  have HC : Hid (Calls Try.prog 29 #[ptr Q, .int .i64 i, .func (.func 30) #[] #[ptr B, ptr (B + 1)]] X fun e w' => e = .returned (.int .i64 q) ∧ Hid (∃ F', DP w' Q F' (chL l i (useE x y) (useD x y)) z ∧ Up w w' Q F F')) := Lib.hid (by
    rw [← hq]
    refine (change_use i x y (useE x y) (useD x y) B (B + 1) X (h.under hbX) hg (use_does x y) use_ok (cell_block (j := 0) h1 rfl) (cell_block (j := 0) h2 rfl)).mono ?_
    rintro e w' ⟨rfl, F', g1, g2⟩
    exact ⟨rfl, Lib.hid ⟨F', g1, (Up.of_below hbX).trans g2⟩⟩)
  rw [hq]
  clear h hg hbX h1 h2 hq
  go_enter Try.func15, Try.ntmps15
  go_wp2_with fail
  clear hX
  refine HC.out.mono ?_
  rintro e w' ⟨rfl, H⟩
  go_wp2_with fail
  go_ret
  exact ⟨rfl, H.out⟩

set_option maxRecDepth 100000 in
set_option maxHeartbeats 4000000 in
theorem change_free {Q : Nat} {F : Nat → Prop} {l : List Dr} {z : Int} (i x y : Int) (E : Dr → Int) (D : Dr → Dr) (b1 b2 : Nat) (w : World) (h : DP w Q F l z) (hg : Good l z)
    (hF : Does 35 x y E D) (hD : ∀ d, Ok d → E d = 0 → Ok (D d) ∧ (D d).id = d.id) (c1 : w.cell? ⟨b1, 0, none⟩ = some (.int .i64 x)) (c2 : w.cell? ⟨b2, 0, none⟩ = some (.int .i64 y)) :
    Calls Try.prog 29 #[ptr Q, .int .i64 i, .func (.func 35) #[] #[ptr b1, ptr b2]] w fun e w' => e = .returned (.int .i64 (chE l i E)) ∧ ∃ F', DP w' Q F' (chL l i E D) z ∧ Up w w' Q F F' := by
  have l1 : b1 < w.heap.size := World.block_lt_of_cell? _ _ c1
  have l2 : b2 < w.heap.size := World.block_lt_of_cell? _ _ c2
  have HG := Lib.hid (get_is i w h hg.rise (by have := hg.len; omega))
  have HP := Lib.hid h; have HGD := Lib.hid hg
  cases hf : find l i with
  | none =>
    obtain ⟨e1, e2⟩ := ch_none (E := E) (D := D) hf
    rw [e1, e2]
    rw [hf] at HG
    have HX : Hid (∀ W, Below w.heap.size w W → DP (W.alloc (.cells #[.int .i64 (default : Dr).id, .int .i64 (default : Dr).owner, .int .i64 (default : Dr).div, .int .i64 (default : Dr).place, .int .i64 (default : Dr).blue, .int .i64 (default : Dr).me, .int .i64 (default : Dr).te, .int .i64 (default : Dr).runs, .int .i64 (default : Dr).busy] 36)) Q F l z ∧ Up w (W.alloc (.cells #[.int .i64 (default : Dr).id, .int .i64 (default : Dr).owner, .int .i64 (default : Dr).div, .int .i64 (default : Dr).place, .int .i64 (default : Dr).blue, .int .i64 (default : Dr).me, .int .i64 (default : Dr).te, .int .i64 (default : Dr).runs, .int .i64 (default : Dr).busy] 36)) Q F F) := Lib.hid (fun W hW => by
      have hb := hW.alloc hW.size (.cells #[.int .i64 (default : Dr).id, .int .i64 (default : Dr).owner, .int .i64 (default : Dr).div, .int .i64 (default : Dr).place, .int .i64 (default : Dr).blue, .int .i64 (default : Dr).me, .int .i64 (default : Dr).te, .int .i64 (default : Dr).runs, .int .i64 (default : Dr).busy] 36)
      exact ⟨HP.out.under hb, Up.of_below hb⟩)
    obtain ⟨dz, hdz⟩ : ∃ dz : Dr, dz = default := ⟨_, rfl⟩
    have e3 : (none : Option Dr).getD default = dz := by rw [hdz]; rfl
    rw [e3] at HG
    rw [← hdz] at HX
    clear h hg hF hD c1 c2 hf e1 e2 l1 l2 e3 hdz
    go_enter Try.func29, Try.ntmps29
    go_wp2_with fail
    refine HG.out.mono ?_
    rintro e w1 ⟨rfl, hb1⟩
    have HE := Lib.hid (HX.out w1 hb1)
    clear hb1
    go_wp2_with fail
    go_ret
    exact ⟨rfl, F, HE.out⟩
  | some d =>
    obtain ⟨e1, e2⟩ := ch_some (E := E) (D := D) hf
    have hm := find_mem hf
    have hok := (hg.ok d hm.1).1
    rw [e1, e2]
    rw [hf] at HG
    have e3 : (some d).getD default = d := rfl
    have e4 : (if (some d).isSome then (0 : Int) else 3) = 0 := rfl
    rw [e3, e4] at HG
    obtain ⟨q, hq⟩ : ∃ q, E d = q := ⟨_, rfl⟩
    rw [hq]
    have HX : Hid (∀ W, Below w.heap.size w W → ∃ X T, W.alloc (.cells #[.int .i64 d.id, .int .i64 d.owner, .int .i64 d.div, .int .i64 d.place, .int .i64 d.blue, .int .i64 d.me, .int .i64 d.te, .int .i64 d.runs, .int .i64 d.busy] 36) = X ∧ W.heap.size = T ∧ Hid (DP X Q F l z ∧ Up w X Q F F ∧ w.heap.size ≤ T ∧ Has X T d) ∧
        Hid (Calls Try.prog 35 #[ptr T, ptr b1, ptr b2] X fun e w' => e = .returned (.int .i64 q) ∧ (∃ d', Has w' T d' ∧ (q = 0 → d' = D d)) ∧ X.grownBy w' (some T))) := Lib.hid (fun W hW => by
      have hb := hW.alloc hW.size (.cells #[.int .i64 d.id, .int .i64 d.owner, .int .i64 d.div, .int .i64 d.place, .int .i64 d.blue, .int .i64 d.me, .int .i64 d.te, .int .i64 d.runs, .int .i64 d.busy] 36)
      have hT : Has (W.alloc (.cells #[.int .i64 d.id, .int .i64 d.owner, .int .i64 d.div, .int .i64 d.place, .int .i64 d.blue, .int .i64 d.me, .int .i64 d.te, .int .i64 d.runs, .int .i64 d.busy] 36)) W.heap.size d := heap_alloc_new W _
      have hs := hW.size
      refine ⟨_, _, rfl, rfl, Lib.hid ⟨HP.out.under hb, Up.of_below hb, hs, hT⟩, Lib.hid ?_⟩
      rw [← hq]
      exact hF _ W.heap.size b1 b2 d ((bcell hb).1 b1 0 l1 |>.trans c1) ((bcell hb).1 b2 0 l2 |>.trans c2) (by omega) (by omega) hT hok)
    by_cases h0 : q = 0
    · subst h0
      rw [if_pos rfl]
      have hDd := hD d hok hq
      have HI := Lib.hid hDd.2
      obtain ⟨d2, hd2⟩ : ∃ d2, D d = d2 := ⟨_, rfl⟩
      rw [hd2] at HI HX ⊢
      have HPU : Hid (∀ W F', DP W Q F' l z → Calls Try.prog 22 #[ptr Q, elV d2] W fun e w' => ∃ b, e = .returned (.bool b) ∧ Hid (∃ F'', DP w' Q F'' (ins l d2) z ∧ Up W w' Q F' F'')) := Lib.hid (fun W F' hW => by
        refine (put_is d2 W hW HGD.out.rise (by have := HGD.out.len; omega)).mono ?_
        rintro e w' ⟨rfl, F'', h1, h2⟩
        exact ⟨_, rfl, Lib.hid ⟨F'', h1, h2⟩⟩)
      clear h hg hF hD c1 c2 hf e1 e2 l1 l2 hq hDd hd2 hm hok e3 e4
      go_enter Try.func29, Try.ntmps29
      go_wp2_with fail
      refine HG.out.mono ?_
      rintro e w1 ⟨rfl, hb1⟩
      obtain ⟨X, T, hX, hT, HA, HB⟩ := HX.out w1 hb1
      clear hb1
      go_wp2_with fail
      clear hX hT
      refine HB.out.mono ?_
      rintro e w2 ⟨rfl, h2, h3⟩
      have HW : Hid (DP w2 Q F l z ∧ Up w w2 Q F F) := Lib.hid (closed (.inr HA.out.2.2.1) HP.out HA.out.1 HA.out.2.1 h3)
      obtain ⟨d', h4, h5⟩ := h2
      obtain rfl := h5 (by first | trivial | rfl)
      obtain ⟨k0, k1, k2, k3, k4, k5, k6, k7, k8⟩ := el_at h4
      have HC := Lib.hid (HPU.out w2.drew F (HW.out.1.under (Below.refl _ w2).drew))
      clear h3 h4
      go_wp2_with fail
      go_region_with (go_at_call 22; refine HC.out.mono ?_; rintro e w3 ⟨b, rfl, H3⟩)
      all_goals
        have HE : Hid (∃ F', DP w3 Q F' (ins l d') z ∧ Up w w3 Q F F') := Lib.hid (by
          obtain ⟨F', g1, g2⟩ := H3.out
          exact ⟨F', g1, HW.out.2.trans ((Up.of_below (Below.refl _ w2).drew).trans g2)⟩)
        clear HW H3
        go_wp2_with fail
        go_ret
        exact ⟨rfl, HE.out⟩
    · rw [if_neg h0]
      have hne : (q != 0) = true := by simpa using h0
      have hne2 : (q == 0) = false := by simpa using h0
      clear h hg hF hD c1 c2 hf e1 e2 l1 l2 hq hm hok e3 e4
      go_enter Try.func29, Try.ntmps29
      go_wp2_with fail
      refine HG.out.mono ?_
      rintro e w1 ⟨rfl, hb1⟩
      obtain ⟨X, T, hX, hT, HA, HB⟩ := HX.out w1 hb1
      clear hb1
      go_wp2_with fail
      clear hX hT
      refine HB.out.mono ?_
      rintro e w2 ⟨rfl, h2, h3⟩
      have HW : Hid (DP w2 Q F l z ∧ Up w w2 Q F F) := Lib.hid (closed (.inr HA.out.2.2.1) HP.out HA.out.1 HA.out.2.1 h3)
      clear h2 h3
      go_wp2_with fail
      go_ret
      exact ⟨rfl, F, HW.out⟩

set_option maxRecDepth 100000 in
set_option maxHeartbeats 2000000 in
theorem free_is {Q : Nat} {F : Nat → Prop} {l : List Dr} {z : Int} (i x y : Int) (w : World) (h : DP w Q F l z) (hg : Good l z) :
    Calls Try.prog 17 #[ptr Q, .int .i64 i, .int .i64 x, .int .i64 y] w fun e w' => e = .returned (.int .i64 (chE l i (freeE x y))) ∧ ∃ F', DP w' Q F' (chL l i (freeE x y) (freeD x y)) z ∧ Up w w' Q F F' := by
  obtain ⟨B, hB⟩ : ∃ B, w.heap.size = B := ⟨_, rfl⟩
  obtain ⟨X, hX⟩ : ∃ X, (w.alloc (.cells #[.int .i64 x] 3)).alloc (.cells #[.int .i64 y] 3) = X := ⟨_, rfl⟩
  have hbX : Below w.heap.size w X := by rw [← hX]; exact ((Below.refl _ w).alloc (Nat.le_refl _) _).alloc (by simp) _
  have h1 : X.heap[B]? = some (.cells #[.int .i64 x] 3 (0, 0)) := by rw [← hX, ← hB, heap_alloc_old _ _ (by simp)]; exact heap_alloc_new w _
  have h2 : X.heap[B + 1]? = some (.cells #[.int .i64 y] 3 (0, 0)) := by
    rw [← hX, ← hB]
    have := heap_alloc_new (w.alloc (.cells #[.int .i64 x] 3)) (.cells #[.int .i64 y] 3)
    simpa using this
  obtain ⟨q, hq⟩ : ∃ q, chE l i (freeE x y) = q := ⟨_, rfl⟩
  have HC : Hid (Calls Try.prog 29 #[ptr Q, .int .i64 i, .func (.func 35) #[] #[ptr B, ptr (B + 1)]] X fun e w' => e = .returned (.int .i64 q) ∧ Hid (∃ F', DP w' Q F' (chL l i (freeE x y) (freeD x y)) z ∧ Up w w' Q F F')) := Lib.hid (by
    rw [← hq]
    refine (change_free i x y (freeE x y) (freeD x y) B (B + 1) X (h.under hbX) hg (free_does x y) free_ok (cell_block (j := 0) h1 rfl) (cell_block (j := 0) h2 rfl)).mono ?_
    rintro e w' ⟨rfl, F', g1, g2⟩
    exact ⟨rfl, Lib.hid ⟨F', g1, (Up.of_below hbX).trans g2⟩⟩)
  rw [hq]
  clear h hg hbX h1 h2 hq
  go_enter Try.func17, Try.ntmps17
  go_wp2_with fail
  clear hX
  refine HC.out.mono ?_
  rintro e w' ⟨rfl, H⟩
  go_wp2_with fail
  go_ret
  exact ⟨rfl, H.out⟩

set_option maxRecDepth 100000 in
set_option maxHeartbeats 4000000 in
theorem change_learn {Q : Nat} {F : Nat → Prop} {l : List Dr} {z : Int} (i x y : Int) (E : Dr → Int) (D : Dr → Dr) (b1 b2 : Nat) (w : World) (h : DP w Q F l z) (hg : Good l z)
    (hF : Does 39 x y E D) (hD : ∀ d, Ok d → E d = 0 → Ok (D d) ∧ (D d).id = d.id) (c1 : w.cell? ⟨b1, 0, none⟩ = some (.int .i64 x)) (c2 : w.cell? ⟨b2, 0, none⟩ = some (.int .i64 y)) :
    Calls Try.prog 29 #[ptr Q, .int .i64 i, .func (.func 39) #[] #[ptr b1, ptr b2]] w fun e w' => e = .returned (.int .i64 (chE l i E)) ∧ ∃ F', DP w' Q F' (chL l i E D) z ∧ Up w w' Q F F' := by
  have l1 : b1 < w.heap.size := World.block_lt_of_cell? _ _ c1
  have l2 : b2 < w.heap.size := World.block_lt_of_cell? _ _ c2
  have HG := Lib.hid (get_is i w h hg.rise (by have := hg.len; omega))
  have HP := Lib.hid h; have HGD := Lib.hid hg
  cases hf : find l i with
  | none =>
    obtain ⟨e1, e2⟩ := ch_none (E := E) (D := D) hf
    rw [e1, e2]
    rw [hf] at HG
    have HX : Hid (∀ W, Below w.heap.size w W → DP (W.alloc (.cells #[.int .i64 (default : Dr).id, .int .i64 (default : Dr).owner, .int .i64 (default : Dr).div, .int .i64 (default : Dr).place, .int .i64 (default : Dr).blue, .int .i64 (default : Dr).me, .int .i64 (default : Dr).te, .int .i64 (default : Dr).runs, .int .i64 (default : Dr).busy] 36)) Q F l z ∧ Up w (W.alloc (.cells #[.int .i64 (default : Dr).id, .int .i64 (default : Dr).owner, .int .i64 (default : Dr).div, .int .i64 (default : Dr).place, .int .i64 (default : Dr).blue, .int .i64 (default : Dr).me, .int .i64 (default : Dr).te, .int .i64 (default : Dr).runs, .int .i64 (default : Dr).busy] 36)) Q F F) := Lib.hid (fun W hW => by
      have hb := hW.alloc hW.size (.cells #[.int .i64 (default : Dr).id, .int .i64 (default : Dr).owner, .int .i64 (default : Dr).div, .int .i64 (default : Dr).place, .int .i64 (default : Dr).blue, .int .i64 (default : Dr).me, .int .i64 (default : Dr).te, .int .i64 (default : Dr).runs, .int .i64 (default : Dr).busy] 36)
      exact ⟨HP.out.under hb, Up.of_below hb⟩)
    obtain ⟨dz, hdz⟩ : ∃ dz : Dr, dz = default := ⟨_, rfl⟩
    have e3 : (none : Option Dr).getD default = dz := by rw [hdz]; rfl
    rw [e3] at HG
    rw [← hdz] at HX
    clear h hg hF hD c1 c2 hf e1 e2 l1 l2 e3 hdz
    go_enter Try.func29, Try.ntmps29
    go_wp2_with fail
    refine HG.out.mono ?_
    rintro e w1 ⟨rfl, hb1⟩
    have HE := Lib.hid (HX.out w1 hb1)
    clear hb1
    go_wp2_with fail
    go_ret
    exact ⟨rfl, F, HE.out⟩
  | some d =>
    obtain ⟨e1, e2⟩ := ch_some (E := E) (D := D) hf
    have hm := find_mem hf
    have hok := (hg.ok d hm.1).1
    rw [e1, e2]
    rw [hf] at HG
    have e3 : (some d).getD default = d := rfl
    have e4 : (if (some d).isSome then (0 : Int) else 3) = 0 := rfl
    rw [e3, e4] at HG
    obtain ⟨q, hq⟩ : ∃ q, E d = q := ⟨_, rfl⟩
    rw [hq]
    have HX : Hid (∀ W, Below w.heap.size w W → ∃ X T, W.alloc (.cells #[.int .i64 d.id, .int .i64 d.owner, .int .i64 d.div, .int .i64 d.place, .int .i64 d.blue, .int .i64 d.me, .int .i64 d.te, .int .i64 d.runs, .int .i64 d.busy] 36) = X ∧ W.heap.size = T ∧ Hid (DP X Q F l z ∧ Up w X Q F F ∧ w.heap.size ≤ T ∧ Has X T d) ∧
        Hid (Calls Try.prog 39 #[ptr T, ptr b1, ptr b2] X fun e w' => e = .returned (.int .i64 q) ∧ (∃ d', Has w' T d' ∧ (q = 0 → d' = D d)) ∧ X.grownBy w' (some T))) := Lib.hid (fun W hW => by
      have hb := hW.alloc hW.size (.cells #[.int .i64 d.id, .int .i64 d.owner, .int .i64 d.div, .int .i64 d.place, .int .i64 d.blue, .int .i64 d.me, .int .i64 d.te, .int .i64 d.runs, .int .i64 d.busy] 36)
      have hT : Has (W.alloc (.cells #[.int .i64 d.id, .int .i64 d.owner, .int .i64 d.div, .int .i64 d.place, .int .i64 d.blue, .int .i64 d.me, .int .i64 d.te, .int .i64 d.runs, .int .i64 d.busy] 36)) W.heap.size d := heap_alloc_new W _
      have hs := hW.size
      refine ⟨_, _, rfl, rfl, Lib.hid ⟨HP.out.under hb, Up.of_below hb, hs, hT⟩, Lib.hid ?_⟩
      rw [← hq]
      exact hF _ W.heap.size b1 b2 d ((bcell hb).1 b1 0 l1 |>.trans c1) ((bcell hb).1 b2 0 l2 |>.trans c2) (by omega) (by omega) hT hok)
    by_cases h0 : q = 0
    · subst h0
      rw [if_pos rfl]
      have hDd := hD d hok hq
      have HI := Lib.hid hDd.2
      obtain ⟨d2, hd2⟩ : ∃ d2, D d = d2 := ⟨_, rfl⟩
      rw [hd2] at HI HX ⊢
      have HPU : Hid (∀ W F', DP W Q F' l z → Calls Try.prog 22 #[ptr Q, elV d2] W fun e w' => ∃ b, e = .returned (.bool b) ∧ Hid (∃ F'', DP w' Q F'' (ins l d2) z ∧ Up W w' Q F' F'')) := Lib.hid (fun W F' hW => by
        refine (put_is d2 W hW HGD.out.rise (by have := HGD.out.len; omega)).mono ?_
        rintro e w' ⟨rfl, F'', h1, h2⟩
        exact ⟨_, rfl, Lib.hid ⟨F'', h1, h2⟩⟩)
      clear h hg hF hD c1 c2 hf e1 e2 l1 l2 hq hDd hd2 hm hok e3 e4
      go_enter Try.func29, Try.ntmps29
      go_wp2_with fail
      refine HG.out.mono ?_
      rintro e w1 ⟨rfl, hb1⟩
      obtain ⟨X, T, hX, hT, HA, HB⟩ := HX.out w1 hb1
      clear hb1
      go_wp2_with fail
      clear hX hT
      refine HB.out.mono ?_
      rintro e w2 ⟨rfl, h2, h3⟩
      have HW : Hid (DP w2 Q F l z ∧ Up w w2 Q F F) := Lib.hid (closed (.inr HA.out.2.2.1) HP.out HA.out.1 HA.out.2.1 h3)
      obtain ⟨d', h4, h5⟩ := h2
      obtain rfl := h5 (by first | trivial | rfl)
      obtain ⟨k0, k1, k2, k3, k4, k5, k6, k7, k8⟩ := el_at h4
      have HC := Lib.hid (HPU.out w2.drew F (HW.out.1.under (Below.refl _ w2).drew))
      clear h3 h4
      go_wp2_with fail
      go_region_with (go_at_call 22; refine HC.out.mono ?_; rintro e w3 ⟨b, rfl, H3⟩)
      all_goals
        have HE : Hid (∃ F', DP w3 Q F' (ins l d') z ∧ Up w w3 Q F F') := Lib.hid (by
          obtain ⟨F', g1, g2⟩ := H3.out
          exact ⟨F', g1, HW.out.2.trans ((Up.of_below (Below.refl _ w2).drew).trans g2)⟩)
        clear HW H3
        go_wp2_with fail
        go_ret
        exact ⟨rfl, HE.out⟩
    · rw [if_neg h0]
      have hne : (q != 0) = true := by simpa using h0
      have hne2 : (q == 0) = false := by simpa using h0
      clear h hg hF hD c1 c2 hf e1 e2 l1 l2 hq hm hok e3 e4
      go_enter Try.func29, Try.ntmps29
      go_wp2_with fail
      refine HG.out.mono ?_
      rintro e w1 ⟨rfl, hb1⟩
      obtain ⟨X, T, hX, hT, HA, HB⟩ := HX.out w1 hb1
      clear hb1
      go_wp2_with fail
      clear hX hT
      refine HB.out.mono ?_
      rintro e w2 ⟨rfl, h2, h3⟩
      have HW : Hid (DP w2 Q F l z ∧ Up w w2 Q F F) := Lib.hid (closed (.inr HA.out.2.2.1) HP.out HA.out.1 HA.out.2.1 h3)
      clear h2 h3
      go_wp2_with fail
      go_ret
      exact ⟨rfl, F, HW.out⟩

set_option maxRecDepth 100000 in
set_option maxHeartbeats 2000000 in
theorem learn_is {Q : Nat} {F : Nat → Prop} {l : List Dr} {z : Int} (i x y : Int) (w : World) (h : DP w Q F l z) (hg : Good l z) (hx : x ≤ 9223372036854775807) (hy : y ≤ 9223372036854775807) :
    Calls Try.prog 25 #[ptr Q, .int .i64 i, .int .i64 x, .int .i64 y] w fun e w' => e = .returned (.int .i64 (chE l i (learnE x y))) ∧ ∃ F', DP w' Q F' (chL l i (learnE x y) (learnD x y)) z ∧ Up w w' Q F F' := by
  obtain ⟨B, hB⟩ : ∃ B, w.heap.size = B := ⟨_, rfl⟩
  obtain ⟨X, hX⟩ : ∃ X, (w.alloc (.cells #[.int .i64 x] 3)).alloc (.cells #[.int .i64 y] 3) = X := ⟨_, rfl⟩
  have hbX : Below w.heap.size w X := by rw [← hX]; exact ((Below.refl _ w).alloc (Nat.le_refl _) _).alloc (by simp) _
  have h1 : X.heap[B]? = some (.cells #[.int .i64 x] 3 (0, 0)) := by rw [← hX, ← hB, heap_alloc_old _ _ (by simp)]; exact heap_alloc_new w _
  have h2 : X.heap[B + 1]? = some (.cells #[.int .i64 y] 3 (0, 0)) := by
    rw [← hX, ← hB]
    have := heap_alloc_new (w.alloc (.cells #[.int .i64 x] 3)) (.cells #[.int .i64 y] 3)
    simpa using this
  obtain ⟨q, hq⟩ : ∃ q, chE l i (learnE x y) = q := ⟨_, rfl⟩
  have HC : Hid (Calls Try.prog 29 #[ptr Q, .int .i64 i, .func (.func 39) #[] #[ptr B, ptr (B + 1)]] X fun e w' => e = .returned (.int .i64 q) ∧ Hid (∃ F', DP w' Q F' (chL l i (learnE x y) (learnD x y)) z ∧ Up w w' Q F F')) := Lib.hid (by
    rw [← hq]
    refine (change_learn i x y (learnE x y) (learnD x y) B (B + 1) X (h.under hbX) hg (learn_does x y hx hy) learn_ok (cell_block (j := 0) h1 rfl) (cell_block (j := 0) h2 rfl)).mono ?_
    rintro e w' ⟨rfl, F', g1, g2⟩
    exact ⟨rfl, Lib.hid ⟨F', g1, (Up.of_below hbX).trans g2⟩⟩)
  rw [hq]
  clear h hg hbX h1 h2 hq hx hy
  go_enter Try.func25, Try.ntmps25
  go_wp2_with fail
  clear hX
  refine HC.out.mono ?_
  rintro e w' ⟨rfl, H⟩
  go_wp2_with fail
  go_ret
  exact ⟨rfl, H.out⟩

set_option maxRecDepth 100000 in
set_option maxHeartbeats 4000000 in
theorem change_give {Q : Nat} {F : Nat → Prop} {l : List Dr} {z : Int} (i x y : Int) (E : Dr → Int) (D : Dr → Dr) (b1 b2 : Nat) (w : World) (h : DP w Q F l z) (hg : Good l z)
    (hF : Does 33 x y E D) (hD : ∀ d, Ok d → E d = 0 → Ok (D d) ∧ (D d).id = d.id) (c1 : w.cell? ⟨b1, 0, none⟩ = some (.int .i64 x)) (c2 : w.cell? ⟨b2, 0, none⟩ = some (.int .i64 y)) :
    Calls Try.prog 29 #[ptr Q, .int .i64 i, .func (.func 33) #[] #[ptr b1, ptr b2]] w fun e w' => e = .returned (.int .i64 (chE l i E)) ∧ ∃ F', DP w' Q F' (chL l i E D) z ∧ Up w w' Q F F' := by
  have l1 : b1 < w.heap.size := World.block_lt_of_cell? _ _ c1
  have l2 : b2 < w.heap.size := World.block_lt_of_cell? _ _ c2
  have HG := Lib.hid (get_is i w h hg.rise (by have := hg.len; omega))
  have HP := Lib.hid h; have HGD := Lib.hid hg
  cases hf : find l i with
  | none =>
    obtain ⟨e1, e2⟩ := ch_none (E := E) (D := D) hf
    rw [e1, e2]
    rw [hf] at HG
    have HX : Hid (∀ W, Below w.heap.size w W → DP (W.alloc (.cells #[.int .i64 (default : Dr).id, .int .i64 (default : Dr).owner, .int .i64 (default : Dr).div, .int .i64 (default : Dr).place, .int .i64 (default : Dr).blue, .int .i64 (default : Dr).me, .int .i64 (default : Dr).te, .int .i64 (default : Dr).runs, .int .i64 (default : Dr).busy] 36)) Q F l z ∧ Up w (W.alloc (.cells #[.int .i64 (default : Dr).id, .int .i64 (default : Dr).owner, .int .i64 (default : Dr).div, .int .i64 (default : Dr).place, .int .i64 (default : Dr).blue, .int .i64 (default : Dr).me, .int .i64 (default : Dr).te, .int .i64 (default : Dr).runs, .int .i64 (default : Dr).busy] 36)) Q F F) := Lib.hid (fun W hW => by
      have hb := hW.alloc hW.size (.cells #[.int .i64 (default : Dr).id, .int .i64 (default : Dr).owner, .int .i64 (default : Dr).div, .int .i64 (default : Dr).place, .int .i64 (default : Dr).blue, .int .i64 (default : Dr).me, .int .i64 (default : Dr).te, .int .i64 (default : Dr).runs, .int .i64 (default : Dr).busy] 36)
      exact ⟨HP.out.under hb, Up.of_below hb⟩)
    obtain ⟨dz, hdz⟩ : ∃ dz : Dr, dz = default := ⟨_, rfl⟩
    have e3 : (none : Option Dr).getD default = dz := by rw [hdz]; rfl
    rw [e3] at HG
    rw [← hdz] at HX
    clear h hg hF hD c1 c2 hf e1 e2 l1 l2 e3 hdz
    go_enter Try.func29, Try.ntmps29
    go_wp2_with fail
    refine HG.out.mono ?_
    rintro e w1 ⟨rfl, hb1⟩
    have HE := Lib.hid (HX.out w1 hb1)
    clear hb1
    go_wp2_with fail
    go_ret
    exact ⟨rfl, F, HE.out⟩
  | some d =>
    obtain ⟨e1, e2⟩ := ch_some (E := E) (D := D) hf
    have hm := find_mem hf
    have hok := (hg.ok d hm.1).1
    rw [e1, e2]
    rw [hf] at HG
    have e3 : (some d).getD default = d := rfl
    have e4 : (if (some d).isSome then (0 : Int) else 3) = 0 := rfl
    rw [e3, e4] at HG
    obtain ⟨q, hq⟩ : ∃ q, E d = q := ⟨_, rfl⟩
    rw [hq]
    have HX : Hid (∀ W, Below w.heap.size w W → ∃ X T, W.alloc (.cells #[.int .i64 d.id, .int .i64 d.owner, .int .i64 d.div, .int .i64 d.place, .int .i64 d.blue, .int .i64 d.me, .int .i64 d.te, .int .i64 d.runs, .int .i64 d.busy] 36) = X ∧ W.heap.size = T ∧ Hid (DP X Q F l z ∧ Up w X Q F F ∧ w.heap.size ≤ T ∧ Has X T d) ∧
        Hid (Calls Try.prog 33 #[ptr T, ptr b1, ptr b2] X fun e w' => e = .returned (.int .i64 q) ∧ (∃ d', Has w' T d' ∧ (q = 0 → d' = D d)) ∧ X.grownBy w' (some T))) := Lib.hid (fun W hW => by
      have hb := hW.alloc hW.size (.cells #[.int .i64 d.id, .int .i64 d.owner, .int .i64 d.div, .int .i64 d.place, .int .i64 d.blue, .int .i64 d.me, .int .i64 d.te, .int .i64 d.runs, .int .i64 d.busy] 36)
      have hT : Has (W.alloc (.cells #[.int .i64 d.id, .int .i64 d.owner, .int .i64 d.div, .int .i64 d.place, .int .i64 d.blue, .int .i64 d.me, .int .i64 d.te, .int .i64 d.runs, .int .i64 d.busy] 36)) W.heap.size d := heap_alloc_new W _
      have hs := hW.size
      refine ⟨_, _, rfl, rfl, Lib.hid ⟨HP.out.under hb, Up.of_below hb, hs, hT⟩, Lib.hid ?_⟩
      rw [← hq]
      exact hF _ W.heap.size b1 b2 d ((bcell hb).1 b1 0 l1 |>.trans c1) ((bcell hb).1 b2 0 l2 |>.trans c2) (by omega) (by omega) hT hok)
    by_cases h0 : q = 0
    · subst h0
      rw [if_pos rfl]
      have hDd := hD d hok hq
      have HI := Lib.hid hDd.2
      obtain ⟨d2, hd2⟩ : ∃ d2, D d = d2 := ⟨_, rfl⟩
      rw [hd2] at HI HX ⊢
      have HPU : Hid (∀ W F', DP W Q F' l z → Calls Try.prog 22 #[ptr Q, elV d2] W fun e w' => ∃ b, e = .returned (.bool b) ∧ Hid (∃ F'', DP w' Q F'' (ins l d2) z ∧ Up W w' Q F' F'')) := Lib.hid (fun W F' hW => by
        refine (put_is d2 W hW HGD.out.rise (by have := HGD.out.len; omega)).mono ?_
        rintro e w' ⟨rfl, F'', h1, h2⟩
        exact ⟨_, rfl, Lib.hid ⟨F'', h1, h2⟩⟩)
      clear h hg hF hD c1 c2 hf e1 e2 l1 l2 hq hDd hd2 hm hok e3 e4
      go_enter Try.func29, Try.ntmps29
      go_wp2_with fail
      refine HG.out.mono ?_
      rintro e w1 ⟨rfl, hb1⟩
      obtain ⟨X, T, hX, hT, HA, HB⟩ := HX.out w1 hb1
      clear hb1
      go_wp2_with fail
      clear hX hT
      refine HB.out.mono ?_
      rintro e w2 ⟨rfl, h2, h3⟩
      have HW : Hid (DP w2 Q F l z ∧ Up w w2 Q F F) := Lib.hid (closed (.inr HA.out.2.2.1) HP.out HA.out.1 HA.out.2.1 h3)
      obtain ⟨d', h4, h5⟩ := h2
      obtain rfl := h5 (by first | trivial | rfl)
      obtain ⟨k0, k1, k2, k3, k4, k5, k6, k7, k8⟩ := el_at h4
      have HC := Lib.hid (HPU.out w2.drew F (HW.out.1.under (Below.refl _ w2).drew))
      clear h3 h4
      go_wp2_with fail
      go_region_with (go_at_call 22; refine HC.out.mono ?_; rintro e w3 ⟨b, rfl, H3⟩)
      all_goals
        have HE : Hid (∃ F', DP w3 Q F' (ins l d') z ∧ Up w w3 Q F F') := Lib.hid (by
          obtain ⟨F', g1, g2⟩ := H3.out
          exact ⟨F', g1, HW.out.2.trans ((Up.of_below (Below.refl _ w2).drew).trans g2)⟩)
        clear HW H3
        go_wp2_with fail
        go_ret
        exact ⟨rfl, HE.out⟩
    · rw [if_neg h0]
      have hne : (q != 0) = true := by simpa using h0
      have hne2 : (q == 0) = false := by simpa using h0
      clear h hg hF hD c1 c2 hf e1 e2 l1 l2 hq hm hok e3 e4
      go_enter Try.func29, Try.ntmps29
      go_wp2_with fail
      refine HG.out.mono ?_
      rintro e w1 ⟨rfl, hb1⟩
      obtain ⟨X, T, hX, hT, HA, HB⟩ := HX.out w1 hb1
      clear hb1
      go_wp2_with fail
      clear hX hT
      refine HB.out.mono ?_
      rintro e w2 ⟨rfl, h2, h3⟩
      have HW : Hid (DP w2 Q F l z ∧ Up w w2 Q F F) := Lib.hid (closed (.inr HA.out.2.2.1) HP.out HA.out.1 HA.out.2.1 h3)
      clear h2 h3
      go_wp2_with fail
      go_ret
      exact ⟨rfl, F, HW.out⟩

set_option maxRecDepth 100000 in
set_option maxHeartbeats 2000000 in
theorem give_is {Q : Nat} {F : Nat → Prop} {l : List Dr} {z : Int} (i x y : Int) (w : World) (h : DP w Q F l z) (hg : Good l z) :
    Calls Try.prog 16 #[ptr Q, .int .i64 i, .int .i64 x, .int .i64 y] w fun e w' => e = .returned (.int .i64 (chE l i (giveE x y))) ∧ ∃ F', DP w' Q F' (chL l i (giveE x y) (giveD x y)) z ∧ Up w w' Q F F' := by
  obtain ⟨B, hB⟩ : ∃ B, w.heap.size = B := ⟨_, rfl⟩
  obtain ⟨X, hX⟩ : ∃ X, (w.alloc (.cells #[.int .i64 x] 3)).alloc (.cells #[.int .i64 y] 3) = X := ⟨_, rfl⟩
  have hbX : Below w.heap.size w X := by rw [← hX]; exact ((Below.refl _ w).alloc (Nat.le_refl _) _).alloc (by simp) _
  have h1 : X.heap[B]? = some (.cells #[.int .i64 x] 3 (0, 0)) := by rw [← hX, ← hB, heap_alloc_old _ _ (by simp)]; exact heap_alloc_new w _
  have h2 : X.heap[B + 1]? = some (.cells #[.int .i64 y] 3 (0, 0)) := by
    rw [← hX, ← hB]
    have := heap_alloc_new (w.alloc (.cells #[.int .i64 x] 3)) (.cells #[.int .i64 y] 3)
    simpa using this
  obtain ⟨q, hq⟩ : ∃ q, chE l i (giveE x y) = q := ⟨_, rfl⟩
  have HC : Hid (Calls Try.prog 29 #[ptr Q, .int .i64 i, .func (.func 33) #[] #[ptr B, ptr (B + 1)]] X fun e w' => e = .returned (.int .i64 q) ∧ Hid (∃ F', DP w' Q F' (chL l i (giveE x y) (giveD x y)) z ∧ Up w w' Q F F')) := Lib.hid (by
    rw [← hq]
    refine (change_give i x y (giveE x y) (giveD x y) B (B + 1) X (h.under hbX) hg (give_does x y) give_ok (cell_block (j := 0) h1 rfl) (cell_block (j := 0) h2 rfl)).mono ?_
    rintro e w' ⟨rfl, F', g1, g2⟩
    exact ⟨rfl, Lib.hid ⟨F', g1, (Up.of_below hbX).trans g2⟩⟩)
  rw [hq]
  clear h hg hbX h1 h2 hq
  go_enter Try.func16, Try.ntmps16
  go_wp2_with fail
  clear hX
  refine HC.out.mono ?_
  rintro e w' ⟨rfl, H⟩
  go_wp2_with fail
  go_ret
  exact ⟨rfl, H.out⟩

end Go.Proofs.Ytfebaiefoonncaa.Draft
