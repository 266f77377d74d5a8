/- DraftBack: what is used and freed again is as it was. -/
import Derived.Test.YtfebaiefoonncaaDraAwake
namespace Go.Proofs.Ytfebaiefoonncaa.Draft
open Go.RowKit Go.Lib IRows

/-- One draft alone: what is answered, and what is there. -/
theorem one_find (d : Dr) : find [d] d.id = some d := by unfold find; simp
theorem one_ins {d d' : Dr} (h : d'.id = d.id) : ins [d] d' = [d'] := by
  unfold ins
  simp [h]
theorem one_ch {d : Dr} {i : Int} {E : Dr → Int} {D : Dr → Dr} (hi : d.id = i) : chE [d] i E = E d ∧ (E d = 0 → (D d).id = d.id → chL [d] i E D = [D d]) := by
  subst hi
  have hf := one_find d
  refine ⟨by unfold chE; rw [hf], fun h0 h1 => ?_⟩
  unfold chL
  rw [hf]
  show (if E d = 0 then ins [d] (D d) else [d]) = _
  rw [if_pos h0, one_ins h1]
theorem use_zero {j r : Int} {d : Dr} (h : useE j r d = 0) : MayUse j r ∧ d.busy = 0 ∧ (d.runs = -1 ∨ r ≤ d.runs) := by
  unfold useE at h
  by_cases h1 : MayUse j r
  · rw [if_pos h1] at h
    by_cases h2 : d.busy = 0
    · rw [if_pos h2] at h
      by_cases h3 : d.runs = -1 ∨ r ≤ d.runs
      · exact ⟨h1, h2, h3⟩
      · rw [if_neg h3] at h; cases h
    · rw [if_neg h2] at h; cases h
  · rw [if_neg h1] at h; cases h
/-- Used: by that job, busy for all others, and freed again it is as it was. -/
theorem use_free {j r : Int} {d : Dr} (ho : Ok d) (h : useE j r d = 0) : (useD j r d).busy = j ∧ giveE 1 1 (useD j r d) = 12 ∧ useE j 0 (useD j r d) = 12 ∧ freeE j r (useD j r d) = 0 ∧ freeD j r (useD j r d) = d := by
  obtain ⟨h1, h2, h3⟩ := use_zero h
  obtain ⟨⟨j1, j2⟩, r1, r2⟩ := h1
  have hb : (useD j r d).busy = j := rfl
  have hr : (useD j r d).runs = if d.runs = -1 then -1 else d.runs - r := rfl
  have hok := ho.runs
  refine ⟨hb, ?_, ?_, ?_, ?_⟩
  · unfold giveE
    rw [if_pos ⟨⟨by omega, by omega⟩, by omega, by omega⟩, hb, if_neg (by omega)]
  · unfold useE
    rw [if_pos ⟨⟨j1, j2⟩, by omega, by omega⟩, hb, if_neg (by omega)]
  · unfold freeE
    rw [if_pos ⟨⟨j1, j2⟩, r1, r2⟩, if_pos hb, hr]
    by_cases c : d.runs = -1
    · rw [if_pos c, if_pos (.inl rfl)]
    · rw [if_neg c, if_pos (.inr (by omega))]
  · obtain ⟨d0, d1, d2, d3, d4, d5, d6, d7, d8⟩ := d
    unfold freeD
    rw [hr]
    have h2' : d8 = 0 := h2
    subst h2'
    show Dr.mk d0 d1 d2 d3 d4 d5 d6 (if (if d7 = -1 then (-1 : Int) else d7 - r) = -1 then -1 else (if d7 = -1 then (-1 : Int) else d7 - r) + r) 0 = _
    by_cases c : d7 = -1
    · rw [if_pos c, if_pos rfl, c]
    · rw [if_neg c]
      have h3' : d7 = -1 ∨ r ≤ d7 := h3
      have hok' : d7 = -1 ∨ (0 ≤ d7 ∧ d7 ≤ 1000) := hok
      rw [if_neg (by omega), show d7 - r + r = d7 by omega]
/-- The block with a draft that is kept, behind all that follows. -/
theorem kept_el {w W : World} {Q : Nat} {l : List Dr} {z : Int} {rows : List (Value × List Dr)} {cl : List Cl} {K : List (Nat × Obj)} {T : Nat} {d : Dr} (h : DS w W Q l z rows cl K) (hm : (T, Obj.cells d.cells 36 (0, 0)) ∈ K) : W.cell? ⟨T, 0, none⟩ = some (.int .i64 d.id) ∧ W.cell? ⟨T, 1, none⟩ = some (.int .i64 d.owner) ∧ W.cell? ⟨T, 2, none⟩ = some (.int .i64 d.div) ∧ W.cell? ⟨T, 3, none⟩ = some (.int .i64 d.place) ∧ W.cell? ⟨T, 4, none⟩ = some (.int .i64 d.blue) ∧ W.cell? ⟨T, 5, none⟩ = some (.int .i64 d.me) ∧ W.cell? ⟨T, 6, none⟩ = some (.int .i64 d.te) ∧ W.cell? ⟨T, 7, none⟩ = some (.int .i64 d.runs) ∧ W.cell? ⟨T, 8, none⟩ = some (.int .i64 d.busy) := el_at (h.keep hm)
/-- What Get answers put into a block of its own. -/
theorem got {w : World} {Q : Nat} {l : List Dr} {z : Int} {K : List (Nat × Obj)} (d : Dr) : Hid (∀ W, DS w W Q l z [] [] K → ∃ X T, W.alloc (.cells #[.int .i64 d.id, .int .i64 d.owner, .int .i64 d.div, .int .i64 d.place, .int .i64 d.blue, .int .i64 d.me, .int .i64 d.te, .int .i64 d.runs, .int .i64 d.busy] 36) = X ∧ W.heap.size = T ∧ (X.cell? ⟨T, 0, none⟩ = some (.int .i64 d.id) ∧ X.cell? ⟨T, 1, none⟩ = some (.int .i64 d.owner) ∧ X.cell? ⟨T, 2, none⟩ = some (.int .i64 d.div) ∧ X.cell? ⟨T, 3, none⟩ = some (.int .i64 d.place) ∧ X.cell? ⟨T, 4, none⟩ = some (.int .i64 d.blue) ∧ X.cell? ⟨T, 5, none⟩ = some (.int .i64 d.me) ∧ X.cell? ⟨T, 6, none⟩ = some (.int .i64 d.te) ∧ X.cell? ⟨T, 7, none⟩ = some (.int .i64 d.runs) ∧ X.cell? ⟨T, 8, none⟩ = some (.int .i64 d.busy)) ∧ Hid (DS w X Q l z [] [] ((T, Obj.cells d.cells 36 (0, 0)) :: K))) := Lib.hid fun W h => by
  have hT : (W.alloc (.cells #[.int .i64 d.id, .int .i64 d.owner, .int .i64 d.div, .int .i64 d.place, .int .i64 d.blue, .int .i64 d.me, .int .i64 d.te, .int .i64 d.runs, .int .i64 d.busy] 36)).heap[W.heap.size]? = some (.cells d.cells 36 (0, 0)) := heap_alloc_new W _
  exact ⟨_, _, rfl, rfl, el_at hT, Lib.hid (h.box _ _)⟩
set_option maxRecDepth 100000 in
set_option maxHeartbeats 8000000 in
theorem draftBack_in (d : Dr) (job runs : Int) (w : World) : Calls Try.prog 4 #[elV d, .int .i64 job, .int .i64 runs] w fun e w' => e = .returned (.bool true) ∧ Below w.heap.size w w' := by
  have HAW := awake_at w
  -- the draft's own box, and fresh drafts
  obtain ⟨B, hB⟩ : ∃ B, w.alloc (.cells #[.int .i64 d.id, .int .i64 d.owner, .int .i64 d.div, .int .i64 d.place, .int .i64 d.blue, .int .i64 d.me, .int .i64 d.te, .int .i64 d.runs, .int .i64 d.busy] 36) = B := ⟨_, rfl⟩
  have hbB : Below w.heap.size w B := by rw [← hB]; exact (Below.refl _ w).alloc (Nat.le_refl _) _
  have hdB : B.heap[w.heap.size]? = some (.cells d.cells 36 (0, 0)) := by rw [← hB]; exact heap_alloc_new w _
  obtain ⟨Q, hQ⟩ : ∃ Q, B.heap.size = Q := ⟨_, rfl⟩
  obtain ⟨Z, hZ⟩ : ∃ Z, B.alloc (.cells zeroD 47) = Z := ⟨_, rfl⟩
  have H0 : Hid (DS w Z Q [] 0 [] [] []) := Lib.hid (by rw [← hZ, ← hQ]; exact ds_zero w B hbB)
  obtain ⟨k0, k1, k2, k3, k4, k5, k6, k7, k8⟩ := el_at (w := Z) (g := w.heap.size) (x := d) (t := 36) (by
    rw [← hZ]
    exact (heap_alloc_old _ _ (Array.getElem?_eq_some_iff.1 hdB).1).trans hdB)
  have HA : Hid (Calls Try.prog 13 #[ptr Q, elV d] Z fun e w' => e = .returned (.tuple #[.int .i64 (if addE [] 0 d = 0 then 0 + 1 else 0), .int .i64 (addE [] 0 d)]) ∧ Hid (DS w w' Q (addL [] 0 d) (addZ [] 0 d) [] [] [])) := Lib.hid (ds_add d H0.out)
  clear hbB hdB
  by_cases h0 : Ok d ∧ d.busy = 0
  · have hE : addE [] 0 d = 0 := by unfold addE; rw [if_pos h0, if_pos ⟨by simp, by decide⟩]
    obtain ⟨y, hy⟩ : ∃ y : Dr, ({ d with id := 1 } : Dr) = y := ⟨_, rfl⟩
    have hyid : y.id = 1 := by rw [← hy]
    have hyo : Ok y := by rw [← hy]; exact ok_id h0.1 1
    have hL : addL [] 0 d = [y] := by unfold addL; rw [if_pos hE]; show [({ d with id := 0 + 1 } : Dr)] = [y]; rw [← hy]; rfl
    have hZ1 : addZ [] 0 d = 1 := by unfold addZ; rw [if_pos hE]; rfl
    rw [hE, hL, hZ1, if_pos rfl] at HA
    have HG : Hid (∀ W K, DS w W Q [y] 1 [] [] K → Calls Try.prog 14 #[ptr Q, .int .i64 1] W fun e w' => e = .returned (.tuple #[elV y, .int .i64 0]) ∧ Hid (DS w w' Q [y] 1 [] [] K)) := Lib.hid (fun W K h => by
      have := ds_get 1 h
      have hf : find [y] 1 = some y := by rw [← hyid]; exact one_find y
      rw [hf] at this
      exact this)
    have HX1 := got (w := w) (Q := Q) (l := [y]) (z := 1) (K := []) y
    have hu := one_ch (d := y) (i := 1) (E := useE job runs) (D := useD job runs) hyid
    obtain ⟨q, hq⟩ : ∃ q, useE job runs y = q := ⟨_, rfl⟩
    by_cases hq0 : q = 0
    · subst hq0
      have hok := use_ok y hyo hq
      obtain ⟨f1, f2, f3, f4, f5⟩ := use_free hyo hq
      obtain ⟨u, huD⟩ : ∃ u, useD job runs y = u := ⟨_, rfl⟩
      rw [huD] at hok f1 f2 f3 f4 f5
      have huid : u.id = 1 := hok.2.trans hyid
      have HU : Hid (∀ W K, DS w W Q [y] 1 [] [] K → Calls Try.prog 15 #[ptr Q, .int .i64 1, .int .i64 job, .int .i64 runs] W fun e w' => e = .returned (.int .i64 0) ∧ Hid (DS w w' Q [u] 1 [] [] K)) := Lib.hid (fun W K h => by
        have := ds_use 1 job runs h
        rw [hu.1, hq, hu.2 hq (by rw [huD]; exact hok.2), huD] at this
        exact this)
      have HG2 : Hid (∀ W K, DS w W Q [u] 1 [] [] K → Calls Try.prog 14 #[ptr Q, .int .i64 1] W fun e w' => e = .returned (.tuple #[elV u, .int .i64 0]) ∧ Hid (DS w w' Q [u] 1 [] [] K)) := Lib.hid (fun W K h => by
        have := ds_get 1 h
        have hf : find [u] 1 = some u := by rw [← huid]; exact one_find u
        rw [hf] at this
        exact this)
      have HGV : Hid (∀ W K, DS w W Q [u] 1 [] [] K → Calls Try.prog 16 #[ptr Q, .int .i64 1, .int .i64 1, .int .i64 1] W fun e w' => e = .returned (.int .i64 12) ∧ Hid (DS w w' Q [u] 1 [] [] K)) := Lib.hid (fun W K h => by
        have := ds_give 1 1 1 h
        have e1 := (one_ch (d := u) (i := 1) (E := giveE 1 1) (D := giveD 1 1) huid).1
        rw [f2] at e1
        rw [e1, ch_refused (by rw [e1]; decide)] at this
        exact this)
      have HU2 : Hid (∀ W K, DS w W Q [u] 1 [] [] K → Calls Try.prog 15 #[ptr Q, .int .i64 1, .int .i64 job, .int .i64 0] W fun e w' => e = .returned (.int .i64 12) ∧ Hid (DS w w' Q [u] 1 [] [] K)) := Lib.hid (fun W K h => by
        have := ds_use 1 job 0 h
        have e1 := (one_ch (d := u) (i := 1) (E := useE job 0) (D := useD job 0) huid).1
        rw [f3] at e1
        rw [e1, ch_refused (by rw [e1]; decide)] at this
        exact this)
      have HFR : Hid (∀ W K, DS w W Q [u] 1 [] [] K → Calls Try.prog 17 #[ptr Q, .int .i64 1, .int .i64 job, .int .i64 runs] W fun e w' => e = .returned (.int .i64 0) ∧ Hid (DS w w' Q [y] 1 [] [] K)) := Lib.hid (fun W K h => by
        have := ds_free 1 job runs h
        have e1 := one_ch (d := u) (i := 1) (E := freeE job runs) (D := freeD job runs) huid
        rw [e1.1, f4, e1.2 f4 (by rw [f5, huid, hyid]), f5] at this
        exact this)
      have HX2 := fun (K : List (Nat × Obj)) => got (w := w) (Q := Q) (l := [u]) (z := 1) (K := K) u
      have HX3 := fun (K : List (Nat × Obj)) => got (w := w) (Q := Q) (l := [y]) (z := 1) (K := K) y
      have j1 : (u.busy != job) = false := by simp [f1]
      have j2 : (u.busy == job) = true := by simp [f1]
      clear h0 hE hy hyid hyo hL hZ1 hu hq hok f1 f2 f3 f4 f5 huD huid
      go_enter Try.func4, Try.ntmps4
      go_wp2_with fail
      clear hB hQ hZ
      refine HA.out.mono ?_
      rintro e w1 ⟨rfl, P1⟩
      clear k0 k1 k2 k3 k4 k5 k6 k7 k8
      go_wp2_with fail
      refine (HG.out w1 [] P1.out).mono ?_
      rintro e w2 ⟨rfl, P2⟩
      obtain ⟨X1, T1, hX1, hT1, ⟨x0, x1, x2, x3, x4, x5, x6, x7, x8⟩, P3⟩ := HX1.out w2 P2.out
      go_wp2_with fail
      clear hX1 hT1 x0 x1 x2 x3 x4 x5 x6 x7 x8
      refine (HU.out X1 _ P3.out).mono ?_
      rintro e w4 ⟨rfl, P4⟩
      go_wp2_with fail
      refine (HG2.out w4 _ P4.out).mono ?_
      rintro e w5 ⟨rfl, P5⟩
      obtain ⟨X2, T2, hX2, hT2, ⟨x0, x1, x2, x3, x4, x5, x6, x7, x8⟩, P6⟩ := (HX2 _).out w5 P5.out
      go_wp2_with fail
      clear hX2 hT2
      refine (HGV.out X2 _ P6.out).mono ?_
      rintro e w7 ⟨rfl, P7⟩
      clear x0 x1 x2 x3 x4 x5 x6 x7 x8
      go_wp2_with fail
      refine (HU2.out w7 _ P7.out).mono ?_
      rintro e w8 ⟨rfl, P8⟩
      go_wp2_with fail
      refine (HFR.out w8 _ P8.out).mono ?_
      rintro e w9 ⟨rfl, P9⟩
      go_wp2_with fail
      refine (HG.out w9 _ P9.out).mono ?_
      rintro e w10 ⟨rfl, P10⟩
      obtain ⟨X3, T3, hX3, hT3, ⟨x0, x1, x2, x3, x4, x5, x6, x7, x8⟩, P11⟩ := (HX3 _).out w10 P10.out
      obtain ⟨v0, v1, v2, v3, v4, v5, v6, v7, v8⟩ := kept_el (T := T1) (d := y) P11.out (by simp)
      go_wp2_with fail
      clear hX3 hT3
      refine (HAW.out X3 P11.out.below).mono ?_
      rintro e w12 ⟨rfl, B12⟩
      go_wp2_with fail
      go_ret
      exact ⟨rfl, B12.out⟩
    · have HU : Hid (∀ W K, DS w W Q [y] 1 [] [] K → Calls Try.prog 15 #[ptr Q, .int .i64 1, .int .i64 job, .int .i64 runs] W fun e w' => e = .returned (.int .i64 q) ∧ Hid (Below w.heap.size w w')) := Lib.hid (fun W K h => by
        have := ds_use 1 job runs h
        rw [hu.1, hq] at this
        exact this.mono fun _ _ ⟨e, hb⟩ => ⟨e, Lib.hid hb.out.below⟩)
      have hn1 : (q != 0) = true := by simpa using hq0
      have hn2 : (q == 0) = false := by simpa using hq0
      clear h0 hE hy hyid hyo hL hZ1 hu hq
      go_enter Try.func4, Try.ntmps4
      go_wp2_with fail
      clear hB hQ hZ
      refine HA.out.mono ?_
      rintro e w1 ⟨rfl, P1⟩
      clear k0 k1 k2 k3 k4 k5 k6 k7 k8
      go_wp2_with fail
      refine (HG.out w1 [] P1.out).mono ?_
      rintro e w2 ⟨rfl, P2⟩
      obtain ⟨X1, T1, hX1, hT1, ⟨x0, x1, x2, x3, x4, x5, x6, x7, x8⟩, P3⟩ := HX1.out w2 P2.out
      go_wp2_with fail
      clear hX1 hT1 x0 x1 x2 x3 x4 x5 x6 x7 x8
      refine (HU.out X1 _ P3.out).mono ?_
      rintro e w4 ⟨rfl, B4⟩
      go_wp2_with fail
      refine (HAW.out w4 B4.out).mono ?_
      rintro e w5 ⟨rfl, B5⟩
      go_wp2_with fail
      go_ret
      exact ⟨rfl, B5.out⟩
  · have hE : addE [] 0 d = 1 := by unfold addE; rw [if_neg h0]
    rw [hE, if_neg (by decide)] at HA
    have HA2 : Hid (Calls Try.prog 13 #[ptr Q, elV d] Z fun e w' => e = .returned (.tuple #[.int .i64 0, .int .i64 1]) ∧ Hid (Below w.heap.size w w')) := Lib.hid (HA.out.mono fun _ _ ⟨e, h⟩ => ⟨e, Lib.hid h.out.below⟩)
    clear h0 hE HA
    go_enter Try.func4, Try.ntmps4
    go_wp2_with fail
    clear hB hQ hZ
    refine HA2.out.mono ?_
    rintro e w1 ⟨rfl, B1⟩
    go_wp2_with fail
    refine (HAW.out w1 B1.out).mono ?_
    rintro e w2 ⟨rfl, B2⟩
    go_wp2_with fail
    go_ret
    exact ⟨rfl, B2.out⟩
end Go.Proofs.Ytfebaiefoonncaa.Draft
