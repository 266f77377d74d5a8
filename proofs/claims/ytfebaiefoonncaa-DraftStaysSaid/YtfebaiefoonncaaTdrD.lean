/- The program's Get. -/
import Derived.Test.YtfebaiefoonncaaTdrC
namespace Go.Proofs.Ytfebaiefoonncaa.Tb.Dr
open Go.RowKit Go.Lib Draft

theorem len_vals (l : List Pr) : (vals l).length = l.length := List.length_map _
theorem val_of {l : List Pr} {i : Nat} {p : Pr} (h : l[i]? = some p) : (vals l)[i]? = some p.v := by rw [List.getElem?_map, h]; rfl
/-- What lies at the i-th place. -/
theorem PTV.at' {w : World} {Q : Nat} {F : Nat → Prop} {l : List Pr} {ks vs : Value} {rest : List Value} (h : PTV w Q F l ks vs rest) : ∃ a c b d, ks = .slice a l.length c ∧ vs = .slice b l.length d ∧ l.length ≤ c ∧ l.length ≤ d ∧ ∀ (i : Nat) (p : Pr), l[i]? = some p →
    ∃ g f, a = some ⟨g, 0, none⟩ ∧ b = some ⟨f, 0, none⟩ ∧ F g ∧ F f ∧ g ≠ Q ∧ f ≠ Q ∧ (w.cell? ⟨g, i * 4, none⟩ = some (.int .i64 p.k.a) ∧ w.cell? ⟨g, i * 4 + 1, none⟩ = some (.int .i64 p.k.b) ∧ w.cell? ⟨g, i * 4 + 2, none⟩ = some (.int .i64 p.k.c) ∧ w.cell? ⟨g, i * 4 + 3, none⟩ = some (.int .i64 p.k.d)) ∧
      w.cell? ⟨f, i * 9, none⟩ = some (.int .i64 p.v.id) ∧ w.cell? ⟨f, i * 9 + 1, none⟩ = some (.int .i64 p.v.owner) ∧ w.cell? ⟨f, i * 9 + 2, none⟩ = some (.int .i64 p.v.div) ∧ w.cell? ⟨f, i * 9 + 3, none⟩ = some (.int .i64 p.v.place) ∧ w.cell? ⟨f, i * 9 + 4, none⟩ = some (.int .i64 p.v.blue) ∧ w.cell? ⟨f, i * 9 + 5, none⟩ = some (.int .i64 p.v.me) ∧ w.cell? ⟨f, i * 9 + 6, none⟩ = some (.int .i64 p.v.te) ∧ w.cell? ⟨f, i * 9 + 7, none⟩ = some (.int .i64 p.v.runs) ∧ w.cell? ⟨f, i * 9 + 8, none⟩ = some (.int .i64 p.v.busy) := by
  obtain ⟨a, c, e1, h1, hk⟩ := row_key h.keys
  obtain ⟨b, d, e2, h2, hv⟩ := row_val h.vals
  rw [len_keys] at e1 h1
  rw [len_vals] at e2 h2
  refine ⟨a, c, b, d, e1, e2, h1, h2, fun i p hp => ?_⟩
  obtain ⟨g, rfl, _, q⟩ := hk i p.k (key_of hp)
  obtain ⟨f, rfl, _, r⟩ := hv i p.v (val_of hp)
  have h3 := h.kb g (by rw [e1]; rfl)
  have h4 := h.vb f (by rw [e2]; rfl)
  exact ⟨g, f, rfl, rfl, h3.1, h4.1, h3.2, h4.2, q, r⟩

set_option maxRecDepth 100000 in
set_option maxHeartbeats 4000000 in
theorem get_go {q : Option Addr} {l : List Pr} (k : Key) (w : World) (hl0 : ∀ W, Below w.heap.size w W → Calls Try.prog 41 #[.pointer q, kV k] W fun e w' => e = .returned (placeV l k) ∧ Below W.heap.size W w')
    (hy : has l k = true → ∃ Q ks vs a c, q = some ⟨Q, 0, none⟩ ∧ vs = .slice a l.length c ∧ (∀ W, Below w.heap.size w W → W.cell? ⟨Q, 0, none⟩ = some ks ∧ W.cell? ⟨Q, 1, none⟩ = some vs) ∧ ∃ f x, a = some ⟨f, 0, none⟩ ∧ valueAt l k = x ∧ place l k < l.length ∧
      ∀ w1, Below w.heap.size w w1 → w1.cell? ⟨f, place l k * 9, none⟩ = some (.int .i64 x.id) ∧ w1.cell? ⟨f, place l k * 9 + 1, none⟩ = some (.int .i64 x.owner) ∧ w1.cell? ⟨f, place l k * 9 + 2, none⟩ = some (.int .i64 x.div) ∧ w1.cell? ⟨f, place l k * 9 + 3, none⟩ = some (.int .i64 x.place) ∧ w1.cell? ⟨f, place l k * 9 + 4, none⟩ = some (.int .i64 x.blue) ∧ w1.cell? ⟨f, place l k * 9 + 5, none⟩ = some (.int .i64 x.me) ∧ w1.cell? ⟨f, place l k * 9 + 6, none⟩ = some (.int .i64 x.te) ∧ w1.cell? ⟨f, place l k * 9 + 7, none⟩ = some (.int .i64 x.runs) ∧ w1.cell? ⟨f, place l k * 9 + 8, none⟩ = some (.int .i64 x.busy)) :
    Calls Try.prog 28 #[.pointer q, kV k] w fun e w' => e = .returned (.tuple #[elV (valueAt l k), .bool (has l k)]) ∧ Below w.heap.size w w' := by
  obtain ⟨R, hR⟩ : ∃ R, (w.alloc (.cells #[.int .i64 k.a, .int .i64 k.b, .int .i64 k.c, .int .i64 k.d] 65)).heap.size = R := ⟨_, rfl⟩
  obtain ⟨X, hX⟩ : ∃ X, (w.alloc (.cells #[.int .i64 k.a, .int .i64 k.b, .int .i64 k.c, .int .i64 k.d] 65)).alloc (.cells #[.int .i64 0, .int .i64 0, .int .i64 0, .int .i64 0, .int .i64 0, .int .i64 0, .int .i64 0, .int .i64 0, .int .i64 0] 36) = X := ⟨_, rfl⟩
  have hRw : w.heap.size < R := by rw [← hR]; simp
  have hbX : Below w.heap.size w X := by rw [← hX]; exact ((Below.refl _ w).alloc (Nat.le_refl _) _).alloc (by simp) _
  have hkX : X.heap[w.heap.size]? = some (.cells k.cells 65 (0, 0)) := by rw [← hX, heap_alloc_old _ _ (by simp)]; exact heap_alloc_new w _
  have hrX : X.heap[R]? = some (.cells (default : Dr).cells 36 (0, 0)) := by rw [← hX, ← hR]; exact heap_alloc_new _ _
  have k0 := key_at hkX 0 (by omega); have k1 := key_at hkX 1 (by omega); have k2 := key_at hkX 2 (by omega); have k3 := key_at hkX 3 (by omega)
  simp only [Key.at] at k0 k1 k2 k3
  obtain ⟨n, hn⟩ : ∃ n, place l k = n := ⟨_, rfl⟩
  obtain ⟨b, hb⟩ : ∃ b, has l k = b := ⟨_, rfl⟩
  have HP := Lib.hid (hl0 X hbX)
  unfold placeV at HP
  rw [hn, hb] at HP
  rw [hb]
  rw [hb, hn] at hy
  have HY := Lib.hid hy
  have HB := Lib.hid hbX; have HRX := Lib.hid hrX; have HRW := Lib.hid hRw
  have HV : Hid (b = false → valueAt l k = default) := Lib.hid (fun h => by unfold valueAt; rw [hb, h]; rfl)
  obtain ⟨x, hx⟩ : ∃ x, valueAt l k = x := ⟨_, rfl⟩
  rw [hx] at HY HV ⊢
  clear hbX hkX hrX hl0 hy hn hb hx hRw
  go_enter Try.func28, Try.ntmps28
  go_wp2_with fail
  clear hX hR
  refine HP.out.mono ?_
  rintro e w2 ⟨rfl, hb2⟩
  have HB2 := Lib.hid (below_then HB.out hb2)
  have hr2 := (hb2.block R (Array.getElem?_eq_some_iff.1 HRX.out).1).trans HRX.out
  have HR2 := Lib.hid hr2
  have hRl := (Array.getElem?_eq_some_iff.1 hr2).1
  clear k0 k1 k2 k3
  cases b with
  | false =>
    obtain rfl := HV.out rfl
    obtain ⟨V, hV⟩ : ∃ V, w2.heap.size = V := ⟨_, rfl⟩
    obtain ⟨Z, hZ⟩ : ∃ Z, w2.alloc (.cells #[.int .i64 0, .int .i64 0, .int .i64 0, .int .i64 0, .int .i64 0, .int .i64 0, .int .i64 0, .int .i64 0, .int .i64 0] 36) = Z := ⟨_, rfl⟩
    have hbZ : Below w2.heap.size w2 Z := by rw [← hZ]; exact (Below.refl _ w2).alloc (Nat.le_refl _) _
    have hvZ : Z.heap[V]? = some (.cells (default : Dr).cells 36 (0, 0)) := by rw [← hZ, ← hV]; exact heap_alloc_new _ _
    have hrZ := (hbZ.block R hRl).trans hr2
    have HRZ := Lib.hid hrZ
    have HBZ := Lib.hid (below_then HB2.out hbZ)
    obtain ⟨v0, v1, v2, v3, v4, v5, v6, v7, v8⟩ := el_at hvZ
    obtain ⟨e0, e1, e2, e3, e4, e5, e6, e7, e8⟩ := el_at hrZ
    obtain ⟨f0, f1, f2, f3, f4, f5, f6, f7, f8⟩ := el_free hrZ
    clear hb2 hr2 hRl hbZ hvZ hrZ
    go_wp2_with fail
    exact ret_el2 (t := default) rfl rfl rfl rfl (el_set default HRZ.out) ⟨rfl, below_el HBZ.out (by have := HRW.out; omega) _⟩
  | true =>
    obtain ⟨Q, ks, vs, a, c, rfl, rfl, hc, f, y, rfl, rfl, hnl, hat⟩ := HY.out rfl
    obtain ⟨c0, c1⟩ := hc w2 HB2.out
    obtain ⟨v0, v1, v2, v3, v4, v5, v6, v7, v8⟩ := hat w2 HB2.out
    obtain ⟨e0, e1, e2, e3, e4, e5, e6, e7, e8⟩ := el_at hr2
    obtain ⟨f0, f1, f2, f3, f4, f5, f6, f7, f8⟩ := el_free hr2
    have hnl2 : (n : Int) < (l.length : Int) := by omega
    have hn0 : (0 : Int) ≤ (n : Int) := by omega
    clear hb2 hr2 hRl hc hat hnl
    go_wp2_with fail
    exact ret_el2 (t := x) rfl rfl rfl rfl (el_set x HR2.out) ⟨rfl, below_el HB2.out (by have := HRW.out; omega) _⟩
theorem get_im {Q : Nat} {F : Nat → Prop} {l : List Pr} {rest : List Value} (k : Key) (w : World) (h : PT w Q F l rest) (hr : Rising l) (hl : l.length ≤ 1000) :
    Calls Try.prog 28 #[ptr Q, kV k] w fun e w' => e = .returned (.tuple #[elV (valueAt l k), .bool (has l k)]) ∧ Below w.heap.size w w' := by
  refine get_go k w (fun W hW => place_im k W (h.under hW) hr hl) (fun hh => ?_)
  obtain ⟨ks, vs, h⟩ := h
  obtain ⟨a, c, b, d, e1, e2, _, _, hat⟩ := h.at'
  obtain ⟨p, hp, hpk⟩ := (has_at hr k).1 hh
  obtain ⟨g, f, e3, e4, _, hf, _⟩ := hat _ p hp
  refine ⟨Q, ks, vs, b, d, rfl, e2, fun W hW => (h.under hW).cells, f, p.v, e4, ?_, (List.getElem?_eq_some_iff.1 hp).1, fun W hW => ?_⟩
  · unfold valueAt nthP
    rw [hh, List.getD_eq_getElem?_getD, hp]
    rfl
  · obtain ⟨a', c', b', d', e1', e2', _, _, hat'⟩ := (h.under hW).at'
    obtain ⟨g', f', e3', e4', _, _, _, _, _, r⟩ := hat' _ p hp
    rw [e2] at e2'
    injection e2' with e5 _ _
    rw [e4, e4'] at e5
    cases e5
    exact r
theorem get_nil (k : Key) (w : World) :
    Calls Try.prog 28 #[.pointer none, kV k] w fun e w' => e = .returned (.tuple #[elZ, .bool false]) ∧ Below w.heap.size w w' :=
  get_go (l := []) k w (fun W hW => place_tl k W (tl_nil W) rising_nil (by simp)) (fun h => by cases h)

end Go.Proofs.Ytfebaiefoonncaa.Tb.Dr
