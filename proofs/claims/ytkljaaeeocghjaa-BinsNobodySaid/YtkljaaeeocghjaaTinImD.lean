/- The program's Get. -/
import Derived.Test.YtkljaaeeocghjaaTinImC
namespace Go.Proofs.Ytkljaaeeocghjaa.Tab.Im
open Go.RowKit Go.Lib

theorem row_int {w : World} {B : Nat} {v : Value} {l : List Int} (h : OwnI w B v l) : ∃ a c, v = .slice a l.length c ∧ l.length ≤ c ∧ ∀ (i : Nat) (x : Int), l[i]? = some x → ∃ g, a = some ⟨g, 0, none⟩ ∧ g < w.heap.size ∧ w.cell? ⟨g, i, none⟩ = some (.int .i64 x) := by
  obtain ⟨a, c, hv, hc, _, _, hat⟩ := rowI h
  refine ⟨a, c, hv, hc, fun i x hi => hat i _ ?_⟩
  rw [List.getElem?_map, hi]
  rfl
theorem len_keys (l : List Pair) : (keys l).length = l.length := by unfold keys; rw [List.length_map]
theorem len_vals (l : List Pair) : (vals l).length = l.length := List.length_map _
theorem key_of {l : List Pair} {i : Nat} {p : Pair} (h : l[i]? = some p) : (keys l)[i]? = some p.k := by unfold keys; rw [List.getElem?_map, h]; rfl
theorem val_of {l : List Pair} {i : Nat} {p : Pair} (h : l[i]? = some p) : (vals l)[i]? = some p.v := by rw [List.getElem?_map, h]; rfl
/-- What lies at the i-th place. -/
theorem PTV.at' {w : World} {Q : Nat} {F : Nat → Prop} {l : List Pair} {ks vs : Value} (h : PTV w Q F l ks vs) : ∃ a c b d, ks = .slice a l.length c ∧ vs = .slice b l.length d ∧ l.length ≤ c ∧ l.length ≤ d ∧ ∀ (i : Nat) (p : Pair), l[i]? = some p →
    ∃ g f, a = some ⟨g, 0, none⟩ ∧ b = some ⟨f, 0, none⟩ ∧ F g ∧ F f ∧ g ≠ Q ∧ f ≠ Q ∧ w.cell? ⟨g, i * 4, none⟩ = some (.int .i64 p.k.a) ∧ w.cell? ⟨g, i * 4 + 1, none⟩ = some (.int .i64 p.k.b) ∧ w.cell? ⟨g, i * 4 + 2, none⟩ = some (.int .i64 p.k.c) ∧ w.cell? ⟨g, i * 4 + 3, none⟩ = some (.int .i64 p.k.d) ∧
      w.cell? ⟨f, i, none⟩ = some (.int .i64 p.v) := by
  obtain ⟨a, c, e1, h1, hk⟩ := row_key h.keys
  obtain ⟨b, d, e2, h2, hv⟩ := row_int h.vals
  rw [len_keys] at e1 h1
  rw [len_vals] at e2 h2
  refine ⟨a, c, b, d, e1, e2, h1, h2, fun i p hp => ?_⟩
  obtain ⟨g, rfl, _, q⟩ := hk i p.k (key_of hp)
  obtain ⟨f, rfl, _, r⟩ := hv i p.v (val_of hp)
  have h3 := h.kb g (by rw [e1]; rfl)
  have h4 := h.vb f (by rw [e2]; rfl)
  exact ⟨g, f, rfl, rfl, h3.1, h4.1, h3.2, h4.2, q.1, q.2.1, q.2.2.1, q.2.2.2, r⟩
set_option maxRecDepth 100000 in
set_option maxHeartbeats 4000000 in
theorem get_im {Q : Nat} {F : Nat → Prop} {l : List Pair} (k : Key) (w : World) (h : PT w Q F l) (hr : Rising l) (hl : l.length ≤ 1000) :
    Calls Try.prog 49 #[ptr Q, kV k] w fun e w' => e = .returned (.tuple #[.int .i64 (valueAt l k), .bool (has l k)]) ∧ Below w.heap.size w w' := by
  obtain ⟨X, hX⟩ : ∃ X, w.alloc (.cells #[.int .i64 k.a, .int .i64 k.b, .int .i64 k.c, .int .i64 k.d] 81) = X := ⟨_, rfl⟩
  have hbX : Below w.heap.size w X := by rw [← hX]; exact (Below.refl _ w).alloc (Nat.le_refl _) _
  have hkX : X.heap[w.heap.size]? = some (.cells k.cells 81 (0, 0)) := by rw [← hX]; exact heap_alloc_new w _
  have k0 := key_at hkX 0 (by omega); have k1 := key_at hkX 1 (by omega); have k2 := key_at hkX 2 (by omega); have k3 := key_at hkX 3 (by omega)
  simp only [Key.at] at k0 k1 k2 k3
  have hPX : PT X Q F l := h.keep hbX.size (fun k hk => hbX.block k (h.lt k hk))
  obtain ⟨n, hn⟩ : ∃ n, place l k = n := ⟨_, rfl⟩
  obtain ⟨b, hb⟩ : ∃ b, has l k = b := ⟨_, rfl⟩
  obtain ⟨x, hx⟩ : ∃ x, valueAt l k = x := ⟨_, rfl⟩
  have HP := Lib.hid (place_im k X hPX hr hl)
  unfold placeV at HP
  rw [hn, hb] at HP
  rw [hb, hx]
  have HPX := Lib.hid hPX; have HB := Lib.hid hbX; have HN := Lib.hid hn; have HH := Lib.hid hb; have HX := Lib.hid hx; have HR := Lib.hid hr
  clear hbX hkX hPX h hn hb hx hl hr
  go_enter Try.func49, Try.ntmps49
  go_wp2_with fail
  clear hX
  refine HP.out.mono ?_
  rintro e w2 ⟨rfl, hb2⟩
  have HB2 := Lib.hid (below_then HB.out hb2)
  cases b with
  | false =>
    obtain rfl : (0 : Int) = x := by
      rw [← HX.out]
      unfold valueAt
      rw [HH.out]
      rfl
    go_wp2_with fail
    go_ret2
    exact ⟨rfl, HB2.out⟩
  | true =>
    obtain ⟨p, hp, hpk⟩ := (has_at HR.out k).1 HH.out
    rw [HN.out] at hp
    have hpx : p.v = x := by
      rw [← HX.out]
      unfold valueAt nthP
      rw [HH.out, HN.out, List.getD_eq_getElem?_getD, hp]
      rfl
    obtain ⟨ks, vs, hv⟩ := HPX.out.keep hb2.size (fun k hk => hb2.block k (HPX.out.lt k hk))
    obtain ⟨c0, c1⟩ := hv.cells
    obtain ⟨a, c, b, d, rfl, rfl, hlc, hld, hat⟩ := hv.at'
    obtain ⟨g, f, rfl, rfl, _, _, _, _, _, _, _, _, v0⟩ := hat n p hp
    rw [hpx] at v0
    have hnl : (n : Int) < (l.length : Int) := by have := (List.getElem?_eq_some_iff.1 hp).1; omega
    have hn0 : (0 : Int) ≤ (n : Int) := by omega
    clear hv hat hp hpk hpx hb2
    go_wp2_with fail
    go_ret2
    exact ⟨rfl, HB2.out⟩
set_option maxRecDepth 100000 in
set_option maxHeartbeats 2000000 in
theorem get_nil (k : Key) (w : World) :
    Calls Try.prog 49 #[.pointer none, kV k] w fun e w' => e = .returned (.tuple #[.int .i64 0, .bool false]) ∧ Below w.heap.size w w' := by
  obtain ⟨X, hX⟩ : ∃ X, w.alloc (.cells #[.int .i64 k.a, .int .i64 k.b, .int .i64 k.c, .int .i64 k.d] 81) = X := ⟨_, rfl⟩
  have hbX : Below w.heap.size w X := by rw [← hX]; exact (Below.refl _ w).alloc (Nat.le_refl _) _
  have hkX : X.heap[w.heap.size]? = some (.cells k.cells 81 (0, 0)) := by rw [← hX]; exact heap_alloc_new w _
  have k0 := key_at hkX 0 (by omega); have k1 := key_at hkX 1 (by omega); have k2 := key_at hkX 2 (by omega); have k3 := key_at hkX 3 (by omega)
  simp only [Key.at] at k0 k1 k2 k3
  have HP : Hid (Calls Try.prog 59 #[.pointer none, kV k] X fun e w' => e = .returned (.tuple #[.int .i64 0, .bool false]) ∧ Below X.heap.size X w') := Lib.hid (place_tl k X (tl_nil X) rising_nil (by simp))
  have HB := Lib.hid hbX
  clear hbX hkX
  go_enter Try.func49, Try.ntmps49
  go_wp2_with fail
  clear hX
  refine HP.out.mono ?_
  rintro e w2 ⟨rfl, hb2⟩
  have HB2 := Lib.hid (below_then HB.out hb2)
  clear hb2
  go_wp2_with fail
  go_ret2
  exact ⟨rfl, HB2.out⟩
end Go.Proofs.Ytkljaaeeocghjaa.Tab.Im
