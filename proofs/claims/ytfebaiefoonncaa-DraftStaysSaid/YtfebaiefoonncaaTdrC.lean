/- The program's Place. -/
import Derived.Test.YtfebaiefoonncaaTdrB
namespace Go.Proofs.Ytfebaiefoonncaa.Tb.Dr
open Go.RowKit Go.Lib Draft

theorem search_place (l : List Pr) (k : Key) (a : Option Addr) (c b1 b2 : Nat) (w : World) (hr : Rising l) (hl : l.length ≤ 1048576) (h1 : w.heap[b1]? = some (.cells #[.slice a l.length c] 41 (0, 0))) (h2 : w.heap[b2]? = some (.cells k.cells 65 (0, 0))) (hk : OwnK w 0 (.slice a l.length c) (keys l)) :
    Calls Try.prog 44 #[.int .i64 (l.length : Nat), .func (.func 45) #[] #[ptr b1, ptr b2]] w fun e w' => e = .returned (.int .i64 (place l k : Nat)) ∧ Below w.heap.size w w' := by
  have l1 := (Array.getElem?_eq_some_iff.1 h1).1
  have l2 := (Array.getElem?_eq_some_iff.1 h2).1
  refine (search_any l.length (up l k) b1 b2 w hl (fun W i hW hi => ?_) (fun i j hij hj h => up_mono hr k i j hij hj h)).mono ?_
  · exact closure_any l k (.slice a l.length c) b1 b2 i W hi (cell_block (j := 0) ((hW.block b1 l1).trans h1) rfl) ((hW.block b2 l2).trans h2) (own_same hk (fun q hq => hW.block q (hk.lt q hq).2))
  · rintro e w' ⟨m, rfl, ⟨hm, h3, h4⟩, hb⟩
    refine ⟨?_, hb⟩
    rw [place_bound hm (fun t p ht hp => ?_) (fun t p ht hp => ?_)]
    · have := h3 t ht
      rw [up_some hp] at this
      have := of_decide_eq_false this
      omega
    · have hlt := (List.getElem?_eq_some_iff.1 hp).1
      have := h4 t ht hlt
      rw [up_some hp] at this
      exact of_decide_eq_true this
/-- What a table, or a nil one, is to those that only look: its two lists, and that 'lists' tells them. -/
structure TL (w : World) (q : Option Addr) (l : List Pr) (ks vs : Value) : Prop where
  keys : OwnK w 0 ks (keys l)
  vals : OwnV w 0 vs (vals l)
  lists : ∀ W, Below w.heap.size w W → Calls Try.prog 37 #[.pointer q] W fun e w' => e = .returned (.tuple #[ks, vs]) ∧ ∃ m, W.drewN m = w'
theorem TL.under {w w' : World} {q : Option Addr} {l : List Pr} {ks vs : Value} (h : TL w q l ks vs) (hb : Below w.heap.size w w') : TL w' q l ks vs :=
  ⟨own_under h.keys hb, own_under h.vals hb, fun W hW => h.lists W (below_then hb hW)⟩
theorem PTV.tl {w : World} {Q : Nat} {F : Nat → Prop} {l : List Pr} {ks vs : Value} {rest : List Value} (h : PTV w Q F l ks vs rest) : TL w (some ⟨Q, 0, none⟩) l ks vs :=
  ⟨h.keys, h.vals, fun W hW => lists_any W (h.under hW)⟩
theorem tl_nil (w : World) : TL w none [] (.slice none 0 0) (.slice none 0 0) :=
  ⟨World.ownsRow_nil _ _ _ _, World.ownsRow_nil _ _ _ _, fun W _ => (lists_nil W).mono (fun _ _ ⟨h1, h2⟩ => ⟨h1, 0, h2⟩)⟩
set_option maxRecDepth 100000 in
set_option maxHeartbeats 4000000 in
theorem place_tl {q : Option Addr} {l : List Pr} {ks vs : Value} (k : Key) (w : World) (h : TL w q l ks vs) (hr : Rising l) (hl : l.length ≤ 1000) :
    Calls Try.prog 41 #[.pointer q, kV k] w fun e w' => e = .returned (placeV l k) ∧ Below w.heap.size w w' := by
  obtain ⟨X, hX⟩ : ∃ X, w.alloc (.cells #[.int .i64 k.a, .int .i64 k.b, .int .i64 k.c, .int .i64 k.d] 65) = X := ⟨_, rfl⟩
  have hbX : Below w.heap.size w X := by rw [← hX]; exact (Below.refl _ w).alloc (Nat.le_refl _) _
  have hkX : X.heap[w.heap.size]? = some (.cells k.cells 65 (0, 0)) := by rw [← hX]; exact heap_alloc_new w _
  have hsX : X.heap.size = w.heap.size + 1 := by rw [← hX]; simp
  have hp := h.under hbX
  have HL := Lib.hid (hp.lists X (Below.refl _ _))
  obtain ⟨a, c, rfl, hlc, _, _, _⟩ := rowK hp.keys
  have hlen : (keys l).length = l.length := by unfold keys; rw [List.length_map]
  rw [hlen] at hlc hp HL
  obtain ⟨n, hn⟩ : ∃ n, l.length = n := ⟨_, rfl⟩
  have HP := Lib.hid hp; have HB := Lib.hid hbX; have HKX := Lib.hid hkX; have HN := Lib.hid hn; have HR := Lib.hid hr
  rw [hn] at HL hlc
  have hn2 : n ≤ 1000 := by omega
  clear h hp hbX hkX hlen hn hr hl
  go_enter Try.func41, Try.ntmps41
  go_wp2_with fail
  clear hX
  refine HL.out.mono ?_
  rintro e w1 ⟨rfl, m, rfl⟩
  go_wp2_with fail
  obtain ⟨Z, hZ⟩ : ∃ Z, (X.drewN m).alloc (.cells #[.slice a n c] 41) = Z := ⟨_, rfl⟩
  rw [hZ]
  have bZ : Below X.heap.size X Z := by rw [← hZ]; exact (below_drewN (Below.refl _ X) m).alloc (by simp) _
  have gZ : Z.heap[w.heap.size + 1]? = some (.cells #[.slice a n c] 41 (0, 0)) := by rw [← hZ, ← hsX]; exact heap_alloc_new (X.drewN m) _
  have sZ : Z.heap.size = X.heap.size + 1 := by rw [← hZ]; simp
  have kZ : Z.heap[w.heap.size]? = some (.cells k.cells 65 (0, 0)) := (bZ.block _ (by omega)).trans HKX.out
  have HPZ := Lib.hid (HP.out.under bZ)
  have HS : Hid (Calls Try.prog 44 #[.int .i64 (n : Nat), .func (.func 45) #[] #[ptr (w.heap.size + 1), ptr w.heap.size]] Z fun e w' => e = .returned (.int .i64 (place l k : Nat)) ∧ Below Z.heap.size Z w') := Lib.hid (by
    have h1 := search_place l k a c (w.heap.size + 1) w.heap.size Z HR.out (by have := HN.out; omega) (by rw [HN.out]; exact gZ) kZ HPZ.out.keys
    rw [HN.out] at h1
    exact h1)
  have GZ := Lib.hid gZ; have KZ := Lib.hid kZ
  have HBZ := Lib.hid (below_then HB.out bZ)
  clear gZ kZ
  clear hZ bZ sZ hsX
  refine HS.out.mono ?_
  rintro e w3 ⟨rfl, hb3⟩
  obtain ⟨i, hi⟩ : ∃ i, place l k = i := ⟨_, rfl⟩
  have hin : i ≤ n := by have := place_le l k; have := HN.out; omega
  have HP3 := Lib.hid (HPZ.out.under hb3)
  have d0 : w3.cell? ⟨w.heap.size + 1, 0, none⟩ = some (.slice a n c) := cell_block (j := 0) ((hb3.block _ (Array.getElem?_eq_some_iff.1 GZ.out).1).trans GZ.out) rfl
  have kw := (hb3.block _ (Array.getElem?_eq_some_iff.1 KZ.out).1).trans KZ.out
  have k0 := key_at kw 0 (by omega); have k1 := key_at kw 1 (by omega); have k2 := key_at kw 2 (by omega); have k3 := key_at kw 3 (by omega)
  simp only [Key.at] at k0 k1 k2 k3
  have HB3 := Lib.hid (below_then HBZ.out hb3)
  have HI := Lib.hid hi
  have hi0 : (0 : Int) ≤ (i : Int) := by omega
  clear hb3 kw
  rw [hi]
  clear hi
  by_cases hlt : i < n
  · obtain ⟨p, hp⟩ : ∃ p, l[i]? = some p := ⟨l[i]'(by have := HN.out; omega), List.getElem?_eq_getElem (by have := HN.out; omega)⟩
    obtain ⟨a', c', e1, _, hat⟩ := row_key HP3.out.keys
    injection e1 with e1 e2 e3
    subst e1
    have hkp : (keys l)[i]? = some p.k := by unfold keys; rw [List.getElem?_map, hp]; rfl
    obtain ⟨g, rfl, hg, q0, q1, q2, q3⟩ := hat i p.k hkp
    obtain ⟨b, hb⟩ : ∃ b, decide (p.k = k) = b := ⟨_, rfl⟩
    have hne : ∀ W, (Op.equalIn 10000 65 (kV p.k) (kV k)).run Try.prog W = .ok b W := fun W => by
      have := run_keys p.k k 9998 W
      rw [hb] at this
      exact this
    have hh : has l k = b := by
      have h1 := has_at HR.out k
      rw [HI.out, hp] at h1
      cases hx : has l k with
      | true =>
        obtain ⟨p', h2, h3⟩ := h1.1 hx
        cases h2
        rw [← hb]
        exact (decide_eq_true h3).symm
      | false =>
        cases b with
        | false => rfl
        | true =>
          have := h1.2 ⟨p, rfl, of_decide_eq_true hb⟩
          rw [hx] at this
          cases this
    have HV : Hid (placeV l k = .tuple #[.int .i64 (i : Nat), .bool b]) := Lib.hid (by unfold placeV; rw [HI.out, hh])
    have hlt2 : (i : Int) < (n : Int) := by omega
    clear hat hkp hp hb hh e2 e3
    go_wp2_with fail
    go_quiet (fail)
    go_wp2_with fail
    go_ret2
    exact ⟨by rw [HV.out]; rfl, below_drewN HB3.out _⟩
  · have hh : has l k = false := by
      cases hx : has l k with
      | false => rfl
      | true =>
        obtain ⟨p', h2, _⟩ := (has_at HR.out k).1 hx
        have := (List.getElem?_eq_some_iff.1 h2).1
        have := HI.out; have := HN.out
        omega
    have HV : Hid (placeV l k = .tuple #[.int .i64 (i : Nat), .bool false]) := Lib.hid (by unfold placeV; rw [HI.out, hh])
    obtain rfl : i = n := by omega
    clear hh hlt
    go_wp2_with fail
    go_quiet (fail)
    go_wp2_with fail
    go_ret2
    exact ⟨by rw [HV.out]; rfl, below_drewN HB3.out _⟩
theorem place_im {Q : Nat} {F : Nat → Prop} {l : List Pr} {rest : List Value} (k : Key) (w : World) (h : PT w Q F l rest) (hr : Rising l) (hl : l.length ≤ 1000) :
    Calls Try.prog 41 #[ptr Q, kV k] w fun e w' => e = .returned (placeV l k) ∧ Below w.heap.size w w' := by
  obtain ⟨ks, vs, h⟩ := h
  exact place_tl k w h.tl hr hl
end Go.Proofs.Ytfebaiefoonncaa.Tb.Dr
