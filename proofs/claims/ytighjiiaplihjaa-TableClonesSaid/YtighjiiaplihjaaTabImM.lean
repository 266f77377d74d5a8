/- The program's Keys, Clone, and what a nil table answers. -/
import Derived.Test.YtighjiiaplihjaaTabImL
import Derived.Test.YtighjiiaplihjaaTabE
namespace Go.Proofs.Ytighjiiaplihjaa.Tab.Im
open Go.RowKit Go.Lib

set_option maxRecDepth 100000 in
set_option maxHeartbeats 2000000 in
theorem sclone_any (a : Option Addr) (c : Nat) (l : List Key) (w : World) (h : OwnK w 0 (.slice a l.length c) l) (hl : l.length ≤ 1000) :
    Calls Try.prog 32 #[.slice a l.length c] w fun e w' => ∃ v, e = .returned v ∧ OwnK w' w.heap.size v l ∧ Below w.heap.size w w' := by
  obtain ⟨a', c', e1, hlc, hcm, ha, _⟩ := rowK h
  injection e1 with e1 e2 e3
  subst e1; subst e3
  rcases ha with rfl | ⟨g, rfl⟩
  · have hl0 : l.length = 0 := by
      rcases h.2 with ⟨_, h0⟩ | ⟨g, cap, cur, hv, _⟩
      · exact h0
      · cases hv
    have hl1 : l = [] := List.length_eq_zero_iff.1 hl0
    subst hl1
    have hc0 : c = 0 := by
      rcases h.2 with ⟨hv, _⟩ | ⟨g, cap, cur, hv, _⟩
      · cases hv; rfl
      · cases hv
    subst hc0
    have hq : ∀ W, (binOp .eql 25 (.slice none 0 0) (.slice none 0 0)).run Try.prog W = .ok (.bool true) W := fun W => Lib.run_eql_slice_nil W _ _ none 0 0 0 0 Try.underlying25
    clear h hl
    go_enter Try.func32, Try.ntmps32
    go_wp2_with fail
    go_ret
    exact ⟨_, rfl, World.ownsRow_nil _ _ _ _, Below.refl _ _⟩
  · have hal := (Below.refl w.heap.size w).alloc (Nat.le_refl _) (.cells #[] 38)
    have h0 : OwnK (w.alloc (.cells #[] 38)) w.heap.size (.slice (some ⟨w.heap.size, 0, none⟩) 0 0) [] := World.ownsRow_lit w #[] 0 (Nat.le_refl _) (by unfold maxLen; omega) rfl
    obtain ⟨v', w', hr, h2, hb⟩ := app_key _ w.heap.size (.slice (some ⟨w.heap.size, 0, none⟩) 0 0) [] l h0 (some ⟨g, 0, none⟩) l.length c rfl (src_all_key (own_under h hal)) (by simp; omega) hal.size
    rw [List.nil_append] at h2
    have HR := Lib.hid hr; have HO := Lib.hid h2; have HB := Lib.hid (below_cat hal hb)
    obtain ⟨n, hn⟩ : ∃ n, l.length = n := ⟨_, rfl⟩
    rw [hn] at HR ⊢
    have hq : ∀ W, (binOp .eql 25 (.slice (some ⟨g, 0, none⟩) n c) (.slice none 0 0)).run Try.prog W = .ok (.bool false) W := fun W => Lib.run_eql_slice_nil W _ _ (some ⟨g, 0, none⟩) n c 0 0 Try.underlying25
    clear h h0 hr h2 hb hal hn hl hlc
    go_enter Try.func32, Try.ntmps32
    go_wp2_with (at_builtin; refine walk_run rfl _ _ _ _ rfl _ _ rfl rfl HR.out ?_)
    go_ret
    exact ⟨_, rfl, HO.out, HB.out⟩
set_option maxRecDepth 100000 in
theorem keys_tl {q : Option Addr} {l : List Pair} {ks vs : Value} (w : World) (h : TL w q l ks vs) (hl : l.length ≤ 1000) :
    Calls Try.prog 13 #[.pointer q] w fun e w' => ∃ v, e = .returned v ∧ OwnK w' w.heap.size v (keys l) ∧ Below w.heap.size w w' := by
  have HL := Lib.hid (h.lists w (Below.refl _ _))
  obtain ⟨a, c, rfl, _, _, _, _⟩ := rowK h.keys
  have HC := Lib.hid (fun m => sclone_any a c (keys l) (w.drewN m) (own_under h.keys (below_drewN (Below.refl _ w) m)) (by rw [len_keys]; exact hl))
  obtain ⟨n, hn⟩ : ∃ n, (keys l).length = n := ⟨_, rfl⟩
  rw [hn] at HL HC
  clear h hn hl
  go_enter Try.func13, Try.ntmps13
  go_wp2_with fail
  refine HL.out.mono ?_
  rintro e w1 ⟨rfl, m, rfl⟩
  go_wp2_with fail
  refine (HC.out m).mono ?_
  rintro e w2 ⟨v, rfl, ho, hb⟩
  go_wp2_with fail
  go_ret
  exact ⟨_, rfl, ho, ⟨hb.os, hb.tape, hb.output, hb.size, hb.block⟩⟩
set_option maxRecDepth 100000 in
theorem clone_tl {q : Option Addr} {l : List Pair} {ks vs : Value} (w : World) (h : TL w q l ks vs) :
    Calls Try.prog 20 #[.pointer q] w fun e w' => ∃ Q F, e = .returned (ptr Q) ∧ PTV w' Q F l ks vs ∧ Q = w.heap.size ∧ Below w.heap.size w w' := by
  have HL := Lib.hid (h.lists w (Below.refl _ _))
  have HH := Lib.hid h
  obtain ⟨a, c, rfl, _, _, _, _⟩ := rowK h.keys
  obtain ⟨b, d, rfl, _, _, _, _⟩ := rowI h.vals
  obtain ⟨n, hn⟩ : ∃ n, (keys l).length = n := ⟨_, rfl⟩
  obtain ⟨m, hm⟩ : ∃ m, (vals l).length = m := ⟨_, rfl⟩
  rw [hn, hm] at HL HH
  rw [hn, hm]
  clear h hn hm
  go_enter Try.func20, Try.ntmps20
  go_wp2_with fail
  refine HL.out.mono ?_
  rintro e w1 ⟨rfl, j, rfl⟩
  have HE : Hid (∃ F, PTV ((w.drewN j).alloc (.cells #[.slice a n c, .slice b m d] 28)) w.heap.size F l (.slice a n c) (.slice b m d) ∧ Below w.heap.size w ((w.drewN j).alloc (.cells #[.slice a n c, .slice b m d] 28))) := Lib.hid (by
    have hb := (below_drewN (Below.refl _ w) j).alloc (Nat.le_refl _) (.cells #[.slice a n c, .slice b m d] 28)
    have hk := own_under HH.out.keys hb
    have hv := own_under HH.out.vals hb
    refine ⟨fun k => k = w.heap.size ∨ (Value.slice a n c).ownBlock = some k ∨ (Value.slice b m d).ownBlock = some k, ⟨heap_alloc_new (w.drewN j) _, hk, hv, .inl rfl, fun q hq => ⟨.inr (.inl hq), ?_⟩, fun q hq => ⟨.inr (.inr hq), ?_⟩, ?_⟩, hb⟩
    · have := (HH.out.keys.lt q hq).2; omega
    · have := (HH.out.vals.lt q hq).2; omega
    · rintro k (rfl | hk' | hk')
      · simp
      · exact (hk.lt k hk').2
      · exact (hv.lt k hk').2)
  go_wp2_with fail
  go_ret
  obtain ⟨F, h1, h2⟩ := HE.out
  exact ⟨_, F, rfl, h1, rfl, h2⟩
set_option maxRecDepth 100000 in
set_option maxHeartbeats 2000000 in
theorem put_nil (k : Key) (x : Int) (w : World) :
    Calls Try.prog 22 #[.pointer none, kV k, .int .i64 x] w fun e w' => e = .returned (.bool false) ∧ Below w.heap.size w w' := by
  obtain ⟨X, hX⟩ : ∃ X, w.alloc (.cells #[.int .i64 k.a, .int .i64 k.b, .int .i64 k.c, .int .i64 k.d] 38) = X := ⟨_, rfl⟩
  have HB : Hid (Below w.heap.size w X) := Lib.hid (by rw [← hX]; exact (Below.refl _ w).alloc (Nat.le_refl _) _)
  go_enter Try.func22, Try.ntmps22
  go_wp2_with fail
  go_ret
  exact ⟨rfl, HB.out⟩
set_option maxRecDepth 100000 in
set_option maxHeartbeats 2000000 in
theorem get_nil (k : Key) (w : World) :
    Calls Try.prog 25 #[.pointer none, kV k] w fun e w' => e = .returned (.tuple #[.int .i64 0, .bool false]) ∧ Below w.heap.size w w' := by
  obtain ⟨X, hX⟩ : ∃ X, w.alloc (.cells #[.int .i64 k.a, .int .i64 k.b, .int .i64 k.c, .int .i64 k.d] 38) = X := ⟨_, rfl⟩
  have hbX : Below w.heap.size w X := by rw [← hX]; exact (Below.refl _ w).alloc (Nat.le_refl _) _
  have hkX : X.heap[w.heap.size]? = some (.cells k.cells 38 (0, 0)) := by rw [← hX]; exact heap_alloc_new w _
  have k0 := key_at hkX 0 (by omega); have k1 := key_at hkX 1 (by omega); have k2 := key_at hkX 2 (by omega); have k3 := key_at hkX 3 (by omega)
  simp only [Key.at] at k0 k1 k2 k3
  have HP : Hid (Calls Try.prog 26 #[.pointer none, kV k] X fun e w' => e = .returned (.tuple #[.int .i64 0, .bool false]) ∧ Below X.heap.size X w') := Lib.hid (place_tl k X (tl_nil X) rising_nil (by simp))
  have HB := Lib.hid hbX
  clear hbX hkX
  go_enter Try.func25, Try.ntmps25
  go_wp2_with fail
  clear hX
  refine HP.out.mono ?_
  rintro e w2 ⟨rfl, hb2⟩
  have HB2 := Lib.hid (below_then HB.out hb2)
  clear hb2
  go_wp2_with fail
  go_ret2
  exact ⟨rfl, HB2.out⟩
end Go.Proofs.Ytighjiiaplihjaa.Tab.Im
