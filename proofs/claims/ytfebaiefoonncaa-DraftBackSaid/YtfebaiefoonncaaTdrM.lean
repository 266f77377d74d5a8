/- The program's Clone. -/
import Derived.Test.YtfebaiefoonncaaTdrC
namespace Go.Proofs.Ytfebaiefoonncaa.Tb.Dr
open Go.RowKit Go.Lib Draft

set_option maxRecDepth 100000 in
theorem clone_tl {q : Option Addr} {l : List Pr} {ks vs : Value} (w : World) (h : TL w q l ks vs) :
    Calls Try.prog 23 #[.pointer q] w fun e w' => ∃ Q F, e = .returned (ptr Q) ∧ PTV w' Q F l ks vs [] ∧ Q = w.heap.size ∧ Below w.heap.size w w' := by
  have HL := Lib.hid (h.lists w (Below.refl _ _))
  have HH := Lib.hid h
  obtain ⟨a, c, rfl, _, _, _, _⟩ := rowK h.keys
  obtain ⟨b, d, rfl, _, _, _, _⟩ := rowV h.vals
  obtain ⟨n, hn⟩ : ∃ n, (keys l).length = n := ⟨_, rfl⟩
  obtain ⟨m, hm⟩ : ∃ m, (vals l).length = m := ⟨_, rfl⟩
  rw [hn, hm] at HL HH
  rw [hn, hm]
  clear h hn hm
  go_enter Try.func23, Try.ntmps23
  go_wp2_with fail
  refine HL.out.mono ?_
  rintro e w1 ⟨rfl, j, rfl⟩
  have HE : Hid (∃ F, PTV ((w.drewN j).alloc (.cells #[.slice a n c, .slice b m d] 43)) w.heap.size F l (.slice a n c) (.slice b m d) [] ∧ Below w.heap.size w ((w.drewN j).alloc (.cells #[.slice a n c, .slice b m d] 43))) := Lib.hid (by
    have hb := (below_drewN (Below.refl _ w) j).alloc (Nat.le_refl _) (.cells #[.slice a n c, .slice b m d] 43)
    have hk := own_under HH.out.keys hb
    have hv := own_under HH.out.vals hb
    refine ⟨fun k => k = w.heap.size ∨ (Value.slice a n c).ownBlock = some k ∨ (Value.slice b m d).ownBlock = some k, ⟨⟨_, heap_alloc_new (w.drewN j) _⟩, hk, hv, .inl rfl, fun q hq => ⟨.inr (.inl hq), ?_⟩, fun q hq => ⟨.inr (.inr hq), ?_⟩, ?_⟩, hb⟩
    · have := (HH.out.keys.lt q hq).2; omega
    · have := (HH.out.vals.lt q hq).2; omega
    · rintro k (rfl | hk' | hk')
      · simp
      · exact (hk.lt k hk').2
      · exact (hv.lt k hk').2)
  go_wp2_with fail
  go_ret
  obtain ⟨F, h1, h2⟩ := HE.out
  exact ⟨_, F, rfl, h1, rfl, h2⟩
end Go.Proofs.Ytfebaiefoonncaa.Tb.Dr
