/- The program's Len. -/
import Derived.Test.YtfebaiefoonncaaTdrC
namespace Go.Proofs.Ytfebaiefoonncaa.Tb.Dr
open Go.RowKit Go.Lib Draft

set_option maxRecDepth 100000 in
theorem len_tl {q : Option Addr} {l : List Pr} {ks vs : Value} (w : World) (h : TL w q l ks vs) :
    Calls Try.prog 40 #[.pointer q] w fun e w' => e = .returned (.int .i64 (l.length : Nat)) ∧ ∃ m, w.drewN m = w' := by
  have HL := Lib.hid (h.lists w (Below.refl _ _))
  obtain ⟨a, c, rfl, hlc, _, _, _⟩ := rowK h.keys
  have hlen : (keys l).length = l.length := by unfold keys; rw [List.length_map]
  rw [hlen] at HL
  clear h hlen hlc
  go_enter Try.func40, Try.ntmps40
  go_wp2_with fail
  refine HL.out.mono ?_
  rintro e w1 ⟨rfl, m, rfl⟩
  go_wp2_with fail
  go_ret
  exact ⟨rfl, m, rfl⟩
theorem len_im {Q : Nat} {F : Nat → Prop} {l : List Pr} {rest : List Value} (w : World) (h : PT w Q F l rest) :
    Calls Try.prog 40 #[ptr Q] w fun e w' => e = .returned (.int .i64 (l.length : Nat)) ∧ ∃ m, w.drewN m = w' := by
  obtain ⟨ks, vs, h⟩ := h
  exact len_tl w h.tl
theorem len_nil (w : World) :
    Calls Try.prog 40 #[.pointer none] w fun e w' => e = .returned (.int .i64 0) ∧ ∃ m, w.drewN m = w' := len_tl w (tl_nil w)
end Go.Proofs.Ytfebaiefoonncaa.Tb.Dr
