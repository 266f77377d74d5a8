/- What nobody's drafts answer. -/
import Derived.Test.YtfebaiefoonncaaDraImF
import Derived.Test.YtfebaiefoonncaaDraImH
import Derived.Test.YtfebaiefoonncaaDraImI
namespace Go.Proofs.Ytfebaiefoonncaa.Draft
open Go.RowKit Go.Lib

set_option maxRecDepth 100000 in
theorem use_nil (i x y : Int) (w : World) :
    Calls Try.prog 15 #[.pointer none, .int .i64 i, .int .i64 x, .int .i64 y] w fun e w' => e = .returned (.int .i64 1) ∧ Below w.heap.size w w' := by
  obtain ⟨B, hB⟩ : ∃ B, w.heap.size = B := ⟨_, rfl⟩
  obtain ⟨X, hX⟩ : ∃ X, (w.alloc (.cells #[.int .i64 x] 3)).alloc (.cells #[.int .i64 y] 3) = X := ⟨_, rfl⟩
  have hbX : Below w.heap.size w X := by rw [← hX]; exact ((Below.refl _ w).alloc (Nat.le_refl _) _).alloc (by simp) _
  have HC : Hid (Calls Try.prog 29 #[.pointer none, .int .i64 i, .func (.func 30) #[] #[ptr B, ptr (B + 1)]] X fun e w' => e = .returned (.int .i64 1) ∧ Hid (Below w.heap.size w w')) := Lib.hid (by
    obtain ⟨dz, hdz⟩ : ∃ dz : Dr, dz = default := ⟨_, rfl⟩
    have HG := Lib.hid (get_nil i X)
    rw [← hdz] at HG
    have HB := Lib.hid hbX
    clear hX hB hbX hdz
    go_enter Try.func29, Try.ntmps29
    go_wp2_with fail
    refine HG.out.mono ?_
    rintro e w1 ⟨rfl, hb1⟩
    have HE := Lib.hid ((below_then HB.out hb1).alloc (Nat.le_trans HB.out.size hb1.size) (.cells #[.int .i64 dz.id, .int .i64 dz.owner, .int .i64 dz.div, .int .i64 dz.place, .int .i64 dz.blue, .int .i64 dz.me, .int .i64 dz.te, .int .i64 dz.runs, .int .i64 dz.busy] 36))
    clear hb1
    go_wp2_with fail
    go_ret
    exact ⟨rfl, HE⟩)
  clear hbX
  go_enter Try.func15, Try.ntmps15
  go_wp2_with fail
  clear hX
  refine HC.out.mono ?_
  rintro e w' ⟨rfl, H⟩
  go_wp2_with fail
  go_ret
  exact ⟨rfl, H.out⟩
set_option maxRecDepth 100000 in
theorem free_nil (i x y : Int) (w : World) :
    Calls Try.prog 17 #[.pointer none, .int .i64 i, .int .i64 x, .int .i64 y] w fun e w' => e = .returned (.int .i64 1) ∧ Below w.heap.size w w' := by
  obtain ⟨B, hB⟩ : ∃ B, w.heap.size = B := ⟨_, rfl⟩
  obtain ⟨X, hX⟩ : ∃ X, (w.alloc (.cells #[.int .i64 x] 3)).alloc (.cells #[.int .i64 y] 3) = X := ⟨_, rfl⟩
  have hbX : Below w.heap.size w X := by rw [← hX]; exact ((Below.refl _ w).alloc (Nat.le_refl _) _).alloc (by simp) _
  have HC : Hid (Calls Try.prog 29 #[.pointer none, .int .i64 i, .func (.func 35) #[] #[ptr B, ptr (B + 1)]] X fun e w' => e = .returned (.int .i64 1) ∧ Hid (Below w.heap.size w w')) := Lib.hid (by
    obtain ⟨dz, hdz⟩ : ∃ dz : Dr, dz = default := ⟨_, rfl⟩
    have HG := Lib.hid (get_nil i X)
    rw [← hdz] at HG
    have HB := Lib.hid hbX
    clear hX hB hbX hdz
    go_enter Try.func29, Try.ntmps29
    go_wp2_with fail
    refine HG.out.mono ?_
    rintro e w1 ⟨rfl, hb1⟩
    have HE := Lib.hid ((below_then HB.out hb1).alloc (Nat.le_trans HB.out.size hb1.size) (.cells #[.int .i64 dz.id, .int .i64 dz.owner, .int .i64 dz.div, .int .i64 dz.place, .int .i64 dz.blue, .int .i64 dz.me, .int .i64 dz.te, .int .i64 dz.runs, .int .i64 dz.busy] 36))
    clear hb1
    go_wp2_with fail
    go_ret
    exact ⟨rfl, HE⟩)
  clear hbX
  go_enter Try.func17, Try.ntmps17
  go_wp2_with fail
  clear hX
  refine HC.out.mono ?_
  rintro e w' ⟨rfl, H⟩
  go_wp2_with fail
  go_ret
  exact ⟨rfl, H.out⟩
set_option maxRecDepth 100000 in
theorem learn_nil (i x y : Int) (w : World) :
    Calls Try.prog 25 #[.pointer none, .int .i64 i, .int .i64 x, .int .i64 y] w fun e w' => e = .returned (.int .i64 1) ∧ Below w.heap.size w w' := by
  obtain ⟨B, hB⟩ : ∃ B, w.heap.size = B := ⟨_, rfl⟩
  obtain ⟨X, hX⟩ : ∃ X, (w.alloc (.cells #[.int .i64 x] 3)).alloc (.cells #[.int .i64 y] 3) = X := ⟨_, rfl⟩
  have hbX : Below w.heap.size w X := by rw [← hX]; exact ((Below.refl _ w).alloc (Nat.le_refl _) _).alloc (by simp) _
  have HC : Hid (Calls Try.prog 29 #[.pointer none, .int .i64 i, .func (.func 39) #[] #[ptr B, ptr (B + 1)]] X fun e w' => e = .returned (.int .i64 1) ∧ Hid (Below w.heap.size w w')) := Lib.hid (by
    obtain ⟨dz, hdz⟩ : ∃ dz : Dr, dz = default := ⟨_, rfl⟩
    have HG := Lib.hid (get_nil i X)
    rw [← hdz] at HG
    have HB := Lib.hid hbX
    clear hX hB hbX hdz
    go_enter Try.func29, Try.ntmps29
    go_wp2_with fail
    refine HG.out.mono ?_
    rintro e w1 ⟨rfl, hb1⟩
    have HE := Lib.hid ((below_then HB.out hb1).alloc (Nat.le_trans HB.out.size hb1.size) (.cells #[.int .i64 dz.id, .int .i64 dz.owner, .int .i64 dz.div, .int .i64 dz.place, .int .i64 dz.blue, .int .i64 dz.me, .int .i64 dz.te, .int .i64 dz.runs, .int .i64 dz.busy] 36))
    clear hb1
    go_wp2_with fail
    go_ret
    exact ⟨rfl, HE⟩)
  clear hbX
  go_enter Try.func25, Try.ntmps25
  go_wp2_with fail
  clear hX
  refine HC.out.mono ?_
  rintro e w' ⟨rfl, H⟩
  go_wp2_with fail
  go_ret
  exact ⟨rfl, H.out⟩
set_option maxRecDepth 100000 in
theorem give_nil (i x y : Int) (w : World) :
    Calls Try.prog 16 #[.pointer none, .int .i64 i, .int .i64 x, .int .i64 y] w fun e w' => e = .returned (.int .i64 1) ∧ Below w.heap.size w w' := by
  obtain ⟨B, hB⟩ : ∃ B, w.heap.size = B := ⟨_, rfl⟩
  obtain ⟨X, hX⟩ : ∃ X, (w.alloc (.cells #[.int .i64 x] 3)).alloc (.cells #[.int .i64 y] 3) = X := ⟨_, rfl⟩
  have hbX : Below w.heap.size w X := by rw [← hX]; exact ((Below.refl _ w).alloc (Nat.le_refl _) _).alloc (by simp) _
  have HC : Hid (Calls Try.prog 29 #[.pointer none, .int .i64 i, .func (.func 33) #[] #[ptr B, ptr (B + 1)]] X fun e w' => e = .returned (.int .i64 1) ∧ Hid (Below w.heap.size w w')) := Lib.hid (by
    obtain ⟨dz, hdz⟩ : ∃ dz : Dr, dz = default := ⟨_, rfl⟩
    have HG := Lib.hid (get_nil i X)
    rw [← hdz] at HG
    have HB := Lib.hid hbX
    clear hX hB hbX hdz
    go_enter Try.func29, Try.ntmps29
    go_wp2_with fail
    refine HG.out.mono ?_
    rintro e w1 ⟨rfl, hb1⟩
    have HE := Lib.hid ((below_then HB.out hb1).alloc (Nat.le_trans HB.out.size hb1.size) (.cells #[.int .i64 dz.id, .int .i64 dz.owner, .int .i64 dz.div, .int .i64 dz.place, .int .i64 dz.blue, .int .i64 dz.me, .int .i64 dz.te, .int .i64 dz.runs, .int .i64 dz.busy] 36))
    clear hb1
    go_wp2_with fail
    go_ret
    exact ⟨rfl, HE⟩)
  clear hbX
  go_enter Try.func16, Try.ntmps16
  go_wp2_with fail
  clear hX
  refine HC.out.mono ?_
  rintro e w' ⟨rfl, H⟩
  go_wp2_with fail
  go_ret
  exact ⟨rfl, H.out⟩
set_option maxRecDepth 100000 in
theorem copies_nil (i x y : Int) (w : World) :
    Calls Try.prog 18 #[.pointer none, .int .i64 i, .int .i64 x, .int .i64 y] w fun e w' => e = .returned (.tuple #[.slice none 0 0, .int .i64 1]) ∧ Below w.heap.size w w' := by
  obtain ⟨dz, hdz⟩ : ∃ dz : Dr, dz = default := ⟨_, rfl⟩
  have HG := Lib.hid (get_nil i w)
  rw [← hdz] at HG
  clear hdz
  go_enter Try.func18, Try.ntmps18
  go_wp2_with fail
  refine HG.out.mono ?_
  rintro e w1 ⟨rfl, hb1⟩
  have HE := Lib.hid (hb1.alloc hb1.size (.cells #[.int .i64 dz.id, .int .i64 dz.owner, .int .i64 dz.div, .int .i64 dz.place, .int .i64 dz.blue, .int .i64 dz.me, .int .i64 dz.te, .int .i64 dz.runs, .int .i64 dz.busy] 36))
  clear hb1
  go_wp2_with fail
  go_ret2
  exact ⟨rfl, HE.out⟩
end Go.Proofs.Ytfebaiefoonncaa.Draft
