/- A disk that is nobody: nil, or a zero-valued one; what the laws' do answers of it. -/
import Derived.Test.YtflkglnmenbmaaaDiskN
namespace Go.Proofs.Ytflkglnmenbmaaa.Disk
open Go.RowKit Go.Lib

/-- Nobody: a pointer that is no disk, and what its calls answer. F: what its calls may write. -/
structure Nobody where
  ND : World → Option Addr → (Nat → Prop) → Prop
  lt : ∀ {w p F}, ND w p F → ∀ k, F k → k < w.heap.size
  keep : ∀ {w w' : World} {p F}, ND w p F → w.heap.size ≤ w'.heap.size → (∀ k, F k → w'.heap[k]? = w.heap[k]?) → ND w' p F
  append : ∀ (p : Option Addr) (F : Nat → Prop) (s b : ByteArray) (w : World), ND w p F → s.size ≤ 200 → b.size ≤ 200 →
    Calls Try.prog 20 #[.pointer p, .string s, .string b] w fun e w' => e = .returned (.int .i64 1) ∧ ∃ F', ND w' p F' ∧ StepF w w' F F'
  sync : ∀ (p : Option Addr) (F : Nat → Prop) (s : ByteArray) (w : World), ND w p F → s.size ≤ 200 →
    Calls Try.prog 21 #[.pointer p, .string s] w fun e w' => e = .returned (.int .i64 1) ∧ ∃ F', ND w' p F' ∧ StepF w w' F F'
  cut : ∀ (p : Option Addr) (F : Nat → Prop) (s : ByteArray) (n : Int) (w : World), ND w p F → s.size ≤ 200 → (-9223372036854775808 ≤ n ∧ n ≤ 9223372036854775807) →
    Calls Try.prog 26 #[.pointer p, .string s, .int .i64 n] w fun e w' => e = .returned (.int .i64 1) ∧ ∃ F', ND w' p F' ∧ StepF w w' F F'
  rename : ∀ (p : Option Addr) (F : Nat → Prop) (s t : ByteArray) (w : World), ND w p F → s.size ≤ 200 → t.size ≤ 200 →
    Calls Try.prog 25 #[.pointer p, .string s, .string t] w fun e w' => e = .returned (.int .i64 1) ∧ ∃ F', ND w' p F' ∧ StepF w w' F F'
  read : ∀ (p : Option Addr) (F : Nat → Prop) (s : ByteArray) (w : World), ND w p F → s.size ≤ 200 →
    Calls Try.prog 23 #[.pointer p, .string s] w fun e w' => e = .returned (.tuple #[.string ⟨#[]⟩, .int .i64 1]) ∧ ∃ F', ND w' p F' ∧ StepF w w' F F'
  fuse : ∀ (p : Option Addr) (F : Nat → Prop) (n : Int) (h : Bool) (w : World), ND w p F → (-9223372036854775808 ≤ n ∧ n ≤ 9223372036854775807) →
    Calls Try.prog 24 #[.pointer p, .int .i64 n, .bool h] w fun e w' => e = .returned (.tuple #[]) ∧ ∃ F', ND w' p F' ∧ StepF w w' F F'
  crash : ∀ (p : Option Addr) (F : Nat → Prop) (ka : Option Addr) (kn kc : Nat) (Z : Nat → Int) (w : World), ND w p F → Ints w ka kn Z → kn ≤ 20 →
    Calls Try.prog 22 #[.pointer p, .slice ka kn kc] w fun e w' => e = .returned (.int .i64 1) ∧ ∃ F', ND w' p F' ∧ StepF w w' F F'
  used : ∀ (p : Option Addr) (F : Nat → Prop) (w : World), ND w p F →
    Calls Try.prog 13 #[.pointer p] w fun e w' => e = .returned (.int .i64 0) ∧ ∃ F', ND w' p F' ∧ StepF w w' F F'
  ops : ∀ (p : Option Addr) (F : Nat → Prop) (w : World), ND w p F →
    Calls Try.prog 15 #[.pointer p] w fun e w' => e = .returned (.int .i64 0) ∧ ∃ F', ND w' p F' ∧ StepF w w' F F'
  dead : ∀ (p : Option Addr) (F : Nat → Prop) (w : World), ND w p F →
    Calls Try.prog 16 #[.pointer p] w fun e w' => e = .returned (.bool true) ∧ ∃ F', ND w' p F' ∧ StepF w w' F F'
  names : ∀ (p : Option Addr) (F : Nat → Prop) (w : World), ND w p F →
    Calls Try.prog 18 #[.pointer p] w fun e w' => ∃ (o : Option Addr) (c : Nat) (F' : Nat → Prop), e = .returned (.slice o 0 c) ∧ ND w' p F' ∧ StepF w w' F F'
variable (I : Nobody)
def noE (a : AC) : Int := if a.kind = 5 then 0 else 1
set_option maxRecDepth 100000 in
set_option maxHeartbeats 2000000 in
/-- The law's own do of nobody. -/
theorem ndo_any (p : Option Addr) (F : Nat → Prop) (a : AC) (ka : Option Addr) (kn kc : Nat) (Z : Nat → Int) (w : World) (h : I.ND w p F) (hA : ActIs w a ka kn Z) (hn : a.name.size ≤ 40) (ha : a.arg.size ≤ 200) (hk : kn ≤ 20) :
    Calls Try.prog 11 #[.pointer p, .agg #[.int .i64 a.kind, .int .i64 a.n, .string a.name, .string a.arg, .bool a.half, .slice ka kn kc]] w fun e w' => e = .returned (.tuple #[.string ⟨#[]⟩, .int .i64 (noE a)]) ∧ ∃ F', I.ND w' p F' ∧ StepF w w' F F' := by
  have hal : Below w.heap.size w (w.alloc (.cells #[.int .i64 a.kind, .int .i64 a.n, .string a.name, .string a.arg, .bool a.half, .slice ka kn kc] 36)) := (Below.refl _ w).alloc (Nat.le_refl _) _
  have hr0 := I.keep h hal.size (fun k hk => hal.block k (I.lt h k hk))
  have HS0 := Lib.hid (StepF.below F hal)
  have hints := ints_below hA.ints hal
  by_cases k1 : a.kind = 1
  · have hV : noE a = 1 := by unfold noE; rw [if_neg (by omega)]
    rw [hV]
    rw [k1] at hr0 HS0 hints ⊢
    have HC := Lib.hid (I.append p F a.name a.arg _ hr0 (by omega) ha)
    clear hal hr0 hints hV h
    go_enter Try.func11, Try.ntmps11
    go_wp2_with fail
    refine HC.out.mono ?_
    rintro e w1 ⟨rfl, F1, hr1, hs1⟩
    have HR1 := Lib.hid hr1; have HS1 := Lib.hid (HS0.out.trans hs1)
    clear hr1 hs1
    go_wp2_with fail
    go_ret2
    exact ⟨rfl, F1, HR1.out, HS1.out⟩
  by_cases k2 : a.kind = 2
  · have hV : noE a = 1 := by unfold noE; rw [if_neg (by omega)]
    rw [hV]
    rw [k2] at hr0 HS0 hints ⊢
    have HC := Lib.hid (I.sync p F a.name _ hr0 (by omega))
    clear hal hr0 hints hV h k1
    go_enter Try.func11, Try.ntmps11
    go_wp2_with fail
    refine HC.out.mono ?_
    rintro e w1 ⟨rfl, F1, hr1, hs1⟩
    have HR1 := Lib.hid hr1; have HS1 := Lib.hid (HS0.out.trans hs1)
    clear hr1 hs1
    go_wp2_with fail
    go_ret2
    exact ⟨rfl, F1, HR1.out, HS1.out⟩
  by_cases k3 : a.kind = 3
  · have hV : noE a = 1 := by unfold noE; rw [if_neg (by omega)]
    rw [hV]
    rw [k3] at hr0 HS0 hints ⊢
    have HC := Lib.hid (I.cut p F a.name a.n _ hr0 (by omega) hA.n)
    clear hal hr0 hints hV h k1 k2
    go_enter Try.func11, Try.ntmps11
    go_wp2_with fail
    refine HC.out.mono ?_
    rintro e w1 ⟨rfl, F1, hr1, hs1⟩
    have HR1 := Lib.hid hr1; have HS1 := Lib.hid (HS0.out.trans hs1)
    clear hr1 hs1
    go_wp2_with fail
    go_ret2
    exact ⟨rfl, F1, HR1.out, HS1.out⟩
  by_cases k4 : a.kind = 4
  · have hV : noE a = 1 := by unfold noE; rw [if_neg (by omega)]
    rw [hV]
    rw [k4] at hr0 HS0 hints ⊢
    have HC := Lib.hid (I.rename p F a.name a.arg _ hr0 (by omega) ha)
    clear hal hr0 hints hV h k1 k2 k3
    go_enter Try.func11, Try.ntmps11
    go_wp2_with fail
    refine HC.out.mono ?_
    rintro e w1 ⟨rfl, F1, hr1, hs1⟩
    have HR1 := Lib.hid hr1; have HS1 := Lib.hid (HS0.out.trans hs1)
    clear hr1 hs1
    go_wp2_with fail
    go_ret2
    exact ⟨rfl, F1, HR1.out, HS1.out⟩
  by_cases k5 : a.kind = 5
  · have hV : noE a = 0 := by unfold noE; rw [if_pos k5]
    rw [hV]
    rw [k5] at hr0 HS0 hints ⊢
    have HC := Lib.hid (I.fuse p F a.n a.half _ hr0 hA.n)
    clear hal hr0 hints hV h k1 k2 k3 k4
    go_enter Try.func11, Try.ntmps11
    go_wp2_with fail
    refine HC.out.mono ?_
    rintro e w1 ⟨rfl, F1, hr1, hs1⟩
    have HR1 := Lib.hid hr1; have HS1 := Lib.hid (HS0.out.trans hs1)
    clear hr1 hs1
    go_wp2_with fail
    go_ret2
    exact ⟨rfl, F1, HR1.out, HS1.out⟩
  by_cases k6 : a.kind = 6
  · have hV : noE a = 1 := by unfold noE; rw [if_neg (by omega)]
    rw [hV]
    rw [k6] at hr0 HS0 hints ⊢
    have HC := Lib.hid (I.crash p F ka kn kc Z _ hr0 hints hk)
    clear hal hr0 hints hV h k1 k2 k3 k4 k5
    go_enter Try.func11, Try.ntmps11
    go_wp2_with fail
    refine HC.out.mono ?_
    rintro e w1 ⟨rfl, F1, hr1, hs1⟩
    have HR1 := Lib.hid hr1; have HS1 := Lib.hid (HS0.out.trans hs1)
    clear hr1 hs1
    go_wp2_with fail
    go_ret2
    exact ⟨rfl, F1, HR1.out, HS1.out⟩
  · have hV : noE a = 1 := by unfold noE; rw [if_neg k5]
    rw [hV]
    have HC := Lib.hid (I.read p F a.name _ hr0 (by omega))
    clear hal hr0 hints hV h
    go_enter Try.func11, Try.ntmps11
    go_wp2_with fail
    refine HC.out.mono ?_
    rintro e w1 ⟨rfl, F1, hr1, hs1⟩
    have HR1 := Lib.hid hr1; have HS1 := Lib.hid (HS0.out.trans hs1)
    clear hr1 hs1
    go_wp2_with fail
    go_ret2
    exact ⟨rfl, F1, HR1.out, HS1.out⟩
end Go.Proofs.Ytflkglnmenbmaaa.Disk
