/- The document's Split: what it tells; its checks. -/
import Derived.Test.YtaffdddleegfcaaFeeC
import Derived.Test.YtaffdddleegfcaaFeeD
import Derived.Test.YtaffdddleegfcaaIntRows
import Derived.Test.YtaffdddleegfcaaAppend
import Derived.BigQuiet
import Derived.RegionTactic
import Derived.Deep.QuietTactic
namespace Go.Proofs.Ytaffdddleegfcaa.Fee
open Go.RowKit Go.Lib IRows

def SplitOk (n : Int) (ws : List Int) : Prop := (0 ≤ n ∧ n ≤ 1152921504606846976) ∧ 1 ≤ ws.length ∧ ws.length ≤ 16 ∧ ∀ v ∈ ws, 0 ≤ v ∧ v ≤ 1152921504606846976
open Classical in
noncomputable def errSp (n : Int) (ws : List Int) : Int := if SplitOk n ws then (if 1152921504606846976 < sumL ws then 5 else if sumL ws = 0 then 1 else 0) else 1
noncomputable def valSp (n : Int) (ws : List Int) : List Int := if errSp n ws = 0 then shares n (sumL ws) ws else []
theorem sp_bad {n : Int} {ws : List Int} (h : ¬ SplitOk n ws) : errSp n ws = 1 ∧ valSp n ws = [] := by
  have e : errSp n ws = 1 := by unfold errSp; rw [if_neg h]
  refine ⟨e, ?_⟩
  unfold valSp
  rw [e]
  rfl
theorem sp_over {n : Int} {ws : List Int} (h : SplitOk n ws) (h2 : 1152921504606846976 < sumL ws) : errSp n ws = 5 ∧ valSp n ws = [] := by
  have e : errSp n ws = 5 := by unfold errSp; rw [if_pos h, if_pos h2]
  refine ⟨e, ?_⟩
  unfold valSp
  rw [e]
  rfl
theorem sp_none {n : Int} {ws : List Int} (h : SplitOk n ws) (h2 : sumL ws = 0) : errSp n ws = 1 ∧ valSp n ws = [] := by
  have e : errSp n ws = 1 := by unfold errSp; rw [if_pos h, if_neg (by omega), if_pos h2]
  refine ⟨e, ?_⟩
  unfold valSp
  rw [e]
  rfl
theorem sp_ok {n : Int} {ws : List Int} (h : SplitOk n ws) (h2 : sumL ws ≤ 1152921504606846976) (h3 : sumL ws ≠ 0) : errSp n ws = 0 ∧ valSp n ws = shares n (sumL ws) ws := by
  have e : errSp n ws = 0 := by unfold errSp; rw [if_pos h, if_neg (by omega), if_neg h3]
  refine ⟨e, ?_⟩
  unfold valSp
  rw [if_pos e]
theorem mem_take_succ {l : List Int} {i : Nat} {t s : Int} (h : l[i]? = some t) : s ∈ l.take (i + 1) ↔ s ∈ l.take i ∨ s = t := by
  rw [List.take_add_one, h]
  simp
/-- The first of which most is left, of those so far. -/
def TopTo (l : List Int) (i k : Nat) : Prop := (i = 0 ∧ k = 0) ∨ (k < i ∧ (∀ a, a < k → nth l a < nth l k) ∧ ∀ a, a < i → nth l a ≤ nth l k)
theorem top_new {l : List Int} {i k : Nat} (h : TopTo l i k) (hlt : nth l k < nth l i) : TopTo l (i + 1) i := by
  right
  rcases h with ⟨rfl, rfl⟩ | ⟨h1, h2, h3⟩
  · omega
  · refine ⟨by omega, fun a ha => ?_, fun a ha => ?_⟩
    · have := h3 a ha
      omega
    · by_cases e : a = i
      · subst e
        exact Int.le_refl _
      · have := h3 a (by omega)
        omega
theorem top_old {l : List Int} {i k : Nat} (h : TopTo l i k) (hlt : ¬ nth l k < nth l i) : TopTo l (i + 1) k := by
  right
  rcases h with ⟨rfl, rfl⟩ | ⟨h1, h2, h3⟩
  · refine ⟨by omega, fun a ha => by omega, fun a ha => ?_⟩
    obtain rfl : a = 0 := by omega
    exact Int.le_refl _
  · refine ⟨by omega, h2, fun a ha => ?_⟩
    by_cases e : a = i
    · subst e
      omega
    · exact h3 a (by omega)
theorem top_all {l : List Int} {k : Nat} (h : TopTo l l.length k) (h0 : 0 < l.length) : IsTop l k := by
  rcases h with ⟨h1, _⟩ | ⟨h1, h2, h3⟩
  · omega
  · exact ⟨h1, h2, h3⟩
set_option maxRecDepth 100000 in
set_option maxHeartbeats 4000000 in
theorem dsplit_bad (n : Int) (a : Option Addr) (m c : Nat) (ws : List Int) (w : World) (hl : ws.length = m) (hm : m ≤ 1099511627776) (h : ¬ ((0 ≤ n ∧ n ≤ 1152921504606846976) ∧ 1 ≤ m ∧ m ≤ 16)) :
    Calls Try.prog 16 #[.int .i64 n, .slice a m c] w fun e w' => ∃ v, e = .returned (.tuple #[v, .int .i64 (errSp n ws)]) ∧ KS w' w.heap.size v (valSp n ws) ∧ Below w.heap.size w w' := by
  obtain ⟨h1, h2⟩ := sp_bad (n := n) (ws := ws) fun hk => h ⟨hk.1, by have := hk.2.1; omega, by have := hk.2.2.1; omega⟩
  rw [h1, h2]
  have hno : n < 0 ∨ (¬ n < 0 ∧ 1152921504606846976 < n) ∨ (¬ n < 0 ∧ ¬ 1152921504606846976 < n ∧ (m : Int) < 1) ∨ (¬ n < 0 ∧ ¬ 1152921504606846976 < n ∧ ¬ (m : Int) < 1 ∧ 16 < (m : Int)) := by omega
  clear h hl h1 h2
  rcases hno with k1 | ⟨k1, k2⟩ | ⟨k1, k2, k3⟩ | ⟨k1, k2, k3, k4⟩
  · have d1 : decide (n < 0) = true := decide_eq_true k1
    go_enter Try.func16, Try.ntmps16
    go_wp2_with fail
    go_ret2
    exact ⟨_, rfl, ks_nil _ _, Below.refl _ _⟩
  · have d1 : decide (n < 0) = false := decide_eq_false k1
    have d2 : decide (1152921504606846976 < n) = true := decide_eq_true k2
    go_enter Try.func16, Try.ntmps16
    go_wp2_with fail
    go_ret2
    exact ⟨_, rfl, ks_nil _ _, Below.refl _ _⟩
  · have d1 : decide (n < 0) = false := decide_eq_false k1
    have d2 : decide (1152921504606846976 < n) = false := decide_eq_false k2
    have d3 : decide ((m : Int) < 1) = true := decide_eq_true k3
    go_enter Try.func16, Try.ntmps16
    go_wp2_with fail
    go_ret2
    exact ⟨_, rfl, ks_nil _ _, Below.refl _ _⟩
  · have d1 : decide (n < 0) = false := decide_eq_false k1
    have d2 : decide (1152921504606846976 < n) = false := decide_eq_false k2
    have d3 : decide ((m : Int) < 1) = false := decide_eq_false k3
    have d4 : decide (16 < (m : Int)) = true := decide_eq_true k4
    go_enter Try.func16, Try.ntmps16
    go_wp2_with fail
    go_ret2
    exact ⟨_, rfl, ks_nil _ _, Below.refl _ _⟩
end Go.Proofs.Ytaffdddleegfcaa.Fee
