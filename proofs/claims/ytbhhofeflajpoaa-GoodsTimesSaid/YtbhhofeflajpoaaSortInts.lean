/- slices.Sort of a slice of ints of the call's own (for a seat that has slices.Sort[[]int,int]; behind the shelf). -/
import Derived.Test.YtbhhofeflajpoaaRows
import Derived.Test.YtbhhofeflajpoaaCommon
import Derived.Test.YtbhhofeflajpoaaShelf
import Derived.Sort.OwnSortedInts
import Derived.Sort.KeysCollected
import Derived.Sort.Walk0
namespace Go.Proofs.Ytbhhofeflajpoaa
open Go.RowKit Go.Lib Go.Sort

/-- What rises is what the sort makes of any order of it. -/
theorem sorted_ints {ss ts : List Int} (hp : ss.Perm ts) (hs : ts.Pairwise fun a b => a < b) : (ss.mergeSort fun x y => decide (x ≤ y)) = ts := by
  have tr : ∀ a b c : Int, decide (a ≤ b) = true → decide (b ≤ c) = true → decide (a ≤ c) = true := fun a b c h1 h2 => by
    have h3 := of_decide_eq_true h1
    have h4 := of_decide_eq_true h2
    exact decide_eq_true (by omega)
  have to : ∀ a b : Int, (decide (a ≤ b) || decide (b ≤ a)) = true := fun a b => by
    simp only [Bool.or_eq_true, decide_eq_true_eq]
    omega
  refine List.Perm.eq_of_pairwise (le := fun a b => decide (a ≤ b) = true) (fun a b _ _ h1 h2 => ?_) (List.pairwise_mergeSort tr to ss) ?_ ((List.mergeSort_perm ss _).trans hp)
  · have h3 := of_decide_eq_true h1
    have h4 := of_decide_eq_true h2
    omega
  · refine hs.imp (fun {a b} hab => decide_eq_true (by omega))
theorem sort_ints (w : World) (base : Nat) (v : Value) (ss ts : List Int) (h : w.ownsRow base 3 1 v ss.length (ss.map (Value.int .i64))) (hl : ss.length < 4611686018427387904) (hp : ss.Perm ts) (hs : ts.Pairwise fun a b => a < b) :
    Calls Try.prog 30 #[v] w fun e w' => e = .returned (.tuple #[]) ∧ w'.ownsRow base 3 1 v ts.length (ts.map (Value.int .i64)) ∧ w.grownBy w' v.ownBlock := by
  have hle := hp.length_eq
  rcases h.2 with ⟨rfl, h0⟩ | ⟨g, cap, cur, rfl, hbase, hb, h1, h2, h3, h4⟩
  · refine (Try.slices_Sort_int_none none 0 w).mono ?_
    rintro e w' ⟨rfl, rfl⟩
    have h1 : ts = [] := List.eq_nil_of_length_eq_zero (by omega)
    subst h1
    exact ⟨rfl, World.ownsRow_nil _ _ _ _, rfl, rfl, rfl, Nat.le_refl _, fun _ _ _ => rfl⟩
  · have hH : Holds (Value.int .i64) w g 0 ss.toArray := holds_of_blockI hb (by simpa using h4)
    have hc := Try.slices_Sort_int g 0 cap ss w hH (Array.getElem?_eq_some_iff.1 hb).1 hl
    refine hc.mono ?_
    rintro e w' ⟨rfl, n, os, rfl⟩
    rw [sorted_ints hp hs]
    have h5 := ownsRow_sortedI (w := w) (n := n) (os := os) (ss := ss) (ts := ts) hle.symm hbase hb h1 h2 h3
    refine ⟨rfl, by rw [← hle]; exact h5, grownBy_sortedI _⟩
end Go.Proofs.Ytbhhofeflajpoaa
