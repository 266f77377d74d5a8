/- slices.Sort of a slice of texts of the call's own (for a seat that has slices.Sort[[]string,string]; behind the shelf). -/
import Derived.Test.YtflkglnmenbmaaaRows
import Derived.Test.YtflkglnmenbmaaaCommon
import Derived.Test.YtflkglnmenbmaaaShelf
import Derived.Sort.OwnSorted
import Derived.Sort.KeysCollected
import Derived.Sort.Walk0
namespace Go.Proofs.Ytflkglnmenbmaaa
open Go.RowKit Go.Lib Go.Sort

abbrev listOf (s : ByteArray) : List UInt8 := s.data.toList
theorem encStr_list (s : ByteArray) : encStr (listOf s) = .string s := by simp [encStr, listOf]
theorem map_encStr (l : List ByteArray) : (l.map listOf).map encStr = l.map Value.string := by
  rw [List.map_map]
  exact List.map_congr_left (fun s _ => encStr_list s)
/-- What rises is what the sort makes of any order of it. -/
theorem sorted_texts {ss ts : List ByteArray} (hp : ss.Perm ts) (hs : ts.Pairwise fun a b => Op.bytesLess a.toList b.toList = true) : ((ss.map listOf).mergeSort fun x y => decide (x ≤ y)) = ts.map listOf := by
  have h1 : (ss.map listOf).mergeSort leB = (ts.map listOf).mergeSort leB := mergeSort_of_perm (hp.map listOf)
  refine h1.trans (List.mergeSort_of_pairwise ?_)
  rw [List.pairwise_map]
  refine hs.imp (fun {a b} hab => ?_)
  rw [bytesLess_eq, Lib.toList_data, Lib.toList_data] at hab
  exact decide_eq_true (List.le_of_lt (of_decide_eq_true hab))
theorem sort_texts (w : World) (base : Nat) (v : Value) (ss ts : List ByteArray) (h : w.ownsRow base 9 1 v ss.length (ss.map Value.string)) (hl : ss.length < 4611686018427387904) (hp : ss.Perm ts) (hs : ts.Pairwise fun a b => Op.bytesLess a.toList b.toList = true) :
    Calls Try.prog 49 #[v] w fun e w' => e = .returned (.tuple #[]) ∧ w'.ownsRow base 9 1 v ts.length (ts.map Value.string) ∧ w.grownBy w' v.ownBlock := by
  have hle := hp.length_eq
  rcases h.2 with ⟨rfl, h0⟩ | ⟨g, cap, cur, rfl, hbase, hb, h1, h2, h3, h4⟩
  · refine (Try.slices_Sort_string_none none 0 w).mono ?_
    rintro e w' ⟨rfl, rfl⟩
    have h1 : ts = [] := List.eq_nil_of_length_eq_zero (by omega)
    subst h1
    exact ⟨rfl, World.ownsRow_nil _ _ _ _, rfl, rfl, rfl, Nat.le_refl _, fun _ _ _ => rfl⟩
  · have hml : (ss.map listOf).length = ss.length := by simp
    have hH : Holds encStr w g 0 (ss.map listOf).toArray := holds_of_block hb (by rw [hml, map_encStr]; simpa using h4)
    have hc := Try.slices_Sort_string g 0 cap (ss.map listOf) w hH (Array.getElem?_eq_some_iff.1 hb).1 (by rw [hml]; exact hl)
    rw [hml] at hc
    refine hc.mono ?_
    rintro e w' ⟨rfl, n, os, rfl⟩
    rw [sorted_texts hp hs]
    have h5 := ownsRow_sorted (w := w) (n := n) (os := os) (ss := ss.map listOf) (ts := ts.map listOf) (by simp [hle]) hbase hb (by rw [hml]; exact h1) h2 h3
    rw [hml, map_encStr] at h5
    refine ⟨rfl, by rw [← hle]; exact h5, grownBy_sorted _⟩
end Go.Proofs.Ytflkglnmenbmaaa
