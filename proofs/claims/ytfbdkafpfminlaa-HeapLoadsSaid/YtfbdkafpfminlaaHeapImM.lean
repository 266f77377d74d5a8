/- slices.SortFunc of a row of timers of the call's own; the program's List. -/
import Derived.Test.YtfbdkafpfminlaaHeapImK
import Derived.Test.YtfbdkafpfminlaaShelfSort
namespace Go.Proofs.Ytfbdkafpfminlaa.Heap.Im
open Go.RowKit Go.Lib Go.Sort

instance : Inhabited Tm := ⟨zeroTm⟩
theorem get_tm (l : List Tm) (i : Nat) (h : i < l.length) : l.toArray[i]! = l[i] := by
  rw [getElem!_pos l.toArray i (by simpa using h)]
  simp
theorem flat_tm (l : List Tm) : flatK tmCells 3 l.toArray = (tcells l).toArray := by
  apply Array.ext
  · simp [tcells_length]
  · intro t h1 h2
    have ht : t < l.length * 3 := by simpa using h1
    have h3 : t / 3 < l.length := by omega
    have h4 : (flatK tmCells 3 l.toArray)[t]! = (tmCells l.toArray[t / 3]!)[t % 3]! := get_flatK _ _ _ _ (by simpa using ht)
    rw [getElem!_pos _ t h1] at h4
    rw [h4, get_tm l _ h3]
    have h5 : t % 3 < (tmCells l[t / 3]).length := by show t % 3 < 3; omega
    have h6 := tcells_at l (t / 3) l[t / 3] (List.getElem?_eq_getElem h3) (t % 3) _ (List.getElem?_eq_getElem h5)
    rw [show t / 3 * 3 + t % 3 = t by omega] at h6
    obtain ⟨_, h7⟩ := List.getElem?_eq_some_iff.1 h6
    rw [getElem!_pos (tmCells l[t / 3]) (t % 3) h5, ← h7]
    simp
theorem holdsK_tm {w : World} {g base c : Nat} {l : List Tm} (h : w.ownsRow base 45 3 (.slice (some ⟨g, 0, none⟩) l.length c) l.length (tcells l)) : HoldsK tmCells 3 w g 0 l.toArray := by
  unfold HoldsK
  rw [flat_tm]
  intro j hj
  have hj' : j < (tcells l).length := by simpa using hj
  refine ⟨?_, h.frozenAt _⟩
  have h1 := h.cells (g := g) rfl j _ (List.getElem?_eq_getElem hj')
  rw [addr_add] at h1
  rw [getElem!_pos _ j (by simpa using hj')]
  simpa using h1
theorem take_put_flat (cur : Array Value) (F : List Value) (h : F.length ≤ cur.size) : (putCells id 0 F.toArray cur).toList.take F.length = F := by
  apply List.ext_getElem?
  intro j
  by_cases hj : j < F.length
  · rw [List.getElem?_take_of_lt hj, Array.getElem?_toList]
    simp [putCells, hj, show j < cur.size by omega]
  · rw [List.getElem?_take_eq_none (by omega), List.getElem?_eq_none (by omega)]
theorem sorted_row {w : World} {g base c n : Nat} {os : Array Obj} {l ts : List Tm} (h : w.ownsRow base 45 3 (.slice (some ⟨g, 0, none⟩) l.length c) l.length (tcells l)) (hl : ts.length = l.length) :
    (sortWorldK tmCells 3 w g 0 n ts.toArray os).ownsRow base 45 3 (.slice (some ⟨g, 0, none⟩) l.length c) ts.length (tcells ts) ∧ w.grownBy (sortWorldK tmCells 3 w g 0 n ts.toArray os) (some g) := by
  rcases h.2 with ⟨e, _⟩ | ⟨g', cap, cur, e, hb, hg, hn, hm, hs, ht⟩
  · cases e
  · injection e with e1 _ e3
    injection e1 with e1
    injection e1 with e1
    subst e1; subst e3
    have hgl : g < w.heap.size := (Array.getElem?_eq_some_iff.1 hg).1
    unfold sortWorldK putRowK
    rw [flat_tm]
    refine ⟨⟨by rw [tcells_length], .inr ⟨g, c, putCells id 0 (tcells ts).toArray cur, by rw [hl], hb, ?_, by omega, hm, by simp [putCells, hs], ?_⟩⟩, rfl, rfl, rfl, by simp, fun k hk hne => ?_⟩
    · rw [heap_grow_old _ _ (by simpa using hgl)]
      simp [putRow, mapBlock, Sort.ahead, Array.getElem?_modify, hg, onCells]
    · rw [← tcells_length]
      exact take_put_flat cur (tcells ts) (by rw [tcells_length, hs, hl]; exact Nat.mul_le_mul_right 3 hn)
    · rw [heap_grow_old _ _ (by simpa using hk)]
      have : g ≠ k := fun e => hne (by rw [e])
      simp [putRow, mapBlock, Sort.ahead, Array.getElem?_modify, this]
theorem lt_tm (x y : Tm) : ltOf cmpT x y = decide (Heap.ahead x y) := by
  unfold ltOf
  by_cases h : Heap.ahead x y
  · rw [decide_eq_true h, decide_eq_true ((cmpT_lt x y).2 h)]
  · rw [decide_eq_false h, decide_eq_false (fun e => h ((cmpT_lt x y).1 e))]
theorem swo_tm : SWO (ltOf cmpT) where
  irrefl x := by rw [lt_tm]; exact decide_eq_false (ahead_irrefl x)
  trans x y z h1 h2 := by rw [lt_tm] at *; exact decide_eq_true (ahead_trans (of_decide_eq_true h1) (of_decide_eq_true h2))
  ntrans x y z h1 h2 := by
    rw [lt_tm] at *
    have h3 := of_decide_eq_false h1
    have h4 := of_decide_eq_false h2
    exact decide_eq_false (not_ahead_trans h4 h3)
/-- There is one order in which timers stand, if no two have one number. -/
theorem one_order {l ts : List Tm} {d : Array Tm} (hp : PermIn 0 l.toArray.size l.toArray d) (hs : SortedIn (ltOf cmpT) 0 l.toArray.size d) (hlt : l.Perm ts) (h1 : Sorted ts) (h2 : Uniq ts) : d = ts.toArray := by
  obtain ⟨hsz, _, hperm⟩ := hp
  have e1 : d.extract 0 l.toArray.size = d := by rw [← hsz]; exact Array.extract_size
  rw [e1, Array.extract_size] at hperm
  have hpt : d.toList.Perm ts := hperm.trans hlt
  have : d.toList = ts := by
    refine List.Perm.eq_of_pairwise (le := fun x y => ¬ Heap.ahead y x) ?_ ?_ ?_ hpt
    · intro a b ha hb k1 k2
      have ha' := hpt.mem_iff.1 ha
      by_cases e : a.id = b.id
      · obtain ⟨_, h3⟩ := nthT_find h2 ha'
        obtain ⟨_, h4⟩ := nthT_find h2 hb
        rw [e] at h3
        exact h3.symm.trans h4
      · rcases ahead_total a b e with h3 | h3
        · exact absurd h3 k2
        · exact absurd h3 k1
    · rw [List.pairwise_iff_getElem]
      intro i j hi hj hij
      have hi' : i < d.size := by simpa using hi
      have hj' : j < d.size := by simpa using hj
      have := hs i j (Nat.zero_le _) hij (by omega)
      rw [getElem!_pos d j hj', getElem!_pos d i hi', lt_tm] at this
      have := of_decide_eq_false this
      simpa using this
    · exact h1.imp fun h => ahead_asymm h
  rw [← this]
theorem sort_tms (w : World) (base : Nat) (v : Value) (l ts : List Tm) (h : w.ownsRow base 45 3 v l.length (tcells l)) (hl : l.length ≤ 1048576) (hp : l.Perm ts) (hs : Sorted ts) (hu : Uniq ts) :
    Calls Try.prog 36 #[v, .func (.func 37) #[] #[]] w fun e w' => e = .returned (.tuple #[]) ∧ w'.ownsRow base 45 3 v ts.length (tcells ts) ∧ w.grownBy w' v.ownBlock := by
  have hle := hp.length_eq
  have h0 := h
  rcases h.2 with ⟨rfl, h1⟩ | ⟨g, cap, cur, rfl, _, hb, _⟩
  · have hc := AnyF.slices_SortFunc_none Try.sortT none 0 (.func (.func 37) #[] #[]) w
    refine hc.mono ?_
    rintro e w' ⟨rfl, rfl⟩
    have h2 : ts = [] := List.eq_nil_of_length_eq_zero (by omega)
    subst h2
    exact ⟨rfl, World.ownsRow_nil _ _ _ _, only_refl _ _⟩
  · have eg : ∀ args w, (callFunc 37 args).run Try.prog w = .ok (.enter 37 args) w := enters_of Try.func37 (by kernel_rfl) rfl
    have hc := AnyQ.slices_SortFunc Try.sortT 3 Try.isAgg45 Try.sizeOf45 tmCells (fun _ => rfl) (fun x u hu => by simp [tmCells] at hu; rcases hu with rfl | rfl | rfl <;> rfl) cmpT swo_tm 37 #[] g 0 cap l.toArray w eg
      (fun m os dk _ x y => compare_any x y _) (holdsK_tm h0) (Array.getElem?_eq_some_iff.1 hb).1 (by simp; omega)
    have hsz : l.toArray.size = l.length := by simp
    rw [hsz] at hc
    refine hc.mono ?_
    rintro e w' ⟨rfl, d, n, os, h1, h2, rfl⟩
    have hd := one_order (by rw [hsz]; exact h1) (by rw [hsz]; exact h2) hp hs hu
    subst hd
    obtain ⟨h3, h4⟩ := sorted_row (n := n) (os := os) h0 hle.symm
    exact ⟨rfl, h3, h4⟩
end Go.Proofs.Ytfbdkafpfminlaa.Heap.Im
