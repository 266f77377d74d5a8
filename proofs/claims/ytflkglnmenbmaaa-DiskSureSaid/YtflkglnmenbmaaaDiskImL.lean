/- The walks over Used, names, Names: a range over the map, in whatever order. -/
import Derived.Test.YtflkglnmenbmaaaDiskImB
import Derived.Test.YtflkglnmenbmaaaSort
namespace Go.Proofs.Ytflkglnmenbmaaa.Disk.Im
open Go.RowKit Go.Lib

/-- The files that the range has handed out. -/
def gone (left : ByteArray → Bool) (l : List DF) : List DF := l.filter fun f => !left f.name
theorem gone_more {left : ByteArray → Bool} {f : DF} : ∀ {l : List DF}, Sorted l → f ∈ l → left f.name = true → (gone (fun x => left x && !decide (x = f.name)) l).Perm (f :: gone left l)
  | [], _, hf, _ => by cases hf
  | a :: l, hs, hf, hl => by
    unfold gone
    rw [List.filter_cons, List.filter_cons]
    rcases List.mem_cons.1 hf with rfl | hfl
    · have h1 : (!(left f.name && !decide (f.name = f.name))) = true := by simp
      have h2 : ¬ (!left f.name) = true := by simp [hl]
      rw [if_pos h1, if_neg h2]
      have h3 : (l.filter fun g => !(left g.name && !decide (g.name = f.name))) = l.filter fun g => !left g.name := by
        refine List.filter_congr (fun g hg => ?_)
        have := sorted_ne hs g hg
        simp [this]
      rw [h3]
    · have hne : a.name ≠ f.name := fun e => (sorted_ne hs f hfl) e.symm
      have ih := gone_more (left := left) (List.pairwise_cons.1 hs).2 hfl hl
      unfold gone at ih
      have h1 : (!(left a.name && !decide (a.name = f.name))) = (!left a.name) := by simp [hne]
      rw [h1]
      by_cases ha : (!left a.name) = true
      · rw [if_pos ha, if_pos ha]
        exact (ih.cons a).trans (List.Perm.swap _ _ _)
      · rw [if_neg ha, if_neg ha]
        exact ih
theorem gone_all {left : ByteArray → Bool} (h : ∀ s, left s = false) (l : List DF) : gone left l = l := List.filter_eq_self.2 (fun f _ => by simp [h])
theorem gone_none {left : ByteArray → Bool} {l : List DF} (h : ∀ f ∈ l, left f.name = true) : gone left l = [] := List.filter_eq_nil_iff.2 (fun f hf => by simp [h f hf])
theorem used_perm {l l' : List DF} (h : l.Perm l') : usedF l = usedF l' := by
  induction h with
  | nil => rfl
  | cons a _ ih => simp only [usedF, ih]
  | swap a b l => simp only [usedF]; omega
  | trans _ _ h1 h2 => exact h1.trans h2
theorem gone_used (left : ByteArray → Bool) (l : List DF) : usedF (gone left l) ≤ usedF l := by
  induction l with
  | nil => exact Nat.le_refl _
  | cons a l ih =>
    unfold gone at ih ⊢
    rw [List.filter_cons]
    split
    · simp only [usedF]; omega
    · simp only [usedF]; omega
theorem mapM_left {V : ByteArray → Value} {l : List DF} : ∀ f ∈ l, (mapM V l f.name).isSome = true := fun f hf => by
  unfold mapM
  cases hl : look l f.name with
  | none => exact absurd rfl (look_none_all hl f hf)
  | some g => rfl
theorem mapM_some {V : ByteArray → Value} {l : List DF} {s : ByteArray} {v : Value} (h : mapM V l s = some v) : ∃ f ∈ l, f.name = s ∧ v = fileV V f := by
  unfold mapM at h
  obtain ⟨f, hf, hv⟩ := Option.map_eq_some_iff.1 h
  exact ⟨f, (look_mem hf).1, (look_mem hf).2, hv.symm⟩
set_option maxRecDepth 100000 in
set_option maxHeartbeats 4000000 in
theorem used_any (Q Mb : Nat) (fz : Int) (V : ByteArray → Value) (st : DS) (w : World) (h : PDX w Q Mb fz V st) (hd : st.dead = false) (hU : usedF st.fs ≤ 1099511627776) :
    Calls Try.prog 13 #[.pointer (some ⟨Q, 0, none⟩)] w fun e w' => e = .returned (.int .i64 (usedF st.fs : Int)) ∧ Below w.heap.size w w' := by
  obtain ⟨q0, q1, q2, q3, q4, q5⟩ := h.q
  rw [hd] at q5
  have HC := Lib.hid (dead_any Q Mb false w q0 q5)
  have hM := h.map
  have hS := h.sorted
  have HR := Lib.hid h.rows
  have HML := Lib.hid h.ltM
  clear h hd q1 q2 q3 q4 q5
  obtain ⟨N, hN⟩ : ∃ N, usedF st.fs = N := ⟨_, rfl⟩
  rw [hN] at hU ⊢
  have HNN := Lib.hid hN
  clear hN
  go_enter Try.func13, Try.ntmps13
  go_wp2_with fail
  refine HC.out.mono ?_
  rintro e W ⟨rfl, rfl⟩
  go_wp2_with (first | (at_range; refine wpList_range_text _ rfl _ 55 rfl 9 _ Try.underlying9 Try.underlying55 Mb _ _ rfl hM ?_; intro w0 hG0 hg0 hs0) | fail)
  go_frame
  have HB0 : Hid (Below w.heap.size w w0) := Lib.hid (below_of_only (Below.refl _ w) (Nat.le_refl _) (World.grownBy.but hg0 (some w.heap.size)))
  go_loopw [3] (fun t wr => ∃ (k cnt : Nat) (left : ByteArray → Bool), t = .int .i64 k ∧ Going Try.prog 9 wr Mb w.heap.size st.fs.length (mapM V st.fs) left cnt ∧ Hid (usedF (gone left st.fs) = k) ∧ Below w.heap.size w wr) (fun _ wr => wr.rangeLeft Mb w.heap.size)
  case atStart =>
    refine ⟨0, _, _, rfl, hG0, Lib.hid ?_, HB0.out⟩
    rw [gone_none (fun f hf => mapM_left f hf)]
    rfl
  case round =>
    obtain ⟨k, cnt, left, rfl, hG, HK, hbel⟩ := hrel
    have hkN : k ≤ N := by have := gone_used left st.fs; rw [HK.out, HNN.out] at this; exact this
    clear hs0 hg0 hG0
    go_wp2_with (first | (at_next; refine wpList_next_text _ rfl _ rfl 9 Try.underlying9 Mb w.heap.size _ _ left cnt rfl hG ?_ ?_) | fail)
    · intro hc0 hl0
      have hkk : k = N := by rw [← HK.out, gone_all hl0, HNN.out]
      subst hkk
      clear hc0 hl0
      go_wp2_with fail
      go_ret
      exact ⟨rfl, hbel⟩
    · intro s v w1 cnt1 hsz hlk hMv hG1 hlt hg1 hs1 hen
      obtain ⟨f, hf, hfn, rfl⟩ := mapM_some hMv
      obtain ⟨a, c, hv⟩ := own_slice (HR.out f hf)
      obtain ⟨n, hn⟩ : ∃ n, f.bytes.size = n := ⟨_, rfl⟩
      obtain ⟨u, hu⟩ : ∃ u : Int, (f.sure : Int) = u := ⟨_, rfl⟩
      unfold fileV at hen
      rw [hv, hn, hu] at hen
      have hkn : usedF (gone (fun x => left x && !decide (x = s)) st.fs) = k + n := by
        subst hfn
        rw [used_perm (gone_more hS hf hlk)]
        simp only [usedF]
        rw [HK.out, hn]
        omega
      have hknN : k + n ≤ N := by have := gone_used (fun x => left x && !decide (x = s)) st.fs; rw [hkn, HNN.out] at this; exact this
      have hR1 := hG.lt
      have hb1 : Below w.heap.size w w1 := below_of_only hbel (Nat.le_refl _) hg1
      have HG1 := Lib.hid hG1; have HB1 := Lib.hid hb1; have HLT := Lib.hid hlt; have HKN := Lib.hid hkn; have HS1 := Lib.hid hs1
      have HML1 := Lib.hid (hG1.map.lt)
      have HRL := Lib.hid hG1.lt
      have HLO := Lib.hid hG.left_eq
      clear hs1 hg1 hG1 hMv hv hn hu hfn hlk hkn hb1 hsz hlt
      go_wp2_with fail
      go_roundw
      case rel =>
        refine ⟨k + n, cnt1, _, by go_num, HG1.out.of_blocks (heap_alloc_old _ _ HML1.out) (heap_alloc_old _ _ HRL.out.1), HKN, HB1.out.alloc HB1.out.size _⟩
      case measure =>
        have e1 := (HG1.out.of_blocks (w' := w1.alloc (.cells #[.slice a n c, .int .i64 u] 63)) (heap_alloc_old _ _ HML1.out) (heap_alloc_old _ _ HRL.out.1)).left_eq
        rw [e1, HLO.out]
        exact HLT.out
end Go.Proofs.Ytflkglnmenbmaaa.Disk.Im
