/- The program's Load. -/
import Derived.Test.YtfbdkafpfminlaaHeapImO
namespace Go.Proofs.Ytfbdkafpfminlaa.Heap.Im
open Go.RowKit Go.Lib

theorem good_load {acc : List Tm} {m next : Int} {t : Tm} (h : Good ⟨acc, m, next⟩) (ho : okT next acc t) (hl : (acc.length : Int) < m) : Good ⟨put acc t, m, next⟩ := by
  obtain ⟨o1, o2, o3, o4⟩ := ho
  have hn : ∀ x ∈ acc, x.id ≠ t.id := (find_iff (.refl acc) t.id).2 o4
  refine ⟨sorted_put h.sorted t hn, uniq_put h.uniq t hn, fun x hx => ?_, fun x hx => ?_, h.most, ?_, h.next⟩
  · rcases mem_put.1 hx with rfl | hx
    · exact ⟨o2, o3⟩
    · exact h.ids x hx
  · rcases mem_put.1 hx with rfl | hx
    · exact o1
    · exact h.dues x hx
  · show ((put acc t).length : Int) ≤ m
    rw [length_put]
    omega
set_option maxRecDepth 100000 in
set_option maxHeartbeats 4000000 in
theorem load_bad (m next : Int) (a : Option Addr) (n c : Nat) (w : World) (h : badL m n next) :
    Calls Try.prog 12 #[.int .i64 m, .slice a n c, .int .i64 next] w fun e w' => e = .returned (.tuple #[.pointer none, .int .i64 1]) ∧ Below w.heap.size w w' := by
  unfold badL mt at h
  by_cases h1 : m < 1 ∨ 1024 < m
  · have HN := Lib.hid (new_bad m w h1)
    clear h h1
    go_enter Try.func12, Try.ntmps12
    go_wp2_with fail
    refine HN.out.mono ?_
    rintro e w' ⟨rfl, rfl⟩
    go_wp2_with fail
    go_ret2
    exact ⟨rfl, Below.refl _ w⟩
  have HN : Hid (Calls Try.prog 8 #[.int .i64 m] w fun e w' => ∃ Q, e = .returned (.tuple #[ptr Q, .int .i64 0]) ∧ Hid (Below w.heap.size w w')) := Lib.hid ((new_im m w (by omega)).mono fun _ _ ⟨Q, e, h⟩ => ⟨Q, e, Lib.hid h.below⟩)
  by_cases h3 : m < (n : Int)
  · clear h h1
    go_enter Try.func12, Try.ntmps12
    go_wp2_with fail
    refine HN.out.mono ?_
    rintro e w' ⟨Q, rfl, HB⟩
    go_wp2_with fail
    go_ret2
    exact ⟨rfl, HB.out⟩
  by_cases h4 : next < 1
  · clear h h1
    go_enter Try.func12, Try.ntmps12
    go_wp2_with fail
    refine HN.out.mono ?_
    rintro e w' ⟨Q, rfl, HB⟩
    go_wp2_with fail
    go_ret2
    exact ⟨rfl, HB.out⟩
  have h5 : 1099511627776 < next := by omega
  clear h h1
  go_enter Try.func12, Try.ntmps12
  go_wp2_with fail
  refine HN.out.mono ?_
  rintro e w' ⟨Q, rfl, HB⟩
  go_wp2_with fail
  go_ret2
  exact ⟨rfl, HB.out⟩
set_option maxRecDepth 100000 in
set_option maxHeartbeats 4000000 in
theorem load_im (m next : Int) (a : Option Addr) (n c : Nat) (l : List Tm) (w : World) (hb : ¬ badL m n next) (hl : l.length = n) (ht : Tms w a l) (hid : ∀ t ∈ l, Ints.I64 t.id) :
    Calls Try.prog 12 #[.int .i64 m, .slice a n c, .int .i64 next] w fun e w' => (∃ acc Q, loadL next [] l = some acc ∧ e = .returned (.tuple #[ptr Q, .int .i64 0]) ∧ FQ w w' Q ⟨acc, m, next⟩ ∧ Good ⟨acc, m, next⟩) ∨ (loadL next [] l = none ∧ e = .returned (.tuple #[.pointer none, .int .i64 1]) ∧ Below w.heap.size w w') := by
  unfold badL mt at hb
  have h3 : ¬ m < (n : Int) := by omega
  have h4 : ¬ next < 1 := by omega
  have h5 : ¬ 1099511627776 < next := by omega
  have hn : n ≤ 1024 := by omega
  have hg0 : Good ⟨[], m, next⟩ := ⟨.nil, .nil, fun _ h => by simp at h, fun _ h => by simp at h, by show 1 ≤ m ∧ m ≤ 1024; omega, by show (0 : Int) ≤ m; omega, by show 1 ≤ next; omega, by show next ≤ mt; unfold mt; omega⟩
  have HN : Hid (Calls Try.prog 8 #[.int .i64 m] w fun e w' => ∃ Q, e = .returned (.tuple #[ptr Q, .int .i64 0]) ∧ w'.cell? ⟨Q, 1, none⟩ = some (.int .i64 1) ∧ w'.frozen? ⟨Q, 1, none⟩ = false ∧ Hid (FQ w (w'.setCell ⟨Q, 1, none⟩ (.int .i64 next)) Q ⟨[], m, next⟩)) := Lib.hid (by
    refine (new_im m w (by omega)).mono ?_
    rintro e w' ⟨Q, rfl, F, ⟨l', h1, h2, h3⟩, hb, hF⟩
    have c1 := h1.c.2.1
    have f1 : w'.frozen? ⟨Q, 1, none⟩ = false := by
      obtain ⟨lv, ps, b, h, _⟩ := h1
      exact free_block 1 h.head
    obtain ⟨h5, s5⟩ := h1.bump next
    obtain ⟨h6, h7⟩ := s5.fresh hb hF
    exact ⟨Q, rfl, c1, f1, Lib.hid ⟨F, ⟨l', h5, h2, h3⟩, h6, h7⟩⟩)
  have HT : Hid (∀ W i, Below w.heap.size w W → i < n → ∃ g off t, a = some ⟨g, off, none⟩ ∧ Hid (l[i]? = some t ∧ Ints.I64 t.id) ∧ W.cell? ⟨g, off + i * 3, none⟩ = some (.int .i64 t.due) ∧ W.cell? ⟨g, off + i * 3 + 1, none⟩ = some (.int .i64 t.id) ∧ W.cell? ⟨g, off + i * 3 + 2, none⟩ = some (.int .i64 t.what)) := Lib.hid (fun W i hW hi => by
    have hti := nthT_at (by omega : i < l.length)
    obtain ⟨g, off, e, _, k0, k1, k2⟩ := (ht.under hW) i _ hti
    exact ⟨g, off, _, e, Lib.hid ⟨hti, hid _ (List.mem_of_getElem? hti)⟩, k0, k1, k2⟩)
  have HMA : Hid (∀ W Q acc t, Ints.I64 t.id → FQ w W Q ⟨acc, m, next⟩ → Calls Try.prog 29 #[ptr Q, tV t] W fun e w' => e = .returned (.bool (decide (okT next acc t))) ∧ Hid (Below W.heap.size W w')) := Lib.hid (fun W Q acc t hi h => by
    obtain ⟨F, ⟨l', h1, h2, h3⟩, _⟩ := h
    exact (may_im t hi W h1 h3).mono fun _ _ ⟨e, h⟩ => ⟨e, Lib.hid h⟩)
  have HP : Hid (∀ W Q acc t, acc.length < n → Ints.I64 t.id → okT next acc t → Good ⟨acc, m, next⟩ → FQ w W Q ⟨acc, m, next⟩ → Calls Try.prog 30 #[ptr Q, tV t] W fun e w' => e = .returned (.tuple #[]) ∧ Hid (FQ w w' Q ⟨put acc t, m, next⟩ ∧ Good ⟨put acc t, m, next⟩)) := Lib.hid (fun W Q acc t ha hi hok hg h => by
    obtain ⟨F, ⟨l', h1, h2, h3⟩, hw, hF⟩ := h
    have hle := h3.length_eq
    simp only at hle
    refine (put_im t W h1 (by omega) hi ((find_iff h3 t.id).2 hok.2.2.2) h2).mono ?_
    rintro e w' ⟨rfl, F', l2, h4, s4, p4, k4⟩
    exact ⟨rfl, Lib.hid ⟨FQ.step hw hF ⟨l2, h4, k4, p4.trans ((List.Perm.cons _ h3).trans (perm_put acc t))⟩ s4, good_load hg hok (by omega)⟩⟩)
  have HL := Lib.hid hl
  have hn1 : (n : Int) ≤ 1048576 := by omega
  have H0 : Hid (loadL next [] l = loadL next [] (l.drop 0)) := Lib.hid rfl
  have HG0 := Lib.hid hg0
  have HNB : Hid (¬ m < 1 ∧ ¬ 1024 < m) := Lib.hid (by omega)
  clear hb hl ht hn hid hg0
  go_enter Try.func12, Try.ntmps12
  go_wp2_with fail
  refine HN.out.mono ?_
  rintro e w1 ⟨Q, rfl, c1, f1, HX⟩
  go_wp2_with fail
  go_loopw [38] (fun s wr => ∃ (i : Nat) (acc : List Tm), s = .int .i64 i ∧ i ≤ n ∧ Hid (acc.length = i) ∧ Hid (loadL next [] l = loadL next acc (l.drop i)) ∧ Hid (FQ w wr Q ⟨acc, m, next⟩ ∧ Good ⟨acc, m, next⟩)) (fun s _ => n - (RowKit.intOf s).toNat)
  case atStart => exact ⟨0, [], rfl, by omega, Lib.hid rfl, H0, Lib.hid ⟨HX.out, HG0.out⟩⟩
  case round =>
    clear H0 HX HG0 c1 f1 HN
    obtain ⟨i, acc, rfl, hi, HA, HR, HD⟩ := hrel
    have hi0 : (0 : Int) ≤ (i : Int) := by omega
    by_cases hlt : i < n
    · have hlt2 : (i : Int) < (n : Int) := by omega
      obtain ⟨g, off, t, rfl, hti, k0, k1, k2⟩ := HT.out wr i HD.out.1.below hlt
      have hdrop : Hid (l.drop i = t :: l.drop (i + 1)) := Lib.hid (by
        obtain ⟨hh, e⟩ := List.getElem?_eq_some_iff.1 hti.out.1
        rw [List.drop_eq_getElem_cons hh, e])
      obtain ⟨V, hV⟩ : ∃ V, wr.heap.size = V := ⟨_, rfl⟩
      obtain ⟨Y, hY⟩ : ∃ Y, wr.alloc (.cells #[.int .i64 t.due, .int .i64 t.id, .int .i64 t.what] 45) = Y := ⟨_, rfl⟩
      have hbY : Below wr.heap.size wr Y := by rw [← hY]; exact (Below.refl _ wr).alloc (Nat.le_refl _) _
      have hVY : Y.heap[V]? = some (.cells t.cells 45 (0, 0)) := by rw [← hY, ← hV]; exact heap_alloc_new wr _
      have HVC : Hid (∀ W, Below Y.heap.size Y W → W.cell? ⟨V, 0, none⟩ = some (.int .i64 t.due) ∧ W.cell? ⟨V, 1, none⟩ = some (.int .i64 t.id) ∧ W.cell? ⟨V, 2, none⟩ = some (.int .i64 t.what)) := Lib.hid (fun W hW => tm_at ((hW.block V (Array.getElem?_eq_some_iff.1 hVY).1).trans hVY))
      have HF := Lib.hid (HD.out.1.under hbY)
      have HM1 := Lib.hid (HMA.out Y Q acc t hti.out.2 HF.out)
      obtain ⟨v0, v1, v2⟩ := HVC.out Y (Below.refl _ _)
      clear hbY hVY
      by_cases hok : okT next acc t
      · rw [decide_eq_true hok] at HM1
        have HR2 : Hid (loadL next [] l = loadL next (put acc t) (l.drop (i + 1))) := Lib.hid (by rw [HR.out, hdrop.out, loadL_yes hok])
        have HPP : Hid (∀ W, Below Y.heap.size Y W → Calls Try.prog 30 #[ptr Q, tV t] W fun e w' => e = .returned (.tuple #[]) ∧ Hid (FQ w w' Q ⟨put acc t, m, next⟩ ∧ Good ⟨put acc t, m, next⟩)) := Lib.hid (fun W hW => HP.out W Q acc t (by rw [HA.out]; exact hlt) hti.out.2 hok HD.out.2 (HF.out.under hW))
        have HA2 : Hid ((put acc t).length = i + 1) := Lib.hid (by rw [length_put, HA.out])
        clear hok
        go_wp2_with fail
        clear hY hV
        refine HM1.out.mono ?_
        rintro e w2 ⟨rfl, B2⟩
        obtain ⟨z0, z1, z2⟩ := HVC.out w2 B2.out
        clear v0 v1 v2 k0 k1 k2
        go_wp2_with fail
        refine (HPP.out w2 B2.out).mono ?_
        rintro e w3 ⟨rfl, B3⟩
        go_wp2_with fail
        go_roundw
        case rel => exact ⟨i + 1, _, by go_num, by omega, HA2, HR2, B3⟩
        case measure => simp [RowKit.intOf]; omega
      · rw [decide_eq_false hok] at HM1
        have HE : Hid (loadL next [] l = none) := Lib.hid (by rw [HR.out, hdrop.out, loadL_no hok])
        clear hok
        go_wp2_with fail
        clear hY hV
        refine HM1.out.mono ?_
        rintro e w2 ⟨rfl, B2⟩
        go_wp2_with fail
        go_ret2
        exact .inr ⟨HE.out, rfl, below_then HF.out.below B2.out⟩
    · obtain rfl : i = n := by omega
      have HE : Hid (loadL next [] l = some acc) := Lib.hid (by rw [HR.out, List.drop_of_length_le (by rw [HL.out]; exact Nat.le_refl _)]; rfl)
      go_wp2_with fail
      go_ret2
      exact .inl ⟨acc, Q, HE.out, rfl, HD.out⟩
end Go.Proofs.Ytfbdkafpfminlaa.Heap.Im
