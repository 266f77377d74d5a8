/- slices.DeleteFunc by the closure that asks for one number: the row without it, where it lay. -/
import Derived.Test.YtokkefokodcphaaBayImD
import Derived.Lib.SliceRun
namespace Go.Proofs.Ytokkefokodcphaa.Bay
open Go.RowKit Go.Lib IRows

theorem is_im (x j : Int) (b : Nat) (w : World) (hb : w.cell? ⟨b, 0, none⟩ = some (.int .i64 j)) : Calls Try.prog 51 #[.int .i64 x, .pointer (some ⟨b, 0, none⟩)] w fun e w' => e = .returned (.bool (x == j)) ∧ w = w' := by
  go_enter Try.func51, Try.ntmps51
  go_wp2_with fail
  go_ret
  exact ⟨rfl, rfl⟩
set_option maxRecDepth 100000 in
theorem idxf_im (a : Option Addr) (n c : Nat) (l : List Int) (j : Int) (b : Nat) (w : World) (hl : l.length = n) (hs : IRow w a l) (hn : n ≤ 1000) (hb : w.cell? ⟨b, 0, none⟩ = some (.int .i64 j)) :
    Calls Try.prog 57 #[.slice a n c, .func (.func 51) #[] #[.pointer (some ⟨b, 0, none⟩)]] w fun e w' => e = .returned (.int .i64 (idx l j)) ∧ w = w' := by
  have HC := irow_all hs
  have HL := Lib.hid hl
  obtain ⟨p, hp⟩ : ∃ p, idx l j = p := ⟨_, rfl⟩
  have HP := Lib.hid hp
  have HI0 := Lib.hid (fun x => is_im x j b w hb)
  have hn1 : (n : Int) ≤ 1000 := by omega
  rw [hp]
  clear hs hn hl hp hb
  go_enter Try.func57, Try.ntmps57
  go_wp2_with fail
  go_loopw [8] (fun s wr => ∃ i : Nat, s = .int .i64 i ∧ i ≤ n ∧ w = wr ∧ Hid (j ∉ l.take i)) (fun s _ => n - (RowKit.intOf s).toNat)
  case atStart => exact ⟨0, rfl, by omega, rfl, Lib.hid (by simp)⟩
  case round =>
    obtain ⟨i, rfl, hi, rfl, HI⟩ := hrel
    have hi0 : (0 : Int) ≤ (i : Int) := by omega
    by_cases hlt : i < n
    · have hlt2 : (i : Int) < (n : Int) := by omega
      obtain ⟨g, off, v, rfl, hv, HQ⟩ := HC.out i (by rw [HL.out]; exact hlt)
      have q0 := HQ.out w (Below.refl _ _)
      have H1 := Lib.hid (HI0.out v)
      by_cases c1 : j = v
      · have HF : Hid (p = (i : Int)) := Lib.hid (HP.out.symm.trans (idx_at' (by rw [c1]; exact hv.out) HI.out))
        have c1b : (v == j) = true := by simpa using c1.symm
        rw [c1b] at H1
        clear c1 c1b
        go_wp2_with fail
        refine H1.out.mono ?_
        rintro e w' ⟨rfl, rfl⟩
        go_wp2_with fail
        go_ret
        exact ⟨by rw [HF.out]; rfl, rfl⟩
      · have HF : Hid (j ∉ l.take (i + 1)) := Lib.hid (not_take hv.out HI.out c1)
        have c1b : (v == j) = false := by simpa using fun e : v = j => c1 e.symm
        rw [c1b] at H1
        clear c1 c1b
        go_wp2_with fail
        refine H1.out.mono ?_
        rintro e w' ⟨rfl, rfl⟩
        go_wp2_with fail
        go_roundw
        case rel => exact ⟨i + 1, by go_num, by omega, by first | rfl | trivial, HF⟩
        case measure => simp [RowKit.intOf]; omega
    · obtain rfl : i = n := by omega
      have HF : Hid (p = -1) := Lib.hid (HP.out.symm.trans (idx_not (by
        have := HI.out
        rwa [List.take_of_length_le (by rw [HL.out]; exact Nat.le_refl _)] at this)))
      go_wp2_with fail
      go_ret
      exact ⟨by rw [HF.out]; rfl, rfl⟩
theorem idx_some {l : List Int} {j : Int} {k : Nat} (h : idx l j = k) : l[k]? = some j ∧ j ∉ l.take k := by
  induction l generalizing k with
  | nil => simp [idx] at h
  | cons x l ih =>
    unfold idx at h
    split at h
    · rename_i e
      obtain rfl : k = 0 := by omega
      exact ⟨by rw [e]; rfl, by simp⟩
    · rename_i hne
      split at h
      · omega
      · have hk : idx l j = ((k - 1 : Nat) : Int) := by omega
        obtain ⟨h1, h2⟩ := ih hk
        obtain ⟨k, rfl⟩ : ∃ t, k = t + 1 := ⟨k - 1, by omega⟩
        rw [Nat.add_sub_cancel] at h1 h2
        refine ⟨by simpa using h1, ?_⟩
        rw [List.take_succ_cons]
        intro hm
        rcases List.mem_cons.1 hm with h3 | h3
        · exact hne h3.symm
        · exact h2 h3
theorem out_append (l m : List Int) (j : Int) : out (l ++ m) j = out l j ++ out m j := by simp [out]
theorem out_take_more {l : List Int} {j y : Int} {k : Nat} (h : l[k]? = some y) : out (l.take (k + 1)) j = out (l.take k) j ++ (if y = j then [] else [y]) := by
  rw [List.take_add_one, h, out_append]
  congr 1
  by_cases e : y = j <;> simp [out, e]
/-- A row half gone through: what stays of the first k lies ahead, the rest where it lay. -/
structure Half (w wr : World) (g off n : Nat) (l : List Int) (j : Int) (i k : Nat) : Prop where
  i : i = (out (l.take k) j).length
  only : w.grownBy wr (some g)
  cells : ∃ cur, wr.heap[g]? = some (.cells cur 3 (0, 0)) ∧ off + n ≤ cur.size ∧ (∃ cur0, w.heap[g]? = some (.cells cur0 3 (0, 0)) ∧ cur.size = cur0.size) ∧
    (∀ (t : Nat) (x : Int), (out (l.take k) j)[t]? = some x → cur[off + t]? = some (.int .i64 x)) ∧ (∀ (t : Nat) (x : Int), k ≤ t → l[t]? = some x → cur[off + t]? = some (.int .i64 x))
theorem Half.skip {w wr : World} {g off n : Nat} {l : List Int} {j : Int} {i k : Nat} (h : Half w wr g off n l j i k) (hj : l[k]? = some j) : Half w wr g off n l j i (k + 1) := by
  have e : out (l.take (k + 1)) j = out (l.take k) j := by rw [out_take_more hj]; simp
  obtain ⟨cur, h1, h2, h3, h4, h5⟩ := h.cells
  exact ⟨by rw [e]; exact h.i, h.only, cur, h1, h2, h3, by rw [e]; exact h4, fun t x ht hx => h5 t x (by omega) hx⟩
theorem Half.keep {w wr : World} {g off n : Nat} {l : List Int} {j y : Int} {i k : Nat} (h : Half w wr g off n l j i k) (hy : l[k]? = some y) (hne : ¬ y = j) (hk : k < n) : Half w (wr.setCell ⟨g, off + i, none⟩ (.int .i64 y)) g off n l j (i + 1) (k + 1) := by
  have e : out (l.take (k + 1)) j = out (l.take k) j ++ [y] := by rw [out_take_more hy, if_neg hne]
  obtain ⟨cur, h1, h2, ⟨cur0, h3, h3'⟩, h4, h5⟩ := h.cells
  have hik : i ≤ k := by
    rw [h.i]
    have := out_len (l.take k) j
    simp at this
    omega
  refine ⟨by rw [e, List.length_append, ← h.i]; rfl, only_setCell h.only _ _, cur.setIfInBounds (off + i) (.int .i64 y), heap_setCell_same wr g (off + i) cur _ _ h1, by simpa using h2, ⟨cur0, h3, by simpa using h3'⟩, fun t x hx => ?_, fun t x ht hx => ?_⟩
  · rw [e] at hx
    rw [Array.getElem?_setIfInBounds]
    have hlt := (List.getElem?_eq_some_iff.1 hx).1
    simp [← h.i] at hlt
    by_cases e2 : t = i
    · subst e2
      rw [List.getElem?_append_right (by rw [← h.i]; exact Nat.le_refl _), ← h.i] at hx
      have : y = x := by simpa using hx
      subst this
      rw [if_pos rfl, if_pos (by omega)]
    · rw [if_neg (by omega)]
      rw [List.getElem?_append_left (by rw [← h.i]; omega)] at hx
      exact h4 t x hx
  · rw [Array.getElem?_setIfInBounds, if_neg (by omega)]
    exact h5 t x (by omega) hx
theorem zero_int (w : World) : (zeroValue 3).run Try.prog w = .ok (.int .i64 0) w := by
  obtain ⟨i, hi, hz, _, _⟩ := info1
  simp [zeroValue, typeInfo, hi, hz]
set_option maxRecDepth 100000 in
set_option maxHeartbeats 2000000 in
theorem delete_im {m : Rm} {l : List Int} (j : Int) (b : Nat) (w : World) (h : RowAt w m l) (hl : l.length ≤ 1000) (T : TypeId) (hb : w.heap[b]? = some (.cells #[.int .i64 j] T (0, 0))) (hne : ownB m ≠ some b) :
    Calls Try.prog 52 #[.slice m.a l.length m.c, .func (.func 51) #[] #[.pointer (some ⟨b, 0, none⟩)]] w fun e w' => e = .returned (.slice m.a (out l j).length m.c) ∧ Hid (RowAt w' m (out l j) ∧ w.grownBy w' (ownB m)) := by
  have HI := Lib.hid (idxf_im m.a l.length m.c l j b w rfl h.irow hl (cell_block hb rfl))
  by_cases hj : j ∈ l
  case neg =>
    have e1 : idx l j = -1 := idx_not hj
    have e2 := out_not hj
    rw [e1] at HI
    rw [e2]
    have HR : Hid (RowAt w m l ∧ w.grownBy w (ownB m)) := Lib.hid ⟨h, only_refl _ _⟩
    clear h hl hb hne hj e1 e2
    go_enter Try.func52, Try.ntmps52
    go_wp2_with fail
    refine HI.out.mono ?_
    rintro e w' ⟨rfl, rfl⟩
    go_wp2_with fail
    go_ret
    exact ⟨rfl, HR⟩
  have hp := idx_mem.2 hj
  obtain ⟨k0, hk0⟩ : ∃ k : Nat, idx l j = k := ⟨(idx l j).toNat, by omega⟩
  obtain ⟨hk1, hk2⟩ := idx_some hk0
  have hk3 := (List.getElem?_eq_some_iff.1 hk1).1
  rw [hk0] at HI
  obtain ⟨g, off, cur, ha, hc, hbk, hsz, hat⟩ := h.some (by omega)
  have hown := own_some hc ha
  have hle := h.le
  have hgb : g ≠ b := fun e => hne (by rw [hown, e])
  obtain ⟨n, hn⟩ : ∃ n, l.length = n := ⟨_, rfl⟩
  have HN := Lib.hid hn
  have H0 : Hid (Half w w g off n l j k0 (k0 + 1)) := Lib.hid (by
    have e : out (l.take k0) j = l.take k0 := out_not hk2
    have h0 : Half w w g off n l j k0 k0 := ⟨by rw [e, List.length_take]; omega, only_refl _ _, cur, hbk, by omega, ⟨cur, hbk, rfl⟩, fun t x hx => (by
      rw [e, List.getElem?_take] at hx
      split at hx
      · exact hat t x hx
      · cases hx), fun t x _ hx => hat t x hx⟩
    exact h0.skip hk1)
  have HB : Hid (∀ wr, w.grownBy wr (some g) → wr.cell? ⟨b, 0, none⟩ = some (.int .i64 j)) := Lib.hid (fun wr hg => by
    have := (hg.block b (Array.getElem?_eq_some_iff.1 hb).1 (fun e => hgb (Option.some.inj e).symm)).trans hb
    exact cell_block this rfl)
  have HE : Hid (∀ wr i, Half w wr g off n l j i n → ∀ W, W = wr.setCells g (off + i) (List.replicate (n - i) (.int .i64 0)) → i = (out l j).length ∧ RowAt W m (out l j) ∧ w.grownBy W (ownB m)) := Lib.hid (fun wr i hh W hW => by
    have et : l.take n = l := List.take_of_length_le (by omega)
    obtain ⟨cur2, h1, h2, ⟨cur0, h3, h3'⟩, h4, _⟩ := hh.cells
    have hi := hh.i
    rw [et] at hi h4
    have hin : i ≤ n := by rw [hi, ← hn]; exact out_len l j
    obtain ⟨⟨cur3, g1, g2, _, g4⟩, g5⟩ := cells_set g 3 (List.replicate (n - i) (.int .i64 0)) (off + i) wr cur2 h1 (by simp; omega)
    rw [← hW] at g1 g5
    have e0 : cur = cur0 := by
      rw [hbk] at h3
      simp at h3
      exact h3
    subst e0
    refine ⟨hi, .inr ⟨g, off, cur3, ha, hc, by omega, h.cap, g1, by omega, fun t x hx => ?_⟩, by rw [hown]; exact only_trans hh.only g5⟩
    have := (List.getElem?_eq_some_iff.1 hx).1
    rw [g4 _ (by omega)]
    exact h4 t x hx)
  have HK : Hid (∀ t, t < n → ∃ x, Hid (l[t]? = some x)) := Lib.hid (fun t ht => ⟨l[t]'(by omega), Lib.hid (List.getElem?_eq_getElem _)⟩)
  have hn1 : (n : Int) ≤ 1000 := by omega
  have hk4 : k0 < n := by omega
  obtain ⟨mc, hmc⟩ : ∃ mc, m.c = mc := ⟨_, rfl⟩
  have hmc63 : (mc : Int) ≤ 9223372036854775807 := by
    have := h.cap
    unfold maxLen at this
    omega
  have hmn : n ≤ mc := by omega
  rw [ha, hn, hmc] at HI ⊢
  clear h hl hb hne hj hp hk0 hk1 hk2 hk3 hbk hsz hat hown hle ha hn hmc hc cur
  go_enter Try.func52, Try.ntmps52
  have hne1 : ((k0 : Int) == -1) = false := beq_eq_false_iff_ne.2 (by omega)
  go_wp2_with fail
  refine HI.out.mono ?_
  rintro e w' ⟨rfl, rfl⟩
  go_wp2_with fail
  go_loopg [5, 6, 7] n (fun gg s5 s6 _ wr => ∃ (i k : Nat), s5 = .int .i64 i ∧ s6 = .int .i64 k ∧ i < k ∧ k ≤ n ∧ n - k ≤ gg ∧ Hid (Half w wr g off n l j i k))
  case atStart => exact ⟨k0, k0 + 1, rfl, by go_num, by omega, by omega, by omega, H0⟩
  case round =>
    obtain ⟨i, k, rfl, rfl, hik, hkn, hgg, HH⟩ := hrel
    by_cases hlt : k < n
    · have hltz : (k : Int) < (n : Int) := by omega
      obtain ⟨y, hy⟩ := HK.out k hlt
      have HC : Hid (wr.cell? ⟨g, off + k, none⟩ = some (.int .i64 y) ∧ (∃ u, wr.cell? ⟨g, off + i, none⟩ = some u) ∧ wr.frozen? ⟨g, off + i, none⟩ = false) := Lib.hid (by
        obtain ⟨cur, h1, h2, _, _, h5⟩ := HH.out.cells
        have hi2 : off + i < cur.size := by omega
        exact ⟨cell_block h1 (h5 k y (Nat.le_refl _) hy.out), ⟨cur[off + i], cell_block h1 (Array.getElem?_eq_getElem hi2)⟩, free_block _ h1⟩)
      obtain ⟨ck, ⟨u, ci⟩, fi⟩ := HC.out
      have H1 := Lib.hid (is_im y j b wr (HB.out wr HH.out.only))
      by_cases hq : y = j
      · have HF := Lib.hid (HH.out.skip (by rw [← hq]; exact hy.out))
        have d1 : (y == j) = true := by simpa using hq
        rw [d1] at H1
        clear hq d1
        go_wp2_with fail
        refine H1.out.mono ?_
        rintro e w' ⟨rfl, rfl⟩
        go_wp2_with fail
        go_roundg (n - (k + 1))
        case measure => omega
        case rel => exact ⟨i, k + 1, rfl, by go_num, by omega, by omega, Nat.le_refl _, HF⟩
      · have HF := Lib.hid (HH.out.keep hy.out hq hlt)
        have d1 : (y == j) = false := by simpa using hq
        rw [d1] at H1
        clear hq d1
        go_wp2_with fail
        refine H1.out.mono ?_
        rintro e w' ⟨rfl, rfl⟩
        go_wp2_with fail
        go_roundg (n - (k + 1))
        case measure => omega
        case rel => exact ⟨i + 1, k + 1, by go_num, by go_num, by omega, by omega, Nat.le_refl _, HF⟩
    · obtain rfl : k = n := by omega
      have hltz : ¬ (k : Int) < (k : Int) := by omega
      obtain ⟨hi, hR⟩ := HE.out wr i HH.out _ rfl
      have HF := Lib.hid hR
      have HI2 := Lib.hid hi
      have hci : ¬ (mc = i) := by omega
      have hcl : ∀ ty, (Builtin.clear_ #[52] ty #[.slice (some ⟨g, off + i, none⟩) (k - i) (mc - i)]).run Try.prog wr = .ok (.tuple #[]) (wr.setCells g (off + i) (List.replicate (k - i) (.int .i64 0))) := fun ty => by
        obtain ⟨cur, h1, h2, _, _, _⟩ := HH.out.cells
        exact Lib.run_clear_slice wr _ _ ty _ Try.underlying52 zero_int rfl rfl g (off + i) _ _ (by omega) (fun t ht => by
          rw [cell_of_row wr g _ cur 3 (0, 0) h1]
          simp
          omega) (fun t _ => free_block _ h1)
      clear hR hi
      go_wp2_with fail
      go_ret
      exact ⟨by rw [HI2.out]; rfl, HF⟩
end Go.Proofs.Ytokkefokodcphaa.Bay
