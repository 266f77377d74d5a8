/- slices.Insert of one number, wherever it belongs; slices.BinarySearch of one that is not there. -/
import Derived.Test.YtokkefokodcphaaBayImC
namespace Go.Proofs.Ytokkefokodcphaa.Bay
open Go.RowKit Go.Lib IRows

set_option maxRecDepth 100000 in
theorem insert_end (a : Option Addr) (n c gx : Nat) (w : World) {v' : Value} {W' : World} (hn : n ≤ 1000)
    (hr : ∀ ty, (Builtin.append_ #[52, 52] ty #[.slice a n c, .slice (some ⟨gx, 0, none⟩) 1 1]).run Try.prog w = .ok v' W') (ha : (∃ g off, a = some ⟨g, off, none⟩) ∨ n = 0) :
    Calls Try.prog 50 #[.slice a n c, .int .i64 n, .slice (some ⟨gx, 0, none⟩) 1 1] w fun e w' => e = .returned v' ∧ w' = W' := by
  have hz1 : ¬ ((1 : Int) = 0) := by omega
  have hn1 : (n : Int) ≤ 1000 := by omega
  cases a with
  | none =>
    have h0 : n = 0 := by
      rcases ha with ⟨g, off, e⟩ | e
      · cases e
      · exact e
    subst h0
    clear ha hn hn1
    go_enter Try.func50, Try.ntmps50
    go_wp2_with (at_builtin; refine walk_run (v' := v') (w' := W') rfl _ _ _ _ rfl _ _ rfl rfl (hr _) ?_)
    go_ret
    exact ⟨rfl, rfl⟩
  | some a =>
    obtain ⟨ab, ao, asp⟩ := a
    clear ha hn
    go_enter Try.func50, Try.ntmps50
    go_wp2_with (at_builtin; refine walk_run (v' := v') (w' := W') rfl _ _ _ _ rfl _ _ rfl rfl (hr _) ?_)
    all_goals (go_ret; exact ⟨rfl, rfl⟩)
theorem insert_im {m : Rm} {l : List Int} (x : Int) (k gx : Nat) (w : World) (h : RowAt w m l) (hk : k ≤ l.length) (hl : l.length ≤ 1000)
    (tx : TypeId) (hx : w.heap[gx]? = some (.cells #[.int .i64 x] tx (0, 0))) (hne : ownB m ≠ some gx) :
    Calls Try.prog 50 #[.slice m.a l.length m.c, .int .i64 k, .slice (some ⟨gx, 0, none⟩) 1 1] w fun e w' => ∃ m', e = .returned (.slice m'.a (l.length + 1) m'.c) ∧ Hid (RowAt w' m' (l.take k ++ x :: l.drop k) ∧ Went w w' m m') := by
  have hgx := (Array.getElem?_eq_some_iff.1 hx).1
  by_cases hlt : k < l.length
  · obtain ⟨g, off, cur, ha, hc, hb, hsz, hat⟩ := h.some (by omega)
    have hown := own_some hc ha
    have hgne : gx ≠ g := fun e => hne (by rw [hown, e])
    have hle := h.le
    have hcap := h.cap
    have hcs : ∀ j v, (l.map (Value.int .i64))[j]? = some v → cur[off + j]? = some v := fun j v hj => by
      rw [List.getElem?_map] at hj
      cases hlj : l[j]? with
      | none => rw [hlj] at hj; cases hj
      | some y =>
        rw [hlj] at hj
        have : Value.int .i64 y = v := by simpa using hj
        rw [← this]
        exact hat j y hlj
    have h1c : ∀ v ∈ l.map (Value.int .i64), v.oneCell' = true := fun v hv => by
      obtain ⟨y, _, rfl⟩ := List.mem_map.1 hv
      rfl
    have hdrop : ∀ (j : Nat) (y : Int), (l.take k ++ x :: l.drop k)[j]? = some y → (j < k ∧ l[j]? = some y) ∨ (j = k ∧ x = y) ∨ (k < j ∧ ((l.map (Value.int .i64)).drop k)[j - (k + 1)]? = some (Value.int .i64 y)) := fun j y hj => by
      rcases Nat.lt_trichotomy j k with h1 | h1 | h1
      · rw [List.getElem?_append_left (by simp; omega), List.getElem?_take, if_pos h1] at hj
        exact .inl ⟨h1, hj⟩
      · rw [List.getElem?_append_right (by simp; omega)] at hj
        have e : j - (l.take k).length = 0 := by simp; omega
        rw [e] at hj
        exact .inr (.inl ⟨h1, by simpa using hj⟩)
      · rw [List.getElem?_append_right (by simp; omega)] at hj
        have e : j - (l.take k).length = (j - (k + 1)) + 1 := by simp; omega
        rw [e, List.getElem?_cons_succ] at hj
        refine .inr (.inr ⟨h1, ?_⟩)
        rw [← List.map_drop, List.getElem?_map, hj]
        rfl
    have hlen : (l.take k ++ x :: l.drop k).length = l.length + 1 := by simp; omega
    have hdl : ((l.map (Value.int .i64)).drop k).length = l.length - k := by simp
    rw [ha]
    by_cases hroom : l.length + 1 ≤ m.c
    · refine (insert_shift g off l.length m.c k gx (l.map (Value.int .i64)) x w cur 3 hlt hroom hcap (by simp) hb hsz hcs h1c tx hx hgne).mono ?_
      rintro e w' ⟨rfl, rfl⟩
      obtain ⟨⟨cur2, hb2, hs2, hin2, hout2⟩, hg2⟩ := cells_set g 3 ((l.map (Value.int .i64)).drop k) (off + (k + 1)) w.drew cur hb (by rw [hdl]; omega)
      obtain ⟨⟨cur3, hb3, hs3, hin3, hout3⟩, hg3⟩ := cells_set g 3 [.int .i64 x] (off + k) _ cur2 hb2 (by simp; omega)
      refine ⟨m, by rw [ha], Lib.hid ⟨.inr ⟨g, off, cur3, ha, hc, by rw [hlen]; exact hroom, hcap, hb3, by rw [hs3, hs2]; exact hsz, fun j y hj => ?_⟩, ⟨?_, fun q hq => .inl hq⟩⟩⟩
      · rcases hdrop j y hj with ⟨h1, h2⟩ | ⟨rfl, rfl⟩ | ⟨h1, h2⟩
        · rw [hout3 _ (by omega), hout2 _ (by omega)]
          exact hat j y h2
        · exact hin3 0 _ rfl
        · rw [hout3 _ (by simp; omega)]
          have := hin2 _ _ h2
          rwa [show off + (k + 1) + (j - (k + 1)) = off + j by omega] at this
      · rw [hown]
        exact only_trans (only_trans (⟨rfl, rfl, rfl, Nat.le_refl _, fun _ _ _ => rfl⟩ : w.grownBy w.drew (some g)) hg2) hg3
    · refine (insert_grow g off l.length m.c k gx (l.map (Value.int .i64)) x w cur 3 hlt hle (by omega) hl (by simp) hb hcs h1c tx hx).mono ?_
      rintro e w' ⟨G, ROW, HP, rfl, rfl, HT⟩
      obtain ⟨hG, hGm, hRs⟩ := HP.out
      have hN : ((w.alloc (.cells ROW 3)).drew).heap[w.heap.size]? = some (.cells ROW 3 (0, 0)) := heap_alloc_new w _
      obtain ⟨⟨cur2, hb2, hs2, hin2, hout2⟩, hg2⟩ := cells_set w.heap.size 3 [.int .i64 x] k _ ROW hN (by simp; omega)
      obtain ⟨⟨cur3, hb3, hs3, hin3, hout3⟩, hg3⟩ := cells_set w.heap.size 3 ((l.map (Value.int .i64)).drop k) (k + 1) ((w.alloc (.cells ROW 3)).drew.setCells w.heap.size k [.int .i64 x]).drew cur2 hb2 (by rw [hdl]; omega)
      refine ⟨⟨some ⟨w.heap.size, 0, none⟩, G⟩, rfl, Lib.hid ⟨.inr ⟨w.heap.size, 0, cur3, rfl, by show 0 < G; omega, by rw [hlen]; exact hG, hGm, hb3, by rw [hs3, hs2]; show 0 + G ≤ _; omega, fun j y hj => ?_⟩, ⟨?_, fun q hq => ?_⟩⟩⟩
      · rw [Nat.zero_add]
        rcases hdrop j y hj with ⟨h1, h2⟩ | ⟨rfl, rfl⟩ | ⟨h1, h2⟩
        · rw [hout3 _ (by omega), hout2 _ (by omega), HT.out j h1, List.getElem?_map, h2]
          rfl
        · rw [hout3 _ (by omega)]
          exact hin2 0 _ rfl
        · have := hin3 _ _ h2
          rwa [show k + 1 + (j - (k + 1)) = j by omega] at this
      · have hA : w.grownBy ((w.alloc (.cells ROW 3)).drew) (ownB m) := ⟨rfl, rfl, rfl, by simp, fun q hq _ => heap_alloc_old w _ hq⟩
        have hB : w.grownBy (((w.alloc (.cells ROW 3)).drew.setCells w.heap.size k [.int .i64 x]).drew) (ownB m) :=
          ⟨hg2.os.trans hA.os, hg2.tape.trans hA.tape, hg2.output.trans hA.output, Nat.le_trans hA.size hg2.size, fun q hq hn => (hg2.block q (Nat.lt_of_lt_of_le hq hA.size) (fun e => by have := Option.some.inj e; omega)).trans (hA.block q hq hn)⟩
        exact ⟨hg3.os.trans hB.os, hg3.tape.trans hB.tape, hg3.output.trans hB.output, Nat.le_trans hB.size hg3.size, fun q hq hn => (hg3.block q (Nat.lt_of_lt_of_le hq hB.size) (fun e => by have := Option.some.inj e; omega)).trans (hB.block q hq hn)⟩
      · rw [own_some (m := ⟨some ⟨w.heap.size, 0, none⟩, G⟩) (by show 0 < G; omega) rfl] at hq
        have := Option.some.inj hq
        exact .inr (by omega)
  · obtain rfl : k = l.length := by omega
    obtain ⟨m', w', hr, h1, h2⟩ := app_row w x h hl gx 52 (cell_block hx rfl) hgx hne
    have hrt : ∀ ty, (Builtin.append_ #[52, 52] ty #[.slice m.a l.length m.c, .slice (some ⟨gx, 0, none⟩) 1 1]).run Try.prog w = .ok (.slice m'.a (l.length + 1) m'.c) w' := fun ty => hr
    refine (insert_end m.a l.length m.c gx w hl hrt ?_).mono ?_
    · rcases h with ⟨_, h0⟩ | ⟨g, off, _, ha, _⟩
      · exact .inr (by rw [h0]; rfl)
      · exact .inl ⟨g, off, ha⟩
    · rintro e w2 ⟨rfl, rfl⟩
      refine ⟨m', rfl, Lib.hid ⟨?_, h2⟩⟩
      rw [List.take_of_length_le (Nat.le_refl _), List.drop_of_length_le (Nat.le_refl _)]
      exact h1
/-- Where a number belongs. -/
def Place (l : List Int) (x : Int) (k : Nat) : Prop := k ≤ l.length ∧ (∀ (i : Nat) (y : Int), i < k → l[i]? = some y → y < x) ∧ ∀ (i : Nat) (y : Int), k ≤ i → l[i]? = some y → x < y
set_option maxRecDepth 100000 in
set_option maxHeartbeats 1000000 in
theorem search_im (a : Option Addr) (n c : Nat) (l : List Int) (x : Int) (w : World) (hl : l.length = n) (hs : IRow w a l) (hn : n ≤ 1000) (hr : Rise l) (hx : x ∉ l) :
    Calls Try.prog 49 #[.slice a n c, .int .i64 x] w fun e w' => ∃ k : Nat, e = .returned (.tuple #[.int .i64 k, .bool false]) ∧ Hid (Place l x k) ∧ Below w.heap.size w w' := by
  have HC := irow_at hs
  have HL := Lib.hid hl
  have HR := Lib.hid hr
  have HX : Hid (∀ (i : Nat) (y : Int), l[i]? = some y → y ≠ x) := Lib.hid (fun i y hy e => hx (by rw [← e]; exact List.mem_of_getElem? hy))
  have hn1 : (n : Int) ≤ 1000 := by omega
  clear hs hn hl hr hx
  go_enter Try.func49, Try.ntmps49
  go_wp2_with fail
  go_loopg [7, 8] n (fun gg s7 s8 wr => ∃ lo hi : Nat, s7 = .int .i64 lo ∧ s8 = .int .i64 hi ∧ lo ≤ hi ∧ hi ≤ n ∧ hi - lo ≤ gg ∧ Hid (Below w.heap.size w wr) ∧ Hid ((∀ (i : Nat) (y : Int), i < lo → l[i]? = some y → y < x) ∧ ∀ (i : Nat) (y : Int), hi ≤ i → l[i]? = some y → x < y))
  case atStart =>
    refine ⟨0, n, rfl, rfl, Nat.zero_le _, Nat.le_refl _, by omega, Lib.hid (Below.refl _ _), Lib.hid ⟨fun i y h => by omega, fun i y h hy => ?_⟩⟩
    have := (List.getElem?_eq_some_iff.1 hy).1
    have := HL.out
    omega
  case round =>
    obtain ⟨lo, hi, rfl, rfl, hlh, hin, hg, HB, HI⟩ := hrel
    by_cases hlt : lo < hi
    · obtain ⟨g, off, y, rfl, hy, cm⟩ := HC.out wr ((lo + hi) / 2) HB.out (by rw [HL.out]; omega)
      have H1 := Lib.hid (fun m => less_im y x (wr.drewN m))
      have H0 := Lib.hid (less_im y x wr)
      by_cases hyx : y < x
      · have HF : Hid ((∀ (i : Nat) (z : Int), i < (lo + hi) / 2 + 1 → l[i]? = some z → z < x) ∧ ∀ (i : Nat) (y : Int), hi ≤ i → l[i]? = some y → x < y) := Lib.hid ⟨fun i z hi2 hz => by
          rcases Nat.lt_or_ge i ((lo + hi) / 2) with h1 | h1
          · have := rise_lt HR.out h1 hz hy.out
            omega
          · obtain rfl : i = (lo + hi) / 2 := by omega
            have := Option.some.inj (hz.symm.trans hy.out)
            omega, HI.out.2⟩
        have d1 : decide (y < x) = true := decide_eq_true hyx
        rw [d1] at H0
        clear hyx d1
        go_wp2_with fail
        refine H0.out.mono ?_
        rintro e w' ⟨rfl, rfl⟩
        go_wp2_with fail
        go_roundg (hi - ((lo + hi) / 2 + 1))
        case measure => omega
        case rel => exact ⟨(lo + hi) / 2 + 1, hi, by rw [show ((lo : Int) + (hi : Int)) / 2 + 1 = (((lo + hi) / 2 + 1 : Nat) : Int) by omega], rfl, by omega, hin, Nat.le_refl _, HB, HF⟩
      · have HF : Hid ((∀ (i : Nat) (y : Int), i < lo → l[i]? = some y → y < x) ∧ ∀ (i : Nat) (z : Int), (lo + hi) / 2 ≤ i → l[i]? = some z → x < z) := Lib.hid ⟨HI.out.1, fun i z hi2 hz => by
          have hyn := HX.out _ _ hy.out
          rcases Nat.lt_or_ge ((lo + hi) / 2) i with h1 | h1
          · have := rise_lt HR.out h1 hy.out hz
            omega
          · obtain rfl : i = (lo + hi) / 2 := by omega
            have := Option.some.inj (hz.symm.trans hy.out)
            omega⟩
        have d1 : decide (y < x) = false := decide_eq_false hyx
        rw [d1] at H0
        clear hyx d1
        go_wp2_with fail
        refine H0.out.mono ?_
        rintro e w' ⟨rfl, rfl⟩
        go_wp2_with fail
        go_roundg ((lo + hi) / 2 - lo)
        case measure => omega
        case rel => exact ⟨lo, (lo + hi) / 2, rfl, by rw [show ((lo : Int) + (hi : Int)) / 2 = (((lo + hi) / 2 : Nat) : Int) by omega], by omega, by omega, Nat.le_refl _, HB, HF⟩
    · obtain rfl : hi = lo := by omega
      have HF : Hid (Place l x hi) := Lib.hid ⟨by rw [HL.out]; exact hin, HI.out.1, HI.out.2⟩
      by_cases hn : hi < n
      · obtain ⟨g, off, y, rfl, hy, cm⟩ := HC.out wr hi HB.out (by rw [HL.out]; omega)
        have H1 := Lib.hid (nan_sl y wr)
        have hne : (y == x) = false := by have := HX.out _ _ hy.out; simpa using this
        go_wp2_with fail
        refine H1.out.mono ?_
        rintro e w' ⟨rfl, rfl⟩
        go_wp2_with fail
        go_ret2
        exact ⟨hi, rfl, HF, HB.out⟩
      · go_wp2_with fail
        go_ret2
        exact ⟨hi, rfl, HF, HB.out⟩
end Go.Proofs.Ytokkefokodcphaa.Bay
