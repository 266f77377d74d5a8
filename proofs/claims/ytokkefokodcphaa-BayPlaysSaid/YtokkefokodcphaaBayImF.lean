/- slices.Clone of a row; how much room there is at a line; at which line a job is. -/
import Derived.Test.YtokkefokodcphaaBayImA
import Derived.Test.YtokkefokodcphaaBayLn
namespace Go.Proofs.Ytokkefokodcphaa.Bay
open Go.RowKit Go.Lib IRows

/-- A row in new memory. -/
def NewRow (w w' : World) (m : Rm) (l : List Int) : Prop := RowAt w' m l ∧ Below w.heap.size w w' ∧ ∀ g, ownB m = some g → w.heap.size ≤ g
set_option maxRecDepth 100000 in
theorem clone_row (a : Option Addr) (n c : Nat) (l : List Int) (w : World) (hl : l.length = n) (hs : IRow w a l) (hn : n ≤ 1000) :
    Calls Try.prog 45 #[.slice a n c] w fun e w' => ∃ m, e = .returned (.slice m.a n m.c) ∧ Hid (NewRow w w' m l) := by
  cases a with
  | none =>
    have hl1 : l = [] := by
      cases l with
      | nil => rfl
      | cons t l =>
        obtain ⟨g, off, e, _⟩ := hs 0 t rfl
        cases e
    subst hl1
    have hn0 : n = 0 := by rw [← hl]; rfl
    subst hn0
    have hq : ∀ W, (binOp .eql 52 (.slice none 0 c) (.slice none 0 0)).run Try.prog W = .ok (.bool true) W := fun W => Lib.run_eql_slice_nil W _ _ none 0 c 0 0 Try.underlying52
    clear hs hl hn
    go_enter Try.func45, Try.ntmps45
    go_wp2_with fail
    go_ret
    exact ⟨⟨none, 0⟩, rfl, Lib.hid ⟨row_none _ _, Below.refl _ _, fun g hg => by rw [own_none rfl] at hg; cases hg⟩⟩
  | some ad =>
    have hal := (Below.refl w.heap.size w).alloc (Nat.le_refl _) (.cells #[] 3)
    obtain ⟨i, hi, hz, hsz, hb⟩ := info1
    have h0 : (w.alloc (.cells #[] 3)).ownsRow w.heap.size 3 1 (.slice (some ⟨w.heap.size, 0, none⟩) 0 0) 0 [] := World.ownsRow_lit w #[] 0 (Nat.le_refl _) (by unfold maxLen; omega) rfl
    have HR : ∃ m w', (Builtin.append_ #[52, 52] 52 #[.slice (some ⟨w.heap.size, 0, none⟩) 0 0, .slice (some ad) n c]).run Try.prog (w.alloc (.cells #[] 3)) = .ok (.slice m.a n m.c) w' ∧ NewRow w w' m l := by
      cases l with
      | nil =>
        have hn0 : n = 0 := by rw [← hl]; rfl
        subst hn0
        have hr := run_append_nothing (P := Try.prog) (w.alloc (.cells #[] 3)) 52 52 52 3 i Try.underlying52 hi (some ⟨w.heap.size, 0, none⟩) 0 0 (Nat.le_refl _) (.slice (some ad) 0 c) (Src.ofSlice _ Try.underlying52 ad 0 c [] (by simp) (fun j u hj => by simp at hj) (fun u hu => by cases hu))
        exact ⟨⟨some ⟨w.heap.size, 0, none⟩, 0⟩, _, hr, row_none _ _, hal, fun g hg => by rw [own_none rfl] at hg; cases hg⟩
      | cons t l =>
        obtain ⟨v', w', hr, h2, h3⟩ := app_any (P := Try.prog) (t := 52) (e := 3) (i := i) (w.alloc (.cells #[] 3)) w.heap.size 52 (.int .i64 0) 1 8 Try.underlying52 hi hz hsz hb rfl (by omega) (.slice (some ⟨w.heap.size, 0, none⟩) 0 0) 0 [] h0 (some ad) n c ((t :: l).map (Value.int .i64)) (by rw [List.length_map, hl, Nat.mul_one]) (fun j u hj => by
          rw [List.getElem?_map] at hj
          cases hlj : (t :: l)[j]? with
          | none => rw [hlj] at hj; cases hj
          | some y =>
            rw [hlj] at hj
            have e : Value.int .i64 y = u := by simpa using hj
            obtain ⟨g, off, ea, hg, hc⟩ := hs j y hlj
            obtain rfl := Option.some.inj ea
            refine ⟨_, rfl, ?_⟩
            rw [addr_add, ← e]
            exact ((bcell hal).1 g _ hg).trans hc) (fun u hu => by
          obtain ⟨y, _, rfl⟩ := List.mem_map.1 hu
          rfl) (by unfold maxLen; omega) (by omega) hal.size
        rw [List.nil_append, Nat.zero_add] at h2
        have hlen : (t :: l).length = l.length + 1 := rfl
        rcases h2.2 with ⟨hv, h0⟩ | ⟨g, cap, cur, hv, hB, hg, hnc, hm, hcs, htk⟩
        · omega
        · refine ⟨⟨some ⟨g, 0, none⟩, cap⟩, w', by rw [hr, hv], .inr ⟨g, 0, cur, rfl, by show 0 < cap; omega, by show (t :: l).length ≤ cap; omega, hm, hg, by rw [hcs]; show 0 + cap ≤ _; omega, fun i x hx => ?_⟩, hal.grown h3 hal.size (fun q hq => by
            have : w.heap.size = q := by simpa [Value.ownBlock] using hq
            omega), fun q hq => ?_⟩
          · have := h2.cells (g := g) (by rw [hv]; rfl) i (.int .i64 x) (by rw [List.getElem?_map, hx]; rfl)
            rw [addr_add, Nat.zero_add, cell_of_row w' g i cur 3 (0, 0) hg] at this
            rw [Nat.zero_add]
            exact this
          · rw [own_some (m := ⟨some ⟨g, 0, none⟩, cap⟩) (by show 0 < cap; omega) rfl] at hq
            have := Option.some.inj hq
            omega
    obtain ⟨m, w', hr, hN⟩ := HR
    have HR := Lib.hid hr
    have HO := Lib.hid hN
    have hq : ∀ W, (binOp .eql 52 (.slice (some ad) n c) (.slice none 0 0)).run Try.prog W = .ok (.bool false) W := fun W => Lib.run_eql_slice_nil W _ _ (some ad) n c 0 0 Try.underlying52
    clear h0 hr hN hal hn hl hs hi hz hsz hb
    go_enter Try.func45, Try.ntmps45
    go_wp2_with (at_builtin; refine walk_run rfl _ _ _ _ rfl _ _ rfl rfl HR.out ?_)
    go_ret
    exact ⟨_, rfl, HO⟩
set_option maxRecDepth 100000 in
theorem free_im (g o n c : Nat) (a : Option Addr) (s : Int) (w : World) (h0 : w.cell? ⟨g, o, none⟩ = some (.slice a n c)) (h2 : w.cell? ⟨g, o + 2, none⟩ = some (.int .i64 s)) (hs : 0 ≤ s ∧ s ≤ 8) (hn : n ≤ 1000) :
    Calls Try.prog 35 #[.pointer (some ⟨g, o, none⟩)] w fun e w' => e = .returned (.int .i64 (s - n)) ∧ Below w.heap.size w w' := by
  have w1 : IntKind.i64.wrap (s - (n : Int)) = s - (n : Int) := IntWalk.i64_in _ (by omega)
  clear hs hn
  go_enter Try.func35, Try.ntmps35
  go_wp2_with fail
  go_quiet (fail)
  go_wp2_with fail
  go_ret
  exact ⟨rfl, below_drewN (Below.refl _ _) _⟩
abbrev lnV (x : XL) : Value := .agg #[.slice x.rm.a x.r.length x.rm.c, .slice x.qm.a x.q.length x.qm.c, .int .i64 x.s]
set_option maxRecDepth 100000 in
/-- Whether a job is at a line. -/
theorem ofc_im (x : XL) (j : Int) (b : Nat) (w : World) (hr : IRow w x.rm.a x.r) (hq : IRow w x.qm.a x.q) (hrl : x.r.length ≤ 1000) (hql : x.q.length ≤ 1000) (hb : w.cell? ⟨b, 0, none⟩ = some (.int .i64 j)) (hbl : b < w.heap.size) :
    Calls Try.prog 47 #[lnV x, .pointer (some ⟨b, 0, none⟩)] w fun e w' => e = .returned (.bool (has j x.pl)) ∧ Below w.heap.size w w' := by
  obtain ⟨Y, hY⟩ : ∃ Y, w.alloc (.cells #[.slice x.rm.a x.r.length x.rm.c, .slice x.qm.a x.q.length x.qm.c, .int .i64 x.s] 73) = Y := ⟨_, rfl⟩
  have HB : Below w.heap.size w Y := by rw [← hY]; exact (Below.refl _ _).alloc (Nat.le_refl _) _
  have hn : Y.heap[w.heap.size]? = some (.cells #[.slice x.rm.a x.r.length x.rm.c, .slice x.qm.a x.q.length x.qm.c, .int .i64 x.s] 73 (0, 0)) := by rw [← hY]; exact heap_alloc_new w _
  have k0 := cell_block (j := 0) hn rfl
  have k1 := cell_block (j := 1) hn rfl
  have kb : Y.cell? ⟨b, 0, none⟩ = some (.int .i64 j) := ((bcell HB).1 b _ hbl).trans hb
  have H1 := Lib.hid (contains_im x.rm.a x.r.length x.rm.c x.r j Y rfl (hr.under HB) (by omega))
  have H2 := Lib.hid (contains_im x.qm.a x.q.length x.qm.c x.q j Y rfl (hq.under HB) (by omega))
  have HB2 := Lib.hid HB
  by_cases c1 : j ∈ x.r
  · have HE : Hid (has j x.pl = true) := Lib.hid (has_iff.2 (.inl c1))
    rw [decide_eq_true c1] at H1
    clear hn hr hq hrl hql hb hbl HB c1
    go_enter Try.func47, Try.ntmps47
    go_wp2_with fail
    clear hY
    refine H1.out.mono ?_
    rintro e w' ⟨rfl, rfl⟩
    go_wp2_with fail
    go_ret
    exact ⟨by rw [HE.out]; rfl, HB2.out⟩
  · have HE : Hid (has j x.pl = decide (j ∈ x.q)) := Lib.hid (by unfold has; rw [decide_eq_false (show ¬ j ∈ x.pl.r from c1)]; rfl)
    rw [decide_eq_false c1] at H1
    clear hn hr hq hrl hql hb hbl HB c1
    obtain ⟨d, hd⟩ : ∃ d, decide (j ∈ x.q) = d := ⟨_, rfl⟩
    rw [hd] at H2 HE
    clear hd
    go_enter Try.func47, Try.ntmps47
    go_wp2_with fail
    clear hY
    refine H1.out.mono ?_
    rintro e w' ⟨rfl, rfl⟩
    go_wp2_with fail
    refine H2.out.mono ?_
    rintro e w' ⟨rfl, rfl⟩
    go_wp2_with fail
    go_ret
    exact ⟨by rw [HE.out]; rfl, HB2.out⟩
/-- What a walk over the lines wants of each of them. -/
structure LineAt (w : World) (g k : Nat) (x : XL) : Prop where
  cells : w.cell? ⟨g, k * 3, none⟩ = some x.rv ∧ w.cell? ⟨g, k * 3 + 1, none⟩ = some x.qv ∧ w.cell? ⟨g, k * 3 + 2, none⟩ = some (.int .i64 x.s)
  run : IRow w x.rm.a x.r
  wait : IRow w x.qm.a x.q
  rl : x.r.length ≤ 8
  ql : x.q.length ≤ 8
  s : 0 ≤ x.s ∧ x.s ≤ 8
  lt : g < w.heap.size
theorem LineAt.under {w w' : World} {g k : Nat} {x : XL} (h : LineAt w g k x) (hb : Below w.heap.size w w') : LineAt w' g k x :=
  ⟨⟨((bcell hb).1 g _ h.lt).trans h.cells.1, ((bcell hb).1 g _ h.lt).trans h.cells.2.1, ((bcell hb).1 g _ h.lt).trans h.cells.2.2⟩, h.run.under hb, h.wait.under hb, h.rl, h.ql, h.s, Nat.lt_of_lt_of_le h.lt hb.size⟩
set_option maxRecDepth 100000 in
theorem idxl_im (a : Option Addr) (n c : Nat) (xs : List XL) (j : Int) (b : Nat) (w : World) (hl : xs.length = n) (hs : ∀ k x, xs[k]? = some x → ∃ g, a = some ⟨g, 0, none⟩ ∧ LineAt w g k x) (hn : n ≤ 1000) (hb : w.cell? ⟨b, 0, none⟩ = some (.int .i64 j)) (hbl : b < w.heap.size) :
    Calls Try.prog 46 #[.slice a n c, .func (.func 47) #[] #[.pointer (some ⟨b, 0, none⟩)]] w fun e w' => e = .returned (.int .i64 (if fnd (xs.map XL.pl) j < n then (fnd (xs.map XL.pl) j : Int) else -1)) ∧ Below w.heap.size w w' := by
  obtain ⟨p, hp⟩ : ∃ p : Int, (if fnd (xs.map XL.pl) j < n then (fnd (xs.map XL.pl) j : Int) else -1) = p := ⟨_, rfl⟩
  have HP := Lib.hid hp
  have HL := Lib.hid hl
  have HC : Hid (∀ W k, Below w.heap.size w W → k < n → ∃ g x, a = some ⟨g, 0, none⟩ ∧ Hid (xs[k]? = some x) ∧ Hid (LineAt W g k x)) := Lib.hid (fun W k hW hk => by
    have hx := List.getElem?_eq_getElem (l := xs) (i := k) (by omega)
    obtain ⟨g, e, h1⟩ := hs k _ hx
    exact ⟨g, _, e, Lib.hid hx, Lib.hid (h1.under hW)⟩)
  have HBJ : Hid (∀ W, Below w.heap.size w W → W.cell? ⟨b, 0, none⟩ = some (.int .i64 j) ∧ b < W.heap.size) := Lib.hid (fun W hW => ⟨((bcell hW).1 b _ hbl).trans hb, Nat.lt_of_lt_of_le hbl hW.size⟩)
  have hn1 : (n : Int) ≤ 1000 := by omega
  rw [hp]
  clear hs hn hl hp hb hbl
  go_enter Try.func46, Try.ntmps46
  go_wp2_with fail
  go_loopw [8] (fun s wr => ∃ i : Nat, s = .int .i64 i ∧ i ≤ n ∧ Hid (Below w.heap.size w wr) ∧ Hid (∀ t x, t < i → (xs.map XL.pl)[t]? = some x → has j x = false)) (fun s _ => n - (RowKit.intOf s).toNat)
  case atStart => exact ⟨0, rfl, by omega, Lib.hid (Below.refl _ _), Lib.hid (fun t x h => by omega)⟩
  case round =>
    obtain ⟨i, rfl, hi, HB, HI⟩ := hrel
    have hi0 : (0 : Int) ≤ (i : Int) := by omega
    by_cases hlt : i < n
    · have hlt2 : (i : Int) < (n : Int) := by omega
      obtain ⟨g, x, rfl, hx, HX⟩ := HC.out wr i HB.out hlt
      obtain ⟨q0, q1, q2⟩ := HX.out.cells
      have H1 := Lib.hid (ofc_im x j b wr HX.out.run HX.out.wait (by have := HX.out.rl; omega) (by have := HX.out.ql; omega) (HBJ.out wr HB.out).1 (HBJ.out wr HB.out).2)
      cases c1 : has j x.pl with
      | true =>
        have HF : Hid (p = (i : Int)) := Lib.hid (by
          have : fnd (xs.map XL.pl) j = i := fnd_eq (by rw [List.length_map, HL.out]; omega) HI.out (fun y hy => by
            rw [pl_at hx.out] at hy
            rw [← Option.some.inj hy]
            exact c1)
          rw [← HP.out, this, if_pos hlt])
        rw [c1] at H1
        clear c1
        go_wp2_with fail
        refine H1.out.mono ?_
        rintro e w' ⟨rfl, hb1⟩
        have HB1 := Lib.hid (below_then HB.out hb1)
        clear hb1
        go_wp2_with fail
        go_ret
        exact ⟨by rw [HF.out]; rfl, HB1.out⟩
      | false =>
        have HF : Hid (∀ t x, t < i + 1 → (xs.map XL.pl)[t]? = some x → has j x = false) := Lib.hid (fun t y ht hy => by
          by_cases e : t = i
          · subst e
            rw [pl_at hx.out] at hy
            rw [← Option.some.inj hy]
            exact c1
          · exact HI.out t y (by omega) hy)
        rw [c1] at H1
        clear c1
        go_wp2_with fail
        refine H1.out.mono ?_
        rintro e w' ⟨rfl, hb1⟩
        have HB1 := Lib.hid (below_then HB.out hb1)
        clear hb1
        go_wp2_with fail
        go_roundw
        case rel => exact ⟨i + 1, by go_num, by omega, HB1, HF⟩
        case measure => simp [RowKit.intOf]; omega
    · obtain rfl : i = n := by omega
      have HF : Hid (p = -1) := Lib.hid (by
        have : fnd (xs.map XL.pl) j = i := fnd_eq (by rw [List.length_map, HL.out]; exact Nat.le_refl _) HI.out (fun y hy => by
          have := (List.getElem?_eq_some_iff.1 hy).1
          rw [List.length_map, HL.out] at this
          omega)
        rw [← HP.out, this, if_neg (by omega)])
      go_wp2_with fail
      go_ret
      exact ⟨by rw [HF.out]; rfl, HB.out⟩
end Go.Proofs.Ytokkefokodcphaa.Bay
