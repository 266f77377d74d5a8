/- The document's line, find, with. -/
import Derived.Test.YtokkefokodcphaaBayDa
import Derived.Test.YtokkefokodcphaaBayDb
import Derived.Laws.ResultCell
namespace Go.Proofs.Ytokkefokodcphaa.Bay
open Go.RowKit Go.Lib IRows

abbrev bV (la : Option Addr) (ln lc : Nat) (da : Option Addr) (dn dc : Nat) : Value := .agg #[.slice la ln lc, .slice da dn dc]
/-- The document's bays in a frame's block. -/
theorem box_b (w : World) (la : Option Addr) (ln lc : Nat) (da : Option Addr) (dn dc : Nat) : ∃ U Y, w.heap.size = U ∧ w.alloc (.cells #[.slice la ln lc, .slice da dn dc] 32) = Y ∧ Hid (Below w.heap.size w Y ∧ U < Y.heap.size ∧ ∀ W, Below Y.heap.size Y W → W.cell? ⟨U, 0, none⟩ = some (.slice la ln lc) ∧ W.cell? ⟨U, 1, none⟩ = some (.slice da dn dc)) := by
  have hb := heap_alloc_new w (.cells #[.slice la ln lc, .slice da dn dc] 32)
  refine ⟨_, _, rfl, rfl, Lib.hid ⟨(Below.refl _ _).alloc (Nat.le_refl _) _, by simp, fun W hW => ?_⟩⟩
  have h2 := (hW.block _ (Array.getElem?_eq_some_iff.1 hb).1).trans hb
  exact ⟨cell_block (j := 0) h2 rfl, cell_block (j := 1) h2 rfl⟩
def lineE (n : Nat) (b s : Int) : Int := if (1 ≤ b ∧ b ≤ (n : Int)) ∧ 0 ≤ s ∧ s ≤ 1 then 2 * (b - 1) + s else -1
set_option maxRecDepth 100000 in
set_option maxHeartbeats 1000000 in
theorem dline_im (la : Option Addr) (ln lc : Nat) (da : Option Addr) (dn dc : Nat) (b s : Int) (w : World) (hn : ln ≤ 1000) :
    Calls Try.prog 40 #[bV la ln lc da dn dc, .int .i64 b, .int .i64 s] w fun e w' => e = .returned (.int .i64 (lineE ln b s)) ∧ Below w.heap.size w w' := by
  obtain ⟨U, Y, hU, hY, HY⟩ := box_b w la ln lc da dn dc
  obtain ⟨u0, u1⟩ := HY.out.2.2 Y (Below.refl _ _)
  by_cases c : (1 ≤ b ∧ b ≤ (ln : Int)) ∧ 0 ≤ s ∧ s ≤ 1
  · have HE : Hid (lineE ln b s = 2 * (b - 1) + s) := Lib.hid (by unfold lineE; rw [if_pos c])
    obtain ⟨⟨c1, c2⟩, c3, c4⟩ := c
    have d1 : decide (b < 1) = false := decide_eq_false (by omega)
    have d2 : decide ((ln : Int) < b) = false := decide_eq_false (by omega)
    have d3 : decide (s < 0) = false := decide_eq_false (by omega)
    have d4 : decide (1 < s) = false := decide_eq_false (by omega)
    have w2 : IntKind.i64.wrap (b - 1) = b - 1 := IntWalk.i64_in _ (by omega)
    have w3 : IntKind.i64.wrap (2 * (b - 1)) = 2 * (b - 1) := IntWalk.i64_in _ (by omega)
    have w4 : IntKind.i64.wrap (2 * (b - 1) + s) = 2 * (b - 1) + s := IntWalk.i64_in _ (by omega)
    clear c1 c2 c3 c4 hn
    go_enter Try.func40, Try.ntmps40
    go_wp2_with fail
    clear hY hU
    go_ret
    exact ⟨by rw [HE.out]; rfl, HY.out.1⟩
  · have HE : Hid (lineE ln b s = -1) := Lib.hid (by unfold lineE; rw [if_neg c])
    have hcase : (decide (b < 1) = true) ∨ (decide (b < 1) = false ∧ decide ((ln : Int) < b) = true) ∨ (decide (b < 1) = false ∧ decide ((ln : Int) < b) = false ∧ decide (s < 0) = true) ∨ (decide (b < 1) = false ∧ decide ((ln : Int) < b) = false ∧ decide (s < 0) = false ∧ decide (1 < s) = true) := by
      simp only [decide_eq_true_eq, decide_eq_false_iff_not]
      omega
    clear c hn
    rcases hcase with d1 | ⟨d1, d2⟩ | ⟨d1, d2, d3⟩ | ⟨d1, d2, d3, d4⟩
    all_goals
      go_enter Try.func40, Try.ntmps40
      go_wp2_with fail
      clear hY hU
      go_ret
      exact ⟨by rw [HE.out]; rfl, HY.out.1⟩
/-- The document's lines and the lines they are. -/
theorem pair_at {ds : List Dn} {L : List Ln} (h : ds.map Dn.p = L.map Ln.p) {i : Nat} {x : Dn} (hx : ds[i]? = some x) : ∃ y, L[i]? = some y ∧ y.r = x.r ∧ y.q = x.q := by
  have h1 : (L.map Ln.p)[i]? = some x.p := by rw [← h, List.getElem?_map, hx]; rfl
  rw [List.getElem?_map] at h1
  cases hy : L[i]? with
  | none => rw [hy] at h1; cases h1
  | some y =>
    rw [hy] at h1
    have h2 : y.p = x.p := by simpa using h1
    exact ⟨y, rfl, congrArg Prod.fst h2, congrArg Prod.snd h2⟩
theorem pair_len {ds : List Dn} {L : List Ln} (h : ds.map Dn.p = L.map Ln.p) : ds.length = L.length := by
  have := congrArg List.length h
  simpa using this
def findE (L : List Ln) (j : Int) : Int := if fnd L j < L.length then (fnd L j : Int) else -1
set_option maxRecDepth 100000 in
set_option maxHeartbeats 1000000 in
theorem dfind_im {N : Nat → Prop} (la : Option Addr) (ln lc : Nat) (da : Option Addr) (dn dc : Nat) (ds : List Dn) (L : List Ln) (j : Int) (w : World) (hl : ds.length = dn) (hd : LsAt w N da ds) (hp : ds.map Dn.p = L.map Ln.p) (hn : dn ≤ 1000) (hrow : ∀ x ∈ ds, x.r.length ≤ 1000 ∧ x.q.length ≤ 1000) :
    Calls Try.prog 41 #[bV la ln lc da dn dc, .int .i64 j] w fun e w' => e = .returned (.int .i64 (findE L j)) ∧ Below w.heap.size w w' := by
  obtain ⟨U, Y, hU, hY, HY⟩ := box_b w la ln lc da dn dc
  obtain ⟨u0, u1⟩ := HY.out.2.2 Y (Below.refl _ _)
  have hL : L.length = dn := by rw [← pair_len hp, hl]
  have HL := Lib.hid hL
  have HC : Hid (∀ i, i < dn → ∃ g off x, da = some ⟨g, off, none⟩ ∧ Hid (ds[i]? = some x) ∧ (Y.cell? ⟨g, off + i * 2, none⟩ = some (.slice x.ra x.r.length x.rc) ∧ Y.cell? ⟨g, off + i * 2 + 1, none⟩ = some (.slice x.qa x.q.length x.qc)) ∧ Hid (IRow Y x.ra x.r ∧ IRow Y x.qa x.q ∧ x.r.length ≤ 1000 ∧ x.q.length ≤ 1000) ∧ ∃ y, Hid (L[i]? = some y ∧ y.r = x.r ∧ y.q = x.q)) := Lib.hid (fun i hi => by
    have hx := List.getElem?_eq_getElem (l := ds) (i := i) (by omega)
    have hd2 := hd.under HY.out.1
    obtain ⟨g, off, e, _, _, h1, h2⟩ := hd2.cells i _ hx
    obtain ⟨y, hy⟩ := pair_at hp hx
    exact ⟨g, off, _, e, Lib.hid hx, ⟨h1, h2⟩, Lib.hid ⟨(hd2.rows i _ hx).1.irow, (hd2.rows i _ hx).2.irow, hrow _ (List.mem_of_getElem? hx)⟩, y, Lib.hid hy⟩)
  have hn1 : (dn : Int) ≤ 1000 := by omega
  obtain ⟨p, hpp⟩ : ∃ p, findE L j = p := ⟨_, rfl⟩
  have HP := Lib.hid hpp
  rw [hpp]
  clear hl hd hp hn hrow hL hpp
  go_enter Try.func41, Try.ntmps41
  go_wp2_with fail
  clear hY hU
  go_loopw [5] (fun s wr => ∃ i : Nat, s = .int .i64 i ∧ i ≤ dn ∧ Y = wr ∧ Hid (∀ (t : Nat) (x : Ln), t < i → L[t]? = some x → has j x = false)) (fun s _ => dn - (RowKit.intOf s).toNat)
  case atStart => exact ⟨0, rfl, by omega, rfl, Lib.hid (fun t x h => by omega)⟩
  case round =>
    obtain ⟨i, rfl, hi, rfl, HI⟩ := hrel
    have hi0 : (0 : Int) ≤ (i : Int) := by omega
    by_cases hlt : i < dn
    · have hlt2 : (i : Int) < (dn : Int) := by omega
      obtain ⟨g, off, x, rfl, hx, ⟨q0, q1⟩, HX, y, hy⟩ := HC.out i hlt
      have H1 := Lib.hid (din_im x.ra x.r.length x.rc x.r j Y rfl HX.out.1 HX.out.2.2.1)
      have H2 := Lib.hid (din_im x.qa x.q.length x.qc x.q j Y rfl HX.out.2.1 HX.out.2.2.2)
      have hyes : has j y = true → p = (i : Int) := fun h => by
        have : fnd L j = i := fnd_eq (by rw [HL.out]; omega) HI.out (fun z hz => by
          rw [hy.out.1] at hz
          rw [← Option.some.inj hz]
          exact h)
        rw [← HP.out]
        unfold findE
        rw [this, if_pos (by rw [HL.out]; exact hlt)]
      by_cases c1 : j ∈ x.r
      · have HF : Hid (p = (i : Int)) := Lib.hid (hyes (has_iff.2 (.inl (by rw [hy.out.2.1]; exact c1))))
        rw [decide_eq_true c1] at H1
        clear hyes c1
        go_wp2_with fail
        refine H1.out.mono ?_
        rintro e w' ⟨rfl, rfl⟩
        go_wp2_with fail
        go_ret
        exact ⟨by rw [HF.out]; rfl, HY.out.1⟩
      rw [decide_eq_false c1] at H1
      by_cases c2 : j ∈ x.q
      · have HF : Hid (p = (i : Int)) := Lib.hid (hyes (has_iff.2 (.inr (by rw [hy.out.2.2]; exact c2))))
        rw [decide_eq_true c2] at H2
        clear hyes c1 c2
        go_wp2_with fail
        refine H1.out.mono ?_
        rintro e w' ⟨rfl, rfl⟩
        go_wp2_with fail
        refine H2.out.mono ?_
        rintro e w' ⟨rfl, rfl⟩
        go_wp2_with fail
        go_ret
        exact ⟨by rw [HF.out]; rfl, HY.out.1⟩
      rw [decide_eq_false c2] at H2
      have HF : Hid (∀ (t : Nat) (x : Ln), t < i + 1 → L[t]? = some x → has j x = false) := Lib.hid (fun t z ht hz => by
        by_cases e : t = i
        · subst e
          rw [hy.out.1] at hz
          rw [← Option.some.inj hz]
          cases hh : has j y with
          | false => rfl
          | true =>
            rcases has_iff.1 hh with h | h
            · exact absurd (by rw [← hy.out.2.1]; exact h) c1
            · exact absurd (by rw [← hy.out.2.2]; exact h) c2
        · exact HI.out t z (by omega) hz)
      clear hyes c1 c2
      go_wp2_with fail
      refine H1.out.mono ?_
      rintro e w' ⟨rfl, rfl⟩
      go_wp2_with fail
      refine H2.out.mono ?_
      rintro e w' ⟨rfl, rfl⟩
      go_wp2_with fail
      go_roundw
      case rel => exact ⟨i + 1, by go_num, by omega, by first | rfl | trivial, HF⟩
      case measure => simp [RowKit.intOf]; omega
    · obtain rfl : i = dn := by omega
      have HF : Hid (p = -1) := Lib.hid (by
        have : fnd L j = L.length := fnd_none.2 (fun t x hx => HI.out t x (by rw [← HL.out]; exact (List.getElem?_eq_some_iff.1 hx).1) hx)
        rw [← HP.out]
        unfold findE
        rw [this, if_neg (by omega)])
      go_wp2_with fail
      go_ret
      exact ⟨by rw [HF.out]; rfl, HY.out.1⟩
theorem ret_bays {fn : Func} {R : Ending → World → Prop} {a : Act} {w : World} {p : Tmp} {g : Nat} {a1 a2 : Option Addr} {n1 c1 n2 c2 : Nat} {T : TypeId} (h : fn.results = #[.cell p 32]) (hd : a.defers = [])
    (ht : a.tmps.getD p undef = .pointer (some ⟨g, 0, none⟩)) (hb : w.heap[g]? = some (.cells #[.slice a1 n1 c1, .slice a2 n2 c2] T (0, 0))) (hR : R (.returned (.agg #[.slice a1 n1 c1, .slice a2 n2 c2])) w) : bodyPost Try.prog fn R .ret a w := by
  exact bodyPost_ret (v := .agg #[.slice a1 n1 c1, .slice a2 n2 c2]) (results_cell_row h _ w g T #[.slice a1 n1 c1, .slice a2 n2 c2] (0, 0) _ ht hb Try.underlying32 rfl (by kernel_rfl)) hd hR
theorem dapp (w : World) {B : Nat} {a : Option Addr} {m c : Nat} {xs : List Dn} (ys : List Dn) (h : OwnD w B (.slice a m c) xs) (xa : Option Addr) (k xc : Nat) (hk : k = ys.length) (hsrc : ∀ (i : Nat) (x : Dn), ys[i]? = some x → ∃ g off, xa = some ⟨g, off, none⟩ ∧ w.cell? ⟨g, off + i * 2, none⟩ = some (.slice x.ra x.r.length x.rc) ∧ w.cell? ⟨g, off + i * 2 + 1, none⟩ = some (.slice x.qa x.q.length x.qc)) (hl : m + k ≤ 1000) (hB : B ≤ w.heap.size) :
    ∃ a' c' w', (Builtin.append_ #[23, 23] 23 #[.slice a m c, .slice xa k xc]).run Try.prog w = .ok (.slice a' (m + k) c') w' ∧ OwnD w' B (.slice a' (m + k) c') (xs ++ ys) ∧ Below B w w' := by
  have hm : xs.length = m := by
    obtain ⟨a', c', e, _⟩ := row_d h
    injection e with _ e _
    exact e.symm
  obtain ⟨v', w', hr, h2, h3, _⟩ := app_ds w B (.slice a m c) xs ys h xa k xc hk (fun j u hj => by
    obtain ⟨i, x, hx, h1⟩ := dcells_inv ys j u hj
    obtain ⟨g, off, e, c0, c1⟩ := hsrc i x hx
    refine ⟨_, e, ?_⟩
    rw [addr_add]
    rcases h1 with ⟨rfl, rfl⟩ | ⟨rfl, rfl⟩
    · exact c0
    · rw [← Nat.add_assoc]; exact c1) (by omega) hB
  obtain ⟨a', c', e, _⟩ := row_d h2
  have hl2 : (xs ++ ys).length = m + k := by simp [hm, hk]
  rw [hl2] at e
  subst e
  exact ⟨a', c', w', hr, h2, h3⟩
theorem run_take_any (W : World) (g off n c k : Nat) (hk : k ≤ c) (i : TypeInfo) (hi : Try.prog.info? 54 = some i) :
    (Instr.slice 23 (.slice (some ⟨g, off, none⟩) n c) none (some (.int .i64 (k : Int))) none).run Try.prog W = .ok (.slice (some ⟨g, off, none⟩) k c) W := by
  rw [run_slice_h (P := Try.prog) W 23 (some ⟨g, off, none⟩) n c (by kernel_rfl) .i64 (k : Int) (by omega) (by omega), show Try.prog.elem 23 = 54 by kernel_rfl]
  simp [sizeOf, typeInfo, hi, sliced, Result.andThen, Addr.add]
end Go.Proofs.Ytokkefokodcphaa.Bay
