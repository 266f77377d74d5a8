/- A map keyed by ints, whatever its elements: what it holds is a function from numbers to values. -/
import Derived.Maps.RangeWalk
import Derived.Maps.OwnSet
import Derived.Maps.Views
import Derived.Test.YtbhhofeflajpoaaCommon
namespace Go.Proofs.Ytbhhofeflajpoaa.Ints
open Go.Maps (Keyed) 
open Go.RowKit Go.WideElems

/-- How an element reads: as itself. -/
def selfElem (v : Value) : Option (DataW Value × List MemPlace) := some (.held v, [])
abbrev I64 (x : Int) : Prop := -9223372036854775808 ≤ x ∧ x ≤ 9223372036854775807
abbrev keyLit (x : Int) : Lit := .int .i64 x
theorem keyLit_inj {s t : Int} (h : keyLit s = keyLit t) : s = t := by
  unfold keyLit at h
  injection h
theorem wf_key {x : Int} (h : I64 x) : (keyLit x).wf = true := by
  unfold I64 at h
  have h1 : IntKind.min .i64 = -9223372036854775808 := by decide
  have h2 : IntKind.max .i64 = 9223372036854775807 := by decide
  simp only [Lit.wf, h1, h2, Bool.and_eq_true, decide_eq_true_eq]
  exact h
theorem key_wf {x : Int} (h : (keyLit x).wf = true) : I64 x := by
  have h1 : IntKind.min .i64 = -9223372036854775808 := by decide
  have h2 : IntKind.max .i64 = 9223372036854775807 := by decide
  simp only [Lit.wf, h1, h2, Bool.and_eq_true, decide_eq_true_eq] at h
  exact h
theorem keyLit_same (s t : Int) : (keyLit s).sameKey (keyLit t) = decide (s = t) := by
  by_cases h : s = t
  · subst h
    rw [WideAt.sameKey_self (show WideAt.IsKeyLit (keyLit s) from trivial)]
    simp
  · rw [Maps.sameKey_ne (fun e => h (keyLit_inj e))]
    simp [h]
theorem keyOf_inv {P : Program} {k : TypeId} (hk : P.underlying k = some (.int .i64)) {key : Value} {kl : Lit} (h : keyOf P k key = some kl) : ∃ s : Int, key = .int .i64 s ∧ kl = keyLit s ∧ I64 s := by
  obtain ⟨x, rfl, rfl, hw⟩ := Maps.keyOf_int_inv hk h
  exact ⟨x, rfl, rfl, key_wf hw⟩
/-- What the map in block b holds: n keys, at each number what M says. -/
def MapIs (P : Program) (k : TypeId) (w : World) (b n : Nat) (M : Int → Option Value) : Prop :=
  ∃ D : DataW Value, w.ownsMap P k selfElem b n D ∧ Maps.size D = n ∧ (∀ s, Maps.has D (keyLit s) = (M s).isSome) ∧ ∀ s v, M s = some v → ∀ z, D.atKey (keyLit s) z = .held v

section
variable {P : Program} {k : TypeId} {w : World} {b n : Nat} {M : Int → Option Value}
theorem ownsMap_exact {D : DataW Value} (h : w.ownsMap P k selfElem b n D) : w.ownsMap P k selfElem b (Maps.size D) D := by
  obtain ⟨es, clock, hb, F, _, rfl⟩ := h
  exact ⟨es, clock, hb, F, by simp [Maps.size, length_sorted], rfl⟩
theorem MapIs.lt (h : MapIs P k w b n M) : b < w.heap.size := by
  obtain ⟨D, h, _⟩ := h
  exact h.lt
theorem MapIs.block (h : MapIs P k w b n M) : ∃ es clock, w.heap[b]? = some (.map es clock) := by
  obtain ⟨D, ⟨es, clock, hb, _⟩, _⟩ := h
  exact ⟨es, clock, hb⟩
theorem MapIs.of_block {w' : World} (h : MapIs P k w b n M) (hb : w'.heap[b]? = w.heap[b]?) : MapIs P k w' b n M := by
  obtain ⟨D, ⟨es, clock, h1, h2⟩, h3⟩ := h
  exact ⟨D, ⟨es, clock, hb.trans h1, h2⟩, h3⟩
theorem MapIs.congr {M' : Int → Option Value} {n' : Nat} (h : MapIs P k w b n M) (hn : n = n') (hM : ∀ s, M s = M' s) : MapIs P k w b n' M' := by
  have : M = M' := funext hM
  subst this
  subst hn
  exact h
theorem mapIs_made (P : Program) (k : TypeId) (w : World) : MapIs P k (w.alloc (.map #[] 0)) w.heap.size 0 (fun _ => none) :=
  ⟨.map [], World.ownsMap_made w P k selfElem, rfl, fun _ => rfl, fun _ _ h => by cases h⟩
variable {t e : TypeId} (hk : P.underlying k = some (.int .i64)) (ht : P.underlying t = some (.map k e))
include hk ht
theorem MapIs.look_ok (h : MapIs P k w b n M) {z : Value} (hz : (zeroValue e).run P w = .ok z w) {s : Int} (hs : I64 s) :
    (Instr.lookup t (.map (some b)) (.int .i64 s) true).run P w = .ok (.tuple #[(M s).getD z, .bool (M s).isSome]) w := by
  obtain ⟨D, ho, _, hh, ha⟩ := h
  obtain ⟨v, ps, hrun, hv⟩ := ho.look_ok (Maps.int_keyed hk) ht hz (zd := .held z) (zp := []) rfl (Maps.keyOf_int_mk hk (wf_key hs))
  have hv' : DataW.held v = D.atKey (keyLit s) (.held z) := by simpa [selfElem] using congrArg (Option.map Prod.fst) hv
  rw [hrun, hh s]
  cases hM : M s with
  | none =>
    have h0 := hh s
    rw [hM] at h0
    rw [Maps.atKey_of_not_has h0] at hv'
    cases hv'
    rfl
  | some x =>
    rw [ha s x hM] at hv'
    cases hv'
    rfl
theorem MapIs.look (h : MapIs P k w b n M) {z : Value} (hz : (zeroValue e).run P w = .ok z w) {s : Int} (hs : I64 s) :
    (Instr.lookup t (.map (some b)) (.int .i64 s) false).run P w = .ok ((M s).getD z) w := by
  obtain ⟨D, ho, _, hh, ha⟩ := h
  obtain ⟨v, ps, hrun, hv⟩ := ho.lookup (Maps.int_keyed hk) ht hz (zd := .held z) (zp := []) rfl (Maps.keyOf_int_mk hk (wf_key hs))
  have hv' : DataW.held v = D.atKey (keyLit s) (.held z) := by simpa [selfElem] using congrArg (Option.map Prod.fst) hv
  rw [hrun]
  cases hM : M s with
  | none =>
    have h0 := hh s
    rw [hM] at h0
    rw [Maps.atKey_of_not_has h0] at hv'
    cases hv'
    rfl
  | some x =>
    rw [ha s x hM] at hv'
    cases hv'
    rfl
theorem MapIs.store (h : MapIs P k w b n M) (hn : n < maxLen) {s : Int} (hs : I64 s) (v : Value) :
    ∃ w', (Instr.mapUpdate t (.map (some b)) (.int .i64 s) v).run P w = .ok () w' ∧ MapIs P k w' b (if (M s).isSome then n else n + 1) (fun x => if x = s then some v else M x) ∧ w.grownBy w' (some b) ∧ w'.heap.size = w.heap.size := by
  obtain ⟨D, ho, hsz, hh, ha⟩ := h
  obtain ⟨w', hrun, ho', hturn⟩ := ho.store (Maps.int_keyed hk) ht hn (Maps.keyOf_int_mk hk (wf_key hs)) (val := v) (d := .held v) (ps := []) rfl
  have hm := ho.isMap
  refine ⟨w', hrun, ⟨D.put (keyLit s) (.held v), ?_, ?_, fun x => ?_, fun x y hx z => ?_⟩, hturn.grown, ?_⟩
  · have := ownsMap_exact ho'
    rw [Maps.size_put (ho.tidy (Maps.int_keyed hk)), hh s, hsz] at this
    exact this
  · rw [Maps.size_put (ho.tidy (Maps.int_keyed hk)), hh s, hsz]
  · by_cases hx : x = s
    · subst hx
      rw [Maps.has_put_same hm (show WideAt.IsKeyLit (keyLit x) from trivial)]
      simp
    · rw [Maps.has_put_other (fun e => hx (keyLit_inj e)), hh x]
      simp [hx]
  · by_cases hxs : x = s
    · subst hxs
      have hx : v = y := by simpa using hx
      rw [Maps.atKey_put_same hm (show WideAt.IsKeyLit (keyLit x) from trivial), hx]
    · have hx : M x = some y := by simpa [hxs] using hx
      rw [Maps.atKey_put_other (fun e => hxs (keyLit_inj e)), ha x y hx z]
  · obtain ⟨es, clock, es', clock', _, rfl⟩ := hturn
    simp [ChangeMaps.setBlock]
theorem MapIs.drop (h : MapIs P k w b n M) {s : Int} (hs : I64 s) (ty : TypeId) :
    ∃ w', (Builtin.delete_ #[t, k] ty #[.map (some b), .int .i64 s]).run P w = .ok (.tuple #[]) w' ∧ MapIs P k w' b (n - if (M s).isSome then 1 else 0) (fun x => if x = s then none else M x) ∧ w.grownBy w' (some b) ∧ w'.heap.size = w.heap.size := by
  obtain ⟨D, ho, hsz, hh, ha⟩ := h
  obtain ⟨w', hrun, ho', hturn⟩ := ho.drop (Maps.int_keyed hk) ht (Maps.keyOf_int_mk hk (wf_key hs)) ty
  have hsd : Maps.size (D.del (keyLit s)) = n - if (M s).isSome then 1 else 0 := by
    have := Maps.size_del (ho.tidy (Maps.int_keyed hk)) (k := keyLit s)
    rw [hh s, hsz] at this
    omega
  refine ⟨w', hrun, ⟨D.del (keyLit s), ?_, hsd, fun x => ?_, fun x y hx z => ?_⟩, hturn.grown, ?_⟩
  · rw [← hsd]
    exact ownsMap_exact ho'
  · by_cases hx : x = s
    · subst hx
      rw [Maps.has_del_same]
      simp
    · rw [Maps.has_del_other (fun e => hx (keyLit_inj e)), hh x]
      simp [hx]
  · by_cases hxs : x = s
    · subst hxs
      simp at hx
    · have hx : M x = some y := by simpa [hxs] using hx
      rw [Maps.atKey_del_other (fun e => hxs (keyLit_inj e)), ha x y hx z]
  · obtain ⟨es, clock, es', clock', _, rfl⟩ := hturn
    simp [ChangeMaps.setBlock]
omit hk ht
/-- A range over the map under way: what is left of it. -/
def Going (P : Program) (k : TypeId) (w : World) (b r n : Nat) (M : Int → Option Value) (left : Int → Bool) (cnt : Nat) : Prop :=
  ∃ (D : DataW Value) (lf : Lit → Bool), w.ranges P k selfElem b r n D lf cnt ∧ Maps.size D = n ∧ (∀ s, Maps.has D (keyLit s) = (M s).isSome) ∧ (∀ s v, M s = some v → ∀ z, D.atKey (keyLit s) z = .held v) ∧ ∀ s, lf (keyLit s) = left s
theorem Going.map {r cnt : Nat} {left : Int → Bool} (h : Going P k w b r n M left cnt) : MapIs P k w b n M := by
  obtain ⟨D, lf, h, h1, h2, h3, _⟩ := h
  exact ⟨D, h.owns, h1, h2, h3⟩
theorem Going.left_eq {r cnt : Nat} {left : Int → Bool} (h : Going P k w b r n M left cnt) : w.rangeLeft b r = cnt := by
  obtain ⟨D, lf, h, _⟩ := h
  exact h.left_eq
theorem Going.lt {r cnt : Nat} {left : Int → Bool} (h : Going P k w b r n M left cnt) : r < w.heap.size ∧ r ≠ b := by
  obtain ⟨D, lf, h, _⟩ := h
  exact ⟨h.lt, h.ne⟩
theorem Going.of_blocks {w' : World} {r cnt : Nat} {left : Int → Bool} (h : Going P k w b r n M left cnt) (hb : w'.heap[b]? = w.heap[b]?) (hr : w'.heap[r]? = w.heap[r]?) : Going P k w' b r n M left cnt := by
  obtain ⟨D, lf, ⟨es, clock, since, seen, c0, h1, h2, h3, h4, h5, h6⟩, h7⟩ := h
  exact ⟨D, lf, ⟨es, clock, since, seen, c0, hb.trans h1, h2, h3, h4, hr.trans h5, h6⟩, h7⟩
theorem Going.iter {r cnt : Nat} {left : Int → Bool} (h : Going P k w b r n M left cnt) : ∃ a s c d, w.heap[r]? = some (.mapIter a s c d) := by
  obtain ⟨D, lf, ⟨es, clock, since, seen, c0, h1, h2, h3, h4, h5, h6⟩, h7⟩ := h
  exact ⟨_, _, _, _, h5⟩
include hk ht
theorem MapIs.range (h : MapIs P k w b n M) :
    ∃ w', (Instr.range t (.map (some b))).run P w = .ok (.pointer (some ⟨w.heap.size, 0, none⟩)) w' ∧ Going P k w' b w.heap.size n M (fun s => (M s).isSome) n ∧ w.grownBy w' none ∧ w'.heap.size = w.heap.size + 1 := by
  obtain ⟨D, ho, hsz, hh, ha⟩ := h
  obtain ⟨w', hrun, hr, hg, hs⟩ := ho.range (Maps.int_keyed hk) ht
  exact ⟨w', hrun, ⟨D, _, hsz ▸ hr, hsz, hh, ha, hh⟩, hg, hs⟩
omit ht
theorem Going.next {r cnt : Nat} {left : Int → Bool} (h : Going P k w b r n M left cnt) (ty : TypeId) :
    (cnt = 0 ∧ (∀ s, left s = false) ∧ (Instr.next (.pointer (some ⟨r, 0, none⟩)) false ty).run P w = .ok (.tuple #[.bool false]) w) ∨
    ∃ (s : Int) (v : Value) (w' : World) (cnt' : Nat), I64 s ∧ left s = true ∧ M s = some v ∧ (Instr.next (.pointer (some ⟨r, 0, none⟩)) false ty).run P w = .ok (.tuple #[.bool true, .int .i64 s, v]) w' ∧
      Going P k w' b r n M (fun x => left x && !decide (x = s)) cnt' ∧ cnt' < cnt ∧ w.grownBy w' (some r) ∧ w'.heap.size = w.heap.size ∧ (Instr.entry (.pointer (some ⟨r, 0, none⟩))).run P w' = .ok (.tuple #[.int .i64 s, v]) w' := by
  obtain ⟨D, lf, hr, hsz, hh, ha, hl⟩ := h
  rcases hr.next (Maps.int_keyed hk) ty with ⟨h0, h1, h2⟩ | ⟨key, v, kl, y, w', cnt', hkey, hlk, hv, hat, hrun, hr', hlt, hgr, hs, hen⟩
  · exact .inl ⟨h0, fun s => (hl s).symm.trans (h1 _), h2⟩
  · obtain ⟨s, rfl, rfl, hle⟩ := keyOf_inv hk hkey
    have hy : y = (.held v, []) := (Option.some.inj hv).symm
    subst hy
    have hM : M s = some v := by
      have h1 := Maps.has_true_of_atKey hat
      rw [hh s] at h1
      obtain ⟨x, hx⟩ := Option.isSome_iff_exists.1 h1
      have h2 := ha s x hx .nil
      rw [hat .nil] at h2
      cases h2
      exact hx
    refine .inr ⟨s, v, w', cnt', hle, (hl s).symm.trans hlk, hM, hrun, ⟨D, _, hr', hsz, hh, ha, fun x => ?_⟩, hlt, hgr, hs, hen⟩
    simp only [hl x, keyLit_same]
end
/-! the operations, for a walk -/
section
variable {P : Program} {ops : Array Oper} {rest : List Oper} {o : Oper} {a : Act} {Q : Exit → Act → World → Prop}
/-- delete(m, s): (at_delete; refine wpList_delete_int _ rfl _ _ T K rfl E hk ht B n M rfl hM s rfl hs ?_; intro w1 hM1 hg1 hs1) -/
theorem wpList_delete_int (w : World) (hg : o.guard = none) (m x : Operand) (t k : TypeId) (hop : o.op = Op.call { callee := Callee.builtin Builtin.delete, args := #[m, x], argTypes := #[t, k] })
    (e : TypeId) (hk : P.underlying k = some (.int .i64)) (ht : P.underlying t = some (.map k e)) (b n : Nat) (M : Int → Option Value) (hm : a.eval m = .map (some b)) (h : MapIs P k w b n M) (s : Int) (hx : a.eval x = .int .i64 s) (hs : I64 s)
    (hK : ∀ w', MapIs P k w' b (n - if (M s).isSome then 1 else 0) (fun x => if x = s then none else M x) → w.grownBy w' (some b) → w'.heap.size = w.heap.size → wpList P ops Q rest (a.put o.dst (.tuple #[])) w') :
    wpList P ops Q (o :: rest) a w := by
  refine wpList_plain hg fun K' hK' => ?_
  obtain ⟨w', hrun, r1, r2, r3⟩ := h.drop hk ht hs o.type
  unfold Oper.wp
  simp [execOp, hop, resolve, invoke, builtin, hm, hx, hrun, Result.andThen]
  exact hK' _ _ (hK w' r1 r2 r3)
/-- m[s] = v: (at_mapUpdate; refine wpList_store_int _ rfl _ _ _ T rfl K E hk ht B n M rfl hM hn s rfl hs V rfl ?_; intro w1 hM1 hg1 hs1) -/
theorem wpList_store_int (w : World) (hg : o.guard = none) (m x v : Operand) (t : TypeId) (hop : o.op = Op.mapUpdate t m x v)
    (k e : TypeId) (hk : P.underlying k = some (.int .i64)) (ht : P.underlying t = some (.map k e)) (b n : Nat) (M : Int → Option Value) (hm : a.eval m = .map (some b)) (h : MapIs P k w b n M) (hn : n < maxLen) (s : Int) (hx : a.eval x = .int .i64 s) (hs : I64 s) (val : Value) (hv : a.eval v = val)
    (hK : ∀ w', MapIs P k w' b (if (M s).isSome then n else n + 1) (fun x => if x = s then some val else M x) → w.grownBy w' (some b) → w'.heap.size = w.heap.size → wpList P ops Q rest (a.put o.dst undef) w') :
    wpList P ops Q (o :: rest) a w := by
  refine wpList_plain hg fun K' hK' => ?_
  obtain ⟨w', hrun, r1, r2, r3⟩ := h.store hk ht hn hs val
  unfold Oper.wp
  simp [execOp, hop, hm, hx, hv, hrun, Result.andThen]
  exact hK' _ _ (hK w' r1 r2 r3)
/-- range m: (at_range; refine wpList_range_int _ rfl _ T rfl K E hk ht B n M rfl hM ?_; intro w1 hG1 hg1 hs1); go_frame -/
theorem wpList_range_int (w : World) (hg : o.guard = none) (m : Operand) (t : TypeId) (hop : o.op = Op.range t m)
    (k e : TypeId) (hk : P.underlying k = some (.int .i64)) (ht : P.underlying t = some (.map k e)) (b n : Nat) (M : Int → Option Value) (hm : a.eval m = .map (some b)) (h : MapIs P k w b n M)
    (hK : ∀ w', Going P k w' b w.heap.size n M (fun s => (M s).isSome) n → w.grownBy w' none → w'.heap.size = w.heap.size + 1 → wpList P ops Q rest (a.put o.dst (.pointer (some ⟨w.heap.size, 0, none⟩))) w') :
    wpList P ops Q (o :: rest) a w := by
  refine wpList_plain hg fun K' hK' => ?_
  obtain ⟨w', hrun, r1, r2, r3⟩ := h.range hk ht
  unfold Oper.wp
  simp [execOp, hop, hm, hrun, Result.andThen]
  exact hK' _ _ (hK w' r1 r2 r3)
/-- THE STEP: (at_next; refine wpList_next_int _ rfl _ rfl K hk B R n M left cnt rfl hG ?_ ?_): it leaves two goals: intro hc hl; intro s v w1 cnt1 hs hlk hM hG1 hlt hg1 hs1 hen -/
theorem wpList_next_int (w : World) (hg : o.guard = none) (it : Operand) (hop : o.op = Op.next it false) (k : TypeId) (hk : P.underlying k = some (.int .i64)) (b r n : Nat) (M : Int → Option Value) (left : Int → Bool) (cnt : Nat)
    (hit : a.eval it = .pointer (some ⟨r, 0, none⟩)) (h : Going P k w b r n M left cnt)
    (hDone : cnt = 0 → (∀ s, left s = false) → wpList P ops Q rest (a.put o.dst (.tuple #[.bool false])) w)
    (hMore : ∀ (s : Int) (v : Value) (w' : World) (cnt' : Nat), I64 s → left s = true → M s = some v → Going P k w' b r n M (fun x => left x && !decide (x = s)) cnt' → cnt' < cnt → w.grownBy w' (some r) → w'.heap.size = w.heap.size →
      (Instr.entry (.pointer (some ⟨r, 0, none⟩))).run P w' = .ok (.tuple #[.int .i64 s, v]) w' → wpList P ops Q rest (a.put o.dst (.tuple #[.bool true, .int .i64 s, v])) w') :
    wpList P ops Q (o :: rest) a w := by
  refine wpList_plain hg fun K' hK' => ?_
  unfold Oper.wp
  rcases h.next hk o.type with ⟨h0, hl, hrun⟩ | ⟨s, v, w', cnt', hs, hlk, hM, hrun, hG, hlt, hgr, hsz, hen⟩
  · simp [execOp, hop, hit, hrun, Result.andThen]
    exact hK' _ _ (hDone h0 hl)
  · simp [execOp, hop, hit, hrun, Result.andThen]
    exact hK' _ _ (hMore s v w' cnt' hs hlk hM hG hlt hgr hsz hen)
end
end Go.Proofs.Ytbhhofeflajpoaa.Ints
