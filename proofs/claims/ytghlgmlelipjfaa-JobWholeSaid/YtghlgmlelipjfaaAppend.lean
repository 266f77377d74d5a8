/- Slices cut and appended, of whatever elements: their runs as equations, for a walk and for a drawn region. -/
import Derived.Test.YtghlgmlelipjfaaCommon
import Derived.Laws.Append
import Derived.Laws.AppendOwn
import Derived.Deep.AppendSrc
import Derived.Deep.Upon
import Derived.Deep.RegionLaw
namespace Go.Proofs.Ytghlgmlelipjfaa
open Go.RowKit Go.Lib

section
variable {P : Program} {ops : Array Oper} {rest : List Oper} {o : Oper} {a : Act} {w : World} {Q : Exit → Act → World → Prop}
/-- An append whose run is known, in a region that draws its order: go_region_law (refine step_run (by rfl) _ _ _ _ (by rfl) _ _ (by rfl) (by rfl) HR.out ?_) -/
theorem step_run {K : Act → World → Prop} {E : Prop} (hgd : o.guard = none) (s x : Operand) (t tx : TypeId)
    (ho : o.op = .call { callee := .builtin .append, args := #[s, x], argTypes := #[t, tx] }) (v u : Value) (hs : a.eval s = v) (hx : a.eval x = u) {v' : Value} {w' : World} (hr : (Builtin.append_ #[t, tx] o.type #[v, u]).run P w = .ok v' w')
    (h : K (a.put o.dst v') w') : if Region.wanted o (yielded ops a.tmps) = true then Oper.wp P o a w K Q else E := by
  have hw : Region.wanted o (yielded ops a.tmps) = true := by simp [Region.wanted, hgd]
  rw [if_pos hw]
  unfold Oper.wp execOp
  simp only [ho, resolve, invoke, builtin, Sem.run_bind, Sem.run_pure, Result.andThen_ok, List.map_toArray, List.map_cons, List.map_nil, hs, hx, hr]
  exact h
/-- .. in a walk: go_wp2_with (at_builtin; refine walk_run rfl _ _ _ _ rfl _ _ rfl rfl HR.out ?_) -/
theorem walk_run (hgd : o.guard = none) (s x : Operand) (t tx : TypeId)
    (ho : o.op = .call { callee := .builtin .append, args := #[s, x], argTypes := #[t, tx] }) (v u : Value) (hs : a.eval s = v) (hx : a.eval x = u) {v' : Value} {w' : World} (hr : (Builtin.append_ #[t, tx] o.type #[v, u]).run P w = .ok v' w')
    (h : wpList P ops Q rest (a.put o.dst v') w') : wpList P ops Q (o :: rest) a w := by
  refine wpList_plain hgd fun K hK => ?_
  unfold Oper.wp execOp
  simp only [ho, resolve, invoke, builtin, Sem.run_bind, Sem.run_pure, Result.andThen_ok, List.map_toArray, List.map_cons, List.map_nil, hs, hx, hr]
  exact hK _ _ h
end
section
variable {P : Program} {t e : TypeId} {i : TypeInfo}
/-- Where the elements of a slice lie, from the k-th on. -/
def atAddr (a : Option Addr) (size k c : Nat) : Option Addr := if c = k then a else a.map (·.add (k * size))
/-- x[:k] -/
theorem run_take (W : World) (he : P.elem t = e) (ht : P.underlying t = some (.slice (P.elem t))) (hi : P.info? e = some i) (a : Option Addr) (n c k : Nat) (ha : a = none ∨ ∃ g, a = some ⟨g, 0, none⟩) (hk : k ≤ c) :
    (Instr.slice t (.slice a n c) none (some (.int .i64 (k : Int))) none).run P W = .ok (.slice a k c) W := by
  rw [run_slice_h (P := P) W t a n c ht .i64 (k : Int) (by omega) (by omega), he]
  rcases ha with rfl | ⟨g, rfl⟩
  · simp [sizeOf, typeInfo, hi, sliced, Result.andThen]
  · simp [sizeOf, typeInfo, hi, sliced, Result.andThen, Addr.add]
/-- x[k:] -/
theorem run_rest (W : World) (he : P.elem t = e) (ht : P.underlying t = some (.slice (P.elem t))) (hi : P.info? e = some i) {size : Nat} (hs : i.size = size) (a : Option Addr) (n c k : Nat) (hk : k ≤ n) :
    (Instr.slice t (.slice a n c) (some (.int .i64 (k : Int))) none none).run P W = .ok (.slice (atAddr a size k c) (n - k) (c - k)) W := by
  rw [run_slice_l (P := P) W t a n c ht .i64 (k : Int) (by omega) (by omega), he]
  simp [sizeOf, typeInfo, hi, hs, sliced, atAddr, Result.andThen]
/-- append(v, x...): v a row of one's own; m elements lie where x says. -/
theorem app_any (w : World) (base : Nat) (ty : TypeId) (z : Value) (size bytes : Nat) (ht : P.underlying t = some (.slice e)) (hi : P.info? e = some i) (hz : i.zero = some z) (hsize : i.size = size) (hby : i.bytes = bytes) (hzs : z.cells.size = size) (hsz : 0 < size)
    (v : Value) (n : Nat) (xs : List Value) (hown : w.ownsRow base e size v n xs) (xa : Option Addr) (m xc : Nat) (news : List Value) (hl : news.length = m * size) (hnews : ∀ j u, news[j]? = some u → ∃ ad, xa = some ad ∧ w.cell? (ad.add j) = some u) (h1 : ∀ u ∈ news, u.oneCell' = true)
    (h63 : n + m ≤ maxLen) (hbytes : (n + m) * bytes ≤ 140737488355328) (hbase : base ≤ w.heap.size) :
    ∃ v' w', (Builtin.append_ #[t, t] ty #[v, .slice xa m xc]).run P w = .ok v' w' ∧ w'.ownsRow base e size v' (n + m) (xs ++ news) ∧ w.grownBy w' v.ownBlock := by
  cases xa with
  | some ad =>
    obtain ⟨v', w', hr, h2, h3, _⟩ := run_append_own (P := P) w base t ty e i z size bytes ht hi hz hsize hby hzs hsz v n xs hown ad m xc news hl (fun j u hj => by
      obtain ⟨ad', e1, h⟩ := hnews j u hj
      rw [Option.some.inj e1]
      exact h) h1 h63 hbytes hbase
    exact ⟨v', w', hr, h2, h3⟩
  | none =>
    have hn0 : news = [] := by
      cases news with
      | nil => rfl
      | cons u r =>
        obtain ⟨ad, e1, _⟩ := hnews 0 u rfl
        cases e1
    subst hn0
    have hm : m = 0 := by
      rcases Nat.eq_zero_or_pos m with h | h
      · exact h
      · have h2 : 0 < m * size := Nat.mul_pos h hsz
        simp at hl
        omega
    subst hm
    have hsl : ∃ va vc, v = .slice va n vc ∧ n ≤ vc := by
      rcases hown.2 with ⟨hv, h0⟩ | ⟨g, cap, cur, hv, _, _, hc, _⟩
      · exact ⟨none, 0, by rw [hv, h0], by omega⟩
      · exact ⟨_, _, hv, hc⟩
    obtain ⟨va, vc, rfl, hvc⟩ := hsl
    refine ⟨_, w, run_append_nothing w t t ty e i ht hi va n vc hvc _ ⟨.inl ⟨_, ht⟩, fun w' => by simp [Builtin.lenOf], ?_, ?_, by simp, by simp⟩, by simpa using hown, rfl, rfl, rfl, Nat.le_refl _, fun _ _ _ => rfl⟩
    · simp [Builtin.firstCells]
    · simp [Builtin.firstCells]
end
end Go.Proofs.Ytghlgmlelipjfaa
