/- Step by step: what comes of a type; what lies there beside the rows that are filled. The document's up. The document's Time. -/
import Derived.Test.YtohlkaoophbinaaZBomB
import Derived.Test.YtohlkaoophbinaaZBomMath
import Derived.Test.YtohlkaoophbinaaZCatMath
namespace Go.Proofs.Ytohlkaoophbinaa.Bom
open Go.RowKit Go.Lib IRows
open Goods (St Sts OwnS cnt)
open Cat (Cat PB CM CatAt Lim pOf)
open Recipe (needsE needsL needL up nd)

theorem rn_snoc {bs : List PB} {lv : Int} {hv : List St} : ∀ {l : List Int} {s S : Sx} (t : Int), rn bs lv hv l s = some S → rn bs lv hv (l ++ [t]) s = stp bs lv hv t S
  | [], s, S, t, h => by
    injection h with h
    subst h
    show (match stp bs lv hv t s with
      | none => none
      | some s' => rn bs lv hv [] s') = _
    cases stp bs lv hv t s <;> rfl
  | x :: l, s, S, t, h => by
    unfold rn at h
    show (match stp bs lv hv x s with
      | none => none
      | some s' => rn bs lv hv (l ++ [t]) s') = _
    cases hs : stp bs lv hv x s with
    | none => rw [hs] at h; cases h
    | some s1 =>
      rw [hs] at h
      exact rn_snoc t h
theorem rn_fail {bs : List PB} {lv : Int} {hv : List St} : ∀ {l : List Int} {s S : Sx} {t : Int} (post : List Int), rn bs lv hv l s = some S → stp bs lv hv t S = none → rn bs lv hv (l ++ t :: post) s = none
  | [], s, S, t, post, h, h2 => by
    injection h with h
    subst h
    show (match stp bs lv hv t s with
      | none => none
      | some s' => rn bs lv hv post s') = none
    rw [h2]
  | x :: l, s, S, t, post, h, h2 => by
    unfold rn at h
    show (match stp bs lv hv x s with
      | none => none
      | some s' => rn bs lv hv (l ++ t :: post) s') = none
    cases hs : stp bs lv hv x s with
    | none => rfl
    | some s1 =>
      rw [hs] at h
      exact rn_fail post h h2
theorem stp_zero {bs : List PB} {lv : Int} {hv : List St} {t : Int} {S : Sx} (h : mo hv t S = 0) : stp bs lv hv t S = some S := by
  unfold stp
  rw [if_pos h]
theorem stp_raw {bs : List PB} {lv : Int} {hv : List St} {t : Int} {S : Sx} (h : mo hv t S ≠ 0) (hf : fm t bs = none) : stp bs lv hv t S = some ⟨S.w, S.rs, S.raw ++ [⟨t, mo hv t S⟩], S.left⟩ := by
  unfold stp
  rw [if_neg h, hf]
theorem stp_made {bs : List PB} {lv : Int} {hv : List St} {t : Int} {S : Sx} {i : Nat} {b : PB} (h : mo hv t S ≠ 0) (hf : fm t bs = some (i, b)) : stp bs lv hv t S = made bs lv (mo hv t S) t i b S := by
  unfold stp
  rw [if_neg h, hf]
theorem made_runs {bs : List PB} {lv m t : Int} {i : Nat} {b : PB} {S : Sx} (h : 1000 < up m b.per) : made bs lv m t i b S = none := by
  unfold made
  rw [if_pos h]
theorem made_needs {bs : List PB} {lv m t : Int} {i : Nat} {b : PB} {S : Sx} (h : needsE b.b lv (up m b.per) ≠ 0) : made bs lv m t i b S = none := by
  unfold made
  split
  · rfl
  · first
      | rfl
      | rw [if_neg h]
theorem made_over {bs : List PB} {lv m t : Int} {i : Nat} {b : PB} {S : Sx} (h : addW S.w (needL b.s lv (up m b.per)) = none) : made bs lv m t i b S = none := by
  unfold made
  split
  · rfl
  · split
    · rw [h]
    · rfl
theorem made_fine {bs : List PB} {lv m t : Int} {i : Nat} {b : PB} {S : Sx} {w' : Int → Int} (h : ¬ 1000 < up m b.per) (h2 : needsE b.b lv (up m b.per) = 0) (h3 : addW S.w (needL b.s lv (up m b.per)) = some w') : made bs lv m t i b S = some ⟨w', S.rs.set i (up m b.per), S.raw, if 0 < up m b.per * b.per - m then S.left ++ [⟨t, up m b.per * b.per - m⟩] else S.left⟩ := by
  unfold made
  rw [if_neg h, if_pos h2, h3]
theorem addW_snoc : ∀ {l : List St} {w f : Int → Int} (s : St), addW w l = some f → addW w (l ++ [s]) = if Recipe.mq - f s.kind < s.qty then none else some (upd f s.kind (f s.kind + s.qty))
  | [], w, f, s, h => by
    injection h with h
    subst h
    rfl
  | x :: l, w, f, s, h => by
    unfold addW at h
    show (if Recipe.mq - w x.kind < x.qty then none else addW (upd w x.kind (w x.kind + x.qty)) (l ++ [s])) = _
    split at h
    · cases h
    · rename_i hq
      rw [if_neg hq]
      exact addW_snoc s h
theorem addW_fail : ∀ {l k : List St} {w : Int → Int}, addW w l = none → addW w (l ++ k) = none
  | [], k, w, h => by cases h
  | x :: l, k, w, h => by
    unfold addW at h
    show (if Recipe.mq - w x.kind < x.qty then none else addW (upd w x.kind (w x.kind + x.qty)) (l ++ k)) = none
    split at h
    · rename_i hq
      rw [if_pos hq]
    · rename_i hq
      rw [if_neg hq]
      exact addW_fail h
theorem take_snoc {α : Type} {l : List α} {i : Nat} {x : α} (h : l[i]? = some x) : l.take (i + 1) = l.take i ++ [x] := by
  rw [List.take_add_one, h]
  rfl
theorem take_split {α : Type} {l : List α} {i : Nat} {x : α} (h : l[i]? = some x) : l = l.take i ++ x :: l.drop (i + 1) := by
  obtain ⟨hi, e⟩ := List.getElem?_eq_some_iff.1 h
  conv => lhs; rw [← List.take_append_drop i l, List.drop_eq_getElem_cons hi, e]
theorem exp_none {C : Cat} {kind n lv : Int} {hv : List St} (h : mayE C kind lv hv = 0) (hn : 1 ≤ n ∧ n ≤ Recipe.mq) (hr : runE C kind n lv hv = none) : expE C kind n lv hv = 5 := by
  unfold expE
  rw [if_pos h, if_pos hn, hr]
theorem exp_some {C : Cat} {kind n lv : Int} {hv : List St} {S : Sx} (h : mayE C kind lv hv = 0) (hn : 1 ≤ n ∧ n ≤ Recipe.mq) (hr : runE C kind n lv hv = some S) : expE C kind n lv hv = 0 := by
  unfold expE
  rw [if_pos h, if_pos hn, hr]
/-- What is told. -/
noncomputable def bill (C : Cat) (kind n lv : Int) (hv : List St) : Sx := if expE C kind n lv hv = 0 then (match runE C kind n lv hv with
  | none => ⟨fun _ => 0, [], [], []⟩
  | some S => ⟨S.w, S.rs, Goods.valN S.raw, Goods.valN S.left⟩) else ⟨fun _ => 0, [], [], []⟩
theorem bill_not {C : Cat} {kind n lv : Int} {hv : List St} (h : expE C kind n lv hv ≠ 0) : bill C kind n lv hv = ⟨fun _ => 0, [], [], []⟩ := by
  unfold bill
  rw [if_neg h]
theorem bill_some {C : Cat} {kind n lv : Int} {hv : List St} {S : Sx} (h : mayE C kind lv hv = 0) (hn : 1 ≤ n ∧ n ≤ Recipe.mq) (hr : runE C kind n lv hv = some S) : bill C kind n lv hv = ⟨S.w, S.rs, Goods.valN S.raw, Goods.valN S.left⟩ := by
  unfold bill
  rw [if_pos (exp_some h hn hr), hr]
theorem cnt_listed {l : List St} {ty : Int} (h : Goods.Listed l ty) (k : Int) : cnt (Goods.valN l) k = cnt l k := by
  rw [Goods.valN_ok h.2.1, h.2.2.1]
theorem qty_listed {l : List St} {ty : Int} (h : Goods.Listed l ty) : ∀ s ∈ l, 0 ≤ s.qty := fun s hs => ((Goods.errN_zero h.2.1).1 s hs).2
theorem kind_listed {l : List St} {ty : Int} (h : Goods.Listed l ty) : ∀ s ∈ l, 1 ≤ s.kind ∧ s.kind ≤ ty := fun s hs => ⟨((Goods.errN_zero h.2.1).1 s hs).1, h.2.2.2 s hs⟩
theorem blok_32 {b : Recipe.Bl} {ty : Int} (h : Recipe.BlOk b ty) : Recipe.BlOk b 32 := by
  obtain ⟨h1, h2, h3, h4, h5, h6, h7, h8, h9⟩ := h
  exact ⟨by omega, by omega, h3, h4, h5, h6, h7, ⟨h8.1, h8.2.1, h8.2.2.1, fun s hs => by have := h8.2.2.2 s hs; omega⟩, h9⟩
theorem needs_5 {b : Recipe.Bl} {lv r : Int} (h : Recipe.BlOk b 32) (h1 : 0 ≤ lv ∧ lv ≤ 10) (h2 : 1 ≤ r ∧ r ≤ 1000) (h3 : needsE b lv r ≠ 0) : needsE b lv r = 5 := by
  by_cases hq : ∀ t ∈ b.s, nd t.qty lv r ≤ Recipe.mq
  · exact absurd (Recipe.needsE_ok h ⟨h1, h2⟩ hq).1 h3
  · exact (Recipe.needsE_over h ⟨h1, h2⟩ hq).1
theorem same_lt {W W' : World} {U : Nat} (h : W.heap[U]? = W'.heap[U]?) (hU : U < W'.heap.size) : U < W.heap.size := by
  rw [Array.getElem?_eq_getElem hU] at h
  exact (Array.getElem?_eq_some_iff.1 h).1
/-- .. and that nothing else has turned. -/
structure Ey (W X Y : World) (N bn A G O B : Nat) (f : Int → Int) (rs : List Int) (v1 : Value) (raw : List St) (v2 : Value) (left : List St) : Prop where
  ex : Ex W X N bn A G O B f rs v1 raw v2 left
  mid : ∀ b, O < b → b < B → W.heap[b]? = Y.heap[b]?
theorem Ey.under {W W' X Y : World} {N bn A G O B : Nat} {f : Int → Int} {rs : List Int} {v1 v2 : Value} {raw left : List St} (h : Ey W X Y N bn A G O B f rs v1 raw v2 left) (hb : Below W.heap.size W W') : Ey W' X Y N bn A G O B f rs v1 raw v2 left :=
  ⟨h.ex.under hb, fun b h1 h2 => (hb.block b (Nat.lt_of_lt_of_le h2 h.ex.size)).trans (h.mid b h1 h2)⟩
theorem Ey.setW {W X Y : World} {N bn A G O B : Nat} {f : Int → Int} {rs : List Int} {v1 v2 : Value} {raw left : List St} (h : Ey W X Y N bn A G O B f rs v1 raw v2 left) (k : Nat) (hk : k ≤ N) (v : Int) : Ey (W.setCell ⟨A, k, none⟩ (.int .i64 v)) X Y N bn A G O B (upd f (k : Int) v) rs v1 raw v2 left :=
  ⟨h.ex.setW k hk v, fun b h1 h2 => (heap_setCell_other W ⟨A, k, none⟩ b _ (by have := h.ex.ag; have := h.ex.go; show b ≠ A; omega)).trans (h.mid b h1 h2)⟩
theorem Ey.setR {W X Y : World} {N bn A G O B : Nat} {f : Int → Int} {rs : List Int} {v1 v2 : Value} {raw left : List St} (h : Ey W X Y N bn A G O B f rs v1 raw v2 left) (k : Nat) (hk : k < bn) (v : Int) : Ey (W.setCell ⟨G, k, none⟩ (.int .i64 v)) X Y N bn A G O B f (rs.set k v) v1 raw v2 left :=
  ⟨h.ex.setR k hk v, fun b h1 h2 => (heap_setCell_other W ⟨G, k, none⟩ b _ (by have := h.ex.go; show b ≠ G; omega)).trans (h.mid b h1 h2)⟩
theorem Ey.app1 {W X Y : World} {N bn A G O B : Nat} {f : Int → Int} {rs : List Int} {a : Option Addr} {m c : Nat} {v2 : Value} {raw left : List St} (h : Ey W X Y N bn A G O B f rs (.slice a m c) raw v2 left) (t : St) (hm : m ≤ 1048576) :
    ∃ a' c' W', Hid ((Builtin.append_ #[30, 30] 30 #[.slice a m c, .slice (some ⟨W.heap.size, 0, none⟩) 1 1]).run Try.prog (W.alloc (.cells #[.int .i64 t.kind, .int .i64 t.qty] 51)) = .ok (.slice a' (m + 1) c') W') ∧ Ey W' X Y N bn A G O B f rs (.slice a' (m + 1) c') (raw ++ [t]) v2 left := by
  obtain ⟨a', c', W', hr, h1, h2⟩ := h.ex.app1 t hm
  exact ⟨a', c', W', hr, h1, fun b b1 b2 => (h2.block b b2).trans (h.mid b b1 b2)⟩
theorem Ey.app2 {W X Y : World} {N bn A G O B : Nat} {f : Int → Int} {rs : List Int} {a : Option Addr} {m c : Nat} {v1 : Value} {raw left : List St} (h : Ey W X Y N bn A G O B f rs v1 raw (.slice a m c) left) (t : St) (hm : m ≤ 1048576) :
    ∃ a' c' W', Hid ((Builtin.append_ #[30, 30] 30 #[.slice a m c, .slice (some ⟨W.heap.size, 0, none⟩) 1 1]).run Try.prog (W.alloc (.cells #[.int .i64 t.kind, .int .i64 t.qty] 51)) = .ok (.slice a' (m + 1) c') W') ∧ Ey W' X Y N bn A G O B f rs v1 raw (.slice a' (m + 1) c') (left ++ [t]) := by
  obtain ⟨a', c', W', hr, h1, h2⟩ := h.ex.app2 t hm
  exact ⟨a', c', W', hr, h1, fun b b1 b2 => (h2.block b b2).trans (h.mid b b1 b2)⟩
/-- What is told, as it lies at the end. -/
theorem bill_at {W X Y : World} {N bn A G O B R : Nat} {f : Int → Int} {rs : List Int} {v1 v2 : Value} {raw left l3 l4 : List St} {a3 a4 : Option Addr} {m3 c3 m4 c4 : Nat} (h : Ey W X Y N bn A G O B f rs v1 raw v2 left) (hR : R < X.heap.size) (ha : OwnS W B (.slice a3 m3 c3) l3) (hb : OwnS W B (.slice a4 m4 c4) l4) (h3 : m3 ≤ 1048576) (h4 : m4 ≤ 1048576) (hbn : bn ≤ 1048576) (p q x y z : Value) :
    BomAt (((((W.setCell ⟨O, 0, none⟩ p).setCell ⟨O, 2, none⟩ q).setCell ⟨R, 0, none⟩ x).setCell ⟨R, 1, none⟩ y).setCell ⟨R, 2, none⟩ z) ⟨a3, m3, c3, l3, some ⟨G, 0, none⟩, bn, bn, rs, a4, m4, c4, l4⟩ := by
  have s1 := h.ex.size; have s2 := h.ex.ob; have s3 := h.ex.go; have s4 := h.ex.ag; have s5 := h.ex.lo
  have hq : ∀ b, b ≠ O → b ≠ R → (((((W.setCell ⟨O, 0, none⟩ p).setCell ⟨O, 2, none⟩ q).setCell ⟨R, 0, none⟩ x).setCell ⟨R, 1, none⟩ y).setCell ⟨R, 2, none⟩ z).heap[b]? = W.heap[b]? := fun b h1 h2 => by
    rw [heap_setCell_other _ ⟨R, 2, none⟩ b _ h2, heap_setCell_other _ ⟨R, 1, none⟩ b _ h2, heap_setCell_other _ ⟨R, 0, none⟩ b _ h2, heap_setCell_other _ ⟨O, 2, none⟩ b _ h1, heap_setCell_other _ ⟨O, 0, none⟩ b _ h1]
  have e3 := Goods.own_same ha fun b hb => hq b (by have := (ha.lt b hb).1; omega) (by have := (ha.lt b hb).1; omega)
  have e4 := Goods.own_same hb fun b hb2 => hq b (by have := (hb.lt b hb2).1; omega) (by have := (hb.lt b hb2).1; omega)
  obtain ⟨a3', c3', q3, t3⟩ := Goods.sts_own e3
  obtain ⟨a4', c4', q4, t4⟩ := Goods.sts_own e4
  injection q3 with q31 q32 _
  injection q4 with q41 q42 _
  subst q31 q41
  refine ⟨⟨q32.symm, t3, h3⟩, ⟨h.ex.len, fun i r hi => ?_, hbn⟩, q42.symm, t4, h4⟩
  refine ⟨G, 0, rfl, ?_, ?_⟩
  · simp
    omega
  · rw [Nat.zero_add]
    have hG := hq G (by omega) (by omega)
    have hc := (h.ex.runs i r hi).1
    unfold World.cell? at hc ⊢
    simp only [hG]
    exact hc
/-- The three blocks, as they are laid. -/
theorem lay3 (w1 X : World) (N bn k : Nat) (n : Int) (hX : Below X.heap.size X w1) (hk : k ≤ N) :
    ∃ A W2 W3 G W4 O W5, w1.heap.size = A ∧ w1.alloc (.cells (madeCells #[(Value.int .i64 0)] (N + 1)) 3) = W2 ∧ (W2.cell? ⟨A, k, none⟩ = some (.int .i64 0) ∧ W2.frozen? ⟨A, k, none⟩ = false) ∧ W2.setCell ⟨A, k, none⟩ (.int .i64 n) = W3 ∧ W3.heap.size = G ∧ W3.alloc (.cells (madeCells #[(Value.int .i64 0)] bn) 3) = W4 ∧ W4.heap.size = O ∧ W4.alloc (.cells #[.slice none 0 0, .slice (some ⟨G, 0, none⟩) bn bn, .slice none 0 0] 35) = W5 ∧
      Hid (Below X.heap.size X W2 ∧ Below X.heap.size X W3 ∧ Below X.heap.size X W4 ∧ Below X.heap.size X W5) ∧
      Hid (O < W5.heap.size ∧ ∀ Y, Below W5.heap.size W5 Y → Ex Y X N bn A G O Y.heap.size (upd (fun _ => 0) (k : Int) n) (List.replicate bn 0) (.slice none 0 0) [] (.slice none 0 0) []) := by
  have h2 := heap_alloc_new w1 (.cells (madeCells #[(Value.int .i64 0)] (N + 1)) 3)
  have hm : ∀ (m i : Nat), i < m → (madeCells #[(Value.int .i64 0)] m)[i]? = some (.int .i64 0) := fun m i h => by simp [madeCells, h, Nat.mod_one]
  generalize hW2 : w1.alloc (.cells (madeCells #[(Value.int .i64 0)] (N + 1)) 3) = W2 at h2
  have s2 : W2.heap.size = w1.heap.size + 1 := by rw [← hW2]; simp
  have b2 : Below w1.heap.size w1 W2 := by rw [← hW2]; exact (Below.refl _ w1).alloc (Nat.le_refl _) _
  have c2 : ∀ i, i ≤ N → W2.cell? ⟨w1.heap.size, i, none⟩ = some (.int .i64 0) ∧ W2.frozen? ⟨w1.heap.size, i, none⟩ = false := fun i hi => ⟨cell_block h2 (hm _ i (by omega)), free_block i h2⟩
  generalize hW3 : W2.setCell ⟨w1.heap.size, k, none⟩ (.int .i64 n) = W3
  have s3 : W3.heap.size = w1.heap.size + 1 := by rw [← hW3]; simp [s2]
  have b3 : Below w1.heap.size w1 W3 := by rw [← hW3]; exact b2.setCell (p := ⟨w1.heap.size, k, none⟩) (Nat.le_refl _) _
  have c3 : ∀ i : Nat, i ≤ N → W3.cell? ⟨w1.heap.size, i, none⟩ = some (.int .i64 (upd (fun _ => 0) (k : Int) n (i : Int))) ∧ W3.frozen? ⟨w1.heap.size, i, none⟩ = false := fun i hi => by
    rw [← hW3, World.frozen?_setCell]
    refine ⟨?_, (c2 i hi).2⟩
    by_cases e : i = k
    · subst e
      rw [upd_same, World.cell?_setCell_same (h := (c2 i hi).1)]
    · rw [upd_other _ _ (by omega), World.cell?_setCell_other (h := addr_ne (.inr fun x => e x.symm))]
      exact (c2 i hi).1
  have h4 := heap_alloc_new W3 (.cells (madeCells #[(Value.int .i64 0)] bn) 3)
  generalize hW4 : W3.alloc (.cells (madeCells #[(Value.int .i64 0)] bn) 3) = W4 at h4
  have s4 : W4.heap.size = w1.heap.size + 2 := by rw [← hW4]; simp [s3]
  have b34 : Below W3.heap.size W3 W4 := by rw [← hW4]; exact (Below.refl _ W3).alloc (Nat.le_refl _) _
  have c4 : ∀ i, i < bn → W4.cell? ⟨W3.heap.size, i, none⟩ = some (.int .i64 0) ∧ W4.frozen? ⟨W3.heap.size, i, none⟩ = false := fun i hi => ⟨cell_block h4 (hm _ i hi), free_block i h4⟩
  have h5 := heap_alloc_new W4 (.cells #[.slice none 0 0, .slice (some ⟨W3.heap.size, 0, none⟩) bn bn, .slice none 0 0] 35)
  generalize hW5 : W4.alloc (.cells #[.slice none 0 0, .slice (some ⟨W3.heap.size, 0, none⟩) bn bn, .slice none 0 0] 35) = W5 at h5
  have s5 : W5.heap.size = w1.heap.size + 3 := by rw [← hW5]; simp [s4]
  have b45 : Below W4.heap.size W4 W5 := by rw [← hW5]; exact (Below.refl _ W4).alloc (Nat.le_refl _) _
  have x3 := below_then hX b3
  have x4 := below_then x3 b34
  have x5 := below_then x4 b45
  have hxs := hX.size
  refine ⟨w1.heap.size, W2, W3, W3.heap.size, W4, W4.heap.size, W5, rfl, rfl, c2 k hk, hW3, rfl, hW4, rfl, hW5, Lib.hid ⟨below_then hX b2, x3, x4, x5⟩, Lib.hid ⟨by omega, fun Y hY => ?_⟩⟩
  have b35 := below_then b34 b45
  have b3Y := below_then b35 hY
  have b4Y := below_then b45 hY
  have hys := hY.size
  obtain ⟨q3, z3⟩ := bcell b3Y
  obtain ⟨q4, z4⟩ := bcell b4Y
  obtain ⟨q5, z5⟩ := bcell hY
  refine ⟨below_then x5 hY, hxs, by omega, by omega, by omega, Nat.le_refl _, fun i hi => ?_, List.length_replicate, fun i r hi => ?_, ⟨?_, ?_, ?_⟩, fun j => ?_, World.ownsRow_nil _ _ _ _, World.ownsRow_nil _ _ _ _, fun g e => (by cases e)⟩
  · rw [q3 _ i (by omega), z3 _ i (by omega)]
    exact c3 i hi
  · have hlt : i < bn := by have := (List.getElem?_eq_some_iff.1 hi).1; simpa using this
    have hr : r = 0 := List.eq_of_mem_replicate (List.mem_of_getElem? hi)
    subst hr
    rw [q4 _ i (by omega), z4 _ i (by omega)]
    exact c4 i hlt
  · rw [q5 _ 0 (by omega)]
    exact cell_block (j := 0) h5 rfl
  · rw [q5 _ 1 (by omega)]
    exact cell_block (j := 1) h5 rfl
  · rw [q5 _ 2 (by omega)]
    exact cell_block (j := 2) h5 rfl
  · rw [z5 _ j (by omega)]
    exact free_block j h5
end Go.Proofs.Ytohlkaoophbinaa.Bom
namespace Go.Proofs.Ytohlkaoophbinaa.Recipe
open Go.RowKit Go.Lib

theorem dup (n k : Int) (w : World) (n0 : 0 ≤ n) (n1 : n ≤ 2305843009213693952) (k0 : 1 ≤ k) (k1 : k ≤ 4611686018427387904) : Calls Try.prog 63 #[.int .i64 n, .int .i64 k] w fun e w' => e = .returned (.int .i64 (up n k)) ∧ w = w' := by
  have w1 : IntKind.i64.wrap (n + k) = n + k := IntWalk.i64_in _ (by omega)
  have w2 : IntKind.i64.wrap (n + k - 1) = n + k - 1 := IntWalk.i64_in _ (by omega)
  have c2 : ¬ k = 0 := by omega
  have c3 : (k == 0) = false := by simpa using c2
  obtain ⟨q, hq⟩ : ∃ q, up n k = q := ⟨_, rfl⟩
  have ht : (n + k - 1).tdiv k = q := by rw [← hq]; unfold up; exact Int.tdiv_eq_ediv_of_nonneg (by omega)
  have hq0 : 0 ≤ q := by rw [← hq]; exact up_nonneg n0 (by omega)
  have hq1 : q ≤ n := by rw [← hq]; exact up_le n0 (by omega)
  have w3 : IntKind.i64.wrap q = q := IntWalk.i64_in _ (by omega)
  rw [hq]
  clear hq
  go_enter Try.func63, Try.ntmps63
  go_wp2_with fail
  go_ret
  exact ⟨rfl, rfl⟩
end Go.Proofs.Ytohlkaoophbinaa.Recipe
namespace Go.Proofs.Ytohlkaoophbinaa.Recipe
open Go.RowKit Go.Lib
open Goods (St Sts OwnS)

set_option maxRecDepth 100000 in
set_option maxHeartbeats 8000000 in
theorem dtime (b : Bl) (lv r : Int) (w : World) (hb : BlIn w b) :
    Calls Try.prog 44 #[blV b, .int .i64 lv, .int .i64 r] w fun e w' => e = .returned (.tuple #[.int .i64 (timeV b lv r), .int .i64 (timeE b lv r)]) ∧ Below w.heap.size w w' := by
  obtain ⟨V, X, hV, hX, HXB, HP⟩ := box_blue w b
  obtain ⟨k0, k1, k2, k3, k4, k5, k6⟩ := HP.out X (Below.refl _ _)
  have HCK := check_at b X (hb.under HXB.out)
  have HNO : Hid (∀ W, Below X.heap.size X W → Below w.heap.size w W) := Lib.hid (fun W hW => below_then HXB.out hW)
  by_cases hok : BlOk b 32
  case neg =>
    obtain ⟨e1, e2⟩ := time_arg (b := b) (lv := lv) (r := r) (fun h => hok h.1)
    have HC := Lib.hid (HCK.out X 1 (Below.refl _ _) (chkB_no hok))
    rw [e1, e2]
    clear e1 e2 hok hb HCK
    go_enter Try.func44, Try.ntmps44
    go_wp2_with fail
    clear hX hV
    refine HC.out.mono ?_
    rintro e w1 ⟨rfl, H1⟩
    go_wp2_with fail
    go_ret2
    exact ⟨rfl, HNO.out _ H1.out⟩
  have HC := Lib.hid (HCK.out X 0 (Below.refl _ _) (chkB_yes hok))
  by_cases q0 : 0 ≤ lv ∧ lv ≤ 10
  case neg =>
    obtain ⟨e1, e2⟩ := time_arg (b := b) (lv := lv) (r := r) (fun h => q0 (h.2.1))
    have HN := Lib.hid (fun W => in_no (lv) (0) (10) W (by omega))
    rw [e1, e2]
    clear e1 e2 hok hb HCK
    go_enter Try.func44, Try.ntmps44
    go_wp2_with fail
    clear hX hV
    refine HC.out.mono ?_
    rintro e w1 ⟨rfl, H1⟩
    obtain ⟨y0, y1, y2, y3, y4, y5, y6⟩ := HP.out w1 H1.out
    clear k0 k1 k2 k3 k4 k5 k6
    go_wp2_with fail
    refine (HN.out _).mono ?_
    rintro e w' ⟨rfl, rfl⟩
    go_wp2_with fail
    go_ret2
    exact ⟨rfl, HNO.out _ H1.out⟩
  have HI0 := Lib.hid (fun W => in_yes (lv) (0) (10) W q0.1 q0.2)
  by_cases q1 : 1 ≤ r ∧ r ≤ 1000
  case neg =>
    obtain ⟨e1, e2⟩ := time_arg (b := b) (lv := lv) (r := r) (fun h => q1 (h.2.2))
    have HN := Lib.hid (fun W => in_no (r) (1) (1000) W (by omega))
    rw [e1, e2]
    clear e1 e2 hok hb HCK
    go_enter Try.func44, Try.ntmps44
    go_wp2_with fail
    clear hX hV
    refine HC.out.mono ?_
    rintro e w1 ⟨rfl, H1⟩
    obtain ⟨y0, y1, y2, y3, y4, y5, y6⟩ := HP.out w1 H1.out
    clear k0 k1 k2 k3 k4 k5 k6
    go_wp2_with fail
    refine (HI0.out _).mono ?_
    rintro e w' ⟨rfl, rfl⟩
    go_wp2_with fail
    refine (HN.out _).mono ?_
    rintro e w' ⟨rfl, rfl⟩
    go_wp2_with fail
    go_ret2
    exact ⟨rfl, HNO.out _ H1.out⟩
  have HI1 := Lib.hid (fun W => in_yes (r) (1) (1000) W q1.1 q1.2)
  obtain ⟨e1, e2⟩ := time_ok (b := b) (lv := lv) (r := r) hok ⟨q0, q1⟩
  rw [e1, e2]
  clear e1 e2
  have ht := hok.2.2.2.1
  obtain ⟨h1, h2, h3, h4⟩ := prod3 (a := b.tm) (b := r) (c := 100 - 2 * lv) (by omega) (by omega) (by omega) ht.2 q1.2 (show 100 - 2 * lv ≤ 100 by omega)
  have HU := Lib.hid (fun W => dup (b.tm * r * (100 - 2 * lv)) 100 W h3 (by omega) (by omega) (by omega))
  have w1 : IntKind.i64.wrap (b.tm * r) = b.tm * r := IntWalk.i64_in _ (by omega)
  have w2 : IntKind.i64.wrap (2 * lv) = 2 * lv := IntWalk.i64_in _ (by omega)
  have w3 : IntKind.i64.wrap (100 - 2 * lv) = 100 - 2 * lv := IntWalk.i64_in _ (by omega)
  have w4 : IntKind.i64.wrap (b.tm * r * (100 - 2 * lv)) = b.tm * r * (100 - 2 * lv) := IntWalk.i64_in _ (by omega)
  clear hok hb HCK h1 h2 h3 h4 ht
  go_enter Try.func44, Try.ntmps44
  go_wp2_with fail
  clear hX hV
  refine HC.out.mono ?_
  rintro e w1 ⟨rfl, H1⟩
  obtain ⟨y0, y1, y2, y3, y4, y5, y6⟩ := HP.out w1 H1.out
  clear k0 k1 k2 k3 k4 k5 k6
  go_wp2_with fail
  refine (HI0.out _).mono ?_
  rintro e w' ⟨rfl, rfl⟩
  go_wp2_with fail
  refine (HI1.out _).mono ?_
  rintro e w' ⟨rfl, rfl⟩
  go_wp2_with fail
  refine (HU.out _).mono ?_
  rintro e w' ⟨rfl, rfl⟩
  go_wp2_with fail
  go_ret2
  exact ⟨rfl, HNO.out _ H1.out⟩
end Go.Proofs.Ytohlkaoophbinaa.Recipe
