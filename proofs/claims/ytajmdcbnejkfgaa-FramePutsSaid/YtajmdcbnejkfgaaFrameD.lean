/- Heads held against each other; a text's first bytes taken into a head; the record that a text begins with. -/
import Derived.Test.YtajmdcbnejkfgaaFrameC
import Derived.ChangeKeysEq
namespace Go.Proofs.Ytajmdcbnejkfgaa.Frame
open Go.RowKit Go.Lib

theorem cells_size (l : List UInt8) : (cellsOf l).size = l.length := by simp [cellsOf, byteCells]
theorem run_items (l m : List UInt8) (d : Nat) (w : World) : ∀ is : List Nat, (∀ i ∈ is, i < l.length ∧ i < m.length) →
    (Op.eqItems (d + 1) 5 1 (cellsOf l) (cellsOf m) is).run Try.prog w = .ok (is.all fun i => l.getD i 0 == m.getD i 0) w
  | [], _ => by simp [Op.eqItems]
  | i :: is, h => by
    have h1 := (h i (by simp)).1
    have h2 := (h i (by simp)).2
    have p1 := run_part_plain (P := Try.prog) (w := w) (e := 5) (by kernel_rfl) (xs := cellsOf l) (off := i) (v := .int .u8 (l[i].toNat : Int)) (by simp [cellsOf, byteCells, h1])
    have p2 := run_part_plain (P := Try.prog) (w := w) (e := 5) (by kernel_rfl) (xs := cellsOf m) (off := i) (v := .int .u8 (m[i].toNat : Int)) (by simp [cellsOf, byteCells, h2])
    have p3 := run_equalIn_int (P := Try.prog) w d 5 .u8 .u8 (l[i].toNat : Int) (m[i].toNat : Int) Try.underlying5
    have ih := run_items l m d w is (fun j hj => h j (by simp [hj]))
    have e1 : l.getD i 0 = l[i] := by simp [List.getD, h1]
    have e2 : m.getD i 0 = m[i] := by simp [List.getD, h2]
    simp only [Op.eqItems, Nat.mul_one, Sem.run_bind, p1, p2, p3, Result.andThen_ok, List.all_cons, e1, e2]
    by_cases hq : l[i] = m[i]
    · simp [hq, ih]
    · have : ¬ ((l[i].toNat : Int) = (m[i].toNat : Int)) := fun e => hq (UInt8.toNat_inj.1 (by omega))
      simp [hq, this]
theorem all_get (l m : List UInt8) (n : Nat) (hl : l.length = n) (hm : m.length = n) : ((List.range n).all fun i => l.getD i 0 == m.getD i 0) = decide (l = m) := by
  by_cases h : l = m
  · subst h
    simp
  · rw [decide_eq_false h]
    apply Bool.eq_false_iff.2
    intro hall
    apply h
    apply List.ext_getElem (by omega)
    intro i h1 h2
    have := (List.all_eq_true.1 hall) i (by simp; omega)
    simpa [List.getD, h1, h2] using this
theorem run_heads (l m : List UInt8) (hl : l.length = 8) (hm : m.length = 8) (w : World) :
    (Op.equalIn 10000 40 (.agg (cellsOf l)) (.agg (cellsOf m))).run Try.prog w = .ok (decide (l = m)) w := by
  obtain ⟨i, hi⟩ : ∃ i, Try.prog.info? 5 = some i := by
    cases h : Try.prog.info? 5 with
    | none => have := info_u8; rw [h] at this; cases this
    | some i => exact ⟨i, rfl⟩
  have hc : Try.prog.cellsOf 5 = 1 := by kernel_rfl
  rw [run_equalIn_array w 9999 _ _ Try.underlying40 hi, hc, run_items l m 9998 w (List.range 8) (fun i hi => by simp at hi; omega), all_get l m 8 hl hm]
/-- copy, from a text, to the eight bytes of a head. -/
theorem copy_head (W : World) (g : Nat) (l : List UInt8) (s : ByteArray) (T : TypeId) (hl : l.length = 8) (hg : W.heap[g]? = some (.cells (cellsOf l) T (0, 0))) :
    (Builtin.copy_ #[37, 9] 3 #[.slice (some ⟨g, 0, none⟩) 8 8, .string s]).run Try.prog W =
      .ok (goInt (min s.size 8 : Nat)) (W.setRow g (cellsOf (s.data.toList.take 8 ++ l.drop (min s.size 8)))) := by
  have hlen : (byteCells (s.data.toList.take 8)).length = min s.size 8 := by simp [byteCells]; rw [← size_list s, Array.length_toList]; omega
  have hst := run_storeCells_at Try.prog g 0 T (byteCells (s.data.toList.take 8)) 0 (cellsOf l) W hg (by rw [hlen, cells_size, hl]; omega) (fun v hv => by
    simp only [byteCells, List.mem_map] at hv
    obtain ⟨b, _, rfl⟩ := hv
    rfl)
  rw [hlen] at hst
  have hcs : (List.take (0 + 0) (cellsOf l).toList ++ byteCells (s.data.toList.take 8) ++ List.drop (0 + 0 + min s.size 8) (cellsOf l).toList).toArray = cellsOf (s.data.toList.take 8 ++ l.drop (min s.size 8)) := by
    simp [cellsOf, byteCells]
  rw [hcs] at hst
  have htk : List.take (min s.size 8) (List.map (fun b : UInt8 => Value.int IntKind.u8 (b.toNat : Int)) s.data.toList) = byteCells (s.data.toList.take 8) := by
    unfold byteCells
    rw [← List.map_take]
    congr 1
    apply List.take_eq_take_iff.2
    rw [size_list]
    omega
  cases hq : Try.prog.info? 5 with
  | none => have := info_u8; rw [hq] at this; cases this
  | some i =>
    simp [Builtin.copy_, run_underlying Try.underlying37, Builtin.lenOf, Builtin.firstCells, sizeOf, typeInfo, hq]
    rw [htk, hst]
    simp [Result.andThen]
end Go.Proofs.Ytajmdcbnejkfgaa.Frame
