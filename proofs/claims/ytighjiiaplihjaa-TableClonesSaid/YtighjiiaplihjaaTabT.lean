/- Keys that came in by value, written out. -/
import Derived.Test.YtighjiiaplihjaaTabO
namespace Go.Proofs.Ytighjiiaplihjaa.Tab
open Go.ChangeShapes Go.WideShapes Go.ChangeAt Go.RowKit Go.Deep

theorem keys1_of {H : Type} {enc : TypeId × Value → H} {W : World} {cs : Array Value} {d : DataW H} {p : List MemPlace} (h : DataW.Trod enc Try.prog W 0 (fun _ => true) true 38 (.agg cs) d p) :
    ∃ x : Key, cs = #[.int .i64 x.a, .int .i64 x.b, .int .i64 x.c, .int .i64 x.d] := by
  obtain ⟨fuel, hf⟩ := h
  obtain ⟨k, hk, _⟩ := key_in hf
  refine ⟨k, Array.toList_inj.1 ?_⟩
  simpa [Value.cells] using hk
theorem keys_size {H : Type} {enc : TypeId × Value → H} {W : World} {t : TypeId} {n : Nat} {cs : Array Value} {d : DataW H} {p : List MemPlace} (ht : Try.prog.underlying t = some (.array n 38)) (h : DataW.Trod enc Try.prog W 0 (fun _ => true) true t (.agg cs) d p) : cs.toList.length = Try.prog.cellsOf t := by
  obtain ⟨fuel, hf⟩ := h
  have := (open_array ht hf).1
  simpa [Value.cells] using this
theorem keys2_of {H : Type} {enc : TypeId × Value → H} {W : World} {cs : Array Value} {d : DataW H} {p : List MemPlace} (ht : Try.prog.underlying 44 = some (.array 2 38)) (h : DataW.Trod enc Try.prog W 0 (fun _ => true) true 44 (.agg cs) d p) :
    ∃ x y : Key, cs = #[.int .i64 x.a, .int .i64 x.b, .int .i64 x.c, .int .i64 x.d, .int .i64 y.a, .int .i64 y.b, .int .i64 y.c, .int .i64 y.d] := by
  obtain ⟨K, hK⟩ := keys_of ht h
  have hl := keys_size ht h
  rw [show Try.prog.cellsOf 44 = 8 by kernel_rfl] at hl
  have h0 := hK 0 (by omega); have h1 := hK 1 (by omega)
  obtain ⟨l⟩ := cs
  match l, hl with
  | [a0, a1, a2, a3, a4, a5, a6, a7], _ =>
    simp at h0 h1
    obtain ⟨rfl, rfl, rfl, rfl⟩ := h0
    obtain ⟨rfl, rfl, rfl, rfl⟩ := h1
    exact ⟨K 0, K 1, rfl⟩
theorem keys3_of {H : Type} {enc : TypeId × Value → H} {W : World} {cs : Array Value} {d : DataW H} {p : List MemPlace} (ht : Try.prog.underlying 48 = some (.array 3 38)) (h : DataW.Trod enc Try.prog W 0 (fun _ => true) true 48 (.agg cs) d p) :
    ∃ x y z : Key, cs = #[.int .i64 x.a, .int .i64 x.b, .int .i64 x.c, .int .i64 x.d, .int .i64 y.a, .int .i64 y.b, .int .i64 y.c, .int .i64 y.d, .int .i64 z.a, .int .i64 z.b, .int .i64 z.c, .int .i64 z.d] := by
  obtain ⟨K, hK⟩ := keys_of ht h
  have hl := keys_size ht h
  rw [show Try.prog.cellsOf 48 = 12 by kernel_rfl] at hl
  have h0 := hK 0 (by omega); have h1 := hK 1 (by omega); have h2 := hK 2 (by omega)
  obtain ⟨l⟩ := cs
  match l, hl with
  | [a0, a1, a2, a3, a4, a5, a6, a7, a8, a9, a10, a11], _ =>
    simp at h0 h1 h2
    obtain ⟨rfl, rfl, rfl, rfl⟩ := h0
    obtain ⟨rfl, rfl, rfl, rfl⟩ := h1
    obtain ⟨rfl, rfl, rfl, rfl⟩ := h2
    exact ⟨K 0, K 1, K 2, rfl⟩
end Go.Proofs.Ytighjiiaplihjaa.Tab
