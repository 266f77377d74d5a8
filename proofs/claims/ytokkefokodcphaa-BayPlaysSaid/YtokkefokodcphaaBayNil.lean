/- Bays that nobody made. -/
import Derived.Test.YtokkefokodcphaaBayImA
namespace Go.Proofs.Ytokkefokodcphaa.Bay
open Go.RowKit Go.Lib IRows

/-- Nil bays, or zero ones. -/
def NilB (w : World) (v : Value) : Prop := v = .pointer none ∨ ∃ Q, v = .pointer (some ⟨Q, 0, none⟩) ∧ w.heap[Q]? = some (.cells #[.bool false, .slice none 0 0] 58 (0, 0))
theorem NilB.under {w w' : World} {v : Value} (h : NilB w v) (hb : Below w.heap.size w w') : NilB w' v := by
  rcases h with h | ⟨Q, h, hq⟩
  · exact .inl h
  · exact .inr ⟨Q, h, (hb.block Q (Array.getElem?_eq_some_iff.1 hq).1).trans hq⟩
set_option maxRecDepth 100000 in
theorem at_nil {v : Value} (b s : Int) (w : World) (h : NilB w v) : Calls Try.prog 33 #[v, .int .i64 b, .int .i64 s] w fun e w' => e = .returned (.tuple #[.pointer none, .int .i64 1]) ∧ w = w' := by
  rcases h with rfl | ⟨Q, rfl, hq⟩
  · go_enter Try.func33, Try.ntmps33
    go_wp2_with fail
    go_ret2
    exact ⟨rfl, rfl⟩
  · have k0 := cell_block (j := 0) hq rfl
    clear hq
    go_enter Try.func33, Try.ntmps33
    go_wp2_with fail
    go_ret2
    exact ⟨rfl, rfl⟩
set_option maxRecDepth 100000 in
theorem of_nil {v : Value} (j : Int) (w : World) (h : NilB w v) : Calls Try.prog 34 #[v, .int .i64 j] w fun e w' => e = .returned (.tuple #[.int .i64 0, .int .i64 1]) ∧ Below w.heap.size w w' := by
  obtain ⟨Y, hY⟩ : ∃ Y, w.alloc (.cells #[.int .i64 j] 3) = Y := ⟨_, rfl⟩
  have HB : Hid (Below w.heap.size w Y) := Lib.hid (by rw [← hY]; exact (Below.refl _ _).alloc (Nat.le_refl _) _)
  have h2 := h.under HB.out
  clear h
  rcases h2 with rfl | ⟨Q, rfl, hq⟩
  · go_enter Try.func34, Try.ntmps34
    go_wp2_with fail
    go_ret2
    exact ⟨rfl, HB.out⟩
  · have k0 := cell_block (j := 0) hq rfl
    clear hq
    go_enter Try.func34, Try.ntmps34
    go_wp2_with fail
    go_ret2
    exact ⟨rfl, HB.out⟩
theorem ask_nil {v : Value} (b s j : Int) (w : World) (h : NilB w v) : Calls Try.prog 16 #[v, .int .i64 b, .int .i64 s, .int .i64 j] w fun e w' => e = .returned (.tuple #[.bool false, .int .i64 1]) ∧ Below w.heap.size w w' := by
  have H1 := Lib.hid (at_nil b s w h)
  clear h
  go_enter Try.func16, Try.ntmps16
  go_wp2_with fail
  refine H1.out.mono ?_
  rintro e w' ⟨rfl, rfl⟩
  go_wp2_with fail
  go_ret2
  exact ⟨rfl, Below.refl _ _⟩
theorem leave_nil {v : Value} (j : Int) (w : World) (h : NilB w v) : Calls Try.prog 17 #[v, .int .i64 j] w fun e w' => e = .returned (.tuple #[.int .i64 0, .int .i64 1]) ∧ Below w.heap.size w w' := by
  have H1 := Lib.hid (of_nil j w h)
  clear h
  go_enter Try.func17, Try.ntmps17
  go_wp2_with fail
  refine H1.out.mono ?_
  rintro e w' ⟨rfl, hb⟩
  have HB := Lib.hid hb
  clear hb
  go_wp2_with fail
  go_ret2
  exact ⟨rfl, HB.out⟩
theorem results_tmp4' {fn : Func} {t u v x : Tmp} (h : fn.results = #[.tmp t, .tmp u, .tmp v, .tmp x]) (tmps : Array Value) (P : Program) (w : World) :
    (results fn tmps).run P w = .ok (.tuple #[tmps.getD t undef, tmps.getD u undef, tmps.getD v undef, tmps.getD x undef]) w := by
  simp [results, h]
theorem where_nil {v : Value} (j : Int) (w : World) (h : NilB w v) : Calls Try.prog 18 #[v, .int .i64 j] w fun e w' => e = .returned (.tuple #[.int .i64 0, .int .i64 0, .int .i64 0, .int .i64 1]) ∧ Below w.heap.size w w' := by
  have H1 := Lib.hid (of_nil j w h)
  clear h
  go_enter Try.func18, Try.ntmps18
  go_wp2_with fail
  refine H1.out.mono ?_
  rintro e w' ⟨rfl, hb⟩
  have HB := Lib.hid hb
  clear hb
  go_wp2_with fail
  (try simp only [Exit.inBlock, Exit.then])
  refine bodyPost_ret (results_tmp4' rfl _ _ _) rfl ?_
  exact ⟨rfl, HB.out⟩
theorem free_nil {v : Value} (b s : Int) (w : World) (h : NilB w v) : Calls Try.prog 19 #[v, .int .i64 b, .int .i64 s] w fun e w' => e = .returned (.tuple #[.int .i64 0, .int .i64 1]) ∧ Below w.heap.size w w' := by
  have H1 := Lib.hid (at_nil b s w h)
  clear h
  go_enter Try.func19, Try.ntmps19
  go_wp2_with fail
  refine H1.out.mono ?_
  rintro e w' ⟨rfl, rfl⟩
  go_wp2_with fail
  go_ret2
  exact ⟨rfl, Below.refl _ _⟩
set_option maxRecDepth 100000 in
theorem clone_nil {v : Value} (w : World) (h : NilB w v) : Calls Try.prog 20 #[v] w fun e w' => e = .returned (.pointer none) ∧ Below w.heap.size w w' := by
  rcases h with rfl | ⟨Q, rfl, hq⟩
  · go_enter Try.func20, Try.ntmps20
    go_wp2_with fail
    go_ret
    exact ⟨rfl, Below.refl _ _⟩
  · have k0 := cell_block (j := 0) hq rfl
    clear hq
    go_enter Try.func20, Try.ntmps20
    go_wp2_with fail
    go_ret
    exact ⟨rfl, Below.refl _ _⟩
set_option maxRecDepth 100000 in
theorem lines_nil {v : Value} (w : World) (h : NilB w v) : Calls Try.prog 15 #[v] w fun e w' => e = .returned (.slice none 0 0) ∧ Below w.heap.size w w' := by
  rcases h with rfl | ⟨Q, rfl, hq⟩
  · go_enter Try.func15, Try.ntmps15
    go_wp2_with fail
    go_ret
    exact ⟨rfl, Below.refl _ _⟩
  · have k1 := cell_block (j := 1) hq rfl
    clear hq
    go_enter Try.func15, Try.ntmps15
    go_wp2_with fail
    go_loopw [3, 13] (fun sv s wr => sv = .slice none 0 0 ∧ s = .int .i64 0 ∧ w = wr) (fun _ _ _ => 0)
    case atStart => exact ⟨rfl, rfl, rfl⟩
    case round =>
      obtain ⟨rfl, rfl, rfl⟩ := hrel
      go_wp2_with fail
      go_ret
      exact ⟨rfl, Below.refl _ _⟩
end Go.Proofs.Ytokkefokodcphaa.Bay
