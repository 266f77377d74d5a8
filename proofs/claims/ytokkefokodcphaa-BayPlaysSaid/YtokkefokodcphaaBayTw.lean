/- Both bays, the program's and the document's, in a law's own memory, apart. -/
import Derived.Test.YtokkefokodcphaaBayImO
import Derived.Test.YtokkefokodcphaaBayImQ
import Derived.Test.YtokkefokodcphaaBayDf
import Derived.Test.YtokkefokodcphaaBayDg
import Derived.Test.YtokkefokodcphaaBayDh
namespace Go.Proofs.Ytokkefokodcphaa.Bay
open Go.RowKit Go.Lib IRows

/-- The program's bays, made since w. -/
def PS (w W : World) (Q : Nat) (L : List Ln) (F : Nat → Prop) : Prop := ∃ lv xs, PBN w W Q lv xs ∧ xs.map XL.pl = L ∧ F = foot Q lv xs ∧ Good L
section
variable {w W W' : World} {Q : Nat} {L : List Ln} {F : Nat → Prop}
theorem PS.good (h : PS w W Q L F) : Good L := by
  obtain ⟨lv, xs, _, _, _, h⟩ := h
  exact h
theorem PS.below (h : PS w W Q L F) : Below w.heap.size w W := by
  obtain ⟨lv, xs, h, _⟩ := h
  exact h.below
theorem PS.lt (h : PS w W Q L F) : ∀ g, F g → w.heap.size ≤ g ∧ g < W.heap.size := by
  obtain ⟨lv, xs, h, _, rfl, _⟩ := h
  exact fun g hg => ⟨h.new g hg, h.pb.lt g hg⟩
theorem PS.under (h : PS w W Q L F) (hb : Below W.heap.size W W') : PS w W' Q L F := by
  obtain ⟨lv, xs, h1, h2, h3, h4⟩ := h
  exact ⟨lv, xs, h1.under hb, h2, h3, h4⟩
/-- .. while others are turned. -/
theorem PS.keep (h : PS w W Q L F) (hb : Below w.heap.size w W') (hk : ∀ g, F g → W'.heap[g]? = W.heap[g]?) : PS w W' Q L F := by
  obtain ⟨lv, xs, h1, h2, rfl, h4⟩ := h
  exact ⟨lv, xs, ⟨h1.pb.keep hk, hb, h1.new⟩, h2, rfl, h4⟩
theorem ps_ask (b s j : Int) (h : PS w W Q L F) : Calls Try.prog 16 #[ptr Q, .int .i64 b, .int .i64 s, .int .i64 j] W fun e w' => e = .returned (.tuple #[.bool (ask L b s j).2.1, .int .i64 (ask L b s j).2.2]) ∧ Hid (∃ F', PS w w' Q (ask L b s j).1 F' ∧ StepF W w' F F') := by
  obtain ⟨lv, xs, h1, rfl, rfl, h4⟩ := h
  refine (ask_pbx b s j W h1.pb h4).mono ?_
  rintro e w' ⟨rfl, H⟩
  obtain ⟨ys, g1, g2, g3⟩ := H.out
  have hf := g3.fresh h1.below h1.new
  exact ⟨rfl, Lib.hid ⟨_, ⟨lv, ys, ⟨g1, hf.1, hf.2⟩, g2, rfl, good_ask h4 b s j⟩, g3⟩⟩
theorem ps_leave (j : Int) (h : PS w W Q L F) : Calls Try.prog 17 #[ptr Q, .int .i64 j] W fun e w' => e = .returned (.tuple #[.int .i64 (leave L j).2.1, .int .i64 (leave L j).2.2]) ∧ Hid (∃ F', PS w w' Q (leave L j).1 F' ∧ StepF W w' F F') := by
  obtain ⟨lv, xs, h1, rfl, rfl, h4⟩ := h
  refine (leave_pbx j W h1.pb h4).mono ?_
  rintro e w' ⟨rfl, H⟩
  obtain ⟨ys, g1, g2, g3⟩ := H.out
  have hf := g3.fresh h1.below h1.new
  exact ⟨rfl, Lib.hid ⟨_, ⟨lv, ys, ⟨g1, hf.1, hf.2⟩, g2, rfl, good_leave h4 j⟩, g3⟩⟩
theorem ps_where (j : Int) (h : PS w W Q L F) : Calls Try.prog 18 #[ptr Q, .int .i64 j] W fun e w' => e = .returned (.tuple #[.int .i64 (wher L j).1, .int .i64 (wher L j).2.1, .int .i64 (wher L j).2.2.1, .int .i64 (wher L j).2.2.2]) ∧ Hid (Below W.heap.size W w') := by
  obtain ⟨lv, xs, h1, rfl, rfl, h4⟩ := h
  exact (where_im j W h1.pb h4).mono fun _ _ ⟨e, hb⟩ => ⟨e, Lib.hid hb⟩
theorem ps_free (b s : Int) (h : PS w W Q L F) : Calls Try.prog 19 #[ptr Q, .int .i64 b, .int .i64 s] W fun e w' => e = .returned (.tuple #[.int .i64 (free L b s).1, .int .i64 (free L b s).2]) ∧ Hid (Below W.heap.size W w') := by
  obtain ⟨lv, xs, h1, rfl, rfl, h4⟩ := h
  exact (free_bay b s W h1.pb h4).mono fun _ _ ⟨e, hb⟩ => ⟨e, Lib.hid hb⟩
theorem ps_lines (h : PS w W Q L F) : Calls Try.prog 15 #[ptr Q] W fun e w' => ∃ a n c, e = .returned (.slice a n c) ∧ Hid (Below W.heap.size W w') ∧ Hid (∃ ds : List Dn, ds.length = n ∧ ds.map Dn.p = L.map Ln.p ∧ LsAt w' (fun g => W.heap.size ≤ g) a ds ∧ (∀ x ∈ ds, x.r.length ≤ 8 ∧ x.q.length ≤ 8) ∧ n = L.length ∧ n ≤ 16) := by
  obtain ⟨lv, xs, h1, rfl, rfl, h4⟩ := h
  refine (lines_pbx W h1.pb h4).mono ?_
  rintro e w' ⟨a, n, c, rfl, H⟩
  obtain ⟨ds, g1, g2, g3, g4⟩ := H.out
  have hl := pair_len g2
  refine ⟨a, n, c, rfl, Lib.hid g4, Lib.hid ⟨ds, g1, g2, g3, fun x hx => ?_, by rw [← g1, hl], by rw [← g1, hl]; exact h4.few⟩⟩
  obtain ⟨i, hi, rfl⟩ := List.getElem_of_mem hx
  obtain ⟨y, hy, e1, e2⟩ := pair_at g2 (List.getElem?_eq_getElem hi)
  have o := h4.ok i y hy
  have h5 := o.room
  have h6 := o.s8
  have h7 := o.q8
  rw [← e1, ← e2]
  omega
theorem ps_clone (h : PS w W Q L F) : Calls Try.prog 20 #[ptr Q] W fun e w' => ∃ Q2, e = .returned (ptr Q2) ∧ Hid (∃ F2, PS w w' Q2 L F2 ∧ Below W.heap.size W w' ∧ ∀ g, F2 g → W.heap.size ≤ g) := by
  obtain ⟨lv, xs, h1, rfl, rfl, h4⟩ := h
  refine (clone_pbx W h1.pb h4).mono ?_
  rintro e w' ⟨Q2, rfl, H⟩
  obtain ⟨lv2, ys, g1, g2⟩ := H.out
  exact ⟨Q2, rfl, Lib.hid ⟨_, ⟨lv2, ys, ⟨g1.pb, below_then h1.below g1.below, fun g hg => Nat.le_trans h1.below.size (g1.new g hg)⟩, g2, rfl, h4⟩, g1.below, g1.new⟩⟩
end
/-- New and Load, as laws want them. -/
theorem ps_new {w : World} (a : Option Addr) (n c : Nat) (l : List By) (W : World) (hb : Below w.heap.size w W) (hl : l.length = n) (hs : ByAt W a l) (hn : n ≤ 1000) :
    Calls Try.prog 11 #[.slice a n c] W fun e w' => (Hid (MayB l) ∧ ∃ Q, e = .returned (.tuple #[ptr Q, .int .i64 0]) ∧ Hid (∃ F, PS w w' Q (newL l) F ∧ Below W.heap.size W w')) ∨ (Hid (¬ MayB l) ∧ e = .returned (.tuple #[.pointer none, .int .i64 1]) ∧ Hid (Below W.heap.size W w')) := by
  refine (new_im a n c l W hl hs hn).mono ?_
  rintro e w' (⟨HM, Q, rfl, H⟩ | ⟨HM, rfl, hb2⟩)
  · obtain ⟨lv, h1⟩ := H.out
    exact .inl ⟨HM, Q, rfl, Lib.hid ⟨_, ⟨lv, newX l, ⟨h1.pb, below_then hb h1.below, fun g hg => Nat.le_trans hb.size (h1.new g hg)⟩, newX_pl l, rfl, good_new HM.out⟩, h1.below⟩⟩
  · exact .inr ⟨HM, rfl, Lib.hid hb2⟩
/-- Both. -/
def TW (w W : World) (Q : Nat) (Lp : List Ln) (F : Nat → Prop) (la : Option Addr) (ln : Nat) (l : List By) (da : Option Addr) (dn dc : Nat) (Ld : List Ln) : Prop := PS w W Q Lp F ∧ DB W (fun g => ¬ F g) la ln l da dn dc Ld
section
variable {w W W' : World} {Q : Nat} {Lp Ld L' : List Ln} {F F' : Nat → Prop} {la : Option Addr} {ln : Nat} {l : List By} {da da' : Option Addr} {dn dc dc' : Nat}
theorem TW.under (h : TW w W Q Lp F la ln l da dn dc Ld) (hb : Below W.heap.size W W') : TW w W' Q Lp F la ln l da dn dc Ld := ⟨h.1.under hb, h.2.under hb⟩
theorem DB.step {N : Nat → Prop} (h : DB W N la ln l da dn dc Ld) (hw : Below w.heap.size w W') (hby : ByAt w la l) (hs : W.heap.size ≤ W'.heap.size) (hk : ∀ g, N g → g < W.heap.size → W'.heap[g]? = W.heap[g]?) : DB W' N la ln l da dn dc Ld := by
  obtain ⟨h1, _, h3, h4, h5, ds, h6, h7⟩ := h
  exact ⟨h1, hby.under hw, h3, h4, h5, ds, h6.keep hs hk, h7⟩
/-- The program's call. -/
theorem TW.prog (h : TW w W Q Lp F la ln l da dn dc Ld) (hby : ByAt w la l) (h1 : PS w W' Q L' F') (s : StepF W W' F F') : TW w W' Q L' F' la ln l da dn dc Ld := by
  refine ⟨h1, (h.2.mono (N' := fun g => ¬ F g ∧ g < W.heap.size) fun g hg hl => ⟨hg, hl⟩).step h1.below hby s.size (fun g hg _ => s.block g hg.2 hg.1) |>.mono fun g hg _ hf => ?_⟩
  rcases s.grows g hf with h2 | h2
  · exact hg.1 h2
  · omega
/-- The document's. -/
theorem TW.doc (h : TW w W Q Lp F la ln l da dn dc Ld) (h1 : DB W' (fun q => ¬ F q ∨ W.heap.size ≤ q) la ln l da' dn dc' L') (hb : Below W.heap.size W W') : TW w W' Q Lp F la ln l da' dn dc' L' := by
  refine ⟨h.1.under hb, h1.mono fun g hg _ hf => ?_⟩
  rcases hg with hg | hg
  · exact hg hf
  · have := (h.1.lt g hf).2
    omega
end
end Go.Proofs.Ytokkefokodcphaa.Bay
