/- The program's disk is an implementation; a nil or zero-valued one is nobody. -/
import Derived.Test.YtflkglnmenbmaaaDiskImJ
import Derived.Test.YtflkglnmenbmaaaDiskImK
import Derived.Test.YtflkglnmenbmaaaDiskImN
import Derived.Test.YtflkglnmenbmaaaDiskW
namespace Go.Proofs.Ytflkglnmenbmaaa.Disk
open Go.RowKit Go.Lib

theorem below_self {w w' : World} (h : w = w') : Below w.heap.size w w' := by
  subst h
  exact Below.refl _ _
theorem step_self {w w' : World} (F : Nat → Prop) (h : w = w') : StepF w w' F F := by
  subst h
  exact StepF.refl _ _
def impl : Impl where
  PD := Im.PD
  lt := by
    rintro w Q F st ⟨Mb, fz, V, hp, rfl⟩ k hk
    exact hp.ltF k hk
  keep := by
    rintro w w' Q F st ⟨Mb, fz, V, hp, rfl⟩ _ hk
    exact ⟨Mb, fz, V, hp.moved hk, rfl⟩
  new_bad := fun n w _ hn => (Im.new_bad n w hn).mono (by
    rintro e w' ⟨rfl, h⟩
    exact ⟨rfl, below_self h⟩)
  new := fun n w hn => Im.new_any n w hn
  append := fun Q F st s b w h hi hs hb => Im.append_any Q F st s b w h hi hs hb
  sync := fun Q F st s w h hi hs => Im.sync_any Q F st s w h hi hs
  cut := fun Q F st s n w h hi hs hn => Im.cut_any Q F st s n w h hi hs hn
  rename := fun Q F st s t w h hi hs ht => Im.rename_any Q F st s t w h hi hs ht
  read := by
    rintro Q F st s w ⟨Mb, fz, V, hp, rfl⟩ hi hs
    unfold readV readS readE
    cases hd : st.dead with
    | true =>
      simp only [if_true]
      refine (Im.read_not _ s 14 w (Im.file_dead Q Mb fz V st s w hp hd)).mono ?_
      rintro e w' ⟨rfl, hb⟩
      exact ⟨rfl, _, ⟨Mb, fz, V, hp.below hb, rfl⟩, StepF.below _ hb⟩
    | false =>
      simp only [Bool.false_eq_true, if_false]
      cases hl : look st.fs s with
      | none =>
        have hfo : (fileOf st s).bytes = ⟨#[]⟩ := by unfold fileOf; rw [hl]; rfl
        simp only [Option.isNone_none, if_true, hfo]
        refine (Im.read_not _ s 3 w (Im.file_none Q Mb fz V st s w hp hd (by omega) hl)).mono ?_
        rintro e w' ⟨rfl, hb⟩
        exact ⟨rfl, _, ⟨Mb, fz, V, hp.below hb, rfl⟩, StepF.below _ hb⟩
      | some f =>
        have hfo : fileOf st s = f := by unfold fileOf; rw [hl]; rfl
        simp only [Option.isNone_some, Bool.false_eq_true, if_false, hfo]
        refine (Im.read_some Q Mb fz V st s f w hp hd (by omega) hl).mono ?_
        rintro e w' ⟨rfl, hb⟩
        exact ⟨rfl, _, ⟨Mb, fz, V, hp.below hb, rfl⟩, StepF.below _ hb⟩
  fuse := by
    rintro Q F st n h w ⟨Mb, fz, V, hp, rfl⟩ hi hn
    refine (Im.fuse_any Q Mb fz V st n h w hp hn).mono ?_
    rintro e w' ⟨rfl, hp', hg⟩
    exact ⟨rfl, _, ⟨Mb, n, V, hp', rfl⟩, Im.step_same (Im.step_q hg)⟩
  crash := by
    rintro Q F st ka kn kc Z w ⟨Mb, fz, V, hp, rfl⟩ hi hk hkn
    refine (Im.crash_yes Q Mb fz V st ka kn kc Z w hp hi hk hkn).mono ?_
    rintro e w' ⟨rfl, V', hp', hs⟩
    exact ⟨rfl, _, ⟨Mb, 0, V', hp', rfl⟩, hs⟩
  used := by
    rintro Q F st w ⟨Mb, fz, V, hp, rfl⟩ hi
    unfold used
    cases hd : st.dead with
    | true =>
      have hq := hp.q
      rw [hd] at hq
      refine (Im.used_dead Q Mb w hq.1 hq.2.2.2.2.2).mono ?_
      rintro e w' ⟨rfl, rfl⟩
      exact ⟨rfl, _, ⟨Mb, fz, V, hp, rfl⟩, StepF.refl _ _⟩
    | false =>
      have h1 := hi.good.fit
      have h2 := hi.good.room
      refine (Im.used_any Q Mb fz V st w hp hd (by omega)).mono ?_
      rintro e w' ⟨rfl, hb⟩
      exact ⟨rfl, _, ⟨Mb, fz, V, hp.below hb, rfl⟩, StepF.below _ hb⟩
  ops := by
    rintro Q F st w ⟨Mb, fz, V, hp, rfl⟩ hi
    refine (Im.ops_any Q Mb st.ops w hp.q.1 hp.q.2.2.1).mono ?_
    rintro e w' ⟨rfl, rfl⟩
    exact ⟨rfl, _, ⟨Mb, fz, V, hp, rfl⟩, StepF.refl _ _⟩
  dead := by
    rintro Q F st w ⟨Mb, fz, V, hp, rfl⟩ hi
    refine (Im.dead_any Q Mb st.dead w hp.q.1 hp.q.2.2.2.2.2).mono ?_
    rintro e w' ⟨rfl, rfl⟩
    exact ⟨rfl, _, ⟨Mb, fz, V, hp, rfl⟩, StepF.refl _ _⟩
  names := by
    rintro Q F st w ⟨Mb, fz, V, hp, rfl⟩ hi
    unfold names
    cases hd : st.dead with
    | true =>
      have hq := hp.q
      rw [hd] at hq
      refine (Im.names_dead Q Mb w hq.1 hq.2.2.2.2.2).mono ?_
      rintro e w' ⟨rfl, rfl⟩
      exact ⟨_, _, rfl, World.ownsRow_nil _ _ _ _, ⟨Mb, fz, V, hp, rfl⟩, StepF.refl _ _⟩
    | false =>
      have h1 := hi.few
      have h2 := hi.ops
      refine (Im.names_awake Q Mb fz V st w hp hd (by omega)).mono ?_
      rintro e w' ⟨o, rfl, ht, hb⟩
      exact ⟨_, _, rfl, ht, ⟨Mb, fz, V, hp.below hb, rfl⟩, StepF.below _ hb⟩
/-- A pointer that New did not give: nil, or to a zero-valued disk. -/
def ND (w : World) (p : Option Addr) (F : Nat → Prop) : Prop :=
  (p = none ∧ F = fun _ => False) ∨ ∃ Z, p = some ⟨Z, 0, none⟩ ∧ w.heap[Z]? = some (.cells zeroDisk 57 (0, 0)) ∧ F = fun k => k = Z
theorem ND.made {w : World} {p : Option Addr} {F : Nat → Prop} (h : ND w p F) : Calls Try.prog 34 #[.pointer p] w fun e w' => e = .returned (.bool false) ∧ w = w' := by
  rcases h with ⟨rfl, _⟩ | ⟨Z, rfl, hb, _⟩
  · exact Im.made_nil w
  · exact Im.made_zero Z w (cell_block (j := 0) hb rfl)
theorem ND.keep {w w' : World} {p : Option Addr} {F : Nat → Prop} (h : ND w p F) (hk : ∀ k, F k → w'.heap[k]? = w.heap[k]?) : ND w' p F := by
  rcases h with ⟨rfl, rfl⟩ | ⟨Z, rfl, hb, rfl⟩
  · exact .inl ⟨rfl, rfl⟩
  · exact .inr ⟨Z, rfl, (hk Z rfl).trans hb, rfl⟩
theorem ND.lt {w : World} {p : Option Addr} {F : Nat → Prop} (h : ND w p F) : ∀ k, F k → k < w.heap.size := by
  rcases h with ⟨rfl, rfl⟩ | ⟨Z, rfl, hb, rfl⟩
  · exact fun k hk => hk.elim
  · exact fun k hk => by
      rw [show k = Z from hk]
      exact (Array.getElem?_eq_some_iff.1 hb).1
theorem ND.below {w w' : World} {p : Option Addr} {F : Nat → Prop} (h : ND w p F) (hb : Below w.heap.size w w') : ND w' p F := h.keep (fun k hk => hb.block k (h.lt k hk))
theorem ND.file {w : World} {p : Option Addr} {F : Nat → Prop} (h : ND w p F) (s : ByteArray) : Calls Try.prog 40 #[.pointer p, .string s] w fun e w' => e = .returned (.tuple #[Im.zeroFile, .int .i64 1]) ∧ Below w.heap.size w w' :=
  Im.file_nobody p s w (fun _ hb => (h.below hb).made)
def nobody : Nobody where
  ND := ND
  lt := fun h => h.lt
  keep := fun h _ hk => h.keep hk
  append := fun p F s b w h _ _ => (Im.append_state p s b 1 w (.inl rfl) (Im.state_nobody p w h.made)).mono (by
    rintro e w' ⟨rfl, h'⟩
    exact ⟨rfl, F, h.below (below_self h'), step_self _ h'⟩)
  sync := fun p F s w h _ => (Im.sync_not p s 1 w (.inl rfl) (h.file s)).mono (by
    rintro e w' ⟨rfl, hb⟩
    exact ⟨rfl, F, h.below hb, StepF.below _ hb⟩)
  cut := fun p F s n w h _ _ => (Im.cut_not p s n 1 w (.inl rfl) (h.file s)).mono (by
    rintro e w' ⟨rfl, hb⟩
    exact ⟨rfl, F, h.below hb, StepF.below _ hb⟩)
  rename := fun p F s t w h _ _ => (Im.rename_state p s t 1 w (.inl rfl) (Im.state_nobody p w h.made)).mono (by
    rintro e w' ⟨rfl, h'⟩
    exact ⟨rfl, F, h.below (below_self h'), step_self _ h'⟩)
  read := fun p F s w h _ => (Im.read_not p s 1 w (h.file s)).mono (by
    rintro e w' ⟨rfl, hb⟩
    exact ⟨rfl, F, h.below hb, StepF.below _ hb⟩)
  fuse := fun p F n b w h _ => (Im.fuse_nobody p n b w h.made).mono (by
    rintro e w' ⟨rfl, h'⟩
    exact ⟨rfl, F, h.below (below_self h'), step_self _ h'⟩)
  crash := fun p F ka kn kc Z w h _ _ => (Im.crash_nobody p ka kn kc w h.made).mono (by
    rintro e w' ⟨rfl, h'⟩
    exact ⟨rfl, F, h.below (below_self h'), step_self _ h'⟩)
  used := fun p F w h => (Im.used_nobody p w h.made).mono (by
    rintro e w' ⟨rfl, h'⟩
    exact ⟨rfl, F, h.below (below_self h'), step_self _ h'⟩)
  ops := fun p F w h => (Im.ops_nobody p w h.made).mono (by
    rintro e w' ⟨rfl, h'⟩
    exact ⟨rfl, F, h.below (below_self h'), step_self _ h'⟩)
  dead := fun p F w h => (Im.dead_nobody p w h.made).mono (by
    rintro e w' ⟨rfl, h'⟩
    exact ⟨rfl, F, h.below (below_self h'), step_self _ h'⟩)
  names := fun p F w h => (Im.names_nobody p w h.made).mono (by
    rintro e w' ⟨rfl, h'⟩
    exact ⟨none, 0, F, rfl, h.below (below_self h'), step_self _ h'⟩)
theorem nobody_nil (w : World) : nobody.ND w none (fun _ => False) := .inl ⟨rfl, rfl⟩
theorem nobody_zero (w : World) : nobody.ND (w.alloc (.cells zeroDisk 57)) (some ⟨w.heap.size, 0, none⟩) (fun k => k = w.heap.size) := .inr ⟨_, rfl, heap_alloc_new w _, rfl⟩
theorem six_cells {cs : Array Value} (h : cs.size = 6) : cs = #[cs.toList.getD 0 undef, cs.toList.getD 1 undef, cs.toList.getD 2 undef, cs.toList.getD 3 undef, cs.toList.getD 4 undef, cs.toList.getD 5 undef] := by
  obtain ⟨l⟩ := cs
  match l, h with
  | [a, b, c, d, e, f], _ => rfl
set_option maxRecDepth 100000 in
/-- DiskNobody, out of its opened arguments. -/
theorem lawNobody_in {H : Type} {enc : TypeId × Value → H} {fs : Array Field} (x : Int) (cs : Array Value) (w : World) (hx : -9223372036854775808 ≤ x ∧ x ≤ 9223372036854775807) (hu : Try.prog.underlying 36 = some (.struct fs)) (hl : cs.toList.length = fs.size)
    (h : ∀ (i : Nat) (f : Field), fs[i]? = some f → ∃ n y, DataW.trod enc Try.prog w 0 (fun _ => true) true n f.type [cs.toList.getD i undef] = some y) :
    Calls Try.prog 6 #[.int .i64 x, .agg cs] w fun e w' => e = .returned (.bool true) ∧ Below w.heap.size w w' := by
  obtain ⟨a, ka, kn, kc, Z, hA, e0, e1, e2, e3, e4, e5⟩ := act_of (V := fun i => cs.toList.getD i undef) hu h
  have h6 : fs.size = 6 := by
    have he := Try.underlying36
    rw [he] at hu
    injection hu with hu
    injection hu with hu
    rw [← hu]
    rfl
  have hcs : cs = actCells a ka kn kc := by
    rw [six_cells (cs := cs) (by have := hl; rw [Array.length_toList] at this; omega)]
    rw [e0, e1, e2, e3, e4, e5]
  rw [hcs]
  exact lawNobody impl nobody nobody_nil nobody_zero x a ka kn kc Z w hx hA
end Go.Proofs.Ytflkglnmenbmaaa.Disk
