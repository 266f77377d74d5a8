/- The walk over the records that stand in a text. -/
import Derived.Test.YtajmdcbnejkfgaaFrameF
import Derived.Test.YtajmdcbnejkfgaaShelf
namespace Go.Proofs.Ytajmdcbnejkfgaa.Frame
open Go.RowKit Go.Lib

theorem info_str : (Try.prog.info? 9).map (fun i => (i.zero, i.size, i.bytes)) = some (some (.string ⟨#[]⟩), 1, 16) := by kernel_rfl
theorem own_below {w w' : World} {base : Nat} {e : TypeId} {size n : Nat} {v : Value} {xs : List Value} (h : w.ownsRow base e size v n xs) (hb : Below w.heap.size w w') : w'.ownsRow base e size v n xs :=
  h.kept (row := none) ⟨hb.os, hb.tape, hb.output, hb.size, fun i hi _ => hb.block i hi⟩ (Classical.em _)
/-- The slice of a call's own that holds these texts. -/
abbrev Owns (w : World) (base : Nat) (v : Value) (l : List ByteArray) : Prop := w.ownsRow base 9 1 v l.length (l.map Value.string)
def ScanIs (s : ByteArray) (l : List ByteArray) (a : Nat) : Prop := Reads s 0 l a ∧ first (s.extract a s.size) = none
theorem reads_len (s : ByteArray) : ∀ (l : List ByteArray) (a e : Nat), Reads s a l e → a + 9 * l.length ≤ e
  | [], a, e, h => by
    obtain rfl : a = e := h
    simp
  | r :: l, a, e, h => by
    have h1 := reads_len s l _ e h.2
    have h2 := (first_le h.1).2.1
    simp only [List.length_cons]
    omega
set_option maxRecDepth 100000 in
theorem clone_any (s : ByteArray) (w : World) (hs : s.size ≤ 4096) :
    Calls Try.prog 24 #[.string s] w fun e w' => e = .returned (.string s) ∧ Below w.heap.size w w' := by
  go_enter Try.func24, Try.ntmps24
  go_wp2_with fail
  refine (Try.stringslite_Clone s _ (by omega)).mono ?_
  rintro e w' ⟨rfl, hb⟩
  go_wp2_with fail
  go_ret
  exact ⟨rfl, hb⟩
set_option maxRecDepth 100000 in
set_option maxHeartbeats 1000000 in
theorem scan_any (s : ByteArray) (w : World) (hs : s.size ≤ 1048576) :
    Calls Try.prog 15 #[.string s] w fun e w' => ∃ v l a, e = .returned (.tuple #[v, .int .i64 (a : Nat)]) ∧ ScanIs s l a ∧ a ≤ s.size ∧ Owns w' w.heap.size v l ∧ Below w.heap.size w w' := by
  obtain ⟨i0, hi, hz0, hz1, hz2⟩ := info_parts info_str
  go_enter Try.func15, Try.ntmps15
  go_wp2_with fail
  go_loopw [4, 5] (fun v t wr => ∃ (l : List ByteArray) (a : Nat), t = .int .i64 a ∧ a ≤ s.size ∧ Hid (Reads s 0 l a) ∧ Owns wr w.heap.size v l ∧ Below w.heap.size w wr) (fun _ t _ => s.size - (RowKit.intOf t).toNat)
  case atStart => exact ⟨[], 0, rfl, by omega, Lib.hid rfl, World.ownsRow_nil _ _ _ _, Below.refl _ _⟩
  case round =>
    obtain ⟨l, a, rfl, ha, HR, hown, hbel⟩ := hrel
    go_wp2_with fail
    refine (first_any (s.extract a s.size) _ (by rw [ByteArray.size_extract]; unfold maxLen; omega)).mono ?_
    rintro e w1 ⟨rfl, hb1⟩
    have hown1 := own_below hown hb1
    have hbel1 := below_then hbel hb1
    clear hown hbel hb1
    cases hfr : first (s.extract a s.size) with
    | none =>
      rw [firstV_none hfr]
      go_wp2_with fail
      go_ret2
      exact ⟨_, l, a, rfl, ⟨HR.out, hfr⟩, ha, hown1, hbel1⟩
    | some r =>
      rw [firstV_some hfr]
      obtain ⟨hle, hf1, hf2⟩ := first_le hfr
      have hR2 := reads_snoc s r l 0 a HR.out hfr
      have hlen := reads_len s l 0 a HR.out
      have HR2 := Lib.hid hR2; have HF := Lib.hid hfr
      clear hR2 hfr HR
      go_wp2_with fail
      refine (clone_any r _ hf2).mono ?_
      rintro e w2 ⟨rfl, hb2⟩
      have hown2 := own_below hown1 hb2
      have hbel2 := below_then hbel1 hb2
      clear hown1 hbel1 hb2
      go_wp2_with (at_builtin; refine wpList_append_own _ rfl _ _ 22 rfl w.heap.size 9 i0 (.string ⟨#[]⟩) 1 16 Try.underlying22 hi hz0 hz1 hz2 rfl (by decide) _ _ _ rfl (hown2.alloc _) ⟨w2.heap.size, 0, none⟩ 1 1 [.string r] rfl rfl ?c1 ?c2 ?c3 ?c4 ?c5 ?_)
      case c1 =>
        intro j u hj
        match j, hj with
        | 0, hj => simp at hj; subst hj; simp [Addr.add]
      case c2 => intro u hu; simp at hu; subst hu; rfl
      case c3 => unfold maxLen; omega
      case c4 => omega
      case c5 => have := hbel2.size; simp; omega
      intro v' w3 hown' hgrow _
      have hbel3 : Below w.heap.size w w3 := grown_below hbel2 hown2 hgrow
      clear hgrow hown2 hbel2
      have hz : sz (r.size : Int) = 8 + (r.size : Int) := sz_in (by omega) (by omega)
      go_wp2_with fail
      refine (size_any (r.size : Int) _ (by omega)).mono ?_
      rintro e w' ⟨rfl, rfl⟩
      rw [hz]
      clear hz
      go_wp2_with fail
      go_roundw
      case rel =>
        refine ⟨l ++ [r], a + 8 + r.size, ?_, hle, HR2, ?_, hbel3⟩
        · go_num
        · show w3.ownsRow w.heap.size 9 1 v' (l ++ [r]).length ((l ++ [r]).map Value.string)
          simpa using hown'
      case measure => simp [RowKit.intOf]; omega
end Go.Proofs.Ytajmdcbnejkfgaa.Frame
