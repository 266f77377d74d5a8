/- The walk over put of the document's disk. -/
import Derived.Test.YtflkglnmenbmaaaDiskC
namespace Go.Proofs.Ytflkglnmenbmaaa.Disk
open Go.RowKit Go.Lib

theorem files_append {w1 : World} {base : Nat} {v' : Value} {l : List DF} {f : DF} (h : w1.ownsRow base 65 3 v' (l.length + 1) (cells l ++ fileCells f)) : Files w1 base v' (l ++ [f]) := by
  show w1.ownsRow base 65 3 v' (l ++ [f]).length (cells (l ++ [f]))
  rw [cells_snoc, List.length_append]
  exact h
theorem grown_files {w wr w1 : World} {v : Value} {n : Nat} {xs : List Value} {o : Obj} (hb : Below w.heap.size w wr) (hown : wr.ownsRow w.heap.size 65 3 v n xs) (hg : (wr.alloc o).grownBy w1 v.ownBlock) : Below w.heap.size w w1 := by
  have h1 : Below w.heap.size w (wr.alloc o) := hb.alloc hb.size _
  exact h1.grown hg h1.size (fun q hq => (hown.lt q hq).1)
set_option maxRecDepth 100000 in
set_option maxHeartbeats 2000000 in
theorem put_any (Q : Nat) (v : Value) (st : DS) (f : DF) (w : World) (h : RD w Q v st) (ho : st.ops ≤ 1048576) (hg : Good (put st f)) :
    Calls Try.prog 46 #[.pointer (some ⟨Q, 0, none⟩), .agg #[.string f.name, .string f.bytes, .int .i64 (f.sure : Int)]] w fun e w' => e = .returned (.tuple #[]) ∧ ∃ v', RD w' Q v' (put st f) ∧ Step w w' Q v v' := by
  obtain ⟨i0, hi, hz0, hz1, hz2⟩ := info_parts info_file
  have hbel0 : Below w.heap.size w (w.alloc (.cells #[.string f.name, .string f.bytes, .int .i64 (f.sure : Int)] 65)) := (Below.refl _ w).alloc (Nat.le_refl _) _
  have hR0 := h.below hbel0
  have hT := take_any Q v st f.name _ hR0 ho
  obtain ⟨L, hL⟩ : ∃ L, takeF st.fs f.name = L := ⟨_, rfl⟩
  have hput : put st f = { st with fs := ins f L } := by unfold put putF; rw [hL]
  rw [hL] at hT
  rw [hput] at hg ⊢
  have HT := Lib.hid hT
  have hQ := h.lt
  have hvB : v.ownBlock ≠ some w.heap.size := fun e => by have := (h.row.lt _ e).2; omega
  have HV := Lib.hid hvB; have HG := Lib.hid hg; have HB0 := Lib.hid hbel0
  clear hbel0 hR0 h hvB hg hT hL hput
  go_enter Try.func46, Try.ntmps46
  go_wp2_with fail
  refine HT.out.mono ?_
  rintro e w1 ⟨rfl, v1, hR1, hS1⟩
  have hbox : w1.heap[w.heap.size]? = some (.cells #[.string f.name, .string f.bytes, .int .i64 (f.sure : Int)] 65 (0, 0)) := by
    rw [hS1.block _ (by simp) (by omega) HV.out]
    exact heap_alloc_new w _
  have hbl : w.heap.size < w1.heap.size := by have := hS1.size; simp at this; omega
  have HS1 := Lib.hid ((step_below Q v HB0.out).trans hS1)
  obtain ⟨a, cap, rfl, hcap, _, hrow⟩ := hR1.rowed
  have hfew := hR1.good.few
  have hblk := hR1.block
  have hQ1 := hR1.lt
  have HR := Lib.hid hrow; have HD := Lib.hid hR1; have HBox := Lib.hid hbox
  clear hrow hR1 hbox hS1 HT HV HB0
  obtain ⟨n, hn⟩ : ∃ n, L.length = n := ⟨_, rfl⟩
  rw [show ({ st with fs := L } : DS).fs.length = n from hn] at hcap hfew hblk
  have HB := Lib.hid hblk
  clear hblk
  replace hfew : n ≤ st.ops + 1 := hfew
  go_wp2_with fail
  go_loopw [4, 5, 6] (fun o d i wr => ∃ (k : Nat) (done : Bool) (l : List DF), k ≤ n ∧ (l.length ≤ k + 1 ∧ (done = false → l.length ≤ k)) ∧ i = .int .i64 k ∧ d = .bool done ∧ Files wr w1.heap.size o l ∧ Hid (l ++ (if done then L.drop k else ins f (L.drop k)) = ins f L) ∧ Below w1.heap.size w1 wr) (fun _ _ i _ => n - (RowKit.intOf i).toNat)
  case atStart => exact ⟨0, false, [], by omega, ⟨by simp, fun _ => by simp⟩, rfl, rfl, World.ownsRow_nil _ _ _ _, Lib.hid rfl, Below.refl _ _⟩
  case round =>
    obtain ⟨k, done, l, hk, ⟨hl, hl0⟩, rfl, rfl, hown, HI, hbel⟩ := hrel
    have hbk := (hbel.block Q hQ1).trans HB.out
    have hbox := (hbel.block _ hbl).trans HBox.out
    have q0 := cell_block (j := 0) hbk rfl
    have x0 := cell_block (j := 0) hbox rfl
    have x1 := cell_block (j := 1) hbox rfl
    have x2 := cell_block (j := 2) hbox rfl
    by_cases hlt : k < n
    · obtain ⟨g, hf⟩ : ∃ g, L[k]? = some g := ⟨L[k]'(by omega), List.getElem?_eq_getElem (by omega)⟩
      obtain ⟨b, rfl, hgl, hgq, c0, c1, c2⟩ := HR.out k g hf
      have e0 := ((bcell hbel).1 b (k * 3) hgl).trans c0
      have e1 := ((bcell hbel).1 b (k * 3 + 1) hgl).trans c1
      have e2 := ((bcell hbel).1 b (k * 3 + 2) hgl).trans c2
      have hdrop : L.drop k = g :: L.drop (k + 1) := by
        have hk' : k < L.length := by omega
        rw [List.drop_eq_getElem_cons hk', (List.getElem?_eq_some_iff.1 hf).2]
      clear c0 c1 c2 hbk hbox
      cases done with
      | true =>
        clear hl0
        have hI := HI.out
        rw [hdrop] at hI
        have HI2 : Hid ((l ++ [g]) ++ L.drop (k + 1) = ins f L) := Lib.hid (by simpa using hI)
        have hownd : Files wr.drew w1.heap.size u4 l := hown.drew
        clear hI hdrop HI
        go_wp2_with fail
        go_region
        have hbeld : Below w1.heap.size w1 wr.drew := hbel.drew
        go_wp2_with (at_builtin; refine wpList_append_own _ rfl _ _ 39 rfl w1.heap.size 65 i0 zeroFile 3 40 Try.underlying39 hi hz0 hz1 hz2 rfl (by decide) _ _ _ rfl (hownd.alloc _) ⟨wr.drew.heap.size, 0, none⟩ 1 1 (fileCells g) rfl rfl ?c1 ?c2 ?c3 ?c4 ?c5 ?_)
        case c1 =>
          intro j u hj
          match j, hj with
          | 0, hj => simp [fileCells] at hj; subst hj; simp [Addr.add]
          | 1, hj => simp [fileCells] at hj; subst hj; simp [Addr.add]
          | 2, hj => simp [fileCells] at hj; subst hj; simp [Addr.add]
        case c2 => intro u hu; simp [fileCells] at hu; rcases hu with rfl | rfl | rfl <;> rfl
        case c3 => unfold maxLen; omega
        case c4 => omega
        case c5 => have := hbel.size; simp; omega
        intro va vaw ho10 vag _
        have ho1 := files_append ho10
        have hb1 : Below w1.heap.size w1 vaw := grown_files hbeld hownd vag
        clear vag ho10
        go_wp2_with fail
        go_roundw
        case rel => exact ⟨k + 1, true, l ++ [g], by omega, ⟨by simp; omega, fun h => by cases h⟩, by go_num, rfl, ho1, HI2, hb1⟩
        case measure => simp [RowKit.intOf]; omega
      | false =>
        have hl0 := hl0 rfl
        have hI := HI.out
        rw [hdrop] at hI
        have hownd : Files wr.drew w1.heap.size u4 l := hown.drew
        have hbeld : Below w1.heap.size w1 wr.drew := hbel.drew
        cases hless : Op.bytesLess f.name.toList g.name.toList with
        | true =>
          have hl1 : less f.name g.name = true := hless
          have HI2 : Hid ((l ++ [f] ++ [g]) ++ L.drop (k + 1) = ins f L) := Lib.hid (by
            rw [← hI]
            simp [ins, hl1])
          clear hI hdrop HI hl1
          go_wp2_with fail
          go_region
          go_wp2_with (at_builtin; refine wpList_append_own _ rfl _ _ 39 rfl w1.heap.size 65 i0 zeroFile 3 40 Try.underlying39 hi hz0 hz1 hz2 rfl (by decide) _ _ _ rfl (hownd.alloc _) ⟨wr.drew.heap.size, 0, none⟩ 1 1 (fileCells f) rfl rfl ?c1 ?c2 ?c3 ?c4 ?c5 ?_)
          case c1 =>
            intro j u hj
            match j, hj with
            | 0, hj => simp [fileCells] at hj; subst hj; simp [Addr.add]
            | 1, hj => simp [fileCells] at hj; subst hj; simp [Addr.add]
            | 2, hj => simp [fileCells] at hj; subst hj; simp [Addr.add]
          case c2 => intro u hu; simp [fileCells] at hu; rcases hu with rfl | rfl | rfl <;> rfl
          case c3 => unfold maxLen; omega
          case c4 => omega
          case c5 => have := hbel.size; simp; omega
          intro va vaw ho10 vag _
          have ho1 := files_append ho10
          have hb1 : Below w1.heap.size w1 vaw := grown_files hbeld hownd vag
          clear vag ho10
          have hbox2 := (hb1.block _ hbl).trans HBox.out
          have hbk2 := (hb1.block Q hQ1).trans HB.out
          have p0 := cell_block (j := 0) hbk2 rfl
          have d0 := ((bcell hb1).1 b (k * 3) (by have := hgl; exact this)).trans (((bcell hbel).1 b (k * 3) hgl).symm.trans e0)
          have d1 := ((bcell hb1).1 b (k * 3 + 1) hgl).trans (((bcell hbel).1 b (k * 3 + 1) hgl).symm.trans e1)
          have d2 := ((bcell hb1).1 b (k * 3 + 2) hgl).trans (((bcell hbel).1 b (k * 3 + 2) hgl).symm.trans e2)
          clear hbox2 hbk2
          obtain ⟨l2, hl2⟩ : ∃ l2, l ++ [f] = l2 := ⟨_, rfl⟩
          have hlen2 : l2.length ≤ l.length + 1 := by rw [← hl2]; simp
          rw [hl2] at ho1 HI2
          clear hl2
          go_wp2_with (at_builtin; refine wpList_append_own _ rfl _ _ 39 rfl w1.heap.size 65 i0 zeroFile 3 40 Try.underlying39 hi hz0 hz1 hz2 rfl (by decide) _ _ _ rfl (ho1.alloc _) ⟨vaw.heap.size, 0, none⟩ 1 1 (fileCells g) rfl rfl ?c1 ?c2 ?c3 ?c4 ?c5 ?_)
          case c1 =>
            intro j u hj
            match j, hj with
            | 0, hj => simp [fileCells] at hj; subst hj; simp [Addr.add]
            | 1, hj => simp [fileCells] at hj; subst hj; simp [Addr.add]
            | 2, hj => simp [fileCells] at hj; subst hj; simp [Addr.add]
          case c2 => intro u hu; simp [fileCells] at hu; rcases hu with rfl | rfl | rfl <;> rfl
          case c3 => unfold maxLen; omega
          case c4 => omega
          case c5 => have := hb1.size; simp; omega
          intro vb vbw ho20 vbg _
          have ho2 := files_append ho20
          have hb2 : Below w1.heap.size w1 vbw := grown_files hb1 ho1 vbg
          clear vbg ho20
          go_wp2_with fail
          go_roundw
          case rel => exact ⟨k + 1, true, l2 ++ [g], by omega, ⟨by simp; omega, fun h => by cases h⟩, by go_num, rfl, ho2, HI2, hb2⟩
          case measure => simp [RowKit.intOf]; omega
        | false =>
          have hl1 : less f.name g.name = false := hless
          have HI2 : Hid ((l ++ [g]) ++ ins f (L.drop (k + 1)) = ins f L) := Lib.hid (by
            rw [← hI]
            simp [ins, hl1])
          clear hI hdrop HI hl1
          go_wp2_with fail
          go_region
          go_wp2_with (at_builtin; refine wpList_append_own _ rfl _ _ 39 rfl w1.heap.size 65 i0 zeroFile 3 40 Try.underlying39 hi hz0 hz1 hz2 rfl (by decide) _ _ _ rfl (hownd.alloc _) ⟨wr.drew.heap.size, 0, none⟩ 1 1 (fileCells g) rfl rfl ?c1 ?c2 ?c3 ?c4 ?c5 ?_)
          case c1 =>
            intro j u hj
            match j, hj with
            | 0, hj => simp [fileCells] at hj; subst hj; simp [Addr.add]
            | 1, hj => simp [fileCells] at hj; subst hj; simp [Addr.add]
            | 2, hj => simp [fileCells] at hj; subst hj; simp [Addr.add]
          case c2 => intro u hu; simp [fileCells] at hu; rcases hu with rfl | rfl | rfl <;> rfl
          case c3 => unfold maxLen; omega
          case c4 => omega
          case c5 => have := hbel.size; simp; omega
          intro va vaw ho10 vag _
          have ho1 := files_append ho10
          have hb1 : Below w1.heap.size w1 vaw := grown_files hbeld hownd vag
          clear vag ho10
          go_wp2_with fail
          go_roundw
          case rel => exact ⟨k + 1, false, l ++ [g], by omega, ⟨by simp; omega, fun _ => by simp; omega⟩, by go_num, rfl, ho1, HI2, hb1⟩
          case measure => simp [RowKit.intOf]; omega
    · obtain rfl : k = n := by omega
      have hdrop : L.drop k = [] := List.drop_of_length_le (by omega)
      have hI := HI.out
      rw [hdrop] at hI
      have f0 := free_block 0 hbk
      cases done with
      | true =>
        rw [show l = ins f L by simpa using hI] at hown
        obtain ⟨ao, capo, rfl⟩ := own_slice hown
        obtain ⟨r1, r2⟩ := rd_swap HD.out hbel hown HG.out
        have H1 := Lib.hid r1; have H2 := Lib.hid (HS1.out.trans r2)
        clear r1 r2 hown hbel hbk hI HI hdrop
        go_wp2_with fail
        go_end0
        exact ⟨rfl, _, H1.out, H2.out⟩
      | false =>
        have hI2 : l ++ [f] = ins f L := by simpa [ins] using hI
        clear hI HI hdrop
        go_wp2_with (at_builtin; refine wpList_append_own _ rfl _ _ 39 rfl w1.heap.size 65 i0 zeroFile 3 40 Try.underlying39 hi hz0 hz1 hz2 rfl (by decide) _ _ _ rfl (hown.alloc _) ⟨wr.heap.size, 0, none⟩ 1 1 (fileCells f) rfl rfl ?c1 ?c2 ?c3 ?c4 ?c5 ?_)
        case c1 =>
          intro j u hj
          match j, hj with
          | 0, hj => simp [fileCells] at hj; subst hj; simp
          | 1, hj => simp [fileCells] at hj; subst hj; simp
          | 2, hj => simp [fileCells] at hj; subst hj; simp
        case c2 => intro u hu; simp [fileCells] at hu; rcases hu with rfl | rfl | rfl <;> rfl
        case c3 => unfold maxLen; omega
        case c4 => omega
        case c5 => have := hbel.size; simp; omega
        intro va vaw ho10 vag _
        have ho1 := files_append ho10
        have hb1 : Below w1.heap.size w1 vaw := grown_files hbel hown vag
        clear vag ho10
        rw [hI2] at ho1
        have hbk2 := (hb1.block Q hQ1).trans HB.out
        have p0 := cell_block (j := 0) hbk2 rfl
        have g0 := free_block 0 hbk2
        obtain ⟨ao, capo, rfl⟩ := own_slice ho1
        obtain ⟨r1, r2⟩ := rd_swap HD.out hb1 ho1 HG.out
        have H1 := Lib.hid r1; have H2 := Lib.hid (HS1.out.trans r2)
        clear r1 r2 ho1 hb1 hbk2
        go_wp2_with fail
        go_end0
        exact ⟨rfl, _, H1.out, H2.out⟩
end Go.Proofs.Ytflkglnmenbmaaa.Disk
