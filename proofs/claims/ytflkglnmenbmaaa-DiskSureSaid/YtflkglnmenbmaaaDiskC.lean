/- The walks over Fuse, take and put of the document's disk. -/
import Derived.Test.YtflkglnmenbmaaaDiskB
import Derived.Deep.Onto
namespace Go.Proofs.Ytflkglnmenbmaaa.Disk
open Go.RowKit Go.Lib

abbrev zeroFile : Value := .agg #[.string ⟨#[]⟩, .string ⟨#[]⟩, .int .i64 0]
theorem info_file : (Try.prog.info? 65).map (fun i => (i.zero, i.size, i.bytes)) = some (some zeroFile, 3, 40) := by kernel_rfl
abbrev Files (w : World) (base : Nat) (v : Value) (l : List DF) : Prop := w.ownsRow base 65 3 v l.length (cells l)
theorem takeF_step (l : List DF) (s : ByteArray) (k : Nat) (f : DF) (h : l[k]? = some f) : takeF (l.take (k + 1)) s = takeF (l.take k) s ++ (if f.name = s then [] else [f]) := by
  have hk : k < l.length := (List.getElem?_eq_some_iff.1 h).1
  have hf : l[k] = f := (List.getElem?_eq_some_iff.1 h).2
  unfold takeF
  rw [List.take_succ_eq_append_getElem hk, List.filter_append, hf]
  congr 1
  by_cases e : f.name = s <;> simp [e]
theorem own_slice {w : World} {base : Nat} {e : TypeId} {size n : Nat} {v : Value} {xs : List Value} (h : w.ownsRow base e size v n xs) : ∃ a cap, v = .slice a n cap := by
  rcases h.2 with ⟨hv, h0⟩ | ⟨g, cap, _, hv, _⟩
  · exact ⟨none, 0, by rw [hv, h0]⟩
  · exact ⟨_, cap, hv⟩
/-- The files are other ones: a row of the call's own is laid into the disk. -/
theorem rd_swap {w wr : World} {Q : Nat} {v o : Value} {st : DS} {l : List DF} (h : RD w Q v st) (hb : Below w.heap.size w wr) (hown : Files wr w.heap.size o l) (hg : Good { st with fs := l }) :
    RD (wr.setCell ⟨Q, 0, none⟩ o) Q o { st with fs := l } ∧ Step w (wr.setCell ⟨Q, 0, none⟩ o) Q v o := by
  have hbk : wr.heap[Q]? = _ := (hb.block Q h.lt).trans h.block
  have hlo := hown.lt
  have hlt := h.lt
  have hne : o.ownBlock ≠ some Q := fun e => by have := (hlo Q e).1; omega
  refine ⟨⟨heap_setCell_same wr Q 0 _ _ o hbk, (World.ownsRow.kept (hown.mono (Nat.zero_le _)) (only_setCell (only_refl wr (some Q)) 0 o) (.inr hne)), hg⟩, ?_⟩
  exact ⟨hb.os, hb.tape, hb.output, by simpa [World.setCell] using hb.size, fun k hk hq _ => (Below.heap_setCell wr ⟨Q, 0, none⟩ o k (fun e => hq e)).trans (hb.block k hk), .inr (fun g hg => (hlo g hg).1)⟩
theorem Good.take {st : DS} (h : Good st) (s : ByteArray) : Good { st with fs := takeF st.fs s } := by
  have hu := used_take st.fs s
  refine ⟨h.room, Nat.le_trans ?_ h.fit, fun f hf => h.sure f ((List.mem_filter.1 hf).1), Nat.le_trans (List.length_filter_le _ _) h.few, h.last⟩
  show usedF (takeF st.fs s) ≤ usedF st.fs
  omega
set_option maxRecDepth 100000 in
set_option maxHeartbeats 1000000 in
theorem fuse_any (Q : Nat) (v : Value) (st : DS) (n : Int) (half : Bool) (w : World) (h : RD w Q v st) (hn : -9223372036854775808 ≤ n ∧ n ≤ 9223372036854775807) :
    Calls Try.prog 31 #[.pointer (some ⟨Q, 0, none⟩), .int .i64 n, .bool half] w fun e w' => e = .returned (.tuple #[]) ∧ RD w' Q v (fuseS st n half) ∧ Step w w' Q v v := by
  have q3 := cell_block (j := 3) h.block rfl
  have q4 := cell_block (j := 4) h.block rfl
  have f3 := free_block 3 h.block
  have f4 := free_block 4 h.block
  obtain ⟨m, hm⟩ : ∃ m, (max 0 n).toNat = m := ⟨_, rfl⟩
  have g0 := only_setCell (only_refl w (some Q)) 3 (.int .i64 (m : Int))
  have b0 := heap_setCell_same w Q 3 _ _ (.int .i64 (m : Int)) h.block
  have g1 := only_setCell g0 4 (.bool half)
  have b1 := heap_setCell_same _ Q 4 _ _ (.bool half) b0
  have hG : Good { st with last := m, half := half } := ⟨h.good.room, h.good.fit, h.good.sure, h.good.few, by show m ≤ _; omega⟩
  have hR := h.inBlock (st' := { st with last := m, half := half }) g1 rfl hG b1
  have hF : fuseS st n half = { st with last := m, half := half } := by unfold fuseS; rw [hm]
  rw [hF]
  have HR := Lib.hid hR; have HS := Lib.hid (step_grown v g1)
  clear hR hG g0 b0 g1 b1 hF h
  by_cases h0 : n ≤ 0
  · obtain rfl : m = 0 := by omega
    go_enter Try.func31, Try.ntmps31
    go_wp2_with fail
    go_end0
    exact ⟨rfl, HR.out, HS.out⟩
  · obtain rfl : n = (m : Int) := by omega
    have hm0 : 0 < m := by omega
    go_enter Try.func31, Try.ntmps31
    go_wp2_with fail
    go_end0
    exact ⟨rfl, HR.out, HS.out⟩
set_option maxRecDepth 100000 in
set_option maxHeartbeats 1000000 in
theorem take_any (Q : Nat) (v : Value) (st : DS) (s : ByteArray) (w : World) (h : RD w Q v st) (ho : st.ops ≤ 1048576) :
    Calls Try.prog 48 #[.pointer (some ⟨Q, 0, none⟩), .string s] w fun e w' => e = .returned (.tuple #[]) ∧ ∃ v', RD w' Q v' { st with fs := takeF st.fs s } ∧ Step w w' Q v v' := by
  obtain ⟨i0, hi, hz0, hz1, hz2⟩ := info_parts info_file
  obtain ⟨a, cap, rfl, hcap, _, hrow⟩ := h.rowed
  have hfew := h.good.few
  have HR := Lib.hid hrow; have HD := Lib.hid h
  have hQ := h.lt
  have hblk := h.block
  clear hrow h
  obtain ⟨n, hn⟩ : ∃ n, st.fs.length = n := ⟨_, rfl⟩
  rw [hn] at hcap hfew hblk
  have HB := Lib.hid hblk
  clear hblk
  go_enter Try.func48, Try.ntmps48
  go_wp2_with fail
  go_loopw [4, 5] (fun o i wr => ∃ k : Nat, k ≤ n ∧ i = .int .i64 k ∧ Files wr w.heap.size o (takeF (st.fs.take k) s) ∧ Below w.heap.size w wr) (fun _ i _ => n - (RowKit.intOf i).toNat)
  case atStart => exact ⟨0, by omega, rfl, World.ownsRow_nil _ _ _ _, Below.refl _ _⟩
  case round =>
    obtain ⟨k, hk, rfl, hown, hbel⟩ := hrel
    have hbk := (hbel.block Q hQ).trans HB.out
    have q0 := cell_block (j := 0) hbk rfl
    by_cases hlt : k < n
    · obtain ⟨f, hf⟩ : ∃ f, st.fs[k]? = some f := ⟨st.fs[k]'(by omega), List.getElem?_eq_getElem (by omega)⟩
      obtain ⟨g, rfl, hgl, hgq, c0, c1, c2⟩ := HR.out k f hf
      have e0 := ((bcell hbel).1 g (k * 3) hgl).trans c0
      have e1 := ((bcell hbel).1 g (k * 3 + 1) hgl).trans c1
      have e2 := ((bcell hbel).1 g (k * 3 + 2) hgl).trans c2
      have hstep := takeF_step st.fs s k f hf
      have hlen : (takeF (st.fs.take k) s).length ≤ k := Nat.le_trans (List.length_filter_le _ _) (by rw [List.length_take]; omega)
      clear c0 c1 c2 hbk
      by_cases he : f.name = s
      · rw [if_pos he, List.append_nil] at hstep
        rw [he] at e0
        have HST := Lib.hid hstep; have HO := Lib.hid hown; have HBl := Lib.hid hbel
        clear hstep hown hbel
        go_wp2_with fail
        go_roundw
        case rel => exact ⟨k + 1, by omega, by go_num, by rw [HST.out]; exact HO.out, HBl.out⟩
        case measure => simp [RowKit.intOf]; omega
      · rw [if_neg he] at hstep
        have he3 := bytes_ne he
        have HST := Lib.hid hstep
        clear hstep
        go_wp2_with (at_builtin; refine wpList_append_own _ rfl _ _ 39 rfl w.heap.size 65 i0 zeroFile 3 40 Try.underlying39 hi hz0 hz1 hz2 rfl (by decide) _ _ _ rfl (hown.alloc _) ⟨wr.heap.size, 0, none⟩ 1 1 [.string f.name, .string f.bytes, .int .i64 (f.sure : Int)] rfl rfl ?c1 ?c2 ?c3 ?c4 ?c5 ?_)
        case c1 =>
          intro j u hj
          match j, hj with
          | 0, hj => simp at hj; subst hj; simp [Addr.add]
          | 1, hj => simp at hj; subst hj; simp [Addr.add]
          | 2, hj => simp at hj; subst hj; simp [Addr.add]
        case c2 => intro u hu; simp at hu; rcases hu with rfl | rfl | rfl <;> rfl
        case c3 => unfold maxLen; omega
        case c4 => omega
        case c5 => have := hbel.size; simp; omega
        intro v' w1 hown' hgrow _
        have hbel1 : Below w.heap.size w w1 := by
          have hs := hbel.size
          have h1 : Below w.heap.size w (wr.alloc (.cells #[.string f.name, .string f.bytes, .int .i64 (f.sure : Int)] 65)) := hbel.alloc hs _
          exact h1.grown hgrow (by have := h1.size; exact this) (fun q hq => (hown.lt q hq).1)
        clear hgrow hown hbel
        go_wp2_with fail
        go_roundw
        case rel =>
          refine ⟨k + 1, by omega, by go_num, ?_, hbel1⟩
          rw [HST.out]
          show w1.ownsRow w.heap.size 65 3 v' (takeF (st.fs.take k) s ++ [f]).length (cells (takeF (st.fs.take k) s ++ [f]))
          rw [cells_snoc, List.length_append]
          exact hown'
        case measure => simp [RowKit.intOf]; omega
    · obtain rfl : k = n := by omega
      have hall : st.fs.take k = st.fs := List.take_of_length_le (by omega)
      rw [hall] at hown
      obtain ⟨ao, capo, rfl⟩ := own_slice hown
      obtain ⟨r1, r2⟩ := rd_swap HD.out hbel hown (HD.out.good.take s)
      have f0 := free_block 0 hbk
      have H1 := Lib.hid r1; have H2 := Lib.hid r2
      clear r1 r2 hown hbel hall hbk
      go_wp2_with fail
      go_end0
      exact ⟨rfl, _, H1.out, H2.out⟩
end Go.Proofs.Ytflkglnmenbmaaa.Disk
