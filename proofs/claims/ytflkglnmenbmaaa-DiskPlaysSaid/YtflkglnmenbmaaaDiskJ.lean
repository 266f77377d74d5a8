/- The walk over Crash of the document's disk. -/
import Derived.Test.YtflkglnmenbmaaaDiskI
import Derived.Deep.AppendLies
import Derived.Deep.RegionLaw
import Derived.Deep.RegionHeldLaw
namespace Go.Proofs.Ytflkglnmenbmaaa.Disk
open Go.RowKit Go.Lib

/-- The numbers of a slice that came in. -/
abbrev Ints (w : World) (a : Option Addr) (n : Nat) (Z : Nat → Int) : Prop := ∀ j, j < n → ∃ b off, a = some ⟨b, off, none⟩ ∧ b < w.heap.size ∧ w.cell? ⟨b, off + j, none⟩ = some (.int .i64 (Z j))
def keepOf (n : Nat) (Z : Nat → Int) (i : Nat) : Option Int := if i < n then some (Z i) else none
theorem crash_snoc (keep : Nat → Option Int) (f : DF) : ∀ (l : List DF) (i : Nat), crashF keep i (l ++ [f]) = crashF keep i l ++ piece f (kept f (keep (i + l.length)))
  | [], i => by simp [crashF]
  | g :: l, i => by
    simp only [List.cons_append, crashF, List.length_cons]
    rw [crash_snoc keep f l (i + 1), List.append_assoc, show i + 1 + l.length = i + (l.length + 1) by omega]
theorem crash_take (keep : Nat → Option Int) (l : List DF) (k : Nat) (f : DF) (h : l[k]? = some f) : crashF keep 0 (l.take (k + 1)) = crashF keep 0 (l.take k) ++ piece f (kept f (keep k)) := by
  have hk : k < l.length := (List.getElem?_eq_some_iff.1 h).1
  have hf : l[k] = f := (List.getElem?_eq_some_iff.1 h).2
  rw [List.take_succ_eq_append_getElem hk, hf, crash_snoc, List.length_take, Nat.min_eq_left (Nat.le_of_lt hk), Nat.zero_add]
theorem kept_le {f : DF} (h : f.sure ≤ f.bytes.size) (k : Option Int) : kept f k ≤ f.bytes.size := by
  unfold kept
  cases k with
  | none => simpa using h
  | some x =>
    have := Nat.mod_lt ((x % 4611686018427387904).toNat) (show 0 < f.bytes.size - f.sure + 1 by omega)
    simp only
    omega
theorem piece_used {f : DF} {n : Nat} (h : n ≤ f.bytes.size) : usedF (piece f n) ≤ f.bytes.size := by
  unfold piece
  split
  · simp only [usedF, ByteArray.size_extract]; omega
  · simp [usedF]
theorem used_append : ∀ a b : List DF, usedF (a ++ b) = usedF a + usedF b
  | [], b => by simp [usedF]
  | f :: a, b => by simp only [List.cons_append, usedF, used_append a b]; omega
theorem crash_good {keep : Nat → Option Int} : ∀ (l : List DF) (i : Nat), (∀ f ∈ l, f.sure ≤ f.bytes.size) → usedF (crashF keep i l) ≤ usedF l ∧ (crashF keep i l).length ≤ l.length ∧ ∀ f ∈ crashF keep i l, f.sure ≤ f.bytes.size
  | [], i, _ => by simp [crashF]
  | f :: l, i, h => by
    obtain ⟨h1, h2, h3⟩ := crash_good (keep := keep) l (i + 1) (fun x hx => h x (by simp [hx]))
    have hk := kept_le (h f (by simp)) (keep i)
    have hp := piece_used hk
    have e : crashF keep i (f :: l) = piece f (kept f (keep i)) ++ crashF keep (i + 1) l := rfl
    rw [e]
    refine ⟨?_, ?_, fun x hx => ?_⟩
    · rw [used_append]
      show _ ≤ f.bytes.size + usedF l
      omega
    · rw [List.length_append, List.length_cons]
      have : (piece f (kept f (keep i))).length ≤ 1 := by unfold piece; split <;> simp
      omega
    · rw [List.mem_append] at hx
      rcases hx with hx | hx
      · unfold piece at hx
        split at hx
        · simp at hx
          subst hx
          simp only [ByteArray.size_extract]
          omega
        · cases hx
      · exact h3 x hx
theorem Good.crash {st : DS} (h : Good st) (keep : Nat → Option Int) : Good (crashS st keep) := by
  obtain ⟨h1, h2, h3⟩ := crash_good (keep := keep) st.fs 0 h.sure
  exact ⟨h.room, Nat.le_trans h1 h.fit, h3, Nat.le_trans h2 h.few, Nat.zero_le _⟩
theorem and_62 (x : Int) : bits .and .i64 x 4611686018427387903 = ((x % 4611686018427387904).toNat : Int) := by
  show IntKind.i64.wrap ((BitVec.ofInt 64 x &&& BitVec.ofInt 64 4611686018427387903).toNat : Int) = _
  rw [BitVec.toNat_and, show (BitVec.ofInt 64 4611686018427387903).toNat = 2 ^ 62 - 1 from rfl, Nat.and_two_pow_sub_one_eq_mod, BitVec.toNat_ofInt]
  have h : (x % ((2 ^ 64 : Nat) : Int)).toNat % 2 ^ 62 = (x % 4611686018427387904).toNat := by omega
  rw [h]
  have h2 : (x % 4611686018427387904).toNat < 4611686018427387904 := by omega
  generalize (x % 4611686018427387904).toNat = q at h2
  simp [IntKind.wrap, IntKind.bits, IntKind.signed]
  omega
set_option maxRecDepth 100000 in
set_option maxHeartbeats 2000000 in
theorem crash_any (Q : Nat) (v : Value) (st : DS) (ka : Option Addr) (kn kc : Nat) (Z : Nat → Int) (w : World) (h : RD w Q v st) (ho : st.ops ≤ 1048576) (hk : Ints w ka kn Z) (hkn : kn ≤ maxLen) :
    Calls Try.prog 32 #[.pointer (some ⟨Q, 0, none⟩), .slice ka kn kc] w fun e w' => e = .returned (.int .i64 0) ∧ ∃ v', RD w' Q v' (crashS st (keepOf kn Z)) ∧ Step w w' Q v v' := by
  unfold maxLen at hkn
  obtain ⟨i0, hi, hz0, hz1, hz2⟩ := info_parts info_file
  obtain ⟨a, cap, rfl, hcap, _, hrow⟩ := h.rowed
  have hfew := h.good.few; have hsure := h.good.sure
  have hroom := h.good.room; have hfit := h.good.fit
  have HR := Lib.hid hrow; have HD := Lib.hid h; have HK := Lib.hid hk; have HS := Lib.hid hsure
  have hQ := h.lt
  have hblk := h.block
  clear hrow h hk hsure
  obtain ⟨n, hn⟩ : ∃ n, st.fs.length = n := ⟨_, rfl⟩
  rw [hn] at hcap hfew hblk
  have HB := Lib.hid hblk
  clear hblk
  go_enter Try.func32, Try.ntmps32
  go_wp2_with fail
  go_loopw [5, 6] (fun o i wr => ∃ k : Nat, k ≤ n ∧ i = .int .i64 k ∧ Files wr w.heap.size o (crashF (keepOf kn Z) 0 (st.fs.take k)) ∧ Below w.heap.size w wr) (fun _ i _ => n - (RowKit.intOf i).toNat)
  case atStart => exact ⟨0, by omega, rfl, World.ownsRow_nil _ _ _ _, Below.refl _ _⟩
  case round =>
    obtain ⟨k, hk, rfl, hown, hbel⟩ := hrel
    have hbk := (hbel.block Q hQ).trans HB.out
    have q0 : wr.cell? ⟨Q, 0, none⟩ = some (.slice a n cap) := cell_block hbk rfl
    by_cases hlt : k < n
    · obtain ⟨f, hf⟩ : ∃ f, st.fs[k]? = some f := ⟨st.fs[k]'(by omega), List.getElem?_eq_getElem (by omega)⟩
      obtain ⟨g, rfl, hgl, hgq, c0, c1, c2⟩ := HR.out k f hf
      have e0 := ((bcell hbel).1 g (k * 3) hgl).trans c0
      have e1 := ((bcell hbel).1 g (k * 3 + 1) hgl).trans c1
      have e2 := ((bcell hbel).1 g (k * 3 + 2) hgl).trans c2
      have hfm : f ∈ st.fs := List.mem_of_getElem? hf
      have hfs := HS.out f hfm
      have hfu := used_mem hfm
      have hstep := crash_take (keepOf kn Z) st.fs k f hf
      have hlen : (crashF (keepOf kn Z) 0 (st.fs.take k)).length ≤ k := Nat.le_trans (crash_good _ 0 (fun x hx => HS.out x (List.mem_of_mem_take hx))).2.1 (by rw [List.length_take]; omega)
      have hal : Below w.heap.size w (wr.alloc (.cells #[.string f.name, .string f.bytes, .int .i64 (f.sure : Int)] 65)) := hbel.alloc hbel.size _
      by_cases hkk : k < kn
      · obtain ⟨kb, koff, rfl, hkb, hkcell⟩ := HK.out k hkk
        have z0 := ((bcell hal).1 kb (koff + k) hkb).trans hkcell
        have hb62 := and_62 (Z k)
        obtain ⟨q, hq⟩ : ∃ q, (Z k % 4611686018427387904).toNat = q := ⟨_, rfl⟩
        obtain ⟨d, hd⟩ : ∃ d, f.bytes.size - f.sure + 1 = d := ⟨_, rfl⟩
        have hdd : (f.bytes.size : Int) - (f.sure : Int) + 1 = (d : Int) := by omega
        have hrem : ((q : Int)).tmod (d : Int) = ((q % d : Nat) : Int) := rfl
        obtain ⟨m, hm⟩ : ∃ m, f.sure + q % d = m := ⟨_, rfl⟩
        have hkept : kept f (keepOf kn Z k) = m := by unfold kept keepOf; rw [if_pos hkk]; simp only; rw [hq, hd, hm]
        have hmle : m ≤ f.bytes.size := by rw [← hkept]; exact kept_le hfs _
        have hqd : q % d < d := Nat.mod_lt _ (by omega)
        rw [hq] at hb62
        rw [hkept] at hstep
        obtain ⟨r, hr⟩ : ∃ r, q % d = r := ⟨_, rfl⟩
        rw [hr] at hm hrem hqd
        have hsum : (f.sure : Int) + (r : Int) = (m : Int) := by omega
        have HST := Lib.hid hstep; have HAl := Lib.hid hal
        have hd1 : 0 < d := by omega
        clear hstep hal c0 c1 c2 hbk hkept hq hr hd hm hkcell
        go_wp2_with fail
        go_region
        obtain ⟨W, hW⟩ : ∃ W, (wr.alloc (.cells #[.string f.name, .string f.bytes, .int .i64 (f.sure : Int)] 65)).drew = W := ⟨_, rfl⟩
        have hbelW : Below w.heap.size w W := by rw [← hW]; exact HAl.out.drew
        have hownW : Files W w.heap.size u5 (crashF (keepOf kn Z) 0 (st.fs.take k)) := by rw [← hW]; exact (hown.alloc _).drew
        have hboxW : W.heap[wr.heap.size]? = some (.cells #[.string f.name, .string f.bytes, .int .i64 (f.sure : Int)] 65 (0, 0)) := by rw [← hW]; exact heap_alloc_new wr _
        rw [hW]
        have x0 : W.cell? ⟨wr.heap.size, 0, none⟩ = some (.string f.name) := cell_block hboxW rfl
        have x1 : W.cell? ⟨wr.heap.size, 1, none⟩ = some (.string f.bytes) := cell_block hboxW rfl
        obtain ⟨b, hb⟩ : ∃ b, f.bytes.extract 0 m = b := ⟨_, rfl⟩
        have hsz := hbelW.size
        clear hW hboxW hown hbel e0 e1 e2 q0
        by_cases hm0 : 0 < m
        · have hpc : piece f m = [⟨f.name, b, m⟩] := by unfold piece; rw [if_pos hm0, hb]
          have hst2 := HST.out
          rw [hpc] at hst2
          have HST2 := Lib.hid hst2
          clear hst2 hpc
          go_wp2_with fail
          go_region_law ((refine step_append_lies _ (by rfl) _ _ _ (by rfl) w.heap.size 65 i0 zeroFile 3 40 Try.underlying39 hi hz0 hz1 hz2 (by rfl) (by omega) u5 (crashF (keepOf kn Z) 0 (st.fs.take k)).length _ (by rfl) ((hownW.alloc _).drew) ⟨W.heap.size, 0, none⟩ 1 1 [.string f.name, .string b, .int .i64 (m : Int)] (by rfl) (by rfl) (World.news_of_block (cs := #[.string f.name, .string b, .int .i64 (m : Int)]) (t := 65) (fr := (0, 0)) (heap_alloc_new W _)) (by simp [Value.oneCell']) (by omega) (by unfold maxLen; omega) (by omega) (by simp; omega) (W.heap.size + 1) (by simp) ?_; intro g' cap' w1 hown1 hgrow hat hlt1))
          all_goals
            have hb1 : Below w.heap.size w ((W.alloc (.cells #[.string f.name, .string b, .int .i64 (m : Int)] 65)).drew) := (hbelW.alloc hsz _).drew
            have hbel1 : Below w.heap.size w w1 := hb1.grown hgrow (by simp; omega) (fun q hq => (hownW.lt q hq).1)
            have ht : Files w1 w.heap.size (.slice (some ⟨g', 0, none⟩) ((crashF (keepOf kn Z) 0 (st.fs.take k)).length + 1) cap') (crashF (keepOf kn Z) 0 (st.fs.take k) ++ [⟨f.name, b, m⟩]) := files_append hown1
            rw [← HST2.out] at ht
            have HTT := Lib.hid ht; have HBl := Lib.hid hbel1
            clear hgrow hat hownW hbelW hb1 hown1 ht hbel1
            go_wp2_with fail
            go_roundw
            case rel => exact ⟨k + 1, by omega, by go_num, HTT.out, HBl.out⟩
            case measure => simp [RowKit.intOf]; omega
        · have hpc : piece f m = [] := by unfold piece; rw [if_neg hm0]
          have hst2 := HST.out
          rw [hpc, List.append_nil] at hst2
          have HST2 := Lib.hid hst2
          clear hst2 hpc
          go_wp2_with fail
          go_roundw
          case rel => exact ⟨k + 1, by omega, by go_num, by rw [HST2.out]; exact hownW, hbelW⟩
          case measure => simp [RowKit.intOf]; omega
      · have hkept : kept f (keepOf kn Z k) = f.sure := by unfold kept keepOf; rw [if_neg hkk]; rfl
        rw [hkept] at hstep
        have HAl := Lib.hid hal
        by_cases hm0 : 0 < f.sure
        · obtain ⟨b, hb⟩ : ∃ b, f.bytes.extract 0 f.sure = b := ⟨_, rfl⟩
          have hpc : piece f f.sure = [⟨f.name, b, f.sure⟩] := by unfold piece; rw [if_pos hm0, hb]
          rw [hpc] at hstep
          have HST2 := Lib.hid hstep
          clear hstep hal c0 c1 c2 hbk hkept hpc
          go_wp2_with fail
          obtain ⟨W, hW⟩ : ∃ W, wr.alloc (.cells #[.string f.name, .string f.bytes, .int .i64 (f.sure : Int)] 65) = W := ⟨_, rfl⟩
          have hbelW : Below w.heap.size w W := by rw [← hW]; exact HAl.out
          have hownW : Files W w.heap.size u5 (crashF (keepOf kn Z) 0 (st.fs.take k)) := by rw [← hW]; exact hown.alloc _
          have hboxW : W.heap[wr.heap.size]? = some (.cells #[.string f.name, .string f.bytes, .int .i64 (f.sure : Int)] 65 (0, 0)) := by rw [← hW]; exact heap_alloc_new wr _
          rw [hW]
          have x0 : W.cell? ⟨wr.heap.size, 0, none⟩ = some (.string f.name) := cell_block hboxW rfl
          have x1 : W.cell? ⟨wr.heap.size, 1, none⟩ = some (.string f.bytes) := cell_block hboxW rfl
          have hsz := hbelW.size
          clear hW hboxW hown hbel e0 e1 e2 q0
          go_region_law ((refine step_append_lies _ (by rfl) _ _ _ (by rfl) w.heap.size 65 i0 zeroFile 3 40 Try.underlying39 hi hz0 hz1 hz2 (by rfl) (by omega) u5 (crashF (keepOf kn Z) 0 (st.fs.take k)).length _ (by rfl) ((hownW.alloc _).drew) ⟨W.heap.size, 0, none⟩ 1 1 [.string f.name, .string b, .int .i64 (f.sure : Int)] (by rfl) (by rfl) (World.news_of_block (cs := #[.string f.name, .string b, .int .i64 (f.sure : Int)]) (t := 65) (fr := (0, 0)) (heap_alloc_new W _)) (by simp [Value.oneCell']) (by omega) (by unfold maxLen; omega) (by omega) (by simp; omega) (W.heap.size + 1) (by simp) ?_; intro g' cap' w1 hown1 hgrow hat hlt1))
          all_goals
            have hb1 : Below w.heap.size w ((W.alloc (.cells #[.string f.name, .string b, .int .i64 (f.sure : Int)] 65)).drew) := (hbelW.alloc hsz _).drew
            have hbel1 : Below w.heap.size w w1 := hb1.grown hgrow (by simp; omega) (fun q hq => (hownW.lt q hq).1)
            have ht : Files w1 w.heap.size (.slice (some ⟨g', 0, none⟩) ((crashF (keepOf kn Z) 0 (st.fs.take k)).length + 1) cap') (crashF (keepOf kn Z) 0 (st.fs.take k) ++ [⟨f.name, b, f.sure⟩]) := files_append hown1
            rw [← HST2.out] at ht
            have HTT := Lib.hid ht; have HBl := Lib.hid hbel1
            clear hgrow hat hownW hbelW hb1 hown1 ht hbel1
            go_wp2_with fail
            go_roundw
            case rel => exact ⟨k + 1, by omega, by go_num, HTT.out, HBl.out⟩
            case measure => simp [RowKit.intOf]; omega
        · have hpc : piece f f.sure = [] := by unfold piece; rw [if_neg hm0]
          rw [hpc, List.append_nil] at hstep
          have HST2 := Lib.hid hstep; have HO := Lib.hid (hown.alloc (.cells #[.string f.name, .string f.bytes, .int .i64 (f.sure : Int)] 65))
          clear hstep hal c0 c1 c2 hbk hkept hpc hown hbel
          go_wp2_with fail
          go_roundw
          case rel => exact ⟨k + 1, by omega, by go_num, by rw [HST2.out]; exact HO.out, HAl.out⟩
          case measure => simp [RowKit.intOf]; omega
    · obtain rfl : k = n := by omega
      rw [List.take_of_length_le (by omega)] at hown
      obtain ⟨ao, capo, rfl⟩ := own_slice hown
      have hG := HD.out.good.crash (keepOf kn Z)
      have hG1 : Good { st with fs := crashF (keepOf kn Z) 0 st.fs } := ⟨hG.room, hG.fit, hG.sure, hG.few, HD.out.good.last⟩
      obtain ⟨r1, r2⟩ := rd_swap HD.out hbel hown hG1
      have f0 := free_block 0 hbk
      have g0 := only_setCell (only_refl (wr.setCell ⟨Q, 0, none⟩ (.slice ao (crashF (keepOf kn Z) 0 st.fs).length capo)) (some Q)) 5 (.bool false)
      have b0 := heap_setCell_same _ Q 5 _ _ (.bool false) r1.block
      have g1 := only_setCell g0 3 (.int .i64 0)
      have b1 := heap_setCell_same _ Q 3 _ _ (.int .i64 0) b0
      have hR := r1.inBlock (st' := crashS st (keepOf kn Z)) g1 rfl hG b1
      have hSt := r2.trans (step_grown _ g1)
      have q5 : wr.cell? ⟨Q, 5, none⟩ = some (.bool st.dead) := cell_block hbk rfl
      have q3 : wr.cell? ⟨Q, 3, none⟩ = some (.int .i64 (st.last : Int)) := cell_block hbk rfl
      have f5 := free_block 5 hbk
      have f3 := free_block 3 hbk
      have H1 := Lib.hid hR; have H2 := Lib.hid hSt
      clear r1 r2 hown hbel hbk hG hG1 hR hSt g0 b0 g1 b1
      go_wp2_with fail
      go_ret
      exact ⟨rfl, _, H1.out, H2.out⟩
end Go.Proofs.Ytflkglnmenbmaaa.Disk
