/- The walk over Crash. -/
import Derived.Test.YtflkglnmenbmaaaDiskImD
import Derived.Test.YtflkglnmenbmaaaDiskImF
import Derived.Test.YtflkglnmenbmaaaDiskImI
import Derived.Test.YtflkglnmenbmaaaDiskImM
namespace Go.Proofs.Ytflkglnmenbmaaa.Disk.Im
open Go.RowKit Go.Lib

theorem take_mid {A B : List DF} {f : DF} (h : Sorted (A ++ f :: B)) : takeF (A ++ f :: B) f.name = A ++ B := by
  obtain ⟨_, h2, h3⟩ := List.pairwise_append.1 h
  unfold takeF
  rw [List.filter_append, List.filter_cons]
  have hA : A.filter (fun g => decide (g.name ≠ f.name)) = A := List.filter_eq_self.2 (fun g hg => by
    have := h3 g hg f (by simp)
    have := less_ne this
    simpa using this)
  have hB : B.filter (fun g => decide (g.name ≠ f.name)) = B := List.filter_eq_self.2 (fun g hg => by
    have := less_ne ((List.pairwise_cons.1 h2).1 g hg)
    simpa using fun e => this e.symm)
  rw [hA, hB]
  simp
theorem take_gone {A B : List DF} {f : DF} (h : Sorted (A ++ f :: B)) : takeF (A ++ B) f.name = A ++ B := by
  rw [← take_mid h]
  exact take_same takeF_ne
theorem ins_mid {B : List DF} {f : DF} (hB : ∀ g ∈ B, less f.name g.name = true) : ∀ {A : List DF}, (∀ g ∈ A, less g.name f.name = true) → ins f (A ++ B) = A ++ f :: B
  | [], _ => ins_front hB
  | a :: A, h => by
    have ha := h a (by simp)
    have hn : ¬ less f.name a.name = true := fun e => by
      have := less_trans ha e
      rw [less_irrefl] at this
      cases this
    show ins f (a :: (A ++ B)) = a :: (A ++ f :: B)
    unfold ins
    rw [if_neg hn, ins_mid hB (fun g hg => h g (by simp [hg]))]
theorem put_mid {A B : List DF} {f : DF} (b : ByteArray) (n : Nat) (h : Sorted (A ++ f :: B)) : putF (A ++ B) ⟨f.name, b, n⟩ = A ++ ⟨f.name, b, n⟩ :: B := by
  obtain ⟨_, h2, h3⟩ := List.pairwise_append.1 h
  unfold putF
  rw [take_gone h]
  exact ins_mid (f := ⟨f.name, b, n⟩) (fun g hg => (List.pairwise_cons.1 h2).1 g hg) (fun g hg => h3 g hg f (by simp))
/-- Behind i files of the crash. -/
def crashing (K : Nat → Option Int) (l : List DF) (i : Nat) : List DF := crashF K 0 (l.take i) ++ l.drop i
theorem crashing_at {K : Nat → Option Int} {l : List DF} {i : Nat} {f : DF} (h : l[i]? = some f) : crashing K l i = crashF K 0 (l.take i) ++ f :: l.drop (i + 1) := by
  unfold crashing
  have hi := (List.getElem?_eq_some_iff.1 h).1
  rw [List.drop_eq_getElem_cons hi, (List.getElem?_eq_some_iff.1 h).2]
theorem crashing_next {K : Nat → Option Int} {l : List DF} {i : Nat} {f : DF} (h : l[i]? = some f) : crashing K l (i + 1) = crashF K 0 (l.take i) ++ piece f (kept f (K i)) ++ l.drop (i + 1) := by
  unfold crashing
  rw [crash_take K l i f h]
theorem crashing_all (K : Nat → Option Int) (l : List DF) : crashing K l l.length = crashF K 0 l := by
  unfold crashing
  simp
theorem crashing_used {K : Nat → Option Int} {l : List DF} {i : Nat} (h : ∀ f ∈ l, f.sure ≤ f.bytes.size) : usedF (crashing K l i) ≤ usedF l ∧ (crashing K l i).length ≤ l.length := by
  have h1 := crash_good (keep := K) (l.take i) 0 (fun f hf => h f (List.mem_of_mem_take hf))
  unfold crashing
  rw [used_append, List.length_append]
  have h2 : usedF (l.take i) + usedF (l.drop i) = usedF l := by rw [← used_append, List.take_append_drop]
  have h3 : (l.take i).length + (l.drop i).length = l.length := by rw [← List.length_append, List.take_append_drop]
  exact ⟨by omega, by omega⟩
/-- The numbers that came in are as they were: of the disk's own block only what is free has turned, and that behind the first round. -/
theorem keep_at {w wr : World} {Q Mb : Nat} {fz : Int} {V V' : ByteArray → Value} {st st' : DS} {ka : Option Addr} {kn : Nat} {Z : Nat → Int} (h : PDX w Q Mb fz V st) (hk : Ints w ka kn Z) (h' : PDX wr Q Mb fz V' st') (hops : st'.ops = st.ops) (hs : StepF w wr (QM Q Mb) (QM Q Mb))
    {i : Nat} (hi : i < kn) (h0 : i = 0 → (st'.room : Int) - (usedF st'.fs : Int) = (st.room : Int) - (usedF st.fs : Int)) : ∃ b off, ka = some ⟨b, off, none⟩ ∧ wr.cell? ⟨b, off + i, none⟩ = some (.int .i64 (Z i)) := by
  obtain ⟨b, off, e, hb, hc⟩ := hk i hi
  refine ⟨b, off, e, ?_⟩
  by_cases hM : b = Mb
  · subst hM
    obtain ⟨es, clock, hm⟩ := h.map.block
    simp [World.cell?, hm] at hc
  · by_cases hQ : b = Q
    · subst hQ
      obtain ⟨b0, off0, e0, _, hc0⟩ := hk 0 (by omega)
      rw [e] at e0
      injection e0 with e0
      injection e0 with e1 e2 _
      subst e1; subst e2
      obtain ⟨q0, q1, q2, q3, q4, q5⟩ := h.q
      obtain ⟨r0, r1, r2, r3, r4, r5⟩ := h'.q
      have hoff : off ≠ 0 := fun e => by
        subst e
        rw [q0] at hc0
        simp at hc0
      rw [hops] at r2
      have hlt : off + i < 6 := by
        rcases Nat.lt_or_ge (off + i) 6 with hl | hl
        · exact hl
        · simp [World.cell?, h.block, Array.getElem?_eq_none (xs := diskCells Mb ((st.room : Int) - (usedF st.fs : Int)) st.ops fz st.half st.dead) (i := off + i) (by simpa using hl)] at hc
      by_cases c1 : off + i = 1
      · rw [c1] at hc ⊢
        rw [r1, h0 (by omega), ← q1, hc]
      · by_cases c2 : off + i = 2
        · rw [c2] at hc ⊢
          rw [r2, ← q2, hc]
        · by_cases c3 : off + i = 3
          · rw [c3] at hc ⊢
            rw [r3, ← q3, hc]
          · by_cases c4 : off + i = 4
            · rw [c4, q4] at hc
              simp at hc
            · have c5 : off + i = 5 := by omega
              rw [c5, q5] at hc
              simp at hc
    · have hh : wr.heap[b]? = w.heap[b]? := hs.block b hb (fun e => e.elim hQ hM)
      simp only [World.cell?, hh] at hc ⊢
      exact hc
/-- What stands at each round of a crash. -/
structure Crashing (w wr : World) (Q Mb : Nat) (fz : Int) (V V' : ByteArray → Value) (st : DS) (K : Nat → Option Int) (o : Value) (i : Nat) : Prop where
  disk : PDX wr Q Mb fz V' { st with fs := crashing K st.fs i }
  step : StepF w wr (QM Q Mb) (QM Q Mb)
  names : Texts wr w.heap.size o (namesF st.fs)
  own : ∀ k f, f ∈ crashing K st.fs i → (V' f.name).ownBlock = some k → FS Q Mb V st.fs k ∨ w.heap.size ≤ k
theorem Crashing.below {w wr wr' : World} {Q Mb : Nat} {fz : Int} {V V' : ByteArray → Value} {st : DS} {K : Nat → Option Int} {o : Value} {i : Nat} (h : Crashing w wr Q Mb fz V V' st K o i) (hb : Below wr.heap.size wr wr') : Crashing w wr' Q Mb fz V V' st K o i :=
  ⟨h.disk.below hb, h.step.trans (StepF.below _ hb), own_below h.names hb, h.own⟩
set_option maxRecDepth 100000 in
set_option maxHeartbeats 2000000 in
theorem crash_nobody (p : Option Addr) (ka : Option Addr) (kn kc : Nat) (w : World) (hm : Calls Try.prog 34 #[.pointer p] w fun e w' => e = .returned (.bool false) ∧ w = w') :
    Calls Try.prog 22 #[.pointer p, .slice ka kn kc] w fun e w' => e = .returned (.int .i64 1) ∧ w = w' := by
  have HC := Lib.hid hm
  clear hm
  go_enter Try.func22, Try.ntmps22
  go_wp2_with fail
  refine HC.out.mono ?_
  rintro e W ⟨rfl, rfl⟩
  go_wp2_with fail
  go_ret
  exact ⟨rfl, rfl⟩
set_option maxRecDepth 100000 in
set_option maxHeartbeats 4000000 in
theorem crash_yes (Q Mb : Nat) (fz : Int) (V : ByteArray → Value) (st : DS) (ka : Option Addr) (kn kc : Nat) (Z : Nat → Int) (w : World) (h : PDX w Q Mb fz V st) (hi : Inv st 1000) (hk : Ints w ka kn Z) (hkn : kn ≤ 20) :
    Calls Try.prog 22 #[.pointer (some ⟨Q, 0, none⟩), .slice ka kn kc] w fun e w' => e = .returned (.int .i64 0) ∧ ∃ V', PDX w' Q Mb 0 V' (crashS st (keepOf kn Z)) ∧ StepF w w' (FS Q Mb V st.fs) (FS Q Mb V' (crashS st (keepOf kn Z)).fs) := by
  have hroom := hi.good.room
  have hused := hi.good.fit
  have hops := hi.ops
  have hfew := hi.few
  have hsure := hi.good.sure
  have q0 := h.q.1
  have HM := Lib.hid (made_any Q Mb w q0)
  have HN := Lib.hid (names_any Q Mb fz V st w h (by omega))
  have HP := Lib.hid h; have HK := Lib.hid hk; have HSU := Lib.hid hsure
  have hQl := h.ltQ; have hMl := h.ltM
  obtain ⟨N, hN⟩ : ∃ N, st.fs.length = N := ⟨_, rfl⟩
  have HNN := Lib.hid hN
  rw [hN] at hfew
  clear h hi hk q0 hsure hN
  go_enter Try.func22, Try.ntmps22
  go_wp2_with fail
  refine HM.out.mono ?_
  rintro e W ⟨rfl, rfl⟩
  go_wp2_with fail
  refine HN.out.mono ?_
  rintro e W0 ⟨o, rfl, ht0, hb0⟩
  obtain ⟨oa, oc, rfl, hst0⟩ := texts_strs ht0
  have hnl : (namesF st.fs).length = N := by unfold namesF; rw [List.length_map, HNN.out]
  have hC0 : Hid (Crashing w W0 Q Mb fz V V st (keepOf kn Z) (.slice oa N oc) 0) := Lib.hid (by
    refine ⟨?_, StepF.below _ hb0, by rw [← hnl]; exact ht0, fun k f hf hk => .inl (.inr (.inr ⟨f, ?_, hk⟩))⟩
    · exact HP.out.below hb0
    · exact hf)
  rw [hnl]
  clear ht0 hst0 hb0
  go_wp2_with fail
  go_loopw [15] (fun t wr => ∃ (i : Nat) (V' : ByteArray → Value), t = .int .i64 i ∧ i ≤ N ∧ Hid (Crashing w wr Q Mb fz V V' st (keepOf kn Z) (.slice oa N oc) i)) (fun t _ => N - (RowKit.intOf t).toNat)
  case atStart => exact ⟨0, V, rfl, Nat.zero_le _, hC0⟩
  case round =>
    obtain ⟨i, V', rfl, hiN, HC⟩ := hrel
    by_cases hlt : i < N
    · obtain ⟨f, hf⟩ : ∃ f, st.fs[i]? = some f := ⟨st.fs[i]'(by have := HNN.out; omega), List.getElem?_eq_getElem (by have := HNN.out; omega)⟩
      have hfm : f ∈ st.fs := List.mem_of_getElem? hf
      have hsrt := HC.out.disk.sorted
      have hat := crashing_at (K := keepOf kn Z) hf
      have hnx := crashing_next (K := keepOf kn Z) hf
      have hcu := crashing_used (K := keepOf kn Z) (i := i) HSU.out
      have hcfm : f ∈ crashing (keepOf kn Z) st.fs i := by rw [hat]; simp
      have hfz := used_mem hfm
      have hsu := HSU.out f hfm
      -- the name, the file's row
      obtain ⟨oa2, oc2, ho2, hstr⟩ := texts_strs HC.out.names
      have hoa : oa2 = oa := by injection ho2 with e1 _ _; exact e1.symm
      subst hoa
      obtain ⟨ob, ooff, rfl, hobl, hoc⟩ := hstr i (by rw [hnl]; exact hlt)
      have hnth : nth (namesF st.fs) i = f.name := by unfold nth namesF; simp [List.getD, hf]
      rw [hnth] at hoc
      have hrow := HC.out.disk.rows f hcfm
      obtain ⟨a, c, hv⟩ := own_slice hrow
      have hlk : look (crashing (keepOf kn Z) st.fs i) f.name = some f := by
        cases hl : look (crashing (keepOf kn Z) st.fs i) f.name with
        | none => exact absurd rfl (look_none_all hl f hcfm)
        | some g => rw [sorted_unique hsrt (look_mem hl).1 hcfm (look_mem hl).2]
      have hlook : (Instr.lookup 55 (.map (some Mb)) (.string f.name) false).run Try.prog wr = .ok (.agg #[.slice a f.bytes.size c, .int .i64 (f.sure : Int)]) wr := by
        have := HC.out.disk.map.look Try.underlying9 Try.underlying55 (zero_file _) (s := f.name) (by have := HC.out.disk.names f hcfm; unfold maxLen; omega)
        unfold mapM at this
        dsimp only at this
        rw [hlk] at this
        simp only [Option.map_some, Option.getD_some, fileV, hv] at this
        exact this
      rw [hv] at hrow
      have p0 := HC.out.disk.q.1
      have hnm := HC.out.disk.names f hcfm
      obtain ⟨m, hm⟩ : ∃ m, kept f (keepOf kn Z i) = m := ⟨_, rfl⟩
      have hml : m ≤ f.bytes.size := by rw [← hm]; exact kept_le hsu _
      have HROW := Lib.hid hrow; have HHM := Lib.hid hm; have HAT := Lib.hid hat; have HNX := Lib.hid hnx; have HHV := Lib.hid hv; have HCF := Lib.hid hcfm
      have HCU := Lib.hid hcu; have HSR := Lib.hid hsrt
      -- what is left of the file, in each way
      have HLEFT : Hid (∀ x : Int, (keepOf kn Z i = some x ∨ (keepOf kn Z i = none ∧ x = 0)) → f.sure + (x % 4611686018427387904).toNat % (f.bytes.size - f.sure + 1) = m) := Lib.hid (fun x hx => by
        rw [← HHM.out]
        unfold kept
        rcases hx with hx | ⟨hx, rfl⟩
        · rw [hx]
        · rw [hx]
          simp)
      obtain ⟨n, hn⟩ : ∃ n, f.bytes.size = n := ⟨_, rfl⟩
      have HHN := Lib.hid hn
      have HCR : Hid (∀ x : Int, (keepOf kn Z i = some x ∨ (keepOf kn Z i = none ∧ x = 0)) → Calls Try.prog 41 #[.agg #[.slice a n c, .int .i64 (f.sure : Int)], .int .i64 x] wr fun e w' => ∃ va vc, e = .returned (.agg #[.slice va m vc, .int .i64 (m : Int)]) ∧ w'.ownsRow wr.heap.size 5 1 (.slice va m vc) m (strCells (f.bytes.extract 0 m)) ∧ Below wr.heap.size wr w') := Lib.hid (fun x hx => by
        have := crashed_any a c f.bytes f.sure m x wr 0 HROW.out (by omega) hsu (HLEFT.out x hx)
        rw [HHN.out] at this
        exact this)
      rw [hn] at hlook hml
      clear hm hat hnx hv hcfm hlk hnth hobl hrow hcu hsrt hstr ho2 hfz hn
      by_cases hkk : i < kn
      · obtain ⟨kb, koff, rfl, z0⟩ := keep_at HP.out HK.out HC.out.disk rfl HC.out.step hkk (fun e => by subst e; rfl)
        have HX := Lib.hid (HCR.out (Z i) (.inl (by unfold keepOf; rw [if_pos hkk])))
        go_wp2_with fail
        refine HX.out.mono ?_
        rintro e W1 ⟨va, vc, rfl, hrow1, hb1⟩
        have hL := heap_alloc_new W1 (.cells #[.slice va m vc, .int .i64 (m : Int)] 63)
        have hb2 : Below wr.heap.size wr (W1.alloc (.cells #[.slice va m vc, .int .i64 (m : Int)] 63)) := hb1.alloc hb1.size _
        have HC2 := Lib.hid (HC.out.below hb2)
        have HDR := Lib.hid (drop_any Q Mb fz V' _ f.name _ HC2.out.disk (by omega) (by have := HCU.out.1; dsimp only; omega) hroom)
        have hQ1 : Q < wr.heap.size := HC.out.disk.ltQ
        have hM1 : Mb < wr.heap.size := HC.out.disk.ltM
        have hsz1 := hb1.size
        have HLL := Lib.hid hL; have HROW1 := Lib.hid hrow1; have HB2 := Lib.hid hb2
        clear hL hb2 hrow1 hb1 hlook p0 hoc
        go_wp2_with fail
        refine HDR.out.mono ?_
        rintro e W3 ⟨rfl, hp3, s3⟩
        have hL3 := (s3.block W1.heap.size (by simp) (fun e => by rcases e with e | e <;> omega)).trans HLL.out
        have l0 := cell_block (j := 0) hL3 rfl; have l1 := cell_block (j := 1) hL3 rfl

        rw [HAT.out, take_mid (by have := HSR.out; rw [HAT.out] at this; exact this)] at hp3
        have HP3 := Lib.hid hp3; have HS3 := Lib.hid s3
        have HNT : Hid (∀ W4 : World, StepF W3 W4 (QM Q Mb) (QM Q Mb) → StepF w W4 (QM Q Mb) (QM Q Mb) ∧ Texts W4 w.heap.size (.slice (some ⟨ob, ooff, none⟩) N oc) (namesF st.fs)) := Lib.hid (fun W4 s4 => by
          have s24 := HS3.out.trans s4
          refine ⟨HC2.out.step.trans s24, own_moved HC2.out.names (fun k hk => s24.block k (HC2.out.names.lt k hk).2 (fun e => ?_))⟩
          have := (HC2.out.names.lt k hk).1
          rcases e with e | e <;> omega)
        clear hp3 s3 hL3
        by_cases hm0 : 0 < m
        · have hes : (f.bytes.extract 0 m).size = m := extract_size f.bytes m (by have := HHN.out; omega)
          have hrow3 : W3.ownsRow 0 5 1 (.slice va (f.bytes.extract 0 m).size vc) (f.bytes.extract 0 m).size (strCells (f.bytes.extract 0 m)) := by
            rw [hes]
            have h1 : (W1.alloc (.cells #[.slice va m vc, .int .i64 (m : Int)] 63)).ownsRow 0 5 1 (.slice va m vc) m (strCells (f.bytes.extract 0 m)) := World.ownsRow.mono (HROW1.out.alloc _) (Nat.zero_le _)
            refine own_moved h1 (fun k hk => HS3.out.block k (h1.lt k hk).2 (fun e => ?_))
            have := (HROW1.out.lt k hk).1
            rcases e with e | e <;> omega
          have hnew : ∀ k, (Value.slice va m vc).ownBlock = some k → wr.heap.size ≤ k := fun k hk => (HROW1.out.lt k hk).1
          have hltF := HC.out.disk.ltF
          have hsr : Sorted (crashF (keepOf kn Z) 0 (st.fs.take i) ++ f :: st.fs.drop (i + 1)) := by have := HSR.out; rw [HAT.out] at this; exact this
          have hcu2 := HCU.out
          rw [HAT.out, used_append, List.length_append] at hcu2
          simp only [usedF, List.length_cons] at hcu2
          have HPUT := Lib.hid (put_any Q Mb fz V' _ f.name (f.bytes.extract 0 m) m (.slice va (f.bytes.extract 0 m).size vc) W3 HP3.out (by omega) (by dsimp only; rw [used_append]; omega) hroom (by have := HNN.out; dsimp only; rw [List.length_append]; omega) hrow3 (by rw [hes]; have := HHN.out; have := used_mem hfm; omega) (fun g hg1 hg2 k hk hk2 => by
            have h1 := hnew k (by rw [hes] at hk; exact hk)
            have h2 := hltF k (.inr (.inr ⟨g, by
              show g ∈ crashing (keepOf kn Z) st.fs i
              rw [HAT.out]
              rcases List.mem_append.1 hg1 with hg | hg
              · exact List.mem_append.2 (.inl hg)
              · exact List.mem_append.2 (.inr (by simp [hg])), hk2⟩))
            omega))
          rw [hes] at HPUT
          have HEND : Hid (∀ W4, PDX W4 Q Mb fz (upd V' f.name (.slice va m vc)) { st with fs := putF (crashF (keepOf kn Z) 0 (st.fs.take i) ++ st.fs.drop (i + 1)) ⟨f.name, f.bytes.extract 0 m, m⟩ } → StepF W3 W4 (QM Q Mb) (QM Q Mb) →
              Crashing w W4 Q Mb fz V (upd V' f.name (.slice va m vc)) st (keepOf kn Z) (.slice (some ⟨ob, ooff, none⟩) N oc) (i + 1)) := Lib.hid (fun W4 h4 s4 => by
            rw [put_mid _ _ hsr] at h4
            have hfs : crashing (keepOf kn Z) st.fs (i + 1) = crashF (keepOf kn Z) 0 (st.fs.take i) ++ (⟨f.name, f.bytes.extract 0 m, m⟩ : DF) :: st.fs.drop (i + 1) := by
              rw [HNX.out, HHM.out]
              unfold piece
              rw [if_pos hm0]
              simp
            obtain ⟨t1, t2⟩ := HNT.out W4 s4
            refine ⟨by rw [hfs]; exact h4, t1, t2, fun k g hg hk => ?_⟩
            by_cases hgn : g.name = f.name
            · rw [hgn] at hk
              have hk : (Value.slice va m vc).ownBlock = some k := by simpa [upd] using hk
              exact .inr (Nat.le_trans HC.out.step.size (hnew k hk))
            · have hk : (V' g.name).ownBlock = some k := by simpa [upd, hgn] using hk
              refine HC.out.own k g ?_ hk
              rw [hfs] at hg
              rw [HAT.out]
              rcases List.mem_append.1 hg with hg | hg
              · exact List.mem_append.2 (.inl hg)
              · rcases List.mem_cons.1 hg with rfl | hg
                · exact absurd rfl hgn
                · exact List.mem_append.2 (.inr (by simp [hg])))
          clear hrow3 hnew hltF hsr hcu2 hes
          go_wp2_with fail
          refine HPUT.out.mono ?_
          rintro e W4 ⟨rfl, h4, s4⟩
          have HE := Lib.hid (HEND.out W4 h4 s4)
          clear h4 s4
          go_wp2_with fail
          go_roundw
          case rel => exact ⟨i + 1, _, by go_num, by omega, HE⟩
          case measure => simp [RowKit.intOf]; omega
        · obtain rfl : m = 0 := by omega
          have HE : Hid (Crashing w W3 Q Mb fz V V' st (keepOf kn Z) (.slice (some ⟨ob, ooff, none⟩) N oc) (i + 1)) := Lib.hid (by
            have hfs : crashing (keepOf kn Z) st.fs (i + 1) = crashF (keepOf kn Z) 0 (st.fs.take i) ++ st.fs.drop (i + 1) := by
              rw [HNX.out, HHM.out]
              unfold piece
              rw [if_neg (by omega)]
              simp
            obtain ⟨t1, t2⟩ := HNT.out W3 (StepF.refl _ _)
            refine ⟨by rw [hfs]; exact HP3.out, t1, t2, fun k g hg hk => HC.out.own k g ?_ hk⟩
            rw [hfs] at hg
            rw [HAT.out]
            rcases List.mem_append.1 hg with hg | hg
            · exact List.mem_append.2 (.inl hg)
            · exact List.mem_append.2 (.inr (by simp [hg])))
          clear hm0
          go_wp2_with fail
          go_roundw
          case rel => exact ⟨i + 1, _, by go_num, by omega, HE⟩
          case measure => simp [RowKit.intOf]; omega
      · have HX := Lib.hid (HCR.out 0 (.inr ⟨by unfold keepOf; rw [if_neg hkk], rfl⟩))
        go_wp2_with fail
        refine HX.out.mono ?_
        rintro e W1 ⟨va, vc, rfl, hrow1, hb1⟩
        have hL := heap_alloc_new W1 (.cells #[.slice va m vc, .int .i64 (m : Int)] 63)
        have hb2 : Below wr.heap.size wr (W1.alloc (.cells #[.slice va m vc, .int .i64 (m : Int)] 63)) := hb1.alloc hb1.size _
        have HC2 := Lib.hid (HC.out.below hb2)
        have HDR := Lib.hid (drop_any Q Mb fz V' _ f.name _ HC2.out.disk (by omega) (by have := HCU.out.1; dsimp only; omega) hroom)
        have hQ1 : Q < wr.heap.size := HC.out.disk.ltQ
        have hM1 : Mb < wr.heap.size := HC.out.disk.ltM
        have hsz1 := hb1.size
        have HLL := Lib.hid hL; have HROW1 := Lib.hid hrow1; have HB2 := Lib.hid hb2
        clear hL hb2 hrow1 hb1 hlook p0 hoc
        go_wp2_with fail
        refine HDR.out.mono ?_
        rintro e W3 ⟨rfl, hp3, s3⟩
        have hL3 := (s3.block W1.heap.size (by simp) (fun e => by rcases e with e | e <;> omega)).trans HLL.out
        have l0 := cell_block (j := 0) hL3 rfl; have l1 := cell_block (j := 1) hL3 rfl

        rw [HAT.out, take_mid (by have := HSR.out; rw [HAT.out] at this; exact this)] at hp3
        have HP3 := Lib.hid hp3; have HS3 := Lib.hid s3
        have HNT : Hid (∀ W4 : World, StepF W3 W4 (QM Q Mb) (QM Q Mb) → StepF w W4 (QM Q Mb) (QM Q Mb) ∧ Texts W4 w.heap.size (.slice (some ⟨ob, ooff, none⟩) N oc) (namesF st.fs)) := Lib.hid (fun W4 s4 => by
          have s24 := HS3.out.trans s4
          refine ⟨HC2.out.step.trans s24, own_moved HC2.out.names (fun k hk => s24.block k (HC2.out.names.lt k hk).2 (fun e => ?_))⟩
          have := (HC2.out.names.lt k hk).1
          rcases e with e | e <;> omega)
        clear hp3 s3 hL3
        by_cases hm0 : 0 < m
        · have hes : (f.bytes.extract 0 m).size = m := extract_size f.bytes m (by have := HHN.out; omega)
          have hrow3 : W3.ownsRow 0 5 1 (.slice va (f.bytes.extract 0 m).size vc) (f.bytes.extract 0 m).size (strCells (f.bytes.extract 0 m)) := by
            rw [hes]
            have h1 : (W1.alloc (.cells #[.slice va m vc, .int .i64 (m : Int)] 63)).ownsRow 0 5 1 (.slice va m vc) m (strCells (f.bytes.extract 0 m)) := World.ownsRow.mono (HROW1.out.alloc _) (Nat.zero_le _)
            refine own_moved h1 (fun k hk => HS3.out.block k (h1.lt k hk).2 (fun e => ?_))
            have := (HROW1.out.lt k hk).1
            rcases e with e | e <;> omega
          have hnew : ∀ k, (Value.slice va m vc).ownBlock = some k → wr.heap.size ≤ k := fun k hk => (HROW1.out.lt k hk).1
          have hltF := HC.out.disk.ltF
          have hsr : Sorted (crashF (keepOf kn Z) 0 (st.fs.take i) ++ f :: st.fs.drop (i + 1)) := by have := HSR.out; rw [HAT.out] at this; exact this
          have hcu2 := HCU.out
          rw [HAT.out, used_append, List.length_append] at hcu2
          simp only [usedF, List.length_cons] at hcu2
          have HPUT := Lib.hid (put_any Q Mb fz V' _ f.name (f.bytes.extract 0 m) m (.slice va (f.bytes.extract 0 m).size vc) W3 HP3.out (by omega) (by dsimp only; rw [used_append]; omega) hroom (by have := HNN.out; dsimp only; rw [List.length_append]; omega) hrow3 (by rw [hes]; have := HHN.out; have := used_mem hfm; omega) (fun g hg1 hg2 k hk hk2 => by
            have h1 := hnew k (by rw [hes] at hk; exact hk)
            have h2 := hltF k (.inr (.inr ⟨g, by
              show g ∈ crashing (keepOf kn Z) st.fs i
              rw [HAT.out]
              rcases List.mem_append.1 hg1 with hg | hg
              · exact List.mem_append.2 (.inl hg)
              · exact List.mem_append.2 (.inr (by simp [hg])), hk2⟩))
            omega))
          rw [hes] at HPUT
          have HEND : Hid (∀ W4, PDX W4 Q Mb fz (upd V' f.name (.slice va m vc)) { st with fs := putF (crashF (keepOf kn Z) 0 (st.fs.take i) ++ st.fs.drop (i + 1)) ⟨f.name, f.bytes.extract 0 m, m⟩ } → StepF W3 W4 (QM Q Mb) (QM Q Mb) →
              Crashing w W4 Q Mb fz V (upd V' f.name (.slice va m vc)) st (keepOf kn Z) (.slice (some ⟨ob, ooff, none⟩) N oc) (i + 1)) := Lib.hid (fun W4 h4 s4 => by
            rw [put_mid _ _ hsr] at h4
            have hfs : crashing (keepOf kn Z) st.fs (i + 1) = crashF (keepOf kn Z) 0 (st.fs.take i) ++ (⟨f.name, f.bytes.extract 0 m, m⟩ : DF) :: st.fs.drop (i + 1) := by
              rw [HNX.out, HHM.out]
              unfold piece
              rw [if_pos hm0]
              simp
            obtain ⟨t1, t2⟩ := HNT.out W4 s4
            refine ⟨by rw [hfs]; exact h4, t1, t2, fun k g hg hk => ?_⟩
            by_cases hgn : g.name = f.name
            · rw [hgn] at hk
              have hk : (Value.slice va m vc).ownBlock = some k := by simpa [upd] using hk
              exact .inr (Nat.le_trans HC.out.step.size (hnew k hk))
            · have hk : (V' g.name).ownBlock = some k := by simpa [upd, hgn] using hk
              refine HC.out.own k g ?_ hk
              rw [hfs] at hg
              rw [HAT.out]
              rcases List.mem_append.1 hg with hg | hg
              · exact List.mem_append.2 (.inl hg)
              · rcases List.mem_cons.1 hg with rfl | hg
                · exact absurd rfl hgn
                · exact List.mem_append.2 (.inr (by simp [hg])))
          clear hrow3 hnew hltF hsr hcu2 hes
          go_wp2_with fail
          refine HPUT.out.mono ?_
          rintro e W4 ⟨rfl, h4, s4⟩
          have HE := Lib.hid (HEND.out W4 h4 s4)
          clear h4 s4
          go_wp2_with fail
          go_roundw
          case rel => exact ⟨i + 1, _, by go_num, by omega, HE⟩
          case measure => simp [RowKit.intOf]; omega
        · obtain rfl : m = 0 := by omega
          have HE : Hid (Crashing w W3 Q Mb fz V V' st (keepOf kn Z) (.slice (some ⟨ob, ooff, none⟩) N oc) (i + 1)) := Lib.hid (by
            have hfs : crashing (keepOf kn Z) st.fs (i + 1) = crashF (keepOf kn Z) 0 (st.fs.take i) ++ st.fs.drop (i + 1) := by
              rw [HNX.out, HHM.out]
              unfold piece
              rw [if_neg (by omega)]
              simp
            obtain ⟨t1, t2⟩ := HNT.out W3 (StepF.refl _ _)
            refine ⟨by rw [hfs]; exact HP3.out, t1, t2, fun k g hg hk => HC.out.own k g ?_ hk⟩
            rw [hfs] at hg
            rw [HAT.out]
            rcases List.mem_append.1 hg with hg | hg
            · exact List.mem_append.2 (.inl hg)
            · exact List.mem_append.2 (.inr (by simp [hg])))
          clear hm0
          go_wp2_with fail
          go_roundw
          case rel => exact ⟨i + 1, _, by go_num, by omega, HE⟩
          case measure => simp [RowKit.intOf]; omega
    · obtain rfl : i = N := by omega
      have hcr : crashing (keepOf kn Z) st.fs i = crashF (keepOf kn Z) 0 st.fs := by rw [← HNN.out]; exact crashing_all _ _
      obtain ⟨p0, p1, p2, p3, p4, p5⟩ := HC.out.disk.q
      have f3 := HC.out.disk.free 3
      have f5 := HC.out.disk.free 5
      have g1 := only_setCell (only_setCell (only_refl wr (some Q)) 3 (.int .i64 0)) 5 (.bool false)
      have b1 := heap_setCell_same wr Q 3 _ _ (.int .i64 0) HC.out.disk.block
      have b2 := heap_setCell_same _ Q 5 _ _ (.bool false) b1
      have hpd := HC.out.disk.turned (st' := { crashS st (keepOf kn Z) with fs := crashing (keepOf kn Z) st.fs i }) (fz' := 0) g1 rfl b2 rfl (by omega)
      rw [hcr] at hpd
      have HPD := Lib.hid hpd
      have HS : Hid (StepF w ((wr.setCell ⟨Q, 3, none⟩ (.int .i64 0)).setCell ⟨Q, 5, none⟩ (.bool false)) (FS Q Mb V st.fs) (FS Q Mb V' (crashS st (keepOf kn Z)).fs)) := Lib.hid (by
        refine step_to (step_same (HC.out.step.trans (step_q g1))) (fun k hk => ?_)
        rcases hk with hk | hk | ⟨f, hf, hk⟩
        · exact .inl (.inl hk)
        · exact .inl (.inr (.inl hk))
        · refine HC.out.own k f ?_ hk
          rw [hcr]
          exact hf)
      clear hpd g1 b1 b2 hcr
      go_wp2_with fail
      go_ret
      exact ⟨rfl, V', HPD.out, HS.out⟩
end Go.Proofs.Ytflkglnmenbmaaa.Disk.Im
