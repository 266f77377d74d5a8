/- The program's disk beside the document's: what stands of both. The walk over the law DiskPlays, for any implementation. -/
import Derived.Test.YtflkglnmenbmaaaDiskQ
import Derived.Test.YtflkglnmenbmaaaSame
import Derived.Deep.RegionHeld3
namespace Go.Proofs.Ytflkglnmenbmaaa.Disk
open Go.RowKit Go.Lib

theorem own_lt {w : World} {base : Nat} {e : TypeId} {size n : Nat} {v : Value} {xs : List Value} (h : w.ownsRow base e size v n xs) : ∀ g, v.ownBlock = some g → g < w.heap.size := by
  intro g hg
  rcases h.2 with ⟨hv, _⟩ | ⟨b, cap, cur, hv, _, hb, _⟩
  · rw [hv] at hg; cases hg
  · rw [hv] at hg
    simp only [Value.ownBlock, Option.some.injEq] at hg
    rw [← hg]
    exact (Array.getElem?_eq_some_iff.1 hb).1
theorem own_kept {w w' : World} {base : Nat} {e : TypeId} {size n : Nat} {v : Value} {xs : List Value} (h : w.ownsRow base e size v n xs) (hk : ∀ g, v.ownBlock = some g → w'.heap[g]? = w.heap[g]?) : w'.ownsRow base e size v n xs := by
  refine ⟨h.1, ?_⟩
  rcases h.2 with hn | ⟨g, cap, cur, hv, hb, hg, r⟩
  · exact .inl hn
  · exact .inr ⟨g, cap, cur, hv, hb, (hk g (by rw [hv]; rfl)).trans hg, r⟩
/-- Both disks beside each other: the program's with state s1, the document's with state s2; both new since W, and apart. -/
structure Both (I : Impl) (W w : World) (Q : Nat) (F : Nat → Prop) (s1 : DS) (X : Nat) (v : Value) (s2 : DS) : Prop where
  pd : I.PD w Q F s1
  rd : RD w X v s2
  far : ∀ k, F k → W.heap.size ≤ k
  xfar : W.heap.size ≤ X
  vfar : ∀ g, v.ownBlock = some g → W.heap.size ≤ g
  nx : ¬ F X
  nv : ∀ g, v.ownBlock = some g → ¬ F g
  below : Below W.heap.size W w
theorem Both.prog {I : Impl} {W w w' : World} {Q : Nat} {F F' : Nat → Prop} {s1 s1' : DS} {X : Nat} {v : Value} {s2 : DS} (h : Both I W w Q F s1 X v s2) (hp : I.PD w' Q F' s1') (hs : StepF w w' F F') : Both I W w' Q F' s1' X v s2 := by
  obtain ⟨hb, hf⟩ := hs.fresh h.below h.far
  refine ⟨hp, ⟨(hs.block X h.rd.lt h.nx).trans h.rd.block, own_kept h.rd.row (fun g hg => hs.block g (own_lt h.rd.row g hg) (h.nv g hg)), h.rd.good⟩, hf, h.xfar, h.vfar, fun hx => ?_, fun g hg hx => ?_, hb⟩
  · rcases hs.grows X hx with h1 | h1
    · exact h.nx h1
    · have := h.rd.lt; omega
  · rcases hs.grows g hx with h1 | h1
    · exact h.nv g hg h1
    · have := own_lt h.rd.row g hg; omega
theorem Both.doc {I : Impl} {W w w' : World} {Q : Nat} {F : Nat → Prop} {s1 : DS} {X : Nat} {v v' : Value} {s2 s2' : DS} (h : Both I W w Q F s1 X v s2) (hr : RD w' X v' s2') (hs : Step w w' X v v') : Both I W w' Q F s1 X v' s2' := by
  refine ⟨I.keep h.pd hs.size (fun k hk => hs.block k (I.lt h.pd k hk) (fun e => h.nx (e ▸ hk)) (fun e => h.nv k e hk)), hr, h.far, h.xfar, fun g hg => ?_, h.nx, fun g hg hx => ?_, ?_⟩
  · rcases hs.fresh with e | e
    · exact h.vfar g (e ▸ hg)
    · exact Nat.le_trans h.below.size (e g hg)
  · rcases hs.fresh with e | e
    · exact h.nv g (e ▸ hg) hx
    · have := e g hg; have := I.lt h.pd g hx; omega
  · exact ⟨hs.os.trans h.below.os, hs.tape.trans h.below.tape, hs.output.trans h.below.output, Nat.le_trans h.below.size hs.size,
      fun i hi => (hs.block i (Nat.lt_of_lt_of_le hi h.below.size) (fun e => by have := h.xfar; omega) (fun e => by have := h.vfar i e; omega)).trans (h.below.block i hi)⟩
theorem Both.under {I : Impl} {W w w' : World} {Q : Nat} {F : Nat → Prop} {s1 : DS} {X : Nat} {v : Value} {s2 : DS} (h : Both I W w Q F s1 X v s2) (hb : Below w.heap.size w w') : Both I W w' Q F s1 X v s2 :=
  h.prog (I.keep h.pd hb.size (fun k hk => hb.block k (I.lt h.pd k hk))) (StepF.below F hb)
theorem Both.held {I : Impl} {W w : World} {Q : Nat} {F : Nat → Prop} {s1 : DS} {X : Nat} {v : Value} {s2 : DS} (h : Both I W w Q F s1 X v s2) :
    w.cell? ⟨X, 2, none⟩ = some (.int .i64 (s2.ops : Int)) ∧ w.cell? ⟨X, 5, none⟩ = some (.bool s2.dead) := ⟨cell_block (j := 2) h.rd.block rfl, cell_block (j := 5) h.rd.block rfl⟩
theorem names_few {st : DS} {n : Nat} (h : Inv st n) (hn : n ≤ 1048577) : (names st).length ≤ 1048577 := by
  have h1 := h.few; have h2 := h.ops
  unfold names
  split
  · simp
  · unfold namesF
    rw [List.length_map]
    omega
theorem acts_at {w w' : World} {b off an : Nat} {A : Nat → AC} {KA : Nat → Option Addr} {KN KC : Nat → Nat} {KZ : Nat → Nat → Int} (hA : Acts w (some ⟨b, off, none⟩) an A KA KN KC KZ) (hb : Below w.heap.size w w') {k : Nat} (hk : k < an) :
    w'.cell? ⟨b, off + k * 6, none⟩ = some (.int .i64 (A k).kind) ∧ w'.cell? ⟨b, off + k * 6 + 1, none⟩ = some (.int .i64 (A k).n) ∧
    w'.cell? ⟨b, off + k * 6 + 2, none⟩ = some (.string (A k).name) ∧ w'.cell? ⟨b, off + k * 6 + 3, none⟩ = some (.string (A k).arg) ∧ w'.cell? ⟨b, off + k * 6 + 4, none⟩ = some (.bool (A k).half) ∧ w'.cell? ⟨b, off + k * 6 + 5, none⟩ = some (.slice (KA k) (KN k) (KC k)) := by
  obtain ⟨b', off', e, _, c⟩ := (acts_below hA hb).cells k hk
  injection e with e
  injection e with e1 e2
  subst e1; subst e2
  exact c
set_option maxRecDepth 100000 in
set_option maxHeartbeats 4000000 in
theorem lawPlays_yes (I : Impl) (n : Nat) (aa : Option Addr) (an ac : Nat) (A : Nat → AC) (KA : Nat → Option Addr) (KN KC : Nat → Nat) (KZ : Nat → Nat → Int) (w : World)
    (hn : n ≤ 1024) (hA : Acts w aa an A KA KN KC KZ) (han : an ≤ 40) (hsm : ∀ j, j < an → small A KN j) :
    Calls Try.prog 3 #[.int .i64 (n : Int), .slice aa an ac] w fun e w' => e = .returned (.bool true) ∧ Below w.heap.size w w' := by
  have HA := Lib.hid hA; have HS := Lib.hid hsm
  have HSm : Hid (∀ W, Below w.heap.size w W → Calls Try.prog 7 #[.slice aa an ac, .int .i64 40] W fun e w' => e = .returned (.bool true) ∧ W = w') :=
    Lib.hid (fun W hW => small_yes 40 aa an ac A KA KN KC KZ W (acts_below hA hW) han (by omega) hsm)
  clear hA hsm
  go_enter Try.func3, Try.ntmps3
  go_wp2_with fail
  refine (HSm.out _ (Below.refl _ w)).mono ?_
  rintro e w' ⟨rfl, rfl⟩
  clear HSm
  go_wp2_with fail
  refine (I.new n _ (by omega)).mono ?_
  rintro e x1 ⟨Q, F, rfl, hp, hb, hF⟩
  have hp1 := Lib.hid hp; have hb1 := Lib.hid hb; have hF1 := Lib.hid hF
  clear hp hb hF
  go_wp2_with fail
  refine (new_any n _ (by omega)).mono ?_
  rintro e x2 ⟨rfl, hr, hb⟩
  have hB : Both I w x2 Q F (newS n) x1.heap.size (.slice none 0 0) (newS n) :=
    ⟨I.keep hp1.out hb.size (fun k hk => hb.block k (I.lt hp1.out k hk)), hr, hF1.out, hb1.out.size, fun g hg => by (cases hg), fun hx => by (have := I.lt hp1.out _ hx; omega), fun g hg => by (cases hg), below_then hb1.out hb⟩
  obtain ⟨X, hX⟩ : ∃ X, x1.heap.size = X := ⟨_, rfl⟩
  rw [hX] at hB ⊢
  have HB := Lib.hid hB
  clear hr hb hB hp1 hb1 hF1 hX
  go_wp2_with fail
  go_loopw [9] (fun i wr => ∃ (k : Nat) (F' : Nat → Prop) (v : Value) (st : DS), k ≤ an ∧ i = .int .i64 k ∧ Hid (Both I w wr Q F' st X v st ∧ Inv st k)) (fun i _ => an - (RowKit.intOf i).toNat)
  case atStart => exact ⟨0, F, _, _, by omega, rfl, Lib.hid ⟨HB.out, inv_new (by omega)⟩⟩
  case round =>
    obtain ⟨k, F', v, st, hk, rfl, HP⟩ := hrel
    by_cases hlt : k < an
    · obtain ⟨b, off, rfl, _⟩ := HA.out.cells k hlt
      obtain ⟨c0, c1, c2, c3, c4, c5⟩ := acts_at HA.out HP.out.1.below hlt
      obtain ⟨s1, s2, s3⟩ := HS.out k hlt
      have hAk := (acts_below HA.out HP.out.1.below).is k hlt
      have HD := Lib.hid (pdo_any I Q F' st (A k) (KA k) (KN k) (KC k) (KZ k) wr HP.out.1.pd (HP.out.2.mono (by omega)) hAk s1 s2 s3)
      have hi := inv_do HP.out.2 (A k) hAk.n.2
      have HI := Lib.hid hi
      clear hAk hi
      obtain ⟨rr, hr⟩ : ∃ rr, doR st (A k) = rr := ⟨_, rfl⟩
      obtain ⟨ee, he⟩ : ∃ ee, doE st (A k) = ee := ⟨_, rfl⟩
      obtain ⟨S, hS⟩ : ∃ S, doS st (A k) = S := ⟨_, rfl⟩
      have hE := Lib.hid hr; have hG := Lib.hid he; have hT := Lib.hid hS
      rw [hS] at HI
      clear hr he hS
      go_wp2_with fail
      refine HD.out.mono ?_
      rintro e w1 ⟨rfl, F1, hp, hs⟩
      have B1 := Lib.hid (HP.out.1.prog hp hs)
      clear hp hs HD
      obtain ⟨c0, c1, c2, c3, c4, c5⟩ := acts_at HA.out B1.out.below hlt
      have HD := Lib.hid (do_any X v st (A k) (KA k) (KN k) (KC k) (KZ k) w1 B1.out.rd (by have := HP.out.2.ops; omega) HP.out.2.few ((acts_below HA.out B1.out.below).is k hlt))
      rw [show doV st (A k) = .tuple #[.string rr, .int .i64 ee] by unfold doV; rw [hE.out, hG.out]]
      go_wp2_with fail
      refine HD.out.mono ?_
      rintro e w2 ⟨rfl, v2, hr, hs⟩
      have B2 := B1.out.doc hr hs
      rw [hT.out] at B2
      have HB2 := Lib.hid B2
      rw [show doV st (A k) = .tuple #[.string rr, .int .i64 ee] by unfold doV; rw [hE.out, hG.out]]
      clear hr hs HD B1 HP c0 c1 c2 c3 c4 c5 hE hG B2 s1 s2 s3
      have hops := HI.out.ops
      have hops2 : S.ops ≤ 1000 := by omega
      have ho : S.ops ≤ 1048576 := by omega
      have hI : Hid (Inv S 1000) := Lib.hid (HI.out.mono (by omega))
      have BD := Lib.hid (HB2.out.under ((Below.refl _ w2).drew))
      have hlen : (names S).length ≤ 1048577 := names_few HI.out (by omega)
      go_wp2_with fail
      go_region_held3 (fun w' => w'.cell? ⟨X, 2, none⟩ = some (.int .i64 (S.ops : Int)) ∧ w'.cell? ⟨X, 5, none⟩ = some (.bool S.dead))
        (first | exact HB2.out.held | exact BD.out.held | exact B3.held | exact B5.held | exact B6.held | exact B7.held | exact B8.held | exact B9.held)
        (first | (go_at_call 13; refine (I.used Q _ S _ BD.out.pd hI.out).mono ?_; rintro e w3 ⟨rfl, F3, hp3, hs3⟩; have B3 := BD.out.prog hp3 hs3) | (go_at_call 14; refine (used_any X _ S _ B3.rd ho).mono ?_; rintro e w4 ⟨rfl, rfl⟩) | (go_at_call 15; refine (I.ops Q _ S _ B3.pd hI.out).mono ?_; rintro e w5 ⟨rfl, F5, hp5, hs5⟩; have B5 := B3.prog hp5 hs5) | (go_at_call 16; refine (I.dead Q _ S _ B5.pd hI.out).mono ?_; rintro e w6 ⟨rfl, F6, hp6, hs6⟩; have B6 := B5.prog hp6 hs6) | (go_at_call 18; refine (I.names Q _ S _ B6.pd hI.out).mono ?_; rintro e w7 ⟨o7, F7, rfl, ht7, hp7, hs7⟩; have B7 := B6.prog hp7 hs7; obtain ⟨a7, cap7, rfl, hst7⟩ := texts_strs ht7) | (go_at_call 19; refine (names_any X _ S _ B7.rd ho).mono ?_; rintro e w8 ⟨o8, rfl, ht8, hb8⟩; have B8 := B7.under hb8; obtain ⟨a8, cap8, rfl, hst8⟩ := texts_strs ht8) | (go_at_call 17; refine (same_yes _ _ _ _ _ _ _ _ (strs_below hst7 hb8) hst8 ?_ (fun _ _ => rfl)).mono ?_; exact hlen; rintro e w9 ⟨rfl, hb9⟩; have B9 := B8.under hb9))
      all_goals
        go_wp2_with fail
        go_roundw
        case rel => exact ⟨k + 1, _, _, _, by omega, by go_num, Lib.hid ⟨B9, HI.out⟩⟩
        case measure => simp [RowKit.intOf]; omega
    · obtain rfl : k = an := by omega
      go_wp2_with fail
      refine (awake_any I _).mono ?_
      rintro e xa ⟨rfl, hb⟩
      have hba := below_then HP.out.1.below hb
      go_wp2_with fail
      go_ret
      exact ⟨rfl, hba⟩
set_option maxRecDepth 100000 in
set_option maxHeartbeats 2000000 in
theorem lawPlays_neg (I : Impl) (x : Int) (aa : Option Addr) (an ac : Nat) (A : Nat → AC) (KA : Nat → Option Addr) (KN KC : Nat → Nat) (KZ : Nat → Nat → Int) (w : World)
    (hx1 : -9223372036854775808 ≤ x) (hx2 : x < 0) (hA : Acts w aa an A KA KN KC KZ) (han : an ≤ 40) (hsm : ∀ j, j < an → small A KN j) :
    Calls Try.prog 3 #[.int .i64 x, .slice aa an ac] w fun e w' => e = .returned (.bool true) ∧ Below w.heap.size w w' := by
  have hx3 : ¬ 1024 < x := by omega
  have HSm : Hid (∀ W, Below w.heap.size w W → Calls Try.prog 7 #[.slice aa an ac, .int .i64 40] W fun e w' => e = .returned (.bool true) ∧ W = w') :=
    Lib.hid (fun W hW => small_yes 40 aa an ac A KA KN KC KZ W (acts_below hA hW) han (by omega) hsm)
  clear hA hsm
  go_enter Try.func3, Try.ntmps3
  go_wp2_with fail
  refine (HSm.out _ (Below.refl _ w)).mono ?_
  rintro e w' ⟨rfl, rfl⟩
  clear HSm
  go_wp2_with fail
  refine (I.new_bad x _ ⟨hx1, by omega⟩ (.inl hx2)).mono ?_
  rintro e x1 ⟨rfl, hb⟩
  have hb1 := Lib.hid hb
  clear hb
  go_wp2_with fail
  refine (new_bad x _ (.inl hx2)).mono ?_
  rintro e x2 ⟨rfl, rfl⟩
  by_cases h0 : 0 < an
  · go_wp2_with fail
    go_loopw [9] (fun i wr => i = .int .i64 0 ∧ wr = x1) (fun _ _ => 0)
    case atStart => exact ⟨rfl, rfl⟩
    case round =>
      obtain ⟨rfl, rfl⟩ := hrel
      go_wp2_with fail
      refine (awake_any I _).mono ?_
      rintro e xa ⟨rfl, hb⟩
      have hba := below_then hb1.out hb
      go_wp2_with fail
      go_ret
      exact ⟨rfl, hba⟩
  · obtain rfl : an = 0 := by omega
    go_wp2_with fail
    go_loopw [9] (fun i wr => i = .int .i64 0 ∧ wr = x1) (fun _ _ => 0)
    case atStart => exact ⟨rfl, rfl⟩
    case round =>
      obtain ⟨rfl, rfl⟩ := hrel
      go_wp2_with fail
      refine (awake_any I _).mono ?_
      rintro e xa ⟨rfl, hb⟩
      have hba := below_then hb1.out hb
      go_wp2_with fail
      go_ret
      exact ⟨rfl, hba⟩
set_option maxRecDepth 100000 in
set_option maxHeartbeats 2000000 in
theorem lawPlays_no (I : Impl) (x : Int) (aa : Option Addr) (an ac : Nat) (A : Nat → AC) (KA : Nat → Option Addr) (KN KC : Nat → Nat) (KZ : Nat → Nat → Int) (w : World)
    (han : an ≤ maxLen) (hA : Acts w aa an A KA KN KC KZ) (hno : ¬ (x ≤ 1024 ∧ an ≤ 40 ∧ ∀ j, j < an → small A KN j)) :
    Calls Try.prog 3 #[.int .i64 x, .slice aa an ac] w fun e w' => e = .returned (.bool true) ∧ Below w.heap.size w w' := by
  by_cases q0 : 1024 < x
  · clear hno hA
    go_enter Try.func3, Try.ntmps3
    go_wp2_with fail
    refine (awake_any I _).mono ?_
    rintro e xa ⟨rfl, hb⟩
    have hba := hb
    go_wp2_with fail
    go_ret
    exact ⟨rfl, hba⟩
  have HSm : Hid (∀ W, Below w.heap.size w W → Calls Try.prog 7 #[.slice aa an ac, .int .i64 40] W fun e w' => e = .returned (.bool false) ∧ W = w') :=
    Lib.hid (fun W hW => small_no 40 aa an ac A KA KN KC KZ W (acts_below hA hW) han (by omega) (fun h => hno ⟨by omega, h⟩))
  clear hno hA
  go_enter Try.func3, Try.ntmps3
  go_wp2_with fail
  refine (HSm.out _ (Below.refl _ w)).mono ?_
  rintro e w' ⟨rfl, rfl⟩
  clear HSm
  go_wp2_with fail
  refine (awake_any I _).mono ?_
  rintro e xa ⟨rfl, hb⟩
  have hba := hb
  go_wp2_with fail
  go_ret
  exact ⟨rfl, hba⟩
theorem lawPlays (I : Impl) (x : Int) (aa : Option Addr) (an ac : Nat) (A : Nat → AC) (KA : Nat → Option Addr) (KN KC : Nat → Nat) (KZ : Nat → Nat → Int) (w : World)
    (hx : -9223372036854775808 ≤ x ∧ x ≤ 9223372036854775807) (han : an ≤ maxLen) (hA : Acts w aa an A KA KN KC KZ) :
    Calls Try.prog 3 #[.int .i64 x, .slice aa an ac] w fun e w' => e = .returned (.bool true) ∧ Below w.heap.size w w' := by
  by_cases hno : x ≤ 1024 ∧ an ≤ 40 ∧ ∀ j, j < an → small A KN j
  · by_cases h0 : x < 0
    · exact lawPlays_neg I x aa an ac A KA KN KC KZ w hx.1 h0 hA hno.2.1 hno.2.2
    · obtain ⟨n, rfl⟩ : ∃ n : Nat, x = (n : Int) := ⟨x.toNat, by omega⟩
      exact lawPlays_yes I n aa an ac A KA KN KC KZ w (by omega) hA hno.2.1 hno.2.2
  · exact lawPlays_no I x aa an ac A KA KN KC KZ w han hA hno
/-- The two laws with acts, as the lifted proofs ask for them: acts that are some acts. -/
theorem lawPlays_in (I : Impl) (x : Int) (aa : Option Addr) (an ac : Nat) (w : World) (hx : -9223372036854775808 ≤ x ∧ x ≤ 9223372036854775807) (han : an ≤ maxLen)
    (h : ∃ (A : Nat → AC) (KA : Nat → Option Addr) (KN KC : Nat → Nat) (KZ : Nat → Nat → Int), Acts w aa an A KA KN KC KZ) :
    Calls Try.prog 3 #[.int .i64 x, .slice aa an ac] w fun e w' => e = .returned (.bool true) ∧ Below w.heap.size w w' := by
  obtain ⟨A, KA, KN, KC, KZ, hA⟩ := h
  exact lawPlays I x aa an ac A KA KN KC KZ w hx han hA
theorem lawSure_in (I : Impl) (cs : Array Value) (T : Nat → ByteArray) (aa : Option Addr) (an ac : Nat) (ka : Option Addr) (kn kc : Nat) (Z : Nat → Int) (w : World) (hz : cs.size = Try.prog.cellsOf 46) (hs : ∀ i, i < 2 → cs[i]? = some (.string (T i)) ∧ (T i).size ≤ maxLen)
    (han : an ≤ maxLen) (h : ∃ (A : Nat → AC) (KA : Nat → Option Addr) (KN KC : Nat → Nat) (KZ : Nat → Nat → Int), Acts w aa an A KA KN KC KZ) (hkn : kn ≤ maxLen) (hk : Ints w ka kn Z) :
    Calls Try.prog 4 #[.agg cs, .slice aa an ac, .slice ka kn kc] w fun e w' => e = .returned (.bool true) ∧ Below w.heap.size w w' := by
  obtain ⟨A, KA, KN, KC, KZ, hA⟩ := h
  exact lawSure I cs T aa an ac A KA KN KC KZ ka kn kc Z w hz hs han hA hkn hk
end Go.Proofs.Ytflkglnmenbmaaa.Disk
