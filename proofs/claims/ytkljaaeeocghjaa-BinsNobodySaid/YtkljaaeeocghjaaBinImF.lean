/- The program's Clone; each by Put, PutAll. The program's each by Take, TakeAll. -/
import Derived.Test.YtkljaaeeocghjaaBinImE
import Derived.Test.YtkljaaeeocghjaaBinF
import Derived.Test.YtkljaaeeocghjaaGoodsImCk
namespace Go.Proofs.Ytkljaaeeocghjaa.Bins
open Go.RowKit Go.Lib
open Tab (ptr)
open Goods (St Sts)

set_option maxRecDepth 100000 in
set_option maxHeartbeats 1000000 in
theorem clone_im {Q : Nat} {R : Nat → Prop} {l : List Lt} (w : World) (h : PT w Q R l) :
    Calls Try.prog 22 #[ptr Q] w fun e w' => ∃ Q2, e = .returned (ptr Q2) ∧ ∃ R2, PT w' Q2 R2 l ∧ w.heap.size ≤ Q2 ∧ Below w.heap.size w w' ∧ ∀ k, R2 k → (R k ∧ k ≠ Q) ∨ w.heap.size ≤ k := by
  obtain ⟨ks, vs, hv⟩ := h
  have HV := Lib.hid hv
  have HC := Lib.hid (Tab.Im.clone_tl w hv.tl)
  obtain ⟨a, c, rfl, _, _, _, _⟩ := Tab.Im.rowK hv.keys
  obtain ⟨b, d, rfl, _, _, _, _⟩ := Tab.Im.rowI hv.vals
  obtain ⟨n, hn⟩ : ∃ n, (Tab.keys (prs l)).length = n := ⟨_, rfl⟩
  obtain ⟨m, hm⟩ : ∃ m, (Tab.Im.vals (prs l)).length = m := ⟨_, rfl⟩
  rw [hn, hm] at HC HV
  clear hv hn hm
  go_enter Try.func22, Try.ntmps22
  go_wp2_with fail
  refine HC.out.mono ?_
  rintro e w1 ⟨Q1, F1, rfl, h1, h2, hb⟩
  obtain ⟨c0, c1⟩ := h1.cells
  have HE : Hid (∃ R2, PT (w1.alloc (.cells #[.slice a n c, .slice b m d] 64)) w1.heap.size R2 l ∧ w.heap.size ≤ w1.heap.size ∧ Below w.heap.size w (w1.alloc (.cells #[.slice a n c, .slice b m d] 64)) ∧ ∀ k, R2 k → (R k ∧ k ≠ Q) ∨ w.heap.size ≤ k) := Lib.hid (by
    have hbl := hb.alloc hb.size (.cells #[.slice a n c, .slice b m d] 64)
    have hk := Tab.Im.own_under HV.out.keys hbl
    have hv := Tab.Im.own_under HV.out.vals hbl
    refine ⟨fun k => k = w1.heap.size ∨ (Value.slice a n c).ownBlock = some k ∨ (Value.slice b m d).ownBlock = some k, ⟨_, _, ⟨⟨_, heap_alloc_new w1 _⟩, hk, hv, .inl rfl, fun q hq => ⟨.inr (.inl hq), ?_⟩, fun q hq => ⟨.inr (.inr hq), ?_⟩, ?_⟩⟩, hb.size, hbl, ?_⟩
    · have := (HV.out.keys.lt q hq).2
      have := hb.size
      omega
    · have := (HV.out.vals.lt q hq).2
      have := hb.size
      omega
    · rintro k (rfl | hk' | hk')
      · simp
      · exact (hk.lt k hk').2
      · exact (hv.lt k hk').2
    · rintro k (rfl | hk' | hk')
      · exact .inr hb.size
      · exact .inl (HV.out.kb k hk')
      · exact .inl (HV.out.vb k hk'))
  clear h1 h2 hb
  go_wp2_with fail
  go_ret
  exact ⟨_, rfl, HE.out⟩
/-- The bins' block has turned to the lists of other ones. -/
theorem taken {w W : World} {Q : Nat} {R : Nat → Prop} {l l' : List Tab.Pair} {ks vs k2 v2 : Value} (h : Tab.Im.PTV w Q R l ks vs) (hb : Below w.heap.size w W) (hk : Tab.OwnK W 0 k2 (Tab.keys l')) (hv : Tab.Im.OwnI W 0 v2 (Tab.Im.vals l'))
    (hkn : ∀ q, k2.ownBlock = some q → (R q ∧ q ≠ Q) ∨ w.heap.size ≤ q) (hvn : ∀ q, v2.ownBlock = some q → (R q ∧ q ≠ Q) ∨ w.heap.size ≤ q) {W' : World} {T : TypeId} (hW' : W'.heap[Q]? = some (.cells #[k2, v2] T (0, 0))) (hg : W.grownBy W' (some Q)) :
    ∃ R', Tab.Im.PT W' Q R' l' ∧ Up w W' Q R R' := by
  have hQ := h.lt Q h.self
  have nn : ∀ q, (R q ∧ q ≠ Q) ∨ w.heap.size ≤ q → q ≠ Q := fun q h1 => by
    rcases h1 with h1 | h1
    · exact h1.2
    · omega
  have bk : ∀ q, q < W.heap.size → q ≠ Q → W'.heap[q]? = W.heap[q]? := fun q h1 h2 => hg.block q h1 (fun e => h2 (by cases e; rfl))
  refine ⟨fun j => j = Q ∨ k2.ownBlock = some j ∨ v2.ownBlock = some j, ⟨k2, v2, ⟨_, hW'⟩, Tab.Im.own_same hk (fun q hq => bk q (hk.lt q hq).2 (nn q (hkn q hq))), Tab.Im.own_same hv (fun q hq => bk q (hv.lt q hq).2 (nn q (hvn q hq))), .inl rfl, fun q hq => ⟨.inr (.inl hq), nn q (hkn q hq)⟩, fun q hq => ⟨.inr (.inr hq), nn q (hvn q hq)⟩, ?_⟩, ⟨?_, ?_⟩⟩
  · rintro j (rfl | hj | hj)
    · exact (Array.getElem?_eq_some_iff.1 hW').1
    · exact Nat.lt_of_lt_of_le (hk.lt j hj).2 hg.size
    · exact Nat.lt_of_lt_of_le (hv.lt j hj).2 hg.size
  · exact ⟨hg.os.trans hb.os, hg.tape.trans hb.tape, hg.output.trans hb.output, Nat.le_trans hb.size hg.size, fun i hi hne => (hg.block i (Nat.lt_of_lt_of_le hi hb.size) hne).trans (hb.block i hi)⟩
  · rintro j (rfl | hj | hj)
    · exact .inl h.self
    · exact (hkn j hj).imp (fun h1 => h1.1) id
    · exact (hvn j hj).imp (fun h1 => h1.1) id
/-- What stands ahead of each stack: the bins as they were, the clone beside them. -/
structure TryPut (w W : World) (Q2 : Nat) (R : Nat → Prop) (Q : Nat) (l : List Lt) (x : Bn) (s : List St) (V : Nat) (i : Nat) : Prop where
  below : Below w.heap.size w W
  new : w.heap.size ≤ Q2
  box : CellsB W V x ∧ V < W.heap.size ∧ V ≠ Q2
  pt : ∃ R2 k, PT W Q2 R2 k ∧ (∀ j, R2 j → (R j ∧ j ≠ Q) ∨ w.heap.size ≤ j) ∧ Good k ∧ k.length ≤ l.length + i ∧ goP x l s = goP x k (s.drop i)
theorem CellsB.under {W W' : World} {V : Nat} {x : Bn} (h : CellsB W V x) (hV : V < W.heap.size) (hb : Below W.heap.size W W') : CellsB W' V x :=
  ⟨((bcell hb).1 V _ hV).trans h.1, ((bcell hb).1 V _ hV).trans h.2.1, ((bcell hb).1 V _ hV).trans h.2.2.1, ((bcell hb).1 V _ hV).trans h.2.2.2⟩
theorem TryPut.under {w W W' : World} {Q2 : Nat} {R : Nat → Prop} {Q : Nat} {l : List Lt} {x : Bn} {s : List St} {V i : Nat} (h : TryPut w W Q2 R Q l x s V i) (hb : Below W.heap.size W W') : TryPut w W' Q2 R Q l x s V i := by
  obtain ⟨R2, k, h1, h2⟩ := h.pt
  exact ⟨below_then h.below hb, h.new, ⟨h.box.1.under h.box.2.1 hb, Nat.lt_of_lt_of_le h.box.2.1 hb.size, h.box.2.2⟩, R2, k, h1.under hb, h2⟩
/-- One stack on the clone. -/
theorem tryPut_one {w W : World} {Q2 : Nat} {R : Nat → Prop} {Q : Nat} {l : List Lt} {x : Bn} {s : List St} {V i : Nat} {t : St} (h : TryPut w W Q2 R Q l x s V i) (hl : l.length ≤ 900) (hi : i < 100) (ht : s[i]? = some t) (hn : t.qty ≤ 9223372036854775807) :
    ∃ r, (r = 0 ∨ (r ≠ 0 ∧ (goP x l s).2 = r)) ∧ Hid (∀ W1, Below W.heap.size W W1 → Calls Try.prog 25 #[ptr Q2, bV (withB x t.kind), .int .i64 t.qty] W1 fun e w' => e = .returned (.int .i64 r) ∧ Hid (Below w.heap.size w w' ∧ W1.grownBy w' (some Q2) ∧ (r = 0 → TryPut w w' Q2 R Q l x s V (i + 1)))) := by
  obtain ⟨R2, k, h1, h2, h3, h4, h5⟩ := h.pt
  have hgo := goP_cons (x := x) (l := k) ht
  refine ⟨putE k (withB x t.kind) t.qty, ?_, Lib.hid fun W1 hb => ?_⟩
  · by_cases h0 : putE k (withB x t.kind) t.qty = 0
    · exact .inl h0
    · rw [if_neg h0] at hgo
      exact .inr ⟨h0, by rw [h5, hgo]⟩
  · refine (put_im (withB x t.kind) t.qty W1 (h1.under hb) h3 (by omega) hn).mono ?_
    rintro e w' ⟨rfl, R3, g1, g2⟩
    have hw1 := below_then h.below hb
    have hw' : Below w.heap.size w w' := g2.below hw1 h.new
    refine ⟨rfl, Lib.hid ⟨hw', g2.grown, fun h0 => ⟨hw', h.new, ⟨CellsB.up (h.box.1.under h.box.2.1 hb) g2 (by have := hb.size; have := h.box.2.1; omega) h.box.2.2, by have := hb.size; have := h.box.2.1; have := g2.grown.size; omega, h.box.2.2⟩, R3, _, g1, fun j hj => ?_, good_put h3 _ _, ?_, ?_⟩⟩⟩
    · rcases g2.more j hj with h6 | h6
      · exact h2 j h6
      · exact .inr (Nat.le_trans hw1.size h6)
    · have := put_length k (withB x t.kind) t.qty
      omega
    · rw [h5, hgo, if_pos h0]
set_option maxRecDepth 100000 in
set_option maxHeartbeats 8000000 in
theorem eachPut_im {Q : Nat} {R : Nat → Prop} {l : List Lt} (x : Bn) (b : Option Addr) (m d : Nat) (s : List St) (w : World) (h : PT w Q R l) (hg : Good l) (hl : l.length ≤ 900) (hs : Sts w b s) (hm : s.length = m) (hm2 : m ≤ 100) (hI : ∀ t ∈ s, t.qty ≤ 9223372036854775807) :
    Calls Try.prog 46 #[ptr Q, bV x, .slice b m d, .func (.func 25) #[] #[]] w fun e w' => e = .returned (.int .i64 (putsE l x s)) ∧ ∃ R', PT w' Q R' (putsL l x s) ∧ Up w w' Q R R' := by
  obtain ⟨V, X, hV, hX, HP⟩ := box_bin w x
  have HXB : Hid (Below w.heap.size w X) := Lib.hid (by rw [← hX]; exact (Below.refl _ w).alloc (Nat.le_refl _) _)
  have hVX : V < X.heap.size := by rw [← hX, ← hV]; simp
  obtain ⟨⟨b0, b1, b2, b3⟩, _⟩ := HP.out X (Below.refl _ _)
  have HTY : Hid (∀ W k, Below X.heap.size X W → Calls Try.prog 43 #[bV x, .int .i64 k] W fun e w' => e = .returned (bV (withB x k)) ∧ Hid (Below X.heap.size X w')) := Lib.hid (fun W k hW => (typed_any x k W).mono fun _ _ ⟨e, h⟩ => ⟨e, Lib.hid (below_then hW h)⟩)
  have HI := isbin_at (withB x 1) X
  have HPT : Hid (∀ W, Below X.heap.size X W → PT W Q R l) := Lib.hid (fun W hW => h.under (below_then HXB.out hW))
  have HSA : Hid (∀ W, Below X.heap.size X W → putsL l x s = l → ∃ R', PT W Q R' (putsL l x s) ∧ Up w W Q R R') := Lib.hid (fun W hW e => ⟨R, by rw [e]; exact HPT.out W hW, Up.of_below (below_then HXB.out hW)⟩)
  by_cases hmay : MayB (withB x 1)
  case neg =>
    have HM := Lib.hid (fun W (hW : Below X.heap.size X W) => HI.out W hW false (decide_eq_false hmay))
    have he : putsE l x s = 1 := by unfold putsE; rw [if_neg fun h => hmay h.1]
    have hp : putsL l x s = l := by unfold putsL; rw [if_neg (by rw [he]; decide)]
    have HRR : Hid (∀ W, Below X.heap.size X W → ∃ R', PT W Q R' (putsL l x s) ∧ Up w W Q R R') := Lib.hid (fun W hW => HSA.out W hW hp)
    rw [he]
    clear h hg hl hmay he hp hs hm hm2 hI hVX
    go_enter Try.func46, Try.ntmps46
    go_wp2_with fail
    clear hX hV
    refine (HTY.out X 1 (Below.refl _ _)).mono ?_
    rintro e w1 ⟨rfl, H1⟩
    go_wp2_with fail
    refine (HM.out w1 H1.out).mono ?_
    rintro e w2 ⟨rfl, H2⟩
    go_wp2_with fail
    go_ret
    exact ⟨rfl, HRR.out _ H2.out⟩
  have HM := Lib.hid (fun W (hW : Below X.heap.size X W) => HI.out W hW true (decide_eq_true hmay))
  have HCK : Hid (∀ W z, Below X.heap.size X W → Goods.chk s 32 = z → Calls Try.prog 58 #[.slice b m d, .int .i64 32] W fun e w' => e = .returned (.int .i64 z) ∧ Hid (Below X.heap.size X w')) := Lib.hid (fun W z hW hz => by
    subst hz
    exact (Goods.Im.check_any b m d s 32 W hm (hs.under (below_then HXB.out hW)) (by omega)).mono fun _ _ ⟨e, h⟩ => ⟨e, Lib.hid (below_then hW h)⟩)
  by_cases hlist : Goods.Listed s 32
  case neg =>
    have HC := Lib.hid (fun W (hW : Below X.heap.size X W) => HCK.out W 1 hW (Goods.chk_no hlist))
    have he : putsE l x s = 1 := by unfold putsE; rw [if_neg fun h => hlist h.2]
    have hp : putsL l x s = l := by unfold putsL; rw [if_neg (by rw [he]; decide)]
    have HRR : Hid (∀ W, Below X.heap.size X W → ∃ R', PT W Q R' (putsL l x s) ∧ Up w W Q R R') := Lib.hid (fun W hW => HSA.out W hW hp)
    rw [he]
    clear h hg hl hmay hlist he hp hs hm hm2 hI hVX
    go_enter Try.func46, Try.ntmps46
    go_wp2_with fail
    clear hX hV
    refine (HTY.out X 1 (Below.refl _ _)).mono ?_
    rintro e w1 ⟨rfl, H1⟩
    go_wp2_with fail
    refine (HM.out w1 H1.out).mono ?_
    rintro e w2 ⟨rfl, H2⟩
    go_wp2_with fail
    refine (HC.out w2 H2.out).mono ?_
    rintro e w3 ⟨rfl, H3⟩
    go_wp2_with fail
    go_ret
    exact ⟨rfl, HRR.out _ H3.out⟩
  have HC := Lib.hid (fun W (hW : Below X.heap.size X W) => HCK.out W 0 hW (Goods.chk_yes hlist))
  have hE : putsE l x s = (goP x l s).2 := by unfold putsE; rw [if_pos ⟨hmay, hlist⟩]
  have HE := Lib.hid hE
  have HCL : Hid (∀ W, Below X.heap.size X W → Calls Try.prog 22 #[ptr Q] W fun e w' => ∃ Q2, e = .returned (ptr Q2) ∧ Hid (TryPut w w' Q2 R Q l x s V 0)) := Lib.hid (fun W hW => by
    refine (clone_im W (HPT.out W hW)).mono ?_
    rintro e w' ⟨Q2, rfl, R2, g1, g2, g3, g4⟩
    have hw := below_then HXB.out hW
    refine ⟨Q2, rfl, Lib.hid ⟨below_then hw g3, Nat.le_trans hw.size g2, ⟨(HP.out _ (below_then hW g3)).1, by have := hW.size; have := g3.size; omega, by have := hW.size; omega⟩, R2, l, g1, fun j hj => ?_, hg, by omega, rfl⟩⟩
    rcases g4 j hj with h6 | h6
    · exact .inl h6
    · exact .inr (Nat.le_trans hw.size h6))
  have HL := Lib.hid hl; have HSS := Lib.hid hs; have HMM := Lib.hid hm; have HII := Lib.hid hI
  obtain ⟨ks, vs, hv⟩ := h
  have HV := Lib.hid hv
  have hm3 : (m : Int) ≤ 1048576 := by omega
  have HM2 := Lib.hid hm2
  clear hv hg hl hs hm hI hmay hlist hE hVX hm2
  go_enter Try.func46, Try.ntmps46
  go_wp2_with fail
  clear hX hV
  refine (HTY.out X 1 (Below.refl _ _)).mono ?_
  rintro e w1 ⟨rfl, H1⟩
  go_wp2_with fail
  refine (HM.out w1 H1.out).mono ?_
  rintro e w2 ⟨rfl, H2⟩
  go_wp2_with fail
  refine (HC.out w2 H2.out).mono ?_
  rintro e w3 ⟨rfl, H3⟩
  go_wp2_with fail
  refine (HCL.out w3 H3.out).mono ?_
  rintro e w4 ⟨Q2, rfl, H0⟩
  clear b0 b1 b2 b3
  go_wp2_with fail
  go_loopw [30] (fun t wr => ∃ i : Nat, t = .int .i64 i ∧ i ≤ m ∧ Hid (TryPut w wr Q2 R Q l x s V i)) (fun t _ => m - (RowKit.intOf t).toNat)
  case atStart => exact ⟨0, rfl, by omega, H0⟩
  case round =>
    clear H0
    obtain ⟨i, rfl, hi, HT⟩ := hrel
    have hi0 : (0 : Int) ≤ (i : Int) := by omega
    by_cases hlt : i < m
    · have hlt2 : (i : Int) < (m : Int) := by omega
      obtain ⟨t, ht⟩ : ∃ t, s[i]? = some t := ⟨s[i]'(by have := HMM.out; omega), List.getElem?_eq_getElem (by have := HMM.out; omega)⟩
      obtain ⟨g, off, rfl, hg, k0, k1⟩ := (HSS.out.under HT.out.below) i t ht
      obtain ⟨U, hU⟩ : ∃ U, wr.heap.size = U := ⟨_, rfl⟩
      obtain ⟨Y, hY⟩ : ∃ Y, wr.alloc (.cells #[.int .i64 t.kind, .int .i64 t.qty] 54) = Y := ⟨_, rfl⟩
      have hbY : Below wr.heap.size wr Y := by rw [← hY]; exact (Below.refl _ wr).alloc (Nat.le_refl _) _
      have hUY : Y.heap[U]? = some (.cells #[.int .i64 t.kind, .int .i64 t.qty] 54 (0, 0)) := by rw [← hY, ← hU]; exact heap_alloc_new wr _
      have hUQ : U ≠ Q2 := by
        obtain ⟨R2, k, h1, _⟩ := HT.out.pt
        have := h1.lt Q2 h1.self
        omega
      have v0 : Y.cell? ⟨U, 0, none⟩ = some (.int .i64 t.kind) := cell_block (j := 0) hUY rfl
      have v1 : Y.cell? ⟨U, 1, none⟩ = some (.int .i64 t.qty) := cell_block (j := 1) hUY rfl
      have HTY2 := Lib.hid (HT.out.under hbY)
      have HK : Hid (∀ W, Below Y.heap.size Y W → CellsB W V x ∧ W.cell? ⟨U, 0, none⟩ = some (.int .i64 t.kind) ∧ W.cell? ⟨U, 1, none⟩ = some (.int .i64 t.qty)) := Lib.hid (fun W hW => ⟨HTY2.out.box.1.under HTY2.out.box.2.1 hW, cell_block (j := 0) ((hW.block U (Array.getElem?_eq_some_iff.1 hUY).1).trans hUY) rfl, cell_block (j := 1) ((hW.block U (Array.getElem?_eq_some_iff.1 hUY).1).trans hUY) rfl⟩)
      have HK2 : Hid (∀ W W', Below Y.heap.size Y W → W.grownBy W' (some Q2) → CellsB W' V x ∧ W'.cell? ⟨U, 0, none⟩ = some (.int .i64 t.kind) ∧ W'.cell? ⟨U, 1, none⟩ = some (.int .i64 t.qty)) := Lib.hid (fun W W' hW hg => by
        have hlU := (Array.getElem?_eq_some_iff.1 hUY).1
        have hu : W'.heap[U]? = some (.cells #[.int .i64 t.kind, .int .i64 t.qty] 54 (0, 0)) := (hg.block U (Nat.lt_of_lt_of_le hlU hW.size) (fun e => hUQ (by cases e; rfl))).trans ((hW.block U hlU).trans hUY)
        exact ⟨CellsB.up (Q := Q2) (R := fun _ => False) (R' := fun _ => False) (HK.out W hW).1 ⟨hg, fun _ h => h.elim⟩ (by have := hW.size; have := HTY2.out.box.2.1; omega) HTY2.out.box.2.2, cell_block (j := 0) hu rfl, cell_block (j := 1) hu rfl⟩)
      obtain ⟨⟨x0, x1, x2, x3⟩, _, _⟩ := HK.out Y (Below.refl _ _)
      obtain ⟨r, hr, HR⟩ := tryPut_one HTY2.out HL.out (by have := HM2.out; omega) ht (HII.out t (List.mem_of_getElem? ht))
      have HYD : Hid (Below Y.heap.size Y Y.drew) := Lib.hid (Below.refl _ Y).drew
      obtain ⟨y, hy⟩ : ∃ y, withB x t.kind = y := ⟨_, rfl⟩
      have HTD : Hid (Calls Try.prog 43 #[bV x, .int .i64 t.kind] Y.drew fun e w' => e = .returned (bV y) ∧ Hid (Below Y.heap.size Y w')) := Lib.hid (by
        rw [← hy]
        exact (typed_any x t.kind Y.drew).mono fun _ _ ⟨e, h⟩ => ⟨e, Lib.hid (below_then HYD.out h)⟩)
      rw [hy] at HR
      clear hbY hUY ht hUQ hg hy
      rcases hr with rfl | ⟨hr0, hr1⟩
      · go_wp2_with fail
        clear hY hU k0 k1
        go_region_held3 (fun W => (W.cell? ⟨V, 0, none⟩ = some (.int .i64 x.o) ∧ W.cell? ⟨V, 1, none⟩ = some (.int .i64 x.d) ∧ W.cell? ⟨V, 2, none⟩ = some (.int .i64 x.p) ∧ W.cell? ⟨V, 3, none⟩ = some (.int .i64 x.t)) ∧ W.cell? ⟨U, 0, none⟩ = some (.int .i64 t.kind) ∧ W.cell? ⟨U, 1, none⟩ = some (.int .i64 t.qty))
          (first | exact HK.out _ HYD.out | exact HK.out _ G1.out | exact HK2.out _ _ G1.out G2.out.2.1)
          (first
            | (go_at_call 43; refine HTD.out.mono ?_; rintro e w5 ⟨rfl, G1⟩)
            | (go_at_call 25; refine (HR.out _ G1.out).mono ?_; rintro e w6 ⟨rfl, G2⟩))
        all_goals
          have H3 := Lib.hid (G2.out.2.2 (by first | rfl | trivial))
          go_wp2_with fail
          go_roundw
          case rel => exact ⟨i + 1, by go_num, by omega, H3⟩
          case measure => simp [RowKit.intOf]; omega
      · have hb1 : (r == 0) = false := by simpa using hr0
        have hb2 : (r != 0) = true := by simpa using hr0
        have HE1 : Hid (putsE l x s = r ∧ putsL l x s = l) := Lib.hid (by
          have h1 : putsE l x s = r := HE.out.trans hr1
          exact ⟨h1, by unfold putsL; rw [if_neg (by rw [h1]; exact hr0)]⟩)
        clear hr0 hr1
        go_wp2_with fail
        clear hY hU k0 k1
        go_region_held3 (fun W => (W.cell? ⟨V, 0, none⟩ = some (.int .i64 x.o) ∧ W.cell? ⟨V, 1, none⟩ = some (.int .i64 x.d) ∧ W.cell? ⟨V, 2, none⟩ = some (.int .i64 x.p) ∧ W.cell? ⟨V, 3, none⟩ = some (.int .i64 x.t)) ∧ W.cell? ⟨U, 0, none⟩ = some (.int .i64 t.kind) ∧ W.cell? ⟨U, 1, none⟩ = some (.int .i64 t.qty))
          (first | exact HK.out _ HYD.out | exact HK.out _ G1.out | exact HK2.out _ _ G1.out G2.out.2.1)
          (first
            | (go_at_call 43; refine HTD.out.mono ?_; rintro e w5 ⟨rfl, G1⟩)
            | (go_at_call 25; refine (HR.out _ G1.out).mono ?_; rintro e w6 ⟨rfl, G2⟩))
        all_goals
          go_wp2_with fail
          go_ret
          rw [HE1.out.1, HE1.out.2]
          exact ⟨rfl, R, ⟨_, _, HV.out.under G2.out.1⟩, Up.of_below G2.out.1⟩
    · obtain rfl : i = m := by omega
      obtain ⟨R3, k, p1, p2, p3, p4, p5⟩ := HT.out.pt
      have hdone : goP x l s = (k, 0) := by
        rw [p5, List.drop_of_length_le (by rw [HMM.out]; exact Nat.le_refl _)]
        rfl
      obtain ⟨k2, v2, q⟩ := p1
      have HQ := Lib.hid q
      have H2' := Lib.hid p2
      obtain ⟨c0, c1⟩ := q.cells
      obtain ⟨T, hT⟩ := (HV.out.under HT.out.below).head
      have f0 := free_block 0 hT; have f1 := free_block 1 hT
      have HTT := Lib.hid hT
      have hQQ : ¬ Q = Q2 := fun e => by have := HV.out.lt Q HV.out.self; have := HT.out.new; omega
      obtain ⟨s1, s2⟩ : (wr.cell? ⟨Q, 0, none⟩ = some ks ∧ wr.cell? ⟨Q, 1, none⟩ = some vs) := ⟨cell_block (j := 0) hT rfl, cell_block (j := 1) hT rfl⟩
      obtain ⟨xa, xc, rfl, _, _, _, _⟩ := Tab.Im.rowK q.keys
      obtain ⟨ya, yc, rfl, _, _, _, _⟩ := Tab.Im.rowI q.vals
      obtain ⟨xn, hxn⟩ : ∃ n, (Tab.keys (prs k)).length = n := ⟨_, rfl⟩
      obtain ⟨yn, hyn⟩ : ∃ n, (Tab.Im.vals (prs k)).length = n := ⟨_, rfl⟩
      rw [hxn] at c0 HQ
      rw [hyn] at c1 HQ
      have hE1 : putsE l x s = 0 := by rw [HE.out, hdone]
      have hE2 : putsL l x s = k := by unfold putsL; rw [if_pos hE1, hdone]
      have HEE : Hid (∃ R', PT ((wr.setCell ⟨Q, 0, none⟩ (.slice xa xn xc)).setCell ⟨Q, 1, none⟩ (.slice ya yn yc)) Q R' (putsL l x s) ∧ Up w ((wr.setCell ⟨Q, 0, none⟩ (.slice xa xn xc)).setCell ⟨Q, 1, none⟩ (.slice ya yn yc)) Q R R') := Lib.hid (by
        rw [hE2]
        exact taken HV.out HT.out.below HQ.out.keys HQ.out.vals (fun q hq => H2'.out q (HQ.out.kb q hq).1) (fun q hq => H2'.out q (HQ.out.vb q hq).1)
          (heap_setCell_same _ Q 1 _ _ (.slice ya yn yc) (heap_setCell_same wr Q 0 _ _ (.slice xa xn xc) HTT.out)) (only_setCell (only_setCell (only_refl wr (some Q)) _ _) _ _))
      have HE1 := Lib.hid hE1
      clear hdone p2 p3 p4 p5 q hT hxn hyn hE1 hE2
      go_wp2_with fail
      go_ret
      rw [HE1.out]
      exact ⟨rfl, HEE.out⟩
set_option maxRecDepth 100000 in
set_option maxHeartbeats 1000000 in
theorem puts_im {Q : Nat} {R : Nat → Prop} {l : List Lt} (x : Bn) (b : Option Addr) (m d : Nat) (s : List St) (w : World) (h : PT w Q R l) (hg : Good l) (hl : l.length ≤ 900) (hs : Sts w b s) (hm : s.length = m) (hm2 : m ≤ 100) (hI : ∀ t ∈ s, t.qty ≤ 9223372036854775807) :
    Calls Try.prog 23 #[ptr Q, bV x, .slice b m d] w fun e w' => e = .returned (.int .i64 (putsE l x s)) ∧ ∃ R', PT w' Q R' (putsL l x s) ∧ Up w w' Q R R' := by
  obtain ⟨V, X, hV, hX, HP⟩ := box_bin w x
  have hXB : Below w.heap.size w X := by rw [← hX]; exact (Below.refl _ w).alloc (Nat.le_refl _) _
  obtain ⟨⟨b0, b1, b2, b3⟩, _⟩ := HP.out X (Below.refl _ _)
  have HC : Hid (Calls Try.prog 46 #[ptr Q, bV x, .slice b m d, .func (.func 25) #[] #[]] X fun e w' => e = .returned (.int .i64 (putsE l x s)) ∧ Hid (∃ R', PT w' Q R' (putsL l x s) ∧ Up w w' Q R R')) := Lib.hid ((eachPut_im x b m d s X (h.under hXB) hg hl (hs.under hXB) hm hm2 hI).mono fun _ _ ⟨e, R', h1, h2⟩ => ⟨e, Lib.hid ⟨R', h1, (Up.of_below hXB).trans h2⟩⟩)
  clear h hg hl hs hm hm2 hI hXB
  go_enter Try.func23, Try.ntmps23
  go_wp2_with fail
  clear hX hV
  refine HC.out.mono ?_
  rintro e w1 ⟨rfl, H1⟩
  go_wp2_with fail
  go_ret
  exact ⟨rfl, H1.out⟩
end Go.Proofs.Ytkljaaeeocghjaa.Bins
namespace Go.Proofs.Ytkljaaeeocghjaa.Bins
open Go.RowKit Go.Lib
open Tab (ptr)
open Goods (St Sts)

/-- What stands ahead of each stack: the bins as they were, the clone beside them. -/
structure TryTake (w W : World) (Q2 : Nat) (R : Nat → Prop) (Q : Nat) (l : List Lt) (x : Bn) (s : List St) (V : Nat) (i : Nat) : Prop where
  below : Below w.heap.size w W
  new : w.heap.size ≤ Q2
  box : CellsB W V x ∧ V < W.heap.size ∧ V ≠ Q2
  pt : ∃ R2 k, PT W Q2 R2 k ∧ (∀ j, R2 j → (R j ∧ j ≠ Q) ∨ w.heap.size ≤ j) ∧ Good k ∧ k.length ≤ l.length + i ∧ goT x l s = goT x k (s.drop i)
theorem TryTake.under {w W W' : World} {Q2 : Nat} {R : Nat → Prop} {Q : Nat} {l : List Lt} {x : Bn} {s : List St} {V i : Nat} (h : TryTake w W Q2 R Q l x s V i) (hb : Below W.heap.size W W') : TryTake w W' Q2 R Q l x s V i := by
  obtain ⟨R2, k, h1, h2⟩ := h.pt
  exact ⟨below_then h.below hb, h.new, ⟨h.box.1.under h.box.2.1 hb, Nat.lt_of_lt_of_le h.box.2.1 hb.size, h.box.2.2⟩, R2, k, h1.under hb, h2⟩
/-- One stack on the clone. -/
theorem tryTake_one {w W : World} {Q2 : Nat} {R : Nat → Prop} {Q : Nat} {l : List Lt} {x : Bn} {s : List St} {V i : Nat} {t : St} (h : TryTake w W Q2 R Q l x s V i) (hl : l.length ≤ 900) (hi : i < 100) (ht : s[i]? = some t) (_ : t.qty ≤ 9223372036854775807) :
    ∃ r, (r = 0 ∨ (r ≠ 0 ∧ (goT x l s).2 = r)) ∧ Hid (∀ W1, Below W.heap.size W W1 → Calls Try.prog 24 #[ptr Q2, bV (withB x t.kind), .int .i64 t.qty] W1 fun e w' => e = .returned (.int .i64 r) ∧ Hid (Below w.heap.size w w' ∧ W1.grownBy w' (some Q2) ∧ (r = 0 → TryTake w w' Q2 R Q l x s V (i + 1)))) := by
  obtain ⟨R2, k, h1, h2, h3, h4, h5⟩ := h.pt
  have hgo := goT_cons (x := x) (l := k) ht
  refine ⟨takeE k (withB x t.kind) t.qty, ?_, Lib.hid fun W1 hb => ?_⟩
  · by_cases h0 : takeE k (withB x t.kind) t.qty = 0
    · exact .inl h0
    · rw [if_neg h0] at hgo
      exact .inr ⟨h0, by rw [h5, hgo]⟩
  · refine (take_im (withB x t.kind) t.qty W1 (h1.under hb) h3 (by omega)).mono ?_
    rintro e w' ⟨rfl, R3, g1, g2⟩
    have hw1 := below_then h.below hb
    have hw' : Below w.heap.size w w' := g2.below hw1 h.new
    refine ⟨rfl, Lib.hid ⟨hw', g2.grown, fun h0 => ⟨hw', h.new, ⟨CellsB.up (h.box.1.under h.box.2.1 hb) g2 (by have := hb.size; have := h.box.2.1; omega) h.box.2.2, by have := hb.size; have := h.box.2.1; have := g2.grown.size; omega, h.box.2.2⟩, R3, _, g1, fun j hj => ?_, good_take h3 _ _, ?_, ?_⟩⟩⟩
    · rcases g2.more j hj with h6 | h6
      · exact h2 j h6
      · exact .inr (Nat.le_trans hw1.size h6)
    · have := take_length k (withB x t.kind) t.qty
      omega
    · rw [h5, hgo, if_pos h0]
set_option maxRecDepth 100000 in
set_option maxHeartbeats 8000000 in
theorem eachTake_im {Q : Nat} {R : Nat → Prop} {l : List Lt} (x : Bn) (b : Option Addr) (m d : Nat) (s : List St) (w : World) (h : PT w Q R l) (hg : Good l) (hl : l.length ≤ 900) (hs : Sts w b s) (hm : s.length = m) (hm2 : m ≤ 100) (hI : ∀ t ∈ s, t.qty ≤ 9223372036854775807) :
    Calls Try.prog 46 #[ptr Q, bV x, .slice b m d, .func (.func 24) #[] #[]] w fun e w' => e = .returned (.int .i64 (takesE l x s)) ∧ ∃ R', PT w' Q R' (takesL l x s) ∧ Up w w' Q R R' := by
  obtain ⟨V, X, hV, hX, HP⟩ := box_bin w x
  have HXB : Hid (Below w.heap.size w X) := Lib.hid (by rw [← hX]; exact (Below.refl _ w).alloc (Nat.le_refl _) _)
  have hVX : V < X.heap.size := by rw [← hX, ← hV]; simp
  obtain ⟨⟨b0, b1, b2, b3⟩, _⟩ := HP.out X (Below.refl _ _)
  have HTY : Hid (∀ W k, Below X.heap.size X W → Calls Try.prog 43 #[bV x, .int .i64 k] W fun e w' => e = .returned (bV (withB x k)) ∧ Hid (Below X.heap.size X w')) := Lib.hid (fun W k hW => (typed_any x k W).mono fun _ _ ⟨e, h⟩ => ⟨e, Lib.hid (below_then hW h)⟩)
  have HI := isbin_at (withB x 1) X
  have HPT : Hid (∀ W, Below X.heap.size X W → PT W Q R l) := Lib.hid (fun W hW => h.under (below_then HXB.out hW))
  have HSA : Hid (∀ W, Below X.heap.size X W → takesL l x s = l → ∃ R', PT W Q R' (takesL l x s) ∧ Up w W Q R R') := Lib.hid (fun W hW e => ⟨R, by rw [e]; exact HPT.out W hW, Up.of_below (below_then HXB.out hW)⟩)
  by_cases hmay : MayB (withB x 1)
  case neg =>
    have HM := Lib.hid (fun W (hW : Below X.heap.size X W) => HI.out W hW false (decide_eq_false hmay))
    have he : takesE l x s = 1 := by unfold takesE; rw [if_neg fun h => hmay h.1]
    have hp : takesL l x s = l := by unfold takesL; rw [if_neg (by rw [he]; decide)]
    have HRR : Hid (∀ W, Below X.heap.size X W → ∃ R', PT W Q R' (takesL l x s) ∧ Up w W Q R R') := Lib.hid (fun W hW => HSA.out W hW hp)
    rw [he]
    clear h hg hl hmay he hp hs hm hm2 hI hVX
    go_enter Try.func46, Try.ntmps46
    go_wp2_with fail
    clear hX hV
    refine (HTY.out X 1 (Below.refl _ _)).mono ?_
    rintro e w1 ⟨rfl, H1⟩
    go_wp2_with fail
    refine (HM.out w1 H1.out).mono ?_
    rintro e w2 ⟨rfl, H2⟩
    go_wp2_with fail
    go_ret
    exact ⟨rfl, HRR.out _ H2.out⟩
  have HM := Lib.hid (fun W (hW : Below X.heap.size X W) => HI.out W hW true (decide_eq_true hmay))
  have HCK : Hid (∀ W z, Below X.heap.size X W → Goods.chk s 32 = z → Calls Try.prog 58 #[.slice b m d, .int .i64 32] W fun e w' => e = .returned (.int .i64 z) ∧ Hid (Below X.heap.size X w')) := Lib.hid (fun W z hW hz => by
    subst hz
    exact (Goods.Im.check_any b m d s 32 W hm (hs.under (below_then HXB.out hW)) (by omega)).mono fun _ _ ⟨e, h⟩ => ⟨e, Lib.hid (below_then hW h)⟩)
  by_cases hlist : Goods.Listed s 32
  case neg =>
    have HC := Lib.hid (fun W (hW : Below X.heap.size X W) => HCK.out W 1 hW (Goods.chk_no hlist))
    have he : takesE l x s = 1 := by unfold takesE; rw [if_neg fun h => hlist h.2]
    have hp : takesL l x s = l := by unfold takesL; rw [if_neg (by rw [he]; decide)]
    have HRR : Hid (∀ W, Below X.heap.size X W → ∃ R', PT W Q R' (takesL l x s) ∧ Up w W Q R R') := Lib.hid (fun W hW => HSA.out W hW hp)
    rw [he]
    clear h hg hl hmay hlist he hp hs hm hm2 hI hVX
    go_enter Try.func46, Try.ntmps46
    go_wp2_with fail
    clear hX hV
    refine (HTY.out X 1 (Below.refl _ _)).mono ?_
    rintro e w1 ⟨rfl, H1⟩
    go_wp2_with fail
    refine (HM.out w1 H1.out).mono ?_
    rintro e w2 ⟨rfl, H2⟩
    go_wp2_with fail
    refine (HC.out w2 H2.out).mono ?_
    rintro e w3 ⟨rfl, H3⟩
    go_wp2_with fail
    go_ret
    exact ⟨rfl, HRR.out _ H3.out⟩
  have HC := Lib.hid (fun W (hW : Below X.heap.size X W) => HCK.out W 0 hW (Goods.chk_yes hlist))
  have hE : takesE l x s = (goT x l s).2 := by unfold takesE; rw [if_pos ⟨hmay, hlist⟩]
  have HE := Lib.hid hE
  have HCL : Hid (∀ W, Below X.heap.size X W → Calls Try.prog 22 #[ptr Q] W fun e w' => ∃ Q2, e = .returned (ptr Q2) ∧ Hid (TryTake w w' Q2 R Q l x s V 0)) := Lib.hid (fun W hW => by
    refine (clone_im W (HPT.out W hW)).mono ?_
    rintro e w' ⟨Q2, rfl, R2, g1, g2, g3, g4⟩
    have hw := below_then HXB.out hW
    refine ⟨Q2, rfl, Lib.hid ⟨below_then hw g3, Nat.le_trans hw.size g2, ⟨(HP.out _ (below_then hW g3)).1, by have := hW.size; have := g3.size; omega, by have := hW.size; omega⟩, R2, l, g1, fun j hj => ?_, hg, by omega, rfl⟩⟩
    rcases g4 j hj with h6 | h6
    · exact .inl h6
    · exact .inr (Nat.le_trans hw.size h6))
  have HL := Lib.hid hl; have HSS := Lib.hid hs; have HMM := Lib.hid hm; have HII := Lib.hid hI
  obtain ⟨ks, vs, hv⟩ := h
  have HV := Lib.hid hv
  have hm3 : (m : Int) ≤ 1048576 := by omega
  have HM2 := Lib.hid hm2
  clear hv hg hl hs hm hI hmay hlist hE hVX hm2
  go_enter Try.func46, Try.ntmps46
  go_wp2_with fail
  clear hX hV
  refine (HTY.out X 1 (Below.refl _ _)).mono ?_
  rintro e w1 ⟨rfl, H1⟩
  go_wp2_with fail
  refine (HM.out w1 H1.out).mono ?_
  rintro e w2 ⟨rfl, H2⟩
  go_wp2_with fail
  refine (HC.out w2 H2.out).mono ?_
  rintro e w3 ⟨rfl, H3⟩
  go_wp2_with fail
  refine (HCL.out w3 H3.out).mono ?_
  rintro e w4 ⟨Q2, rfl, H0⟩
  clear b0 b1 b2 b3
  go_wp2_with fail
  go_loopw [30] (fun t wr => ∃ i : Nat, t = .int .i64 i ∧ i ≤ m ∧ Hid (TryTake w wr Q2 R Q l x s V i)) (fun t _ => m - (RowKit.intOf t).toNat)
  case atStart => exact ⟨0, rfl, by omega, H0⟩
  case round =>
    clear H0
    obtain ⟨i, rfl, hi, HT⟩ := hrel
    have hi0 : (0 : Int) ≤ (i : Int) := by omega
    by_cases hlt : i < m
    · have hlt2 : (i : Int) < (m : Int) := by omega
      obtain ⟨t, ht⟩ : ∃ t, s[i]? = some t := ⟨s[i]'(by have := HMM.out; omega), List.getElem?_eq_getElem (by have := HMM.out; omega)⟩
      obtain ⟨g, off, rfl, hg, k0, k1⟩ := (HSS.out.under HT.out.below) i t ht
      obtain ⟨U, hU⟩ : ∃ U, wr.heap.size = U := ⟨_, rfl⟩
      obtain ⟨Y, hY⟩ : ∃ Y, wr.alloc (.cells #[.int .i64 t.kind, .int .i64 t.qty] 54) = Y := ⟨_, rfl⟩
      have hbY : Below wr.heap.size wr Y := by rw [← hY]; exact (Below.refl _ wr).alloc (Nat.le_refl _) _
      have hUY : Y.heap[U]? = some (.cells #[.int .i64 t.kind, .int .i64 t.qty] 54 (0, 0)) := by rw [← hY, ← hU]; exact heap_alloc_new wr _
      have hUQ : U ≠ Q2 := by
        obtain ⟨R2, k, h1, _⟩ := HT.out.pt
        have := h1.lt Q2 h1.self
        omega
      have v0 : Y.cell? ⟨U, 0, none⟩ = some (.int .i64 t.kind) := cell_block (j := 0) hUY rfl
      have v1 : Y.cell? ⟨U, 1, none⟩ = some (.int .i64 t.qty) := cell_block (j := 1) hUY rfl
      have HTY2 := Lib.hid (HT.out.under hbY)
      have HK : Hid (∀ W, Below Y.heap.size Y W → CellsB W V x ∧ W.cell? ⟨U, 0, none⟩ = some (.int .i64 t.kind) ∧ W.cell? ⟨U, 1, none⟩ = some (.int .i64 t.qty)) := Lib.hid (fun W hW => ⟨HTY2.out.box.1.under HTY2.out.box.2.1 hW, cell_block (j := 0) ((hW.block U (Array.getElem?_eq_some_iff.1 hUY).1).trans hUY) rfl, cell_block (j := 1) ((hW.block U (Array.getElem?_eq_some_iff.1 hUY).1).trans hUY) rfl⟩)
      have HK2 : Hid (∀ W W', Below Y.heap.size Y W → W.grownBy W' (some Q2) → CellsB W' V x ∧ W'.cell? ⟨U, 0, none⟩ = some (.int .i64 t.kind) ∧ W'.cell? ⟨U, 1, none⟩ = some (.int .i64 t.qty)) := Lib.hid (fun W W' hW hg => by
        have hlU := (Array.getElem?_eq_some_iff.1 hUY).1
        have hu : W'.heap[U]? = some (.cells #[.int .i64 t.kind, .int .i64 t.qty] 54 (0, 0)) := (hg.block U (Nat.lt_of_lt_of_le hlU hW.size) (fun e => hUQ (by cases e; rfl))).trans ((hW.block U hlU).trans hUY)
        exact ⟨CellsB.up (Q := Q2) (R := fun _ => False) (R' := fun _ => False) (HK.out W hW).1 ⟨hg, fun _ h => h.elim⟩ (by have := hW.size; have := HTY2.out.box.2.1; omega) HTY2.out.box.2.2, cell_block (j := 0) hu rfl, cell_block (j := 1) hu rfl⟩)
      obtain ⟨⟨x0, x1, x2, x3⟩, _, _⟩ := HK.out Y (Below.refl _ _)
      obtain ⟨r, hr, HR⟩ := tryTake_one HTY2.out HL.out (by have := HM2.out; omega) ht (HII.out t (List.mem_of_getElem? ht))
      have HYD : Hid (Below Y.heap.size Y Y.drew) := Lib.hid (Below.refl _ Y).drew
      obtain ⟨y, hy⟩ : ∃ y, withB x t.kind = y := ⟨_, rfl⟩
      have HTD : Hid (Calls Try.prog 43 #[bV x, .int .i64 t.kind] Y.drew fun e w' => e = .returned (bV y) ∧ Hid (Below Y.heap.size Y w')) := Lib.hid (by
        rw [← hy]
        exact (typed_any x t.kind Y.drew).mono fun _ _ ⟨e, h⟩ => ⟨e, Lib.hid (below_then HYD.out h)⟩)
      rw [hy] at HR
      clear hbY hUY ht hUQ hg hy
      rcases hr with rfl | ⟨hr0, hr1⟩
      · go_wp2_with fail
        clear hY hU k0 k1
        go_region_held3 (fun W => (W.cell? ⟨V, 0, none⟩ = some (.int .i64 x.o) ∧ W.cell? ⟨V, 1, none⟩ = some (.int .i64 x.d) ∧ W.cell? ⟨V, 2, none⟩ = some (.int .i64 x.p) ∧ W.cell? ⟨V, 3, none⟩ = some (.int .i64 x.t)) ∧ W.cell? ⟨U, 0, none⟩ = some (.int .i64 t.kind) ∧ W.cell? ⟨U, 1, none⟩ = some (.int .i64 t.qty))
          (first | exact HK.out _ HYD.out | exact HK.out _ G1.out | exact HK2.out _ _ G1.out G2.out.2.1)
          (first
            | (go_at_call 43; refine HTD.out.mono ?_; rintro e w5 ⟨rfl, G1⟩)
            | (go_at_call 24; refine (HR.out _ G1.out).mono ?_; rintro e w6 ⟨rfl, G2⟩))
        all_goals
          have H3 := Lib.hid (G2.out.2.2 (by first | rfl | trivial))
          go_wp2_with fail
          go_roundw
          case rel => exact ⟨i + 1, by go_num, by omega, H3⟩
          case measure => simp [RowKit.intOf]; omega
      · have hb1 : (r == 0) = false := by simpa using hr0
        have hb2 : (r != 0) = true := by simpa using hr0
        have HE1 : Hid (takesE l x s = r ∧ takesL l x s = l) := Lib.hid (by
          have h1 : takesE l x s = r := HE.out.trans hr1
          exact ⟨h1, by unfold takesL; rw [if_neg (by rw [h1]; exact hr0)]⟩)
        clear hr0 hr1
        go_wp2_with fail
        clear hY hU k0 k1
        go_region_held3 (fun W => (W.cell? ⟨V, 0, none⟩ = some (.int .i64 x.o) ∧ W.cell? ⟨V, 1, none⟩ = some (.int .i64 x.d) ∧ W.cell? ⟨V, 2, none⟩ = some (.int .i64 x.p) ∧ W.cell? ⟨V, 3, none⟩ = some (.int .i64 x.t)) ∧ W.cell? ⟨U, 0, none⟩ = some (.int .i64 t.kind) ∧ W.cell? ⟨U, 1, none⟩ = some (.int .i64 t.qty))
          (first | exact HK.out _ HYD.out | exact HK.out _ G1.out | exact HK2.out _ _ G1.out G2.out.2.1)
          (first
            | (go_at_call 43; refine HTD.out.mono ?_; rintro e w5 ⟨rfl, G1⟩)
            | (go_at_call 24; refine (HR.out _ G1.out).mono ?_; rintro e w6 ⟨rfl, G2⟩))
        all_goals
          go_wp2_with fail
          go_ret
          rw [HE1.out.1, HE1.out.2]
          exact ⟨rfl, R, ⟨_, _, HV.out.under G2.out.1⟩, Up.of_below G2.out.1⟩
    · obtain rfl : i = m := by omega
      obtain ⟨R3, k, p1, p2, p3, p4, p5⟩ := HT.out.pt
      have hdone : goT x l s = (k, 0) := by
        rw [p5, List.drop_of_length_le (by rw [HMM.out]; exact Nat.le_refl _)]
        rfl
      obtain ⟨k2, v2, q⟩ := p1
      have HQ := Lib.hid q
      have H2' := Lib.hid p2
      obtain ⟨c0, c1⟩ := q.cells
      obtain ⟨T, hT⟩ := (HV.out.under HT.out.below).head
      have f0 := free_block 0 hT; have f1 := free_block 1 hT
      have HTT := Lib.hid hT
      have hQQ : ¬ Q = Q2 := fun e => by have := HV.out.lt Q HV.out.self; have := HT.out.new; omega
      obtain ⟨s1, s2⟩ : (wr.cell? ⟨Q, 0, none⟩ = some ks ∧ wr.cell? ⟨Q, 1, none⟩ = some vs) := ⟨cell_block (j := 0) hT rfl, cell_block (j := 1) hT rfl⟩
      obtain ⟨xa, xc, rfl, _, _, _, _⟩ := Tab.Im.rowK q.keys
      obtain ⟨ya, yc, rfl, _, _, _, _⟩ := Tab.Im.rowI q.vals
      obtain ⟨xn, hxn⟩ : ∃ n, (Tab.keys (prs k)).length = n := ⟨_, rfl⟩
      obtain ⟨yn, hyn⟩ : ∃ n, (Tab.Im.vals (prs k)).length = n := ⟨_, rfl⟩
      rw [hxn] at c0 HQ
      rw [hyn] at c1 HQ
      have hE1 : takesE l x s = 0 := by rw [HE.out, hdone]
      have hE2 : takesL l x s = k := by unfold takesL; rw [if_pos hE1, hdone]
      have HEE : Hid (∃ R', PT ((wr.setCell ⟨Q, 0, none⟩ (.slice xa xn xc)).setCell ⟨Q, 1, none⟩ (.slice ya yn yc)) Q R' (takesL l x s) ∧ Up w ((wr.setCell ⟨Q, 0, none⟩ (.slice xa xn xc)).setCell ⟨Q, 1, none⟩ (.slice ya yn yc)) Q R R') := Lib.hid (by
        rw [hE2]
        exact taken HV.out HT.out.below HQ.out.keys HQ.out.vals (fun q hq => H2'.out q (HQ.out.kb q hq).1) (fun q hq => H2'.out q (HQ.out.vb q hq).1)
          (heap_setCell_same _ Q 1 _ _ (.slice ya yn yc) (heap_setCell_same wr Q 0 _ _ (.slice xa xn xc) HTT.out)) (only_setCell (only_setCell (only_refl wr (some Q)) _ _) _ _))
      have HE1 := Lib.hid hE1
      clear hdone p2 p3 p4 p5 q hT hxn hyn hE1 hE2
      go_wp2_with fail
      go_ret
      rw [HE1.out]
      exact ⟨rfl, HEE.out⟩
set_option maxRecDepth 100000 in
set_option maxHeartbeats 1000000 in
theorem takes_im {Q : Nat} {R : Nat → Prop} {l : List Lt} (x : Bn) (b : Option Addr) (m d : Nat) (s : List St) (w : World) (h : PT w Q R l) (hg : Good l) (hl : l.length ≤ 900) (hs : Sts w b s) (hm : s.length = m) (hm2 : m ≤ 100) (hI : ∀ t ∈ s, t.qty ≤ 9223372036854775807) :
    Calls Try.prog 38 #[ptr Q, bV x, .slice b m d] w fun e w' => e = .returned (.int .i64 (takesE l x s)) ∧ ∃ R', PT w' Q R' (takesL l x s) ∧ Up w w' Q R R' := by
  obtain ⟨V, X, hV, hX, HP⟩ := box_bin w x
  have hXB : Below w.heap.size w X := by rw [← hX]; exact (Below.refl _ w).alloc (Nat.le_refl _) _
  obtain ⟨⟨b0, b1, b2, b3⟩, _⟩ := HP.out X (Below.refl _ _)
  have HC : Hid (Calls Try.prog 46 #[ptr Q, bV x, .slice b m d, .func (.func 24) #[] #[]] X fun e w' => e = .returned (.int .i64 (takesE l x s)) ∧ Hid (∃ R', PT w' Q R' (takesL l x s) ∧ Up w w' Q R R')) := Lib.hid ((eachTake_im x b m d s X (h.under hXB) hg hl (hs.under hXB) hm hm2 hI).mono fun _ _ ⟨e, R', h1, h2⟩ => ⟨e, Lib.hid ⟨R', h1, (Up.of_below hXB).trans h2⟩⟩)
  clear h hg hl hs hm hm2 hI hXB
  go_enter Try.func38, Try.ntmps38
  go_wp2_with fail
  clear hX hV
  refine HC.out.mono ?_
  rintro e w1 ⟨rfl, H1⟩
  go_wp2_with fail
  go_ret
  exact ⟨rfl, H1.out⟩
end Go.Proofs.Ytkljaaeeocghjaa.Bins
