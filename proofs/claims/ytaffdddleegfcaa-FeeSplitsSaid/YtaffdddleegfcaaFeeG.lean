/- The document's Same of rows of ints; what the laws ask of the program's fees; what must come, whatever the arguments are. -/
import Derived.Test.YtaffdddleegfcaaFeeF
namespace Go.Proofs.Ytaffdddleegfcaa.Fee
open Go.RowKit Go.Lib IRows

theorem take_ne {l k : List Int} {i : Nat} {t u : Int} (h1 : l[i]? = some t) (h2 : k[i]? = some u) (h : t ≠ u) : l ≠ k := fun e => h (by rw [e, h2] at h1; injection h1 with h1; exact h1.symm)
theorem take_both {l k : List Int} {i : Nat} {t : Int} (h1 : l[i]? = some t) (h2 : k[i]? = some t) (h : l.take i = k.take i) : l.take (i + 1) = k.take (i + 1) := by
  rw [List.take_add_one, List.take_add_one, h1, h2, h]
open Classical in
set_option maxRecDepth 100000 in
set_option maxHeartbeats 2000000 in
theorem dsame (a : Option Addr) (n c : Nat) (l : List Int) (b : Option Addr) (m d : Nat) (k : List Int) (w : World) (hl : l.length = n) (hs : IRow w a l) (hn : n ≤ 1048576) (hk : k.length = m) (ht : IRow w b k) (hm : m ≤ 1048576) :
    Calls Try.prog 17 #[.slice a n c, .slice b m d] w fun e w' => e = .returned (.bool (decide (l = k))) ∧ Below w.heap.size w w' := by
  by_cases hnm : n = m
  · subst hnm
    have HL := Lib.hid hl; have HK := Lib.hid hk
    have H1 := irow_at hs; have H2 := irow_at ht
    have hn1 : (n : Int) ≤ 1048576 := by omega
    have hee : ((n : Int) == (n : Int)) = true := by simp
    clear hl hs hn hk ht hm
    go_enter Try.func17, Try.ntmps17
    go_wp2_with fail
    go_loopw [5] (fun s wr => ∃ i : Nat, s = .int .i64 i ∧ i ≤ n ∧ Hid (Below w.heap.size w wr) ∧ Hid (l.take i = k.take i)) (fun s _ => n - (RowKit.intOf s).toNat)
    case atStart => exact ⟨0, rfl, by omega, Lib.hid (Below.refl _ _), Lib.hid rfl⟩
    case round =>
      obtain ⟨i, rfl, hi, HB, HI⟩ := hrel
      have hi0 : (0 : Int) ≤ (i : Int) := by omega
      by_cases hlt : i < n
      · have hlt2 : (i : Int) < (n : Int) := by omega
        have dlt : decide ((i : Int) < (n : Int)) = true := decide_eq_true hlt2
        obtain ⟨g, off, t, rfl, hti, q0⟩ := H1.out _ i HB.out (by rw [HL.out]; exact hlt)
        obtain ⟨g', off', u, rfl, hui, r0⟩ := H2.out _ i HB.out (by rw [HK.out]; exact hlt)
        by_cases c1 : t = u
        · obtain rfl := c1
          have HI2 : Hid (l.take (i + 1) = k.take (i + 1)) := Lib.hid (take_both hti.out hui.out HI.out)
          go_wp2_with fail
          go_quiet (fail)
          go_wp2_with fail
          go_roundw
          case rel => exact ⟨i + 1, by go_num, by omega, Lib.hid (below_drewN HB.out _), HI2⟩
          case measure => simp [RowKit.intOf]; omega
        · have HF : Hid (l ≠ k) := Lib.hid (take_ne hti.out hui.out c1)
          have c1b : (t == u) = false := by simpa using c1
          go_wp2_with fail
          go_quiet (fail)
          go_wp2_with fail
          go_ret
          exact ⟨by rw [decide_eq_false HF.out]; rfl, below_drewN HB.out _⟩
      · obtain rfl : i = n := by omega
        have HF : Hid (l = k) := Lib.hid (by
          have := HI.out
          rw [List.take_of_length_le (by rw [HL.out]; exact Nat.le_refl _), List.take_of_length_le (by rw [HK.out]; exact Nat.le_refl _)] at this
          exact this)
        go_wp2_with fail
        go_ret
        exact ⟨by rw [decide_eq_true HF.out]; rfl, HB.out⟩
  · have hf : decide (l = k) = false := decide_eq_false fun e => hnm (by rw [← hl, ← hk, e])
    rw [hf]
    have hne : ((n : Int) == (m : Int)) = false := by simp; omega
    have hn2 : ¬ (n : Int) = (m : Int) := by omega
    clear hl hs hn hk ht hm hf
    go_enter Try.func17, Try.ntmps17
    go_wp2_with fail
    go_ret
    exact ⟨rfl, Below.refl _ _⟩
/-- Numbers as the program has them. -/
def I64 (x : Int) : Prop := -9223372036854775808 ≤ x ∧ x ≤ 9223372036854775807
def InF (f : FS) : Prop := I64 f.broker ∧ I64 f.least ∧ I64 f.sales
/-- The program's functions answer in the document's words. -/
structure Impl : Prop where
  check : ∀ (f : FS) (w : World), InF f → Calls Try.prog 12 #[f.v] w fun e w' => e = .returned (.int .i64 (chkF f)) ∧ Below w.heap.size w w'
  broker : ∀ (f : FS) (x : Int) (w : World), InF f → I64 x → Calls Try.prog 6 #[f.v, .int .i64 x] w fun e w' => e = .returned (.tuple #[.int .i64 (brokV f x), .int .i64 (feeE f x)]) ∧ Below w.heap.size w w'
  sale : ∀ (f : FS) (x : Int) (w : World), InF f → I64 x → Calls Try.prog 8 #[f.v, .int .i64 x] w fun e w' => e = .returned (.tuple #[.int .i64 (saleV f x), .int .i64 (feeE f x)]) ∧ Below w.heap.size w w'
  bay : ∀ (r t : Int) (w : World), I64 r → I64 t → Calls Try.prog 10 #[.int .i64 r, .int .i64 t] w fun e w' => e = .returned (.tuple #[.int .i64 (bayV r t), .int .i64 (bayE r t)]) ∧ Below w.heap.size w w'
  split : ∀ (n : Int) (a : Option Addr) (m c : Nat) (ws : List Int) (w : World), ws.length = m → IRow w a ws → m ≤ 1024 → I64 n → (∀ v ∈ ws, I64 v) →
    Calls Try.prog 15 #[.int .i64 n, .slice a m c] w fun e w' => ∃ v, e = .returned (.tuple #[v, .int .i64 (errSp n ws)]) ∧ KS w' w.heap.size v (valSp n ws) ∧ Below w.heap.size w w'
def aw0 : FS := ⟨100, 3, 250⟩
theorem in_aw0 : InF aw0 := by simp [InF, I64, aw0]
theorem in_aw1 : InF ⟨0, 0, -1⟩ := by simp [InF, I64]
theorem ok_aw0 : FeeOk aw0 := by simp [FeeOk, aw0]
theorem aw_brok : brokV aw0 1001 = 11 ∧ feeE aw0 1001 = 0 ∧ saleV aw0 1001 = 25 := by decide
theorem aw_chk : chkF ⟨0, 0, -1⟩ = 1 := by decide
theorem aw_ord : ordF [1, 1, 1] = [0, 1, 2] := order_one (ordF_is _) ⟨by decide, by decide⟩
theorem aw_split : errSp 10 [1, 1, 1] = 0 ∧ valSp 10 [1, 1, 1] = [4, 3, 3] := by
  have h : SplitOk 10 [1, 1, 1] := ⟨by omega, by decide, by decide, fun v hv => by simp at hv; omega⟩
  obtain ⟨h1, h2⟩ := sp_ok h (by decide) (by decide)
  refine ⟨h1, ?_⟩
  rw [h2]
  unfold shares
  have e1 : rst 10 (sumL [1, 1, 1]) [1, 1, 1] = [1, 1, 1] := by decide
  have e2 : flo 10 (sumL [1, 1, 1]) [1, 1, 1] = [3, 3, 3] := by decide
  have e3 : moreN 10 (sumL [1, 1, 1]) [1, 1, 1] = 1 := by decide
  rw [e1, e2, e3, aw_ord]
  rfl
/-- Ints that a composite literal lays. -/
theorem irow_lit {w : World} {g : Nat} {cs : Array Value} {T : TypeId} (l : List Int) (h : w.heap[g]? = some (.cells cs T (0, 0))) (hc : cs.toList = l.map (Value.int .i64)) : IRow w (some ⟨g, 0, none⟩) l := fun i x hi => by
  refine ⟨g, 0, rfl, (Array.getElem?_eq_some_iff.1 h).1, ?_⟩
  rw [Nat.zero_add]
  refine cell_block (j := i) h ?_
  rw [← Array.getElem?_toList, hc, List.getElem?_map, hi]
  rfl
open Classical in
set_option maxRecDepth 100000 in
set_option maxHeartbeats 4000000 in
theorem awake_in (I : Impl) (w : World) : Calls Try.prog 14 #[] w fun e w' => e = .returned (.bool true) ∧ Below w.heap.size w w' := by
  obtain ⟨V, hV⟩ : ∃ V, w.heap.size = V := ⟨_, rfl⟩
  obtain ⟨Y, hY⟩ : ∃ Y, w.alloc (.cells #[.int .i64 100, .int .i64 3, .int .i64 250] 23) = Y := ⟨_, rfl⟩
  have hbY : Below w.heap.size w Y := by rw [← hY]; exact (Below.refl _ w).alloc (Nat.le_refl _) _
  have hVY : Y.heap[V]? = some (.cells #[.int .i64 100, .int .i64 3, .int .i64 250] 23 (0, 0)) := by rw [← hY, ← hV]; exact heap_alloc_new w _
  have HF : Hid (∀ W, Below Y.heap.size Y W → (W.cell? ⟨V, 0, none⟩ = some (.int .i64 100) ∧ W.cell? ⟨V, 1, none⟩ = some (.int .i64 3) ∧ W.cell? ⟨V, 2, none⟩ = some (.int .i64 250)) ∧ Hid (Below w.heap.size w W)) := Lib.hid (fun W hW => by
    have h1 := (hW.block V (Array.getElem?_eq_some_iff.1 hVY).1).trans hVY
    exact ⟨⟨cell_block (j := 0) h1 rfl, cell_block (j := 1) h1 rfl, cell_block (j := 2) h1 rfl⟩, Lib.hid (below_then hbY hW)⟩)
  have H1 : Hid (∀ W, Below Y.heap.size Y W → Calls Try.prog 6 #[.agg #[.int .i64 100, .int .i64 3, .int .i64 250], .int .i64 1001] W fun e w' => e = .returned (.tuple #[.int .i64 11, .int .i64 0]) ∧ Hid (Below Y.heap.size Y w')) := Lib.hid (fun W hW => by
    have := I.broker aw0 1001 W in_aw0 (by simp [I64])
    rw [aw_brok.1, aw_brok.2.1] at this
    exact this.mono fun _ _ ⟨e, h⟩ => ⟨e, Lib.hid (below_then hW h)⟩)
  have H2 : Hid (∀ W, Below Y.heap.size Y W → Calls Try.prog 8 #[.agg #[.int .i64 100, .int .i64 3, .int .i64 250], .int .i64 1001] W fun e w' => e = .returned (.tuple #[.int .i64 25, .int .i64 0]) ∧ Hid (Below Y.heap.size Y w')) := Lib.hid (fun W hW => by
    have := I.sale aw0 1001 W in_aw0 (by simp [I64])
    rw [aw_brok.2.2, aw_brok.2.1] at this
    exact this.mono fun _ _ ⟨e, h⟩ => ⟨e, Lib.hid (below_then hW h)⟩)
  have H3 : Hid (∀ W a, Below Y.heap.size Y W → IRow W a [1, 1, 1] → Calls Try.prog 15 #[.int .i64 10, .slice a 3 3] W fun e w' => ∃ v c, e = .returned (.tuple #[.slice v 3 c, .int .i64 0]) ∧ Hid (IRow w' v [4, 3, 3] ∧ Below Y.heap.size Y w')) := Lib.hid (fun W a hW hs => by
    have := I.split 10 a 3 3 [1, 1, 1] W rfl hs (by omega) (by simp [I64]) (fun v hv => by simp at hv; subst hv; simp [I64])
    rw [aw_split.1, aw_split.2] at this
    refine this.mono ?_
    rintro e w' ⟨v, rfl, h1, h2⟩
    obtain ⟨a', c', rfl, h3⟩ := irow_own h1
    exact ⟨a', c', rfl, Lib.hid ⟨h3, below_then hW h2⟩⟩)
  have H4 : Hid (∀ W a c b, Below Y.heap.size Y W → IRow W a [4, 3, 3] → IRow W b [4, 3, 3] → Calls Try.prog 17 #[.slice a 3 c, .slice b 3 3] W fun e w' => e = .returned (.bool true) ∧ Hid (Below Y.heap.size Y w')) := Lib.hid (fun W a c b hW hs ht => by
    have := dsame a 3 c [4, 3, 3] b 3 3 [4, 3, 3] W rfl hs (by omega) rfl ht (by omega)
    rw [decide_eq_true rfl] at this
    exact this.mono fun _ _ ⟨e, h⟩ => ⟨e, Lib.hid (below_then hW h)⟩)
  have H5 : Hid (∀ W, Below Y.heap.size Y W → Calls Try.prog 12 #[.agg #[.int .i64 0, .int .i64 0, .int .i64 (-1)]] W fun e w' => e = .returned (.int .i64 1) ∧ Hid (Below Y.heap.size Y w')) := Lib.hid (fun W hW => by
    have := I.check ⟨0, 0, -1⟩ W in_aw1
    rw [aw_chk] at this
    exact this.mono fun _ _ ⟨e, h⟩ => ⟨e, Lib.hid (below_then hW h)⟩)
  obtain ⟨⟨v0, v1, v2⟩, HB0⟩ := HF.out Y (Below.refl _ _)
  clear hbY hVY I
  go_enter Try.func14, Try.ntmps14
  go_wp2_with fail
  clear hY hV
  refine (H1.out Y (Below.refl _ _)).mono ?_
  rintro e w1 ⟨rfl, B1⟩
  obtain ⟨⟨x0, x1, x2⟩, _⟩ := HF.out w1 B1.out
  clear v0 v1 v2
  go_wp2_with fail
  refine (H2.out w1 B1.out).mono ?_
  rintro e w2 ⟨rfl, B2⟩
  go_wp2_with fail
  refine (H3.out _ _ (B2.out.alloc B2.out.size _) (irow_lit [1, 1, 1] (heap_alloc_new w2 _) rfl)).mono ?_
  rintro e w3 ⟨v, c, rfl, V3⟩
  go_wp2_with fail
  have A3 : Below w3.heap.size w3 (w3.alloc (.cells #[.int .i64 4, .int .i64 3, .int .i64 3] 3)) := (Below.refl _ w3).alloc (Nat.le_refl _) _
  refine (H4.out _ v c _ (V3.out.2.alloc V3.out.2.size _) (V3.out.1.under A3) (irow_lit [4, 3, 3] (heap_alloc_new w3 _) rfl)).mono ?_
  rintro e w4 ⟨rfl, B4⟩
  clear A3
  go_wp2_with fail
  refine (H5.out _ B4.out).mono ?_
  rintro e w5 ⟨rfl, B5⟩
  obtain ⟨_, HB5⟩ := HF.out w5 B5.out
  go_wp2_with fail
  go_ret
  exact ⟨rfl, HB5.out⟩
end Go.Proofs.Ytaffdddleegfcaa.Fee
