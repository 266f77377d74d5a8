/- GraphOrders and GraphWays, for any graph that keeps its contracts. -/
import Derived.Test.YtghjcefigdkhnaaGraphG
import Derived.Test.YtghjcefigdkhnaaGraphDeeper
namespace Go.Proofs.Ytghjcefigdkhnaa.Graph
open Go.RowKit Go.Lib IRows

theorem awake_at (I : Impl) (w : World) : Hid (∀ W, Below w.heap.size w W → Calls Try.prog 7 #[] W fun e w' => e = .returned (.bool true) ∧ Hid (Below w.heap.size w w')) :=
  Lib.hid fun W hW => (awake_in I W).mono fun _ _ ⟨e, h⟩ => ⟨e, Lib.hid (below_then hW h)⟩
theorem ordV_small (n : Int) (l : List Nd) : (ordV n l).length ≤ 64 := by
  by_cases hm : May n l
  · by_cases he : ordE n l = 0
    · obtain ⟨_, _, h⟩ := ord_zero he
      have := hm.1.2
      omega
    · cases ho : ordF n l n.toNat [] with
      | none => rw [(ord_none hm ho).2]; simp
      | some o => exact absurd (ord_some hm ho).1 he
  · rw [(ord_arg hm).2]
    simp
theorem degV_small (n : Int) (l : List Nd) : (degV n l).length ≤ 64 := by
  by_cases he : ordE n l = 0
  · have h1 := degV_len he
    obtain ⟨hm, _, _⟩ := ord_zero he
    have := hm.1.2
    omega
  · unfold degV
    rw [if_neg he]
    simp
theorem belV_small (n : Int) (l : List Nd) (x : Int) : (belV n l x).length ≤ 64 := by
  by_cases hb : BelOk n l x
  · rw [(bel_ok hb).2]
    have h1 := sel_length (rounds x l (n.toNat + 1) []) n.toNat
    have := hb.1.1.2
    omega
  · rw [(bel_arg hb).2]
    simp
/-- An answer that is a row and an error, as a walk wants it. -/
theorem as_row {f : FuncId} {args : Array Value} {w W : World} {L : List Int} {er : Int} (hW : Below w.heap.size w W)
    (h : Calls Try.prog f args W fun e w' => ∃ a' m' c', e = .returned (.tuple #[.slice a' m' c', .int .i64 er]) ∧ Hid (L.length = m' ∧ KS w' W.heap.size (.slice a' m' c') L ∧ Below W.heap.size W w')) :
    Calls Try.prog f args W fun e w' => ∃ a' m' c', e = .returned (.tuple #[.slice a' m' c', .int .i64 er]) ∧ Hid (L.length = m' ∧ IRow w' a' L ∧ Below w.heap.size w w' ∧ Below W.heap.size W w') :=
  h.mono fun _ _ ⟨a', m', c', e, H⟩ => by
    obtain ⟨h1, h2, h3⟩ := H.out
    obtain ⟨a2, c2, e2, hr⟩ := irow_own h2
    injection e2 with e3 _ _
    subst e3
    exact ⟨a', m', c', e, Lib.hid ⟨h1, hr, below_then hW h3, h3⟩⟩
open Classical in
/-- Two rows of the same numbers. -/
theorem same_at {w W : World} {L : List Int} {v1 v2 : Option Addr} {m1 d1 m2 d2 : Nat} (hW : Below w.heap.size w W) (h1 : L.length = m1) (h2 : IRow W v1 L) (h3 : L.length = m2) (h4 : IRow W v2 L) (hl : L.length ≤ 64) :
    Calls Try.prog 14 #[.slice v1 m1 d1, .slice v2 m2 d2] W fun e w' => e = .returned (.bool true) ∧ Hid (Below w.heap.size w w' ∧ Below W.heap.size W w') := by
  have := dsame v1 m1 d1 L v2 m2 d2 L W h1 h2 (by omega) h3 h4 (by omega)
  rw [decide_eq_true rfl] at this
  exact this.mono fun _ _ ⟨e, h⟩ => ⟨e, Lib.hid ⟨below_then hW h, h⟩⟩
set_option maxRecDepth 100000 in
set_option maxHeartbeats 8000000 in
theorem graphOrders_in (I : Impl) (n : Int) (a : Option Addr) (m c : Nat) (l : List Nd) (x : Int) (w : World) (hl : l.length = m) (hs : Nds w a l) (hn : I64 n) (hx : I64 x) (hi : InN l) :
    Calls Try.prog 3 #[.int .i64 n, .slice a m c, .int .i64 x] w fun e w' => e = .returned (.bool true) ∧ Below w.heap.size w w' := by
  have HW := awake_at I w
  by_cases h60 : (60 : Int) < (m : Int)
  · have H0 := Lib.hid (HW.out w (Below.refl _ _))
    clear hl hs hn hx hi HW I
    go_enter Try.func3, Try.ntmps3
    go_wp2_with fail
    refine H0.out.mono ?_
    rintro e w1 ⟨rfl, B1⟩
    go_wp2_with fail
    go_ret
    exact ⟨rfl, B1.out⟩
  have hm : m ≤ 60 := by omega
  obtain ⟨er, her⟩ : ∃ er, ordE n l = er := ⟨_, rfl⟩
  obtain ⟨eb, heb⟩ : ∃ eb, belE n l x = eb := ⟨_, rfl⟩
  obtain ⟨L1, hL1⟩ : ∃ L, ordV n l = L := ⟨_, rfl⟩
  obtain ⟨L2, hL2⟩ : ∃ L, degV n l = L := ⟨_, rfl⟩
  obtain ⟨L3, hL3⟩ : ∃ L, belV n l x = L := ⟨_, rfl⟩
  have HZ : Hid (L1.length ≤ 64 ∧ L2.length ≤ 64 ∧ L3.length ≤ 64) := Lib.hid ⟨hL1 ▸ ordV_small n l, hL2 ▸ degV_small n l, hL3 ▸ belV_small n l x⟩
  have HA1 := Lib.hid (fun W (hW : Below w.heap.size w W) => as_row hW (by have := I.order n a m c l W hl (hs.under hW) (by omega) hi hn; rw [her, hL1] at this; exact this))
  have HA2 := Lib.hid (fun W (hW : Below w.heap.size w W) => as_row hW (by have := dorder n a m c l W hl (hs.under hW) (by omega); rw [her, hL1] at this; exact this))
  have HB1 := Lib.hid (fun W (hW : Below w.heap.size w W) => as_row hW (by have := I.deep n a m c l W hl (hs.under hW) (by omega) hi hn; rw [her, hL2] at this; exact this))
  have HB2 := Lib.hid (fun W (hW : Below w.heap.size w W) => as_row hW (by have := ddeep n a m c l W hl (hs.under hW) (by omega); rw [her, hL2] at this; exact this))
  have HC1 := Lib.hid (fun W (hW : Below w.heap.size w W) => as_row hW (by have := I.below n a m c l x W hl (hs.under hW) (by omega) hi hn hx; rw [heb, hL3] at this; exact this))
  have HC2 := Lib.hid (fun W (hW : Below w.heap.size w W) => as_row hW (by have := dbelow n a m c l x W hl (hs.under hW) (by omega); rw [heb, hL3] at this; exact this))
  have e1 : (er == er) = true := by simp
  have e2 : (eb == eb) = true := by simp
  clear hl hs hn hx hi hm her heb hL1 hL2 hL3 I
  go_enter Try.func3, Try.ntmps3
  go_wp2_with fail
  refine (HA1.out w (Below.refl _ _)).mono ?_
  rintro e w1 ⟨a1, m1, c1, rfl, A1⟩
  go_wp2_with fail
  refine (HA2.out w1 A1.out.2.2.1).mono ?_
  rintro e w2 ⟨a2, m2, c2, rfl, A2⟩
  go_wp2_with fail
  refine (HB1.out w2 A2.out.2.2.1).mono ?_
  rintro e w3 ⟨a3, m3, c3, rfl, A3⟩
  go_wp2_with fail
  refine (HB2.out w3 A3.out.2.2.1).mono ?_
  rintro e w4 ⟨a4, m4, c4, rfl, A4⟩
  go_wp2_with fail
  refine (HC1.out w4 A4.out.2.2.1).mono ?_
  rintro e w5 ⟨a5, m5, c5, rfl, A5⟩
  go_wp2_with fail
  refine (HC2.out w5 A5.out.2.2.1).mono ?_
  rintro e w6 ⟨a6, m6, c6, rfl, A6⟩
  have HR : Hid ((IRow w6 a1 L1 ∧ IRow w6 a2 L1) ∧ (IRow w6 a3 L2 ∧ IRow w6 a4 L2) ∧ (IRow w6 a5 L3 ∧ IRow w6 a6 L3)) := Lib.hid (by
    have b6 := A6.out.2.2.2
    have b5 := below_then A5.out.2.2.2 b6
    have b4 := below_then A4.out.2.2.2 b5
    have b3 := below_then A3.out.2.2.2 b4
    have b2 := below_then A2.out.2.2.2 b3
    exact ⟨⟨A1.out.2.1.under b2, A2.out.2.1.under b3⟩, ⟨A3.out.2.1.under b4, A4.out.2.1.under b5⟩, A5.out.2.1.under b6, A6.out.2.1⟩)
  have S1 := Lib.hid (same_at (d1 := c1) (d2 := c2) A6.out.2.2.1 A1.out.1 HR.out.1.1 A2.out.1 HR.out.1.2 HZ.out.1)
  go_wp2_with fail
  refine S1.out.mono ?_
  rintro e w7 ⟨rfl, B7⟩
  have S2 := Lib.hid (same_at (d1 := c3) (d2 := c4) B7.out.1 A3.out.1 (HR.out.2.1.1.under B7.out.2) A4.out.1 (HR.out.2.1.2.under B7.out.2) HZ.out.2.1)
  go_wp2_with fail
  refine S2.out.mono ?_
  rintro e w8 ⟨rfl, B8⟩
  have S3 := Lib.hid (same_at (d1 := c5) (d2 := c6) B8.out.1 A5.out.1 ((HR.out.2.2.1.under B7.out.2).under B8.out.2) A6.out.1 ((HR.out.2.2.2.under B7.out.2).under B8.out.2) HZ.out.2.2)
  go_wp2_with fail
  refine S3.out.mono ?_
  rintro e w9 ⟨rfl, B9⟩
  have H0 := Lib.hid (HW.out w9 B9.out.1)
  go_wp2_with fail
  refine H0.out.mono ?_
  rintro e w10 ⟨rfl, B10⟩
  go_wp2_with fail
  go_ret
  exact ⟨rfl, B10.out⟩
set_option maxRecDepth 100000 in
set_option maxHeartbeats 8000000 in
theorem graphWays_in (I : Impl) (n : Int) (a : Option Addr) (m c : Nat) (l : List Nd) (x y : Int) (w : World) (hl : l.length = m) (hs : Nds w a l) (hn : I64 n) (hx : I64 x) (hy : I64 y) (hi : InN l) :
    Calls Try.prog 4 #[.int .i64 n, .slice a m c, .agg #[.int .i64 x, .int .i64 y]] w fun e w' => e = .returned (.bool true) ∧ Below w.heap.size w w' := by
  have HW := awake_at I w
  obtain ⟨V, hV⟩ : ∃ V, w.heap.size = V := ⟨_, rfl⟩
  obtain ⟨Y, hY⟩ : ∃ Y, w.alloc (.cells #[.int .i64 x, .int .i64 y] 31) = Y := ⟨_, rfl⟩
  have hbY : Below w.heap.size w Y := by rw [← hY]; exact (Below.refl _ w).alloc (Nat.le_refl _) _
  have hVY : Y.heap[V]? = some (.cells #[.int .i64 x, .int .i64 y] 31 (0, 0)) := by rw [← hY, ← hV]; exact heap_alloc_new w _
  have HF : Hid (∀ W, Below Y.heap.size Y W → W.cell? ⟨V, 0, none⟩ = some (.int .i64 x) ∧ W.cell? ⟨V, 1, none⟩ = some (.int .i64 y)) := Lib.hid (fun W hW => by
    have h1 := (hW.block V (Array.getElem?_eq_some_iff.1 hVY).1).trans hVY
    exact ⟨cell_block (j := 0) h1 rfl, cell_block (j := 1) h1 rfl⟩)
  have HBY := Lib.hid hbY
  obtain ⟨v0, v1⟩ := HF.out Y (Below.refl _ _)
  by_cases h60 : (60 : Int) < (m : Int)
  · have H0 := Lib.hid (HW.out Y hbY)
    clear hl hs hn hx hy hi HW I hbY hVY
    go_enter Try.func4, Try.ntmps4
    go_wp2_with fail
    clear hY hV
    refine H0.out.mono ?_
    rintro e w1 ⟨rfl, B1⟩
    go_wp2_with fail
    go_ret
    exact ⟨rfl, B1.out⟩
  have hm : m ≤ 60 := by omega
  obtain ⟨er, her⟩ : ∃ er, wayE n l x y = er := ⟨_, rfl⟩
  obtain ⟨v, hv⟩ : ∃ v, wayV n l x y = v := ⟨_, rfl⟩
  have HA1 : Hid (Calls Try.prog 15 #[.int .i64 n, .slice a m c, .int .i64 x, .int .i64 y] Y fun e w' => e = .returned (.tuple #[.int .i64 v, .int .i64 er]) ∧ Below Y.heap.size Y w') := Lib.hid (by
    have := I.ways n a m c l x y Y hl (hs.under hbY) (by omega) hi hn hx hy
    rw [her, hv] at this
    exact this)
  have HA2 : Hid (∀ W, Below Y.heap.size Y W → Calls Try.prog 16 #[.int .i64 n, .slice a m c, .int .i64 x, .int .i64 y] W fun e w' => e = .returned (.tuple #[.int .i64 v, .int .i64 er]) ∧ Below W.heap.size W w') := Lib.hid (fun W hW => by
    have := dways n a m c l x y W hl (hs.under (below_then hbY hW)) (by omega)
    rw [her, hv] at this
    exact this)
  have e1 : (er == er) = true := by simp
  have e2 : (v == v) = true := by simp
  clear hl hs hn hx hy hi hm her hv I hbY hVY
  go_enter Try.func4, Try.ntmps4
  go_wp2_with fail
  clear hY hV
  refine HA1.out.mono ?_
  rintro e w1 ⟨rfl, b1⟩
  have B1 := Lib.hid b1
  obtain ⟨u0, u1⟩ := HF.out w1 b1
  clear b1
  go_wp2_with fail
  refine (HA2.out w1 B1.out).mono ?_
  rintro e w2 ⟨rfl, b2⟩
  have H0 := Lib.hid (HW.out w2 (below_then HBY.out (below_then B1.out b2)))
  clear b2
  go_wp2_with fail
  refine H0.out.mono ?_
  rintro e w3 ⟨rfl, B3⟩
  go_wp2_with fail
  go_ret
  exact ⟨rfl, B3.out⟩
end Go.Proofs.Ytghjcefigdkhnaa.Graph
