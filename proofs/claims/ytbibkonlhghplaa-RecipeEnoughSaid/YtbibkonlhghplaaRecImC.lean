/- The program's each, by Needs' closure; its Needs. -/
import Derived.Test.YtbibkonlhghplaaRecImB
namespace Go.Proofs.Ytbibkonlhghplaa.Recipe.Im
open Go.RowKit Go.Lib
open Goods (St Sts OwnS)

/-- The closure's two boxes: runs and level. -/
def Boxes (w : World) (g h : Nat) (lv r : Int) : Prop := w.cell? ⟨g, 0, none⟩ = some (.int .i64 r) ∧ w.cell? ⟨h, 0, none⟩ = some (.int .i64 lv)
set_option maxRecDepth 100000 in
set_option maxHeartbeats 8000000 in
theorem each_im (a : Option Addr) (n c : Nat) (l : List St) (lv r : Int) (g h : Nat) (w : World) (hl : l.length = n) (hs : Sts w a l) (hn : n ≤ 1000) (hq : ∀ t ∈ l, 0 ≤ t.qty ∧ t.qty ≤ mq) (hlv : LvOk lv r) (hbx : ∀ W, Below w.heap.size w W → Boxes W g h lv r) :
    Calls Try.prog 27 #[.slice a n c, .func (.func 28) #[] #[.pointer (some ⟨g, 0, none⟩), .pointer (some ⟨h, 0, none⟩)]] w fun e w' => ∃ a' m' c' z L, e = .returned (.tuple #[.slice a' m' c', .int .i64 z]) ∧ Hid (OwnS w' w.heap.size (.slice a' m' c') L ∧ Below w.heap.size w w' ∧ ((z = 0 ∧ L = needL l lv r ∧ ∀ t ∈ l, nd t.qty lv r ≤ mq) ∨ (z = 5 ∧ L = [] ∧ ¬ ∀ t ∈ l, nd t.qty lv r ≤ mq))) := by
  have HT := Goods.sts_at hs
  have HL := Lib.hid hl
  have HQT := Lib.hid hq
  have hn1 : (n : Int) ≤ 1000 := by omega
  have HN := Lib.hid hn
  have HTELL : Hid (∀ q W, 0 ≤ q ∧ q ≤ mq → Below w.heap.size w W → Calls Try.prog 28 #[.int .i64 q, .pointer (some ⟨g, 0, none⟩), .pointer (some ⟨h, 0, none⟩)] W fun e w' => e = .returned (.tuple #[.int .i64 (tellV q lv r), .int .i64 (tellE q lv r)]) ∧ Hid (Below W.heap.size W w')) := Lib.hid (fun q W hq hW => tell_im q lv r g h W hq.1 hq.2 hlv (hbx W hW).1 (hbx W hW).2 (fun W2 h2 => (hbx W2 (below_then hW h2)).1))
  have H0 : Hid (OwnS w w.heap.size (.slice none 0 0) []) := Lib.hid (World.ownsRow_nil w w.heap.size 30 2)
  clear hs hn hl hq hlv hbx
  go_enter Try.func27, Try.ntmps27
  go_wp2_with fail
  go_loopw [6, 13] (fun s t wr => ∃ (i : Nat) (a1 : Option Addr) (c1 : Nat), s = .slice a1 i c1 ∧ t = .int .i64 (i : Int) ∧ i ≤ n ∧ Hid (OwnS wr w.heap.size (.slice a1 i c1) (needL (l.take i) lv r)) ∧ Hid (Below w.heap.size w wr) ∧ Hid (∀ t ∈ l.take i, nd t.qty lv r ≤ mq)) (fun _ t _ => n - (RowKit.intOf t).toNat)
  case atStart => exact ⟨0, none, 0, rfl, rfl, by omega, H0, Lib.hid (Below.refl _ _), Lib.hid (fun t ht => by simp at ht)⟩
  case round =>
    clear H0
    obtain ⟨i, a1, c1, rfl, rfl, hi, HO, HB, HQ⟩ := hrel
    have hi0 : (0 : Int) ≤ (i : Int) := by omega
    by_cases hlt : i < n
    · have hlt2 : (i : Int) < (n : Int) := by omega
      obtain ⟨b, off, t, rfl, ht, k0, k1⟩ := HT.out wr i HB.out (by rw [HL.out]; exact hlt)
      have wi : IntKind.i64.wrap ((i : Int) + 1) = (i : Int) + 1 := IntWalk.i64_in _ (by omega)
      obtain ⟨U, hU⟩ : ∃ U, wr.heap.size = U := ⟨_, rfl⟩
      obtain ⟨Y, hY⟩ : ∃ Y, wr.alloc (.cells #[.int .i64 t.kind, .int .i64 t.qty] 30) = Y := ⟨_, rfl⟩
      have hbY : Below wr.heap.size wr Y := by rw [← hY]; exact (Below.refl _ wr).alloc (Nat.le_refl _) _
      have hVY : Y.heap[U]? = some (.cells t.cells 30 (0, 0)) := by rw [← hY, ← hU]; exact heap_alloc_new wr _
      have v0 : Y.cell? ⟨U, 0, none⟩ = some (.int .i64 t.kind) := cell_block (j := 0) hVY rfl
      have v1 : Y.cell? ⟨U, 1, none⟩ = some (.int .i64 t.qty) := cell_block (j := 1) hVY rfl
      have HBY := Lib.hid (below_then HB.out hbY)
      have HOY := Lib.hid (Goods.own_under HO.out hbY)
      have HZ : Hid (∀ W, Below Y.heap.size Y W → W.cell? ⟨U, 0, none⟩ = some (.int .i64 t.kind)) := Lib.hid (fun W hW => cell_block (j := 0) ((hW.block U (Array.getElem?_eq_some_iff.1 hVY).1).trans hVY) rfl)
      have HC := Lib.hid (HTELL.out t.qty Y (HQT.out t (List.mem_of_getElem? ht.out)) HBY.out)
      obtain ⟨z, hz⟩ : ∃ z, tellE t.qty lv r = z := ⟨_, rfl⟩
      obtain ⟨v, hv⟩ : ∃ v, tellV t.qty lv r = v := ⟨_, rfl⟩
      rw [hz, hv] at HC
      clear hbY hVY HO
      by_cases k : nd t.qty lv r ≤ mq
      · have HV : Hid (v = nd t.qty lv r) := Lib.hid (by rw [← hv]; unfold tellV; rw [if_pos k])
        obtain rfl : z = 0 := by rw [← hz]; unfold tellE; rw [if_pos k]
        have HQ2 : Hid (∀ u ∈ l.take (i + 1), nd u.qty lv r ≤ mq) := Lib.hid (fun u hu => by
          rcases (Goods.mem_take_succ ht.out).1 hu with hu | rfl
          · exact HQ.out u hu
          · exact k)
        have HAP : Hid (∀ W, Below Y.heap.size Y W → ∃ a3 c3 W3, Hid ((Builtin.append_ #[22, 22] 22 #[.slice a1 i c1, .slice (some ⟨W.heap.size, 0, none⟩) 1 1]).run Try.prog (W.alloc (.cells #[.int .i64 t.kind, .int .i64 v] 30)) = .ok (.slice a3 (i + 1) c3) W3) ∧ Hid (OwnS W3 w.heap.size (.slice a3 (i + 1) c3) (needL (l.take (i + 1)) lv r)) ∧ Hid (Below w.heap.size w W3)) := Lib.hid (fun W hW => by
          have hbW := below_then HBY.out hW
          obtain ⟨a3, c3, W3, h1, h2, h3⟩ := app1s W (B := w.heap.size) ⟨t.kind, v⟩ (Goods.own_under HOY.out hW) (by have := HN.out; omega) hbW.size
          refine ⟨a3, c3, W3, h1, Lib.hid ?_, Lib.hid (hbW.trans h3)⟩
          rw [needL_take ht.out, ← HV.out]
          exact h2)
        clear k hz hv
        go_wp2_with fail
        clear hY hU k0 k1
        refine HC.out.mono ?_
        rintro e w2 ⟨rfl, H2⟩
        have z0 := HZ.out w2 H2.out
        obtain ⟨a3, c3, W3, HR3, HO3, HB3⟩ := HAP.out w2 H2.out
        clear v0 v1
        go_wp2_with (at_builtin; refine walk_run (v' := .slice a3 (i + 1) c3) (w' := W3) rfl _ _ _ _ rfl _ _ rfl rfl ?_ ?_; exact HR3.out)
        go_roundw
        case rel => exact ⟨i + 1, a3, c3, rfl, by go_num, by omega, HO3, HB3, HQ2⟩
        case measure => simp [RowKit.intOf]; omega
      · obtain rfl : z = 5 := by rw [← hz]; unfold tellE; rw [if_neg k]
        have HK : Hid (¬ ∀ t ∈ l, nd t.qty lv r ≤ mq) := Lib.hid (fun h => k (h t (List.mem_of_getElem? ht.out)))
        clear k hz hv
        go_wp2_with fail
        clear hY hU k0 k1
        refine HC.out.mono ?_
        rintro e w2 ⟨rfl, H2⟩
        go_wp2_with fail
        go_ret2
        exact ⟨none, 0, 0, 5, [], rfl, Lib.hid ⟨World.ownsRow_nil _ _ _ _, below_then HBY.out H2.out, .inr ⟨rfl, rfl, HK.out⟩⟩⟩
    · obtain rfl : i = n := by omega
      have HE : Hid (l.take i = l) := Lib.hid (List.take_of_length_le (by rw [HL.out]; exact Nat.le_refl _))
      go_wp2_with fail
      go_ret2
      refine ⟨a1, i, c1, 0, needL l lv r, rfl, Lib.hid ⟨?_, HB.out, .inl ⟨rfl, rfl, ?_⟩⟩⟩
      · have := HO.out
        rw [HE.out] at this
        exact this
      · have := HQ.out
        rw [HE.out] at this
        exact this
set_option maxRecDepth 100000 in
set_option maxHeartbeats 8000000 in
theorem needs_im (b : Bl) (lv r : Int) (w : World) (hb : BlIn w b) :
    Calls Try.prog 8 #[blV b, .int .i64 lv, .int .i64 r] w fun e w' => ∃ a' m' c', e = .returned (.tuple #[.slice a' m' c', .int .i64 (needsE b lv r)]) ∧ Hid (OwnS w' w.heap.size (.slice a' m' c') (needsL b lv r) ∧ Below w.heap.size w w') := by
  obtain ⟨V, X, hV, hX, HXB, HP⟩ := box_blue w b
  obtain ⟨G, hG⟩ : ∃ G, X.heap.size = G := ⟨_, rfl⟩
  obtain ⟨Y, hY⟩ : ∃ Y, X.alloc (.cells #[.int .i64 lv] 3) = Y := ⟨_, rfl⟩
  obtain ⟨K, hK⟩ : ∃ K, Y.heap.size = K := ⟨_, rfl⟩
  obtain ⟨Z, hZ⟩ : ∃ Z, Y.alloc (.cells #[.int .i64 r] 3) = Z := ⟨_, rfl⟩
  have hYB : Below X.heap.size X Y := by rw [← hY]; exact (Below.refl _ X).alloc (Nat.le_refl _) _
  have hZB : Below Y.heap.size Y Z := by rw [← hZ]; exact (Below.refl _ Y).alloc (Nat.le_refl _) _
  have hXZ : Below X.heap.size X Z := below_then hYB hZB
  have HWZ : Hid (Below w.heap.size w Z) := Lib.hid (below_then HXB.out hXZ)
  have hGY : Y.heap[G]? = some (.cells #[.int .i64 lv] 3 (0, 0)) := by rw [← hY, ← hG]; exact heap_alloc_new X _
  have hGZ : Z.heap[G]? = some (.cells #[.int .i64 lv] 3 (0, 0)) := (hZB.block G (Array.getElem?_eq_some_iff.1 hGY).1).trans hGY
  have hKZ : Z.heap[K]? = some (.cells #[.int .i64 r] 3 (0, 0)) := by rw [← hZ, ← hK]; exact heap_alloc_new Y _
  have HBX : Hid (∀ W, Below Z.heap.size Z W → Boxes W K G lv r) := Lib.hid (fun W hW => ⟨cell_block (j := 0) ((hW.block K (Array.getElem?_eq_some_iff.1 hKZ).1).trans hKZ) rfl, cell_block (j := 0) ((hW.block G (Array.getElem?_eq_some_iff.1 hGZ).1).trans hGZ) rfl⟩)
  have HPZ : Hid (∀ W, Below Z.heap.size Z W → CellsU W V b) := Lib.hid (fun W hW => HP.out W (below_then hXZ hW))
  have HNO : Hid (∀ W, Below Z.heap.size Z W → Below w.heap.size w W) := Lib.hid (fun W hW => below_then HWZ.out hW)
  have HNI : Hid (∀ W, Below Z.heap.size Z W → needsL b lv r = [] → OwnS W w.heap.size (.slice none 0 0) (needsL b lv r) ∧ Below w.heap.size w W) := Lib.hid (fun W hW e => by rw [e]; exact ⟨World.ownsRow_nil _ _ _ _, HNO.out W hW⟩)
  obtain ⟨k0, k1, k2, k3, k4, k5, k6⟩ := HPZ.out Z (Below.refl _ _)
  obtain ⟨kr, kl⟩ := HBX.out Z (Below.refl _ _)
  obtain ⟨tm, HM, EM⟩ := may_at b Z (hb.under HWZ.out)
  obtain ⟨tl, HL, EL⟩ := level_at lv
  obtain ⟨tr, HR, ER⟩ := runs_at r
  have HC := Lib.hid (HM.out Z (Below.refl _ _))
  have HEA : Hid (BlOk b 32 → LvOk lv r → ∀ W, Below Z.heap.size Z W → Calls Try.prog 27 #[.slice b.sa b.sm b.sc, .func (.func 28) #[] #[.pointer (some ⟨K, 0, none⟩), .pointer (some ⟨G, 0, none⟩)]] W fun e w' => ∃ a' m' c', e = .returned (.tuple #[.slice a' m' c', .int .i64 (needsE b lv r)]) ∧ Hid (OwnS w' w.heap.size (.slice a' m' c') (needsL b lv r) ∧ Below w.heap.size w w')) := Lib.hid (fun hok hlv W hW => by
    have hwW := HNO.out W hW
    refine (each_im b.sa b.sm b.sc b.s lv r K G W hb.1 (hb.2.1.under hwW) hb.2.2 (ok_qty hok) hlv (fun W2 h2 => HBX.out W2 (below_then hW h2))).mono ?_
    rintro e w' ⟨a', m', c', z, L, rfl, hh⟩
    obtain ⟨h1, h2, h3⟩ := hh.out
    rcases h3 with ⟨rfl, rfl, h4⟩ | ⟨rfl, rfl, h4⟩
    · obtain ⟨e1, e2⟩ := needsE_ok hok hlv h4
      rw [e1, e2]
      exact ⟨a', m', c', rfl, Lib.hid ⟨World.ownsRow.mono h1 hwW.size, below_then hwW h2⟩⟩
    · obtain ⟨e1, e2⟩ := needsE_over hok hlv h4
      rw [e1, e2]
      exact ⟨a', m', c', rfl, Lib.hid ⟨World.ownsRow.mono h1 hwW.size, below_then hwW h2⟩⟩)
  clear hb hYB hZB hXZ hGY hGZ hKZ HM
  rcases tm with _ | _
  · obtain ⟨e1, e2⟩ := needsE_arg (b := b) (lv := lv) (r := r) (fun h => EM.out.2 rfl h.1)
    have HE2 := Lib.hid e2
    rw [e1]
    clear e1 e2
    go_enter Try.func8, Try.ntmps8
    go_wp2_with fail
    clear hX hV hY hG hZ hK
    refine HC.out.mono ?_
    rintro e w1 ⟨rfl, H1⟩
    go_wp2_with fail
    go_ret2
    exact ⟨none, 0, 0, rfl, Lib.hid (HNI.out _ H1.out HE2.out)⟩
  rcases tl with _ | _
  · obtain ⟨e1, e2⟩ := needsE_arg (b := b) (lv := lv) (r := r) (fun h => EL.out.2 rfl h.2.1)
    have HE2 := Lib.hid e2
    rw [e1]
    clear e1 e2
    go_enter Try.func8, Try.ntmps8
    go_wp2_with fail
    clear hX hV hY hG hZ hK
    refine HC.out.mono ?_
    rintro e w1 ⟨rfl, H1⟩
    obtain ⟨yr, yl⟩ := HBX.out w1 H1.out
    clear k0 k1 k2 k3 k4 k5 k6 kr kl
    go_wp2_with fail
    refine (HL.out _).mono ?_
    rintro e w' ⟨rfl, rfl⟩
    go_wp2_with fail
    go_ret2
    exact ⟨none, 0, 0, rfl, Lib.hid (HNI.out _ H1.out HE2.out)⟩
  rcases tr with _ | _
  · obtain ⟨e1, e2⟩ := needsE_arg (b := b) (lv := lv) (r := r) (fun h => ER.out.2 rfl h.2.2)
    have HE2 := Lib.hid e2
    rw [e1]
    clear e1 e2
    go_enter Try.func8, Try.ntmps8
    go_wp2_with fail
    clear hX hV hY hG hZ hK
    refine HC.out.mono ?_
    rintro e w1 ⟨rfl, H1⟩
    obtain ⟨yr, yl⟩ := HBX.out w1 H1.out
    clear k0 k1 k2 k3 k4 k5 k6 kr kl
    go_wp2_with fail
    refine (HL.out _).mono ?_
    rintro e w' ⟨rfl, rfl⟩
    go_wp2_with fail
    refine (HR.out _).mono ?_
    rintro e w' ⟨rfl, rfl⟩
    go_wp2_with fail
    go_ret2
    exact ⟨none, 0, 0, rfl, Lib.hid (HNI.out _ H1.out HE2.out)⟩
  have HE := Lib.hid (HEA.out (EM.out.1 rfl) ⟨EL.out.1 rfl, ER.out.1 rfl⟩)
  go_enter Try.func8, Try.ntmps8
  go_wp2_with fail
  clear hX hV hY hG hZ hK
  refine HC.out.mono ?_
  rintro e w1 ⟨rfl, H1⟩
  obtain ⟨yr, yl⟩ := HBX.out w1 H1.out
  obtain ⟨y0, y1, y2, y3, y4, y5, y6⟩ := HPZ.out w1 H1.out
  clear k0 k1 k2 k3 k4 k5 k6 kr kl
  go_wp2_with fail
  refine (HL.out _).mono ?_
  rintro e w' ⟨rfl, rfl⟩
  go_wp2_with fail
  refine (HR.out _).mono ?_
  rintro e w' ⟨rfl, rfl⟩
  go_wp2_with fail
  refine (HE.out _ H1.out).mono ?_
  rintro e w2 ⟨a', m', c', rfl, H2⟩
  go_wp2_with fail
  go_ret2
  exact ⟨a', m', c', rfl, H2⟩
end Go.Proofs.Ytbibkonlhghplaa.Recipe.Im
