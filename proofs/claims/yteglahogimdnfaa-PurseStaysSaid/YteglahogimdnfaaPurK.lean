/- PurseMoves and PurseNobody, for any purse that keeps its contracts. -/
import Derived.Test.YteglahogimdnfaaPurJ
namespace Go.Proofs.Yteglahogimdnfaa.Purse
open Go.RowKit Go.Lib

theorem pl_rmoves {I : Impl} {w W : World} {Q : Nat} {l lx : List Ac} {rows : List (Value × List Ac)} {cl : List Cl} {a : Option Addr} {n c : Nat} (b : Option Addr) (m d : Nat) (ps : List Pay) (h : PS I w W Q l ((.slice a n c, lx) :: rows) cl) (hg : Good lx) (hl : lx.length ≤ 1000) (hp : Pays w b ps) (hm : ps.length = m) (hm2 : m ≤ 1000) :
    Calls Try.prog 17 #[.slice a n c, .slice b m d] W fun e w' => ∃ a' n' c', e = .returned (.tuple #[.slice a' n' c', .int .i64 (movesN lx ps : Nat), .int .i64 (movesE lx ps)]) ∧ Hid (PS I w w' Q l ((.slice a' n' c', movesL lx ps) :: rows) cl) := by
  have ho := h.own (v := .slice a n c) (lx := lx) (by simp)
  refine (dmoves b m d ps W ho (by have := (own_form ho).1; omega) hg (hp.under h.below) hm hm2).mono ?_
  rintro e w' ⟨a', n', c', rfl, hR⟩
  exact ⟨a', n', c', rfl, Lib.hid (h.res hR.out)⟩
set_option maxRecDepth 100000 in
set_option maxHeartbeats 8000000 in
theorem purseMoves_in (I : Impl) (a : Option Addr) (n c : Nat) (l : List Ac) (b : Option Addr) (m d : Nat) (ps : List Pay) (w : World) (hl : l.length = n) (hs : Accs w a l) (hi : InA l) (hm : ps.length = m) (hx : Pays w b ps) (hix : InP ps) :
    Calls Try.prog 4 #[.slice a n c, .slice b m d] w fun e w' => e = .returned (.bool true) ∧ Below w.heap.size w w' := by
  have HAW := awake_at I w
  by_cases h8 : (8 : Int) < (n : Int)
  · have H0 := Lib.hid (HAW.out w (Below.refl _ _))
    have d1 : decide ((8 : Int) < (n : Int)) = true := decide_eq_true h8
    clear hl hs hi hm hx hix HAW
    go_enter Try.func4, Try.ntmps4
    go_wp2_with fail
    refine H0.out.mono ?_
    rintro e w1 ⟨rfl, B1⟩
    go_wp2_with fail
    go_ret
    exact ⟨rfl, B1.out⟩
  have d1 : decide ((8 : Int) < (n : Int)) = false := decide_eq_false h8
  by_cases h20 : (20 : Int) < (m : Int)
  · have H0 := Lib.hid (HAW.out w (Below.refl _ _))
    have d2 : decide ((20 : Int) < (m : Int)) = true := decide_eq_true h20
    clear hl hs hi hm hx hix HAW
    go_enter Try.func4, Try.ntmps4
    go_wp2_with fail
    refine H0.out.mono ?_
    rintro e w1 ⟨rfl, B1⟩
    go_wp2_with fail
    go_ret
    exact ⟨rfl, B1.out⟩
  have d2 : decide ((20 : Int) < (m : Int)) = false := decide_eq_false h20
  obtain ⟨hyes, hno⟩ := pl_load I a n c l w hs hl (by omega) hi
  by_cases h0 : loadE l = 0
  · have HLD := Lib.hid (hyes h0)
    have HRL : Hid (∀ W Q, PS I w W Q (loadL l) [] [] → Calls Try.prog 9 #[.slice a n c] W fun e w' => ∃ a' n' c', e = .returned (.tuple #[.slice a' n' c', .int .i64 0]) ∧ Hid (PS I w w' Q (loadL l) [(.slice a' n' c', loadL l)] [])) := Lib.hid (fun W Q h => by
      have := pl_rload a n c l h hs hl (by omega)
      rw [h0] at this
      exact this)
    obtain ⟨hg0, hl0⟩ := good_load h0
    obtain ⟨L, hL⟩ : ∃ L, loadL l = L := ⟨_, rfl⟩
    rw [hL] at HLD HRL hg0 hl0
    have h1000 : L.length ≤ 1000 := by omega
    obtain ⟨hgm, hlm⟩ := good_moves hg0 ps
    obtain ⟨q1, hq1⟩ : ∃ q, (movesN L ps : Int) = q := ⟨_, rfl⟩
    obtain ⟨q2, hq2⟩ : ∃ q, movesE L ps = q := ⟨_, rfl⟩
    have HPM : Hid (∀ W Q rows, PS I w W Q L rows [] → Calls Try.prog 16 #[ptr Q, .slice b m d] W fun e w' => e = .returned (.tuple #[.int .i64 q1, .int .i64 q2]) ∧ Hid (PS I w w' Q (movesL L ps) rows [])) := Lib.hid (fun W Q rows h => by
      have := ps_moves b m d ps h hg0 h1000 hx hm (by omega) hix
      rw [hq1, hq2] at this
      exact this)
    have HRM : Hid (∀ W Q a1 n1 c1, PS I w W Q (movesL L ps) [(.slice a1 n1 c1, L)] [] → Calls Try.prog 17 #[.slice a1 n1 c1, .slice b m d] W fun e w' => ∃ a' n' c', e = .returned (.tuple #[.slice a' n' c', .int .i64 q1, .int .i64 q2]) ∧ Hid (PS I w w' Q (movesL L ps) [(.slice a' n' c', movesL L ps)] [])) := Lib.hid (fun W Q a1 n1 c1 h => by
      have := pl_rmoves b m d ps h hg0 h1000 hx hm (by omega)
      rw [hq1, hq2] at this
      exact this)
    obtain ⟨M, hM⟩ : ∃ M, movesL L ps = M := ⟨_, rfl⟩
    rw [hM] at HPM HRM hgm hlm
    have h1001 : M.length ≤ 1000 := by omega
    have HLI : Hid (∀ W Q rows, PS I w W Q M rows [] → Calls Try.prog 13 #[ptr Q] W fun e w' => ∃ a n c, e = .returned (.slice a n c) ∧ Hid (PS I w w' Q M ((.slice a n c, M) :: rows) [])) := Lib.hid (fun W Q rows h => (ps_list h hgm h1001).mono fun _ _ ⟨a, n, c, e, h2⟩ => ⟨a, n, c, e, Lib.hid h2.out.1⟩)
    have HSA : Hid (∀ W Q a n c b m d, PS I w W Q M [(.slice a n c, M), (.slice b m d, M)] [] → Calls Try.prog 12 #[.slice a n c, .slice b m d] W fun e w' => e = .returned (.bool true) ∧ Hid (PS I w w' Q M [(.slice b m d, M)] [])) := Lib.hid (fun W Q a n c b m d h => pl_same h (by simp) h1001)
    have e1 : (q1 == q1) = true := by simp
    have e2 : (q2 == q2) = true := by simp
    clear hl hs hi hm hx hix hyes hno h0 hg0 hl0 h8 h20 hL h1000 hgm hlm hq1 hq2 hM h1001
    go_enter Try.func4, Try.ntmps4
    go_wp2_with fail
    refine HLD.out.mono ?_
    rintro e w1 ⟨Q, rfl, P1⟩
    go_wp2_with fail
    refine (HRL.out w1 Q P1.out).mono ?_
    rintro e w2 ⟨a0, n0, c0, rfl, P2⟩
    go_wp2_with fail
    refine (HPM.out w2 Q _ P2.out).mono ?_
    rintro e w3 ⟨rfl, P3⟩
    go_wp2_with fail
    refine (HRM.out w3 Q _ _ _ P3.out).mono ?_
    rintro e w4 ⟨a4, n4, c4, rfl, P4⟩
    go_wp2_with fail
    refine (HLI.out w4 Q _ P4.out).mono ?_
    rintro e w5 ⟨a5, n5, c5, rfl, P5⟩
    go_wp2_with fail
    refine (HSA.out w5 Q _ _ _ _ _ _ P5.out).mono ?_
    rintro e w6 ⟨rfl, P6⟩
    go_wp2_with fail
    refine (HAW.out w6 P6.out.below).mono ?_
    rintro e w7 ⟨rfl, B7⟩
    go_wp2_with fail
    go_ret
    exact ⟨rfl, B7.out⟩
  · have HLD := Lib.hid (hno h0)
    have HRL : Hid (∀ W, Below w.heap.size w W → Calls Try.prog 9 #[.slice a n c] W fun e w' => ∃ a' n' c', e = .returned (.tuple #[.slice a' n' c', .int .i64 (loadE l)]) ∧ Hid (Below w.heap.size w w')) := Lib.hid (fun W hW => (dload a n c l W (hs.under hW) hl (by omega)).mono fun _ _ ⟨a', n', c', e, h⟩ => ⟨a', n', c', e, Lib.hid (below_then hW h.out.below)⟩)
    obtain ⟨er, her⟩ : ∃ er, loadE l = er := ⟨_, rfl⟩
    rw [her] at HLD HRL h0
    have hne : (er == 0) = false := by simpa using h0
    have hnb : (er != 0) = true := by simpa using h0
    have hnz : ¬ er = 0 := h0
    have hee : (er == er) = true := by simp
    clear hl hs hi hm hx hix hyes hno h0 h8 h20 her
    go_enter Try.func4, Try.ntmps4
    go_wp2_with fail
    refine HLD.out.mono ?_
    rintro e w1 ⟨rfl, B1⟩
    go_wp2_with fail
    refine (HRL.out w1 B1.out).mono ?_
    rintro e w2 ⟨a0, n0, c0, rfl, B2⟩
    go_wp2_with fail
    refine (HAW.out w2 B2.out).mono ?_
    rintro e w5 ⟨rfl, B5⟩
    go_wp2_with fail
    go_ret
    exact ⟨rfl, B5.out⟩
set_option maxRecDepth 100000 in
set_option maxHeartbeats 4000000 in
theorem ndo (I : Impl) (x : Act) (w : World) : Calls Try.prog 11 #[.pointer none, actV x] w fun e w' => e = .returned (.tuple #[.int .i64 0, .int .i64 1]) ∧ Hid (Below w.heap.size w w') := by
  obtain ⟨kd, xa, xb, xn⟩ := x
  obtain ⟨V, hV⟩ : ∃ V, w.heap.size = V := ⟨_, rfl⟩
  obtain ⟨X, hX⟩ : ∃ X, w.alloc (.cells #[.int .i64 kd, .int .i64 xa, .int .i64 xb, .int .i64 xn] 34) = X := ⟨_, rfl⟩
  have hbX : Below w.heap.size w X := by rw [← hX]; exact (Below.refl _ w).alloc (Nat.le_refl _) _
  have hkX : X.heap[V]? = some (.cells #[.int .i64 kd, .int .i64 xa, .int .i64 xb, .int .i64 xn] 34 (0, 0)) := by rw [← hX, ← hV]; exact heap_alloc_new w _
  have k0 : X.cell? ⟨V, 0, none⟩ = some (.int .i64 kd) := cell_block (j := 0) hkX rfl
  have k1 : X.cell? ⟨V, 1, none⟩ = some (.int .i64 xa) := cell_block (j := 1) hkX rfl
  have k2 : X.cell? ⟨V, 2, none⟩ = some (.int .i64 xb) := cell_block (j := 2) hkX rfl
  have k3 : X.cell? ⟨V, 3, none⟩ = some (.int .i64 xn) := cell_block (j := 3) hkX rfl
  have HB := Lib.hid hbX
  have HO := Lib.hid (I.n_open xa X)
  have HG := Lib.hid (I.n_give xa xn X)
  have HT := Lib.hid (I.n_take xa xn X)
  have HM := Lib.hid (I.n_move xa xb xn X)
  have HY := Lib.hid (I.n_money xa X)
  clear hbX hkX
  by_cases c1 : kd = 1
  · subst c1
    go_enter Try.func11, Try.ntmps11
    go_wp2_with fail
    refine HO.out.mono ?_
    rintro e w1 ⟨rfl, H1⟩
    have H2 := Lib.hid (below_then HB.out H1)
    clear H1
    go_wp2_with fail
    go_ret2
    exact ⟨rfl, H2⟩
  have d1 : (kd == 1) = false := by simpa using c1
  by_cases c2 : kd = 2
  · subst c2
    clear c1 d1
    go_enter Try.func11, Try.ntmps11
    go_wp2_with fail
    refine HG.out.mono ?_
    rintro e w1 ⟨rfl, H1⟩
    have H2 := Lib.hid (below_then HB.out H1)
    clear H1
    go_wp2_with fail
    go_ret2
    exact ⟨rfl, H2⟩
  have d2 : (kd == 2) = false := by simpa using c2
  by_cases c3 : kd = 3
  · subst c3
    clear c1 d1 c2 d2
    go_enter Try.func11, Try.ntmps11
    go_wp2_with fail
    refine HT.out.mono ?_
    rintro e w1 ⟨rfl, H1⟩
    have H2 := Lib.hid (below_then HB.out H1)
    clear H1
    go_wp2_with fail
    go_ret2
    exact ⟨rfl, H2⟩
  have d3 : (kd == 3) = false := by simpa using c3
  by_cases c4 : kd = 4
  · subst c4
    clear c1 d1 c2 d2 c3 d3
    go_enter Try.func11, Try.ntmps11
    go_wp2_with fail
    refine HM.out.mono ?_
    rintro e w1 ⟨rfl, H1⟩
    have H2 := Lib.hid (below_then HB.out H1)
    clear H1
    go_wp2_with fail
    go_ret2
    exact ⟨rfl, H2⟩
  have d4 : (kd == 4) = false := by simpa using c4
  clear c1 c2 c3 c4
  go_enter Try.func11, Try.ntmps11
  go_wp2_with fail
  refine HY.out.mono ?_
  rintro e w1 ⟨rfl, H1⟩
  have H2 := Lib.hid (below_then HB.out H1)
  clear H1
  go_wp2_with fail
  go_ret2
  exact ⟨rfl, H2⟩
set_option maxRecDepth 100000 in
set_option maxHeartbeats 8000000 in
theorem purseNobody_in (I : Impl) (x : Act) (b : Option Addr) (m d : Nat) (ps : List Pay) (w : World) (hm : ps.length = m) (hx : Pays w b ps) :
    Calls Try.prog 6 #[actV x, .slice b m d] w fun e w' => e = .returned (.bool true) ∧ Below w.heap.size w w' := by
  have HAW := awake_at I w
  obtain ⟨kd, xa, xb, xn⟩ := x
  obtain ⟨V, hV⟩ : ∃ V, w.heap.size = V := ⟨_, rfl⟩
  obtain ⟨X, hX⟩ : ∃ X, w.alloc (.cells #[.int .i64 kd, .int .i64 xa, .int .i64 xb, .int .i64 xn] 34) = X := ⟨_, rfl⟩
  have hbX : Below w.heap.size w X := by rw [← hX]; exact (Below.refl _ w).alloc (Nat.le_refl _) _
  have hkX : X.heap[V]? = some (.cells #[.int .i64 kd, .int .i64 xa, .int .i64 xb, .int .i64 xn] 34 (0, 0)) := by rw [← hX, ← hV]; exact heap_alloc_new w _
  have k0 : X.cell? ⟨V, 0, none⟩ = some (.int .i64 kd) := cell_block (j := 0) hkX rfl
  have k1 : X.cell? ⟨V, 1, none⟩ = some (.int .i64 xa) := cell_block (j := 1) hkX rfl
  have k2 : X.cell? ⟨V, 2, none⟩ = some (.int .i64 xb) := cell_block (j := 2) hkX rfl
  have k3 : X.cell? ⟨V, 3, none⟩ = some (.int .i64 xn) := cell_block (j := 3) hkX rfl
  have HB := Lib.hid hbX
  by_cases h20 : (20 : Int) < (m : Int)
  · have H0 := Lib.hid (HAW.out X HB.out)
    have d2 : decide ((20 : Int) < (m : Int)) = true := decide_eq_true h20
    clear hm hx HAW hbX hkX
    go_enter Try.func6, Try.ntmps6
    go_wp2_with fail
    refine H0.out.mono ?_
    rintro e w1 ⟨rfl, B1⟩
    go_wp2_with fail
    go_ret
    exact ⟨rfl, B1.out⟩
  have d2 : decide ((20 : Int) < (m : Int)) = false := decide_eq_false h20
  have HD := Lib.hid (ndo I ⟨kd, xa, xb, xn⟩ X)
  have HM : Hid (∀ W, Below w.heap.size w W → Calls Try.prog 16 #[.pointer none, .slice b m d] W fun e w' => e = .returned (.tuple #[.int .i64 0, .int .i64 1]) ∧ Hid (Below w.heap.size w w')) := Lib.hid (fun W hW => (I.n_moves b m d ps W (hx.under hW) hm (by omega)).mono fun _ _ ⟨e, h⟩ => ⟨e, Lib.hid (below_then hW h)⟩)
  have HC : Hid (∀ W, Below w.heap.size w W → Calls Try.prog 18 #[.pointer none] W fun e w' => ∃ Q, e = .returned (ptr Q) ∧ Hid (PS I w w' Q [] [] [])) := Lib.hid (fun W hW => by
    refine (I.n_clone W).mono ?_
    rintro e w' ⟨Q, rfl, F, R, h1, h2, h3⟩
    exact ⟨Q, rfl, Lib.hid ⟨F, R, h1, below_then hW h2, fun k hk => Nat.le_trans hW.size (h3 k hk), fun r hr => (by cases hr), fun c hc => (by cases hc)⟩⟩)
  have HT : Hid (∀ W Q, PS I w W Q [] [] [] → Calls Try.prog 14 #[.pointer none] W fun e w' => e = .returned (.int .i64 0) ∧ Hid (PS I w w' Q [] [] [])) := Lib.hid (fun W Q h => (I.n_total W).mono fun _ _ ⟨e, hb⟩ => ⟨e, Lib.hid (h.under hb)⟩)
  have HLI : Hid (∀ W Q, PS I w W Q [] [] [] → Calls Try.prog 13 #[.pointer none] W fun e w' => ∃ a c, e = .returned (.slice a 0 c) ∧ Hid (PS I w w' Q [] [] [])) := Lib.hid (fun W Q h => (I.n_list W).mono fun _ _ ⟨a, c, e, hb⟩ => ⟨a, c, e, Lib.hid (h.under hb)⟩)
  have HO : Hid (∀ W Q, PS I w W Q [] [] [] → Calls Try.prog 20 #[ptr Q, .int .i64 1] W fun e w' => e = .returned (.int .i64 0) ∧ Hid (PS I w w' Q aw1 [] [])) := Lib.hid (fun W Q h => by
    have := ps_open 1 h good_nil (by simp) (by simp [I64])
    rw [aw_o1.1, aw_o1.2] at this
    exact this)
  clear hm hx hbX hkX h20
  go_enter Try.func6, Try.ntmps6
  go_wp2_with fail
  clear hX hV
  refine HD.out.mono ?_
  rintro e w1 ⟨rfl, B1⟩
  have B2 := Lib.hid (below_then HB.out B1.out)
  clear k0 k1 k2 k3 B1
  go_wp2_with fail
  refine (HM.out w1 B2.out).mono ?_
  rintro e w2 ⟨rfl, B3⟩
  go_wp2_with fail
  refine (HC.out w2 B3.out).mono ?_
  rintro e w3 ⟨Q, rfl, P3⟩
  go_wp2_with fail
  refine (HT.out w3 Q P3.out).mono ?_
  rintro e w4 ⟨rfl, P4⟩
  go_wp2_with fail
  refine (HLI.out w4 Q P4.out).mono ?_
  rintro e w5 ⟨a5, c5, rfl, P5⟩
  go_wp2_with fail
  refine (HO.out w5 Q P5.out).mono ?_
  rintro e w6 ⟨rfl, P6⟩
  go_wp2_with fail
  refine (HAW.out w6 P6.out.below).mono ?_
  rintro e w7 ⟨rfl, B7⟩
  go_wp2_with fail
  go_ret
  exact ⟨rfl, B7.out⟩
end Go.Proofs.Yteglahogimdnfaa.Purse
