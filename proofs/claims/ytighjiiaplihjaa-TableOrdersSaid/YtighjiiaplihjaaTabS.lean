/- The walk of TableOrders. -/
import Derived.Test.YtighjiiaplihjaaTabP
import Derived.Deep.Cut
import Derived.Deep.CutRange
import Derived.Deep.DeepCutAuto
namespace Go.Proofs.Ytighjiiaplihjaa.Tab
open Go.RowKit Go.Lib
variable {I : Impl}

theorem tri0 {W : World} {n : Nat} (h : W.heap.size = n) (A B C : Obj) : ((((W.alloc A).alloc B).alloc C).drew).heap[n]? = some A := by
  subst h
  show (((W.alloc A).alloc B).alloc C).heap[W.heap.size]? = some A
  exact (Below.heap_alloc _ C _ (by simp; omega)).trans ((Below.heap_alloc _ B _ (by simp)).trans (heap_alloc_new W A))
theorem tri1 {W : World} {n : Nat} (h : W.heap.size = n) (A B C : Obj) : ((((W.alloc A).alloc B).alloc C).drew).heap[n + 1]? = some B := by
  subst h
  show (((W.alloc A).alloc B).alloc C).heap[W.heap.size + 1]? = some B
  have := heap_alloc_new (W.alloc A) B
  rw [World.size_alloc] at this
  exact (Below.heap_alloc _ C _ (by simp)).trans this
theorem tri2 {W : World} {n : Nat} (h : W.heap.size = n) (A B C : Obj) : ((((W.alloc A).alloc B).alloc C).drew).heap[n + 1 + 1]? = some C := by
  subst h
  show (((W.alloc A).alloc B).alloc C).heap[W.heap.size + 1 + 1]? = some C
  have := heap_alloc_new ((W.alloc A).alloc B) C
  rw [World.size_alloc, World.size_alloc] at this
  exact this
theorem tri_below (W : World) (A B C : Obj) : Below W.heap.size W ((((W.alloc A).alloc B).alloc C).drew) := ((((Below.refl _ W).alloc (Nat.le_refl _) A).alloc (by simp) B).alloc (by simp; omega) C).drew
structure Three (w : World) (b1 b2 b3 : Nat) (x y z : Key) : Prop where
  x : w.heap[b1]? = some (.cells x.cells 38 (0, 0))
  y : w.heap[b2]? = some (.cells y.cells 38 (0, 0))
  z : w.heap[b3]? = some (.cells z.cells 38 (0, 0))
abbrev kc (x : Key) : List Value := [.int .i64 x.a, .int .i64 x.b, .int .i64 x.c, .int .i64 x.d]
set_option maxRecDepth 100000 in
set_option maxHeartbeats 4000000 in
theorem orders_in (J : Iters I) (x y z : Key) (w : World) :
    Calls Try.prog 5 #[.agg #[.int .i64 x.a, .int .i64 x.b, .int .i64 x.c, .int .i64 x.d, .int .i64 y.a, .int .i64 y.b, .int .i64 y.c, .int .i64 y.d, .int .i64 z.a, .int .i64 z.b, .int .i64 z.c, .int .i64 z.d]] w fun e w' => e = .returned (.bool true) ∧ Below w.heap.size w w' := by
  obtain ⟨W0, hW0⟩ : ∃ W0, w.alloc (.cells #[.int .i64 x.a, .int .i64 x.b, .int .i64 x.c, .int .i64 x.d, .int .i64 y.a, .int .i64 y.b, .int .i64 y.c, .int .i64 y.d, .int .i64 z.a, .int .i64 z.b, .int .i64 z.c, .int .i64 z.d] 48) = W0 := ⟨_, rfl⟩
  have gW : W0.heap[w.heap.size]? = some (.cells #[.int .i64 x.a, .int .i64 x.b, .int .i64 x.c, .int .i64 x.d, .int .i64 y.a, .int .i64 y.b, .int .i64 y.c, .int .i64 y.d, .int .i64 z.a, .int .i64 z.b, .int .i64 z.c, .int .i64 z.d] 48 (0, 0)) := by rw [← hW0]; exact heap_alloc_new w _
  have sW : W0.heap.size = w.heap.size + 1 := by rw [← hW0]; simp
  have bW : Below w.heap.size w W0 := by rw [← hW0]; exact (Below.refl _ w).alloc (Nat.le_refl _) _
  have c0 : W0.cell? ⟨w.heap.size, 0, none⟩ = some (.int .i64 x.a) := cell_block (j := 0) gW rfl
  have c1 : W0.cell? ⟨w.heap.size, 1, none⟩ = some (.int .i64 x.b) := cell_block (j := 1) gW rfl
  have c2 : W0.cell? ⟨w.heap.size, 2, none⟩ = some (.int .i64 x.c) := cell_block (j := 2) gW rfl
  have c3 : W0.cell? ⟨w.heap.size, 3, none⟩ = some (.int .i64 x.d) := cell_block (j := 3) gW rfl
  have c4 : W0.cell? ⟨w.heap.size, 4, none⟩ = some (.int .i64 y.a) := cell_block (j := 4) gW rfl
  have c5 : W0.cell? ⟨w.heap.size, 5, none⟩ = some (.int .i64 y.b) := cell_block (j := 5) gW rfl
  have c6 : W0.cell? ⟨w.heap.size, 6, none⟩ = some (.int .i64 y.c) := cell_block (j := 6) gW rfl
  have c7 : W0.cell? ⟨w.heap.size, 7, none⟩ = some (.int .i64 y.d) := cell_block (j := 7) gW rfl
  have c8 : W0.cell? ⟨w.heap.size, 8, none⟩ = some (.int .i64 z.a) := cell_block (j := 8) gW rfl
  have c9 : W0.cell? ⟨w.heap.size, 9, none⟩ = some (.int .i64 z.b) := cell_block (j := 9) gW rfl
  have c10 : W0.cell? ⟨w.heap.size, 10, none⟩ = some (.int .i64 z.c) := cell_block (j := 10) gW rfl
  have c11 : W0.cell? ⟨w.heap.size, 11, none⟩ = some (.int .i64 z.d) := cell_block (j := 11) gW rfl
  have hlt : w.heap.size < W0.heap.size := by omega
  have BW := Lib.hid bW
  clear gW bW
  go_enter Try.func5, Try.ntmps5
  go_wp2_with fail
  clear hW0
  go_cut [3, 4, 5] (fun s3 s4 s5 wx => ∃ b1 b2 b3, s3 = .pointer (some ⟨b1, 0, none⟩) ∧ s4 = .pointer (some ⟨b2, 0, none⟩) ∧ s5 = .pointer (some ⟨b3, 0, none⟩) ∧ Hid (Three wx b1 b2 b3 x y z ∧ Below W0.heap.size W0 wx))
  case first =>
    go_region
    all_goals
      go_wp2_with fail
      go_meet
      exact ⟨_, _, _, rfl, rfl, rfl, Lib.hid ⟨⟨by first | exact tri0 sW _ _ _ | exact tri1 sW _ _ _ | exact tri2 sW _ _ _, by first | exact tri0 sW _ _ _ | exact tri1 sW _ _ _ | exact tri2 sW _ _ _, by first | exact tri0 sW _ _ _ | exact tri1 sW _ _ _ | exact tri2 sW _ _ _⟩, tri_below _ _ _ _⟩⟩
  case rest =>
    obtain ⟨b1, b2, b3, rfl, rfl, rfl, H3⟩ := hcut
    have HB := Lib.hid (BW.out.trans (H3.out.2.mono BW.out.size))
    have HT : Hid (∀ X, Below wc.heap.size wc X → (X.cell? ⟨b1, 0, none⟩ = some (.int .i64 x.a) ∧ X.cell? ⟨b1, 1, none⟩ = some (.int .i64 x.b) ∧ X.cell? ⟨b1, 2, none⟩ = some (.int .i64 x.c) ∧ X.cell? ⟨b1, 3, none⟩ = some (.int .i64 x.d)) ∧
        (X.cell? ⟨b2, 0, none⟩ = some (.int .i64 y.a) ∧ X.cell? ⟨b2, 1, none⟩ = some (.int .i64 y.b) ∧ X.cell? ⟨b2, 2, none⟩ = some (.int .i64 y.c) ∧ X.cell? ⟨b2, 3, none⟩ = some (.int .i64 y.d)) ∧
        X.cell? ⟨b3, 0, none⟩ = some (.int .i64 z.a) ∧ X.cell? ⟨b3, 1, none⟩ = some (.int .i64 z.b) ∧ X.cell? ⟨b3, 2, none⟩ = some (.int .i64 z.c) ∧ X.cell? ⟨b3, 3, none⟩ = some (.int .i64 z.d)) := Lib.hid (fun X hX => by
      have g1 := (hX.block b1 (Array.getElem?_eq_some_iff.1 H3.out.1.x).1).trans H3.out.1.x
      have g2 := (hX.block b2 (Array.getElem?_eq_some_iff.1 H3.out.1.y).1).trans H3.out.1.y
      have g3 := (hX.block b3 (Array.getElem?_eq_some_iff.1 H3.out.1.z).1).trans H3.out.1.z
      exact ⟨⟨key_at g1 0 (by omega), key_at g1 1 (by omega), key_at g1 2 (by omega), key_at g1 3 (by omega)⟩, ⟨key_at g2 0 (by omega), key_at g2 1 (by omega), key_at g2 2 (by omega), key_at g2 3 (by omega)⟩, key_at g3 0 (by omega), key_at g3 1 (by omega), key_at g3 2 (by omega), key_at g3 3 (by omega)⟩)
    have HCM : Hid (∀ (p q : Key) (c : Int) X, cmp p q = c → Below wc.heap.size wc X → Calls Try.prog 18 #[kV p, kV q] X fun e w' => ∃ r : Int, e = .returned (.int .i64 r) ∧ ((r < 0 ↔ c < 0) ∧ (0 < r ↔ 0 < c)) ∧ Hid (Below wc.heap.size wc w')) := Lib.hid (fun p q c X hc hX => by
      subst hc
      refine (I.compare p q X).mono ?_
      rintro e w' ⟨r, rfl, hs, hb⟩
      exact ⟨r, rfl, hs, Lib.hid (below_then hX hb)⟩)
    have HRC : Hid (∀ (p q : Key) (c : Int) X, cmp p q = c → Below wc.heap.size wc X → Calls Try.prog 19 #[kV p, kV q] X fun e w' => e = .returned (.int .i64 c) ∧ Hid (Below wc.heap.size wc w')) := Lib.hid (fun p q c X hc hX => by
      subst hc
      refine (compare_any p q X).mono ?_
      rintro e w' ⟨rfl, hb⟩
      exact ⟨rfl, Lib.hid (below_then hX hb)⟩)
    have HAW : Hid (∀ X, Below wc.heap.size wc X → Calls Try.prog 8 #[] X fun e w' => e = .returned (.bool true) ∧ Hid (Below wc.heap.size wc w')) := Lib.hid (fun X hX => by
      refine (awake_any J X).mono ?_
      rintro e w' ⟨rfl, hb⟩
      exact ⟨rfl, Lib.hid (below_then hX hb)⟩)
    clear c0 c1 c2 c3 c4 c5 c6 c7 c8 c9 c10 c11
    obtain ⟨⟨x00, x01, x02, x03⟩, ⟨y00, y01, y02, y03⟩, z00, z01, z02, z03⟩ := HT.out wc (Below.refl _ _)
    rcases cmp_in x y with hc | hc | hc
    · have hc2 := cmp_swap x y
      rw [hc] at hc2
      have HC := Lib.hid hc
      have HC2 := Lib.hid hc2
      clear hc hc2
      go_wp2_with fail
      refine (HCM.out x y (-1) wc HC.out (Below.refl _ _)).mono ?_
      rintro e w1 ⟨r1, rfl, s1, h1⟩
      have pa : r1 < 0 := by omega
      have pb : ¬ 0 < r1 := by omega
      have pc : r1 ≤ 0 := by omega
      have pd := decide_eq_true pa; have pe := decide_eq_false pb; have pf := decide_eq_true pc
      clear s1
      obtain ⟨⟨x10, x11, x12, x13⟩, ⟨y10, y11, y12, y13⟩, z10, z11, z12, z13⟩ := HT.out w1 h1.out
      go_wp2_with fail
      refine (HRC.out x y (-1) w1 HC.out h1.out).mono ?_
      rintro e w2 ⟨rfl, h2⟩
      obtain ⟨⟨x20, x21, x22, x23⟩, ⟨y20, y21, y22, y23⟩, z20, z21, z22, z23⟩ := HT.out w2 h2.out
      go_wp2_with fail
      refine (HCM.out y x (1) w2 (by have := HC2.out; omega) h2.out).mono ?_
      rintro e w3 ⟨r2, rfl, s2, h3⟩
      have qa : 0 < r2 := by omega
      have qb : ¬ r2 < 0 := by omega
      have qc : ¬ r2 ≤ 0 := by omega
      have qd := decide_eq_true qa; have qe := decide_eq_false qb; have qf := decide_eq_false qc
      clear s2
      obtain ⟨⟨x30, x31, x32, x33⟩, ⟨y30, y31, y32, y33⟩, z30, z31, z32, z33⟩ := HT.out w3 h3.out
      rcases cmp_in y z with hd | hd | hd
      · have HD := Lib.hid hd
        clear hd
        go_wp2_with fail
        refine (HCM.out y z (-1) w3 HD.out h3.out).mono ?_
        rintro e w4 ⟨r3, rfl, s3, h4⟩
        have ta : r3 < 0 := by omega
        have tb : ¬ 0 < r3 := by omega
        have tc : r3 ≤ 0 := by omega
        have td := decide_eq_true ta; have te := decide_eq_false tb; have tf := decide_eq_true tc
        clear s3
        obtain ⟨⟨x40, x41, x42, x43⟩, ⟨y40, y41, y42, y43⟩, z40, z41, z42, z43⟩ := HT.out w4 h4.out
        have HE : cmp x z = -1 := by have h := cmp_trans (x := x) (y := y) (z := z) (by rw [HC.out]; decide) (by rw [HD.out]; decide); rcases cmp_in x z with k | k | k <;> omega
        have HF := Lib.hid HE
        clear HE
        go_wp2_with fail
        refine (HCM.out x z (-1) w4 HF.out h4.out).mono ?_
        rintro e w5 ⟨r4, rfl, s4, h5⟩
        have va : r4 < 0 := by omega
        have vb : ¬ 0 < r4 := by omega
        have vc : r4 ≤ 0 := by omega
        have vd := decide_eq_true va; have ve := decide_eq_false vb; have vf := decide_eq_true vc
        clear s4
        go_wp2_with fail
        refine (HAW.out _ h5.out).mono ?_
        rintro e w9 ⟨rfl, h9⟩
        go_wp2_with fail
        go_ret
        exact ⟨rfl, below_then HB.out h9.out⟩
      · have HD := Lib.hid hd
        clear hd
        go_wp2_with fail
        refine (HCM.out y z (0) w3 HD.out h3.out).mono ?_
        rintro e w4 ⟨r3, rfl, s3, h4⟩
        obtain rfl : r3 = 0 := by omega
        clear s3
        obtain ⟨⟨x40, x41, x42, x43⟩, ⟨y40, y41, y42, y43⟩, z40, z41, z42, z43⟩ := HT.out w4 h4.out
        have HE : cmp x z = -1 := by rw [← cmp_zero.1 HD.out]; exact HC.out
        have HF := Lib.hid HE
        clear HE
        go_wp2_with fail
        refine (HCM.out x z (-1) w4 HF.out h4.out).mono ?_
        rintro e w5 ⟨r4, rfl, s4, h5⟩
        have va : r4 < 0 := by omega
        have vb : ¬ 0 < r4 := by omega
        have vc : r4 ≤ 0 := by omega
        have vd := decide_eq_true va; have ve := decide_eq_false vb; have vf := decide_eq_true vc
        clear s4
        go_wp2_with fail
        refine (HAW.out _ h5.out).mono ?_
        rintro e w9 ⟨rfl, h9⟩
        go_wp2_with fail
        go_ret
        exact ⟨rfl, below_then HB.out h9.out⟩
      · have HD := Lib.hid hd
        clear hd
        go_wp2_with fail
        refine (HCM.out y z (1) w3 HD.out h3.out).mono ?_
        rintro e w4 ⟨r3, rfl, s3, h4⟩
        have ta : 0 < r3 := by omega
        have tb : ¬ r3 < 0 := by omega
        have tc : ¬ r3 ≤ 0 := by omega
        have td := decide_eq_true ta; have te := decide_eq_false tb; have tf := decide_eq_false tc
        clear s3
        obtain ⟨⟨x40, x41, x42, x43⟩, ⟨y40, y41, y42, y43⟩, z40, z41, z42, z43⟩ := HT.out w4 h4.out
        go_wp2_with fail
        refine (HAW.out _ h4.out).mono ?_
        rintro e w9 ⟨rfl, h9⟩
        go_wp2_with fail
        go_ret
        exact ⟨rfl, below_then HB.out h9.out⟩
    · have hc2 := cmp_swap x y
      rw [hc] at hc2
      have HC := Lib.hid hc
      have HC2 := Lib.hid hc2
      clear hc hc2
      go_wp2_with fail
      refine (HCM.out x y (0) wc HC.out (Below.refl _ _)).mono ?_
      rintro e w1 ⟨r1, rfl, s1, h1⟩
      obtain rfl : r1 = 0 := by omega
      clear s1
      obtain ⟨⟨x10, x11, x12, x13⟩, ⟨y10, y11, y12, y13⟩, z10, z11, z12, z13⟩ := HT.out w1 h1.out
      go_wp2_with fail
      refine (HRC.out x y (0) w1 HC.out h1.out).mono ?_
      rintro e w2 ⟨rfl, h2⟩
      obtain ⟨⟨x20, x21, x22, x23⟩, ⟨y20, y21, y22, y23⟩, z20, z21, z22, z23⟩ := HT.out w2 h2.out
      go_wp2_with fail
      refine (HCM.out y x (0) w2 (by have := HC2.out; omega) h2.out).mono ?_
      rintro e w3 ⟨r2, rfl, s2, h3⟩
      obtain rfl : r2 = 0 := by omega
      clear s2
      obtain ⟨⟨x30, x31, x32, x33⟩, ⟨y30, y31, y32, y33⟩, z30, z31, z32, z33⟩ := HT.out w3 h3.out
      rcases cmp_in y z with hd | hd | hd
      · have HD := Lib.hid hd
        clear hd
        go_wp2_with fail
        refine (HCM.out y z (-1) w3 HD.out h3.out).mono ?_
        rintro e w4 ⟨r3, rfl, s3, h4⟩
        have ta : r3 < 0 := by omega
        have tb : ¬ 0 < r3 := by omega
        have tc : r3 ≤ 0 := by omega
        have td := decide_eq_true ta; have te := decide_eq_false tb; have tf := decide_eq_true tc
        clear s3
        obtain ⟨⟨x40, x41, x42, x43⟩, ⟨y40, y41, y42, y43⟩, z40, z41, z42, z43⟩ := HT.out w4 h4.out
        have HE : cmp x z = -1 := by rw [cmp_zero.1 HC.out]; exact HD.out
        have HF := Lib.hid HE
        clear HE
        go_wp2_with fail
        refine (HCM.out x z (-1) w4 HF.out h4.out).mono ?_
        rintro e w5 ⟨r4, rfl, s4, h5⟩
        have va : r4 < 0 := by omega
        have vb : ¬ 0 < r4 := by omega
        have vc : r4 ≤ 0 := by omega
        have vd := decide_eq_true va; have ve := decide_eq_false vb; have vf := decide_eq_true vc
        clear s4
        go_wp2_with fail
        refine (HAW.out _ h5.out).mono ?_
        rintro e w9 ⟨rfl, h9⟩
        go_wp2_with fail
        go_ret
        exact ⟨rfl, below_then HB.out h9.out⟩
      · have HD := Lib.hid hd
        clear hd
        go_wp2_with fail
        refine (HCM.out y z (0) w3 HD.out h3.out).mono ?_
        rintro e w4 ⟨r3, rfl, s3, h4⟩
        obtain rfl : r3 = 0 := by omega
        clear s3
        obtain ⟨⟨x40, x41, x42, x43⟩, ⟨y40, y41, y42, y43⟩, z40, z41, z42, z43⟩ := HT.out w4 h4.out
        have HE : cmp x z = 0 := by rw [cmp_zero.1 HC.out]; exact HD.out
        have HF := Lib.hid HE
        clear HE
        go_wp2_with fail
        refine (HCM.out x z (0) w4 HF.out h4.out).mono ?_
        rintro e w5 ⟨r4, rfl, s4, h5⟩
        obtain rfl : r4 = 0 := by omega
        clear s4
        go_wp2_with fail
        refine (HAW.out _ h5.out).mono ?_
        rintro e w9 ⟨rfl, h9⟩
        go_wp2_with fail
        go_ret
        exact ⟨rfl, below_then HB.out h9.out⟩
      · have HD := Lib.hid hd
        clear hd
        go_wp2_with fail
        refine (HCM.out y z (1) w3 HD.out h3.out).mono ?_
        rintro e w4 ⟨r3, rfl, s3, h4⟩
        have ta : 0 < r3 := by omega
        have tb : ¬ r3 < 0 := by omega
        have tc : ¬ r3 ≤ 0 := by omega
        have td := decide_eq_true ta; have te := decide_eq_false tb; have tf := decide_eq_false tc
        clear s3
        obtain ⟨⟨x40, x41, x42, x43⟩, ⟨y40, y41, y42, y43⟩, z40, z41, z42, z43⟩ := HT.out w4 h4.out
        go_wp2_with fail
        refine (HAW.out _ h4.out).mono ?_
        rintro e w9 ⟨rfl, h9⟩
        go_wp2_with fail
        go_ret
        exact ⟨rfl, below_then HB.out h9.out⟩
    · have hc2 := cmp_swap x y
      rw [hc] at hc2
      have HC := Lib.hid hc
      have HC2 := Lib.hid hc2
      clear hc hc2
      go_wp2_with fail
      refine (HCM.out x y (1) wc HC.out (Below.refl _ _)).mono ?_
      rintro e w1 ⟨r1, rfl, s1, h1⟩
      have pa : 0 < r1 := by omega
      have pb : ¬ r1 < 0 := by omega
      have pc : ¬ r1 ≤ 0 := by omega
      have pd := decide_eq_true pa; have pe := decide_eq_false pb; have pf := decide_eq_false pc
      clear s1
      obtain ⟨⟨x10, x11, x12, x13⟩, ⟨y10, y11, y12, y13⟩, z10, z11, z12, z13⟩ := HT.out w1 h1.out
      go_wp2_with fail
      refine (HRC.out x y (1) w1 HC.out h1.out).mono ?_
      rintro e w2 ⟨rfl, h2⟩
      obtain ⟨⟨x20, x21, x22, x23⟩, ⟨y20, y21, y22, y23⟩, z20, z21, z22, z23⟩ := HT.out w2 h2.out
      go_wp2_with fail
      refine (HCM.out y x (-1) w2 (by have := HC2.out; omega) h2.out).mono ?_
      rintro e w3 ⟨r2, rfl, s2, h3⟩
      have qa : r2 < 0 := by omega
      have qb : ¬ 0 < r2 := by omega
      have qc : r2 ≤ 0 := by omega
      have qd := decide_eq_true qa; have qe := decide_eq_false qb; have qf := decide_eq_true qc
      clear s2
      obtain ⟨⟨x30, x31, x32, x33⟩, ⟨y30, y31, y32, y33⟩, z30, z31, z32, z33⟩ := HT.out w3 h3.out
      go_wp2_with fail
      refine (HAW.out _ h3.out).mono ?_
      rintro e w9 ⟨rfl, h9⟩
      go_wp2_with fail
      go_ret
      exact ⟨rfl, below_then HB.out h9.out⟩
end Go.Proofs.Ytighjiiaplihjaa.Tab
