/- A line lets a job go: it is gone from both rows; who waits first runs then. -/
import Derived.Test.YtokkefokodcphaaBayImE
import Derived.Test.YtokkefokodcphaaBayImG
import Derived.Deep.RegionHeld3
namespace Go.Proofs.Ytokkefokodcphaa.Bay
open Go.RowKit Go.Lib IRows

/-- What is left of a line, and who runs now. -/
def lvL (x : Ln) (j : Int) : Ln × Int :=
  if j ∈ x.q then (⟨x.r, out x.q j, x.s⟩, 0) else match x.q with
    | [] => (⟨out x.r j, [], x.s⟩, 0)
    | n :: q => (⟨ins (out x.r j) n, q, x.s⟩, n)
/-- Bays while a line is cut: what its cells say still, what its rows hold; the job's box. -/
structure LvS (w W : World) (Q : Nat) (lv : Value) (xs ys : List XL) (b : Nat) (j : Int) : Prop where
  pb : PBX W Q lv xs ys
  box : W.heap[b]? = some (.cells #[.int .i64 j] 3 (0, 0))
  apart : ¬ foot Q lv ys b
  step : StepF w W (foot Q lv xs) (foot Q lv ys)
theorem PBX.drew {W : World} {Q : Nat} {lv : Value} {ys xs : List XL} (h : PBX W Q lv ys xs) : PBX W.drew Q lv ys xs := h.keep fun _ _ => rfl
theorem LvS.drew {w W : World} {Q : Nat} {lv : Value} {xs ys : List XL} {b : Nat} {j : Int} (h : LvS w W Q lv xs ys b j) : LvS w W.drew Q lv xs ys b j := ⟨h.pb.drew, h.box, h.apart, ⟨h.step.os, h.step.tape, h.step.output, h.step.size, h.step.block, h.step.grows⟩⟩
theorem lv_delete {w W : World} {Q : Nat} {lv : Value} {xs ys : List XL} {b k : Nat} {j : Int} {y : XL} (h : LvS w W Q lv xs ys b j) (hy : ys[k]? = some y) (d : Bool) (hl : (rowOf y d).2.length ≤ 1000) :
    Calls Try.prog 52 #[.slice (rowOf y d).1.a (rowOf y d).2.length (rowOf y d).1.c, .func (.func 51) #[] #[.pointer (some ⟨b, 0, none⟩)]] W fun e w' => e = .returned (.slice (rowOf y d).1.a (out (rowOf y d).2 j).length (rowOf y d).1.c) ∧ Hid (LvS w w' Q lv xs (ys.set k (y.put d (rowOf y d).1 (out (rowOf y d).2 j))) b j) := by
  refine (delete_im j b W (h.pb.rows.row k y d hy) hl 3 h.box (fun e => h.apart (.inr (.inr ⟨k, d, by rw [bk_of hy, e]⟩)))).mono ?_
  rintro e w' ⟨rfl, H⟩
  obtain ⟨h1, h2⟩ := H.out
  obtain ⟨h3, h4⟩ := h.pb.turn (d := d) hy (⟨h2, fun g hg => .inl hg⟩ : Went W w' (rowOf y d).1 (rowOf y d).1) h1
  have hlt := (Array.getElem?_eq_some_iff.1 h.box).1
  refine ⟨rfl, Lib.hid ⟨h3, (h4.block b hlt h.apart).trans h.box, fun hf => ?_, h.step.trans h4⟩⟩
  rcases h4.grows b hf with h5 | h5
  · exact h.apart h5
  · omega
set_option maxRecDepth 100000 in
set_option maxHeartbeats 2000000 in
theorem leave_ln {Q g n c k : Nat} {xs : List XL} {x : XL} (j : Int) (w : World) (h : PBX w Q (.slice (some ⟨g, 0, none⟩) n c) xs xs) (hx : xs[k]? = some x) (o : OkLn x.pl) (hj : has j x.pl = true) :
    Calls Try.prog 37 #[.pointer (some ⟨g, k * 3, none⟩), .int .i64 j] w fun e w' => e = .returned (.int .i64 (lvL x.pl j).2) ∧ Hid (∃ y, PBX w' Q (.slice (some ⟨g, 0, none⟩) n c) (xs.set k y) (xs.set k y) ∧ y.pl = (lvL x.pl j).1 ∧ StepF w w' (foot Q (.slice (some ⟨g, 0, none⟩) n c) xs) (foot Q (.slice (some ⟨g, 0, none⟩) n c) (xs.set k y))) := by
  obtain ⟨lv, hlv⟩ : ∃ lv, Value.slice (some ⟨g, 0, none⟩) n c = lv := ⟨_, rfl⟩
  obtain ⟨hg, ⟨c0, c1, c2⟩, f0⟩ := h.at hx
  have hkl := (List.getElem?_eq_some_iff.1 hx).1
  have hr8 : x.r.length ≤ 8 := by have h1 := o.room; have h2 := o.s8; have h3 : (x.r.length : Int) ≤ 8 := Int.le_trans h1 h2; omega
  have hq8 : x.q.length ≤ 8 := o.q8
  have hs0 : 0 ≤ x.s := o.s0
  have hs8 : x.s ≤ 8 := o.s8
  obtain ⟨b, hb⟩ : ∃ b, w.heap.size = b := ⟨_, rfl⟩
  obtain ⟨Y, hY⟩ : ∃ Y, w.alloc (.cells #[.int .i64 j] 3) = Y := ⟨_, rfl⟩
  have hB : Below w.heap.size w Y := by rw [← hY]; exact (Below.refl _ _).alloc (Nat.le_refl _) _
  have S0 : LvS w Y Q (.slice (some ⟨g, 0, none⟩) n c) xs xs b j := ⟨h.under hB, by rw [← hY, ← hb]; exact heap_alloc_new w _, fun e => by have := h.lt _ e; omega, StepF.below _ hB⟩
  have d0 : Y.cell? ⟨g, k * 3, none⟩ = some x.rv := ((bcell hB).1 g _ hg).trans c0
  have d1 : Y.cell? ⟨g, k * 3 + 1, none⟩ = some x.qv := ((bcell hB).1 g _ hg).trans c1
  have HS0 := Lib.hid S0.drew
  -- the line cut
  obtain ⟨r1, hr1⟩ : ∃ r1, out x.r j = r1 := ⟨_, rfl⟩
  obtain ⟨q1, hq1⟩ : ∃ q1, out x.q j = q1 := ⟨_, rfl⟩
  obtain ⟨rn, hrn⟩ : ∃ rn, r1.length = rn := ⟨_, rfl⟩
  obtain ⟨qn, hqn⟩ : ∃ qn, q1.length = qn := ⟨_, rfl⟩
  obtain ⟨x1, hx1⟩ : ∃ x1, x.put false x.rm r1 = x1 := ⟨_, rfl⟩
  obtain ⟨x2, hx2⟩ : ∃ x2, x1.put true x.qm q1 = x2 := ⟨_, rfl⟩
  have hx2e : x2 = ⟨r1, x.rm, q1, x.qm, x.s⟩ := by rw [← hx2, ← hx1]; rfl
  have H1 : Hid (∀ W, LvS w W Q (.slice (some ⟨g, 0, none⟩) n c) xs xs b j → Calls Try.prog 52 #[.slice x.rm.a x.r.length x.rm.c, .func (.func 51) #[] #[.pointer (some ⟨b, 0, none⟩)]] W fun e w' => e = .returned (.slice x.rm.a rn x.rm.c) ∧ Hid (LvS w w' Q (.slice (some ⟨g, 0, none⟩) n c) xs (xs.set k x1) b j)) := Lib.hid (fun W hW => by
    rw [← hrn, ← hx1, ← hr1]
    exact lv_delete hW hx false (by show x.r.length ≤ 1000; omega))
  have H2 : Hid (∀ W, LvS w W Q (.slice (some ⟨g, 0, none⟩) n c) xs (xs.set k x1) b j → Calls Try.prog 52 #[.slice x.qm.a x.q.length x.qm.c, .func (.func 51) #[] #[.pointer (some ⟨b, 0, none⟩)]] W fun e w' => e = .returned (.slice x.qm.a qn x.qm.c) ∧ Hid (LvS w w' Q (.slice (some ⟨g, 0, none⟩) n c) xs (xs.set k x2) b j)) := Lib.hid (fun W hW => by
    have e1 : (xs.set k x1)[k]? = some x1 := List.getElem?_set_self hkl
    have := lv_delete hW e1 true (by rw [← hx1]; show x.q.length ≤ 1000; omega)
    rw [set_set_row] at this
    rw [← hqn, ← hq1, ← hx2, ← hq1]
    rw [← hx1] at this ⊢
    exact this)
  have HC : Hid (∀ W ys, LvS w W Q (.slice (some ⟨g, 0, none⟩) n c) xs ys b j → (W.cell? ⟨g, k * 3, none⟩ = some x.rv ∧ W.cell? ⟨g, k * 3 + 1, none⟩ = some x.qv) ∧ W.frozen? ⟨g, k * 3, none⟩ = false ∧ W.frozen? ⟨g, k * 3 + 1, none⟩ = false) := Lib.hid (fun W ys hW => by
    obtain ⟨_, ⟨e0, e1, _⟩, ef⟩ := hW.pb.at hx
    exact ⟨⟨e0, e1⟩, ef _, ef _⟩)
  -- behind the two stores
  have HE : Hid (∀ W, LvS w W Q (.slice (some ⟨g, 0, none⟩) n c) xs (xs.set k x2) b j → PBX ((W.setCell ⟨g, k * 3, none⟩ (.slice x.rm.a rn x.rm.c)).setCell ⟨g, k * 3 + 1, none⟩ (.slice x.qm.a qn x.qm.c)) Q (.slice (some ⟨g, 0, none⟩) n c) (xs.set k x2) (xs.set k x2) ∧ StepF w ((W.setCell ⟨g, k * 3, none⟩ (.slice x.rm.a rn x.rm.c)).setCell ⟨g, k * 3 + 1, none⟩ (.slice x.qm.a qn x.qm.c)) (foot Q (.slice (some ⟨g, 0, none⟩) n c) xs) (foot Q (.slice (some ⟨g, 0, none⟩) n c) (xs.set k x2))) := Lib.hid (fun W hW => by
    obtain ⟨h3, s3⟩ := hW.pb.store (k := k) (x := x) (y := x1) (j := 0) (u := .slice x.rm.a rn x.rm.c) hx (by omega) (by rw [← hx1, ← hrn]; rfl)
    obtain ⟨h4, s4⟩ := h3.store (k := k) (x := x1) (y := x2) (j := 1) (u := .slice x.qm.a qn x.qm.c) (List.getElem?_set_self hkl) (by omega) (by rw [← hx2, ← hx1, ← hqn]; rfl)
    rw [set_set_row] at h4
    exact ⟨h4, hW.step.trans (s3.trans s4)⟩)
  have HF : Hid (∀ W, PBX W Q (.slice (some ⟨g, 0, none⟩) n c) (xs.set k x2) (xs.set k x2) → (W.cell? ⟨g, k * 3, none⟩ = some (.slice x.rm.a rn x.rm.c) ∧ W.cell? ⟨g, k * 3 + 1, none⟩ = some (.slice x.qm.a qn x.qm.c) ∧ W.cell? ⟨g, k * 3 + 2, none⟩ = some (.int .i64 x.s)) ∧ W.frozen? ⟨g, k * 3 + 1, none⟩ = false ∧ g < W.heap.size) := Lib.hid (fun W hW => by
    obtain ⟨e2, ⟨e0, e1, e3⟩, ef⟩ := hW.at (List.getElem?_set_self hkl)
    rw [hx2e] at e0 e1 e3
    rw [← hrn, ← hqn]
    exact ⟨⟨e0, e1, e3⟩, ef _, e2⟩)
  have HFr : Hid (∀ W, PBX W Q (.slice (some ⟨g, 0, none⟩) n c) (xs.set k x2) (xs.set k x2) → Calls Try.prog 35 #[.pointer (some ⟨g, k * 3, none⟩)] W fun e w' => e = .returned (.int .i64 (x.s - rn)) ∧ Below W.heap.size W w') := Lib.hid (fun W hW => by
    obtain ⟨⟨e0, _, e2⟩, _⟩ := HF.out W hW
    exact free_im g (k * 3) rn x.rm.c x.rm.a x.s W e0 e2 ⟨hs0, hs8⟩ (by have := out_len x.r j; rw [hr1, hrn] at this; omega))
  -- who runs now
  have HD : Hid (((x.s - (rn : Int)) = 0 ∧ lvL x.pl j = (x2.pl, 0)) ∨ ((∃ f, (x.s - (rn : Int)) = f ∧ (f == 0) = false) ∧ qn = 0 ∧ lvL x.pl j = (x2.pl, 0)) ∨
      ((x.s - (rn : Int)) = 1 ∧ ∃ t q', q1 = t :: q' ∧ lvL x.pl j = (⟨ins r1 t, q', x.s⟩, t) ∧ t ∉ r1)) := Lib.hid (by
    by_cases hjq : j ∈ x.q
    · have hne : x.pl.q ≠ [] := fun e => by rw [show x.q = [] from e] at hjq; cases hjq
      have hfull : (x.r.length : Int) = x.s := (o.full hne).1
      have hjr : j ∉ x.r := fun hm => o.far j hm hjq
      refine .inl ⟨?_, ?_⟩
      · rw [← hrn, ← hr1, out_not hjr]
        omega
      · unfold lvL
        rw [if_pos (show j ∈ x.pl.q from hjq), hx2e]
        show ((⟨x.r, out x.q j, x.s⟩ : Ln), (0 : Int)) = (⟨r1, q1, x.s⟩, 0)
        rw [← hr1, ← hq1, out_not hjr]
    · have hjr : j ∈ x.r := by
        rcases has_iff.1 hj with h1 | h1
        · exact h1
        · exact absurd h1 hjq
      have hlen : (out x.r j).length + 1 = x.r.length := out_one (rise_nodup o.rise) hjr
      have hroom : (x.r.length : Int) ≤ x.s := o.room
      have eq1 : q1 = x.q := by rw [← hq1]; exact out_not hjq
      cases hxq : x.q with
      | nil =>
        refine .inr (.inl ⟨⟨_, rfl, ?_⟩, ?_, ?_⟩)
        · have : ¬ (x.s - (rn : Int)) = 0 := by rw [← hrn, ← hr1]; omega
          simpa using this
        · rw [← hqn, eq1, hxq]
          rfl
        · unfold lvL
          rw [if_neg (show ¬ j ∈ x.pl.q from hjq), show x.pl.q = [] from hxq, hx2e]
          show ((⟨out x.r j, [], x.s⟩ : Ln), (0 : Int)) = (⟨r1, q1, x.s⟩, 0)
          rw [hr1, eq1, hxq]
      | cons t q' =>
        have hfull : (x.r.length : Int) = x.s := (o.full (show x.pl.q ≠ [] by rw [show x.pl.q = x.q from rfl, hxq]; simp)).1
        refine .inr (.inr ⟨?_, t, q', by rw [eq1, hxq], ?_, fun hm => ?_⟩)
        · rw [← hrn, ← hr1]
          omega
        · unfold lvL
          rw [if_neg (show ¬ j ∈ x.pl.q from hjq), show x.pl.q = t :: q' from hxq]
          show ((⟨ins (out x.r j) t, q', x.s⟩ : Ln), t) = _
          rw [hr1]
        · rw [← hr1] at hm
          exact o.far t (mem_out.1 hm).1 (by show t ∈ x.q; rw [hxq]; exact List.mem_cons_self ..))
  obtain ⟨⟨A, z⟩, hA⟩ : ∃ p, lvL x.pl j = p := ⟨_, rfl⟩
  rw [hA] at HD ⊢
  clear hA
  have HR1 : Hid (Rise r1 ∧ r1.length ≤ 8) := Lib.hid ⟨by rw [← hr1]; exact rise_out o.rise j, by have := out_len x.r j; rw [hr1] at this; omega⟩
  have HKL := Lib.hid hkl
  have HQN := Lib.hid hqn
  have HX2 := Lib.hid hx2e
  have hqn8 : (qn : Int) ≤ 8 := by have := out_len x.q j; rw [hq1, hqn] at this; omega
  clear h hx o hj hlv hg c0 c1 c2 f0 hkl hr8 hq8 hs0 hs8 hB S0 hr1 hq1 hrn hqn hx1 hx2 hx2e lv
  go_enter Try.func37, Try.ntmps37
  go_wp2_with fail
  clear hY
  rw [hb] at *
  go_region_with (first
      | (go_at_call 52; (with_reducible refine (H2.out _ G1.out).mono ?_); rintro e w2 ⟨rfl, G2⟩; obtain ⟨⟨i0, i1⟩, i2, i3⟩ := HC.out _ _ G2.out)
      | (go_at_call 52; (with_reducible refine (H1.out _ HS0.out).mono ?_); rintro e w1 ⟨rfl, G1⟩; obtain ⟨⟨j0, j1⟩, j2, j3⟩ := HC.out _ _ G1.out))
  all_goals
    have GE := Lib.hid (HE.out _ G2.out)
    obtain ⟨W4, hW4⟩ : ∃ W4, (w2.setCell ⟨g, k * 3, none⟩ (.slice x.rm.a rn x.rm.c)).setCell ⟨g, k * 3 + 1, none⟩ (.slice x.qm.a qn x.qm.c) = W4 := ⟨_, rfl⟩
    rw [hW4] at GE
    simp only [hW4]
    clear hW4
    obtain ⟨⟨m0, m1, m2⟩, m3, m4⟩ := HF.out W4 GE.out.1
    have HFW := Lib.hid (HFr.out W4 GE.out.1)
    clear H1 H2 HS0 HC HE G1 G2 HFr
    rcases HD.out with ⟨e1, e2⟩ | ⟨⟨f, e1, e2⟩, e3, e4⟩ | ⟨e1, t, q', e2, e3, e4⟩
    · rw [e1] at HFW
      have HA := Lib.hid e2
      clear e1 e2 HD HF
      go_wp2_with fail
      refine HFW.out.mono ?_
      rintro e w5 ⟨rfl, hb5⟩
      have HEND : Hid (∃ y, PBX w5 Q (.slice (some ⟨g, 0, none⟩) n c) (xs.set k y) (xs.set k y) ∧ y.pl = A ∧ StepF w w5 (foot Q (.slice (some ⟨g, 0, none⟩) n c) xs) (foot Q (.slice (some ⟨g, 0, none⟩) n c) (xs.set k y))) := Lib.hid ⟨x2, GE.out.1.under hb5, (Prod.mk.inj HA.out).1.symm, GE.out.2.trans (StepF.below _ hb5)⟩
      clear hb5
      go_wp2_with fail
      go_ret
      exact ⟨by rw [(Prod.mk.inj HA.out).2]; rfl, HEND⟩
    · rw [e1] at HFW
      have HA := Lib.hid e4
      subst e3
      clear e1 e4 HD
      go_wp2_with fail
      refine HFW.out.mono ?_
      rintro e w5 ⟨rfl, hb5⟩
      have HEND : Hid (∃ y, PBX w5 Q (.slice (some ⟨g, 0, none⟩) n c) (xs.set k y) (xs.set k y) ∧ y.pl = A ∧ StepF w w5 (foot Q (.slice (some ⟨g, 0, none⟩) n c) xs) (foot Q (.slice (some ⟨g, 0, none⟩) n c) (xs.set k y))) := Lib.hid ⟨x2, GE.out.1.under hb5, (Prod.mk.inj HA.out).1.symm, GE.out.2.trans (StepF.below _ hb5)⟩
      obtain ⟨⟨p0, p1, p2⟩, _⟩ := HF.out w5 (GE.out.1.under hb5)
      clear hb5 HF
      go_wp2_with fail
      go_ret
      exact ⟨by rw [(Prod.mk.inj HA.out).2]; rfl, HEND⟩
    · rw [e1] at HFW
      have HA := Lib.hid e3
      have HT := Lib.hid e4
      obtain ⟨u, hu⟩ : ∃ u, q'.length = u := ⟨_, rfl⟩
      have hqu : qn = u + 1 := by rw [← HQN.out, e2, ← hu]; rfl
      have HX3 : Hid (x2.q = t :: q' ∧ x2.qm = x.qm ∧ x2.r = r1 ∧ x2.rm = x.rm ∧ x2.s = x.s) := Lib.hid (by rw [HX2.out]; exact ⟨e2, rfl, rfl, rfl, rfl⟩)
      clear e1 e3 e2 HD e4
      go_wp2_with fail
      refine HFW.out.mono ?_
      rintro e w5 ⟨rfl, hb5⟩
      have P5 := GE.out.1.under hb5
      obtain ⟨⟨p0, p1, p2⟩, p3, p4⟩ := HF.out w5 P5
      have hx5 : (xs.set k x2)[k]? = some x2 := List.getElem?_set_self HKL.out
      have hrow5 : RowAt w5 x.qm (t :: q') := by
        have := P5.rows.row k x2 true hx5
        rw [← HX3.out.1, ← HX3.out.2.1]
        exact this
      obtain ⟨gq, offq, cur, ha, _, hbk, _, hat⟩ := hrow5.some (by simp)
      have c5 : w5.cell? ⟨gq, offq, none⟩ = some (.int .i64 t) := cell_block hbk (hat 0 t rfl)
      obtain ⟨m', hsl, hrow', hown'⟩ := rest_row hrow5
      rw [hu, ← hqu, ha] at hsl
      rw [ha] at p1
      have H6 : Hid (PBX (w5.setCell ⟨g, k * 3 + 1, none⟩ (.slice m'.a u m'.c)) Q (.slice (some ⟨g, 0, none⟩) n c) (xs.set k (x2.put true m' q')) (xs.set k (x2.put true m' q')) ∧ StepF w (w5.setCell ⟨g, k * 3 + 1, none⟩ (.slice m'.a u m'.c)) (foot Q (.slice (some ⟨g, 0, none⟩) n c) xs) (foot Q (.slice (some ⟨g, 0, none⟩) n c) (xs.set k (x2.put true m' q')))) := Lib.hid (by
        obtain ⟨h3, s3⟩ := P5.turn (d := true) (m := m') (l := q') hx5 (⟨only_refl _ _, fun q hq => .inl (by show ownB x2.qm = some q; rw [HX3.out.2.1]; exact hown' q hq)⟩ : Went w5 w5 (rowOf x2 true).1 m') hrow'
        obtain ⟨h4, s4⟩ := h3.store (k := k) (x := x2) (y := x2.put true m' q') (j := 1) (u := .slice m'.a u m'.c) hx5 (by omega) (by rw [← hu]; rfl)
        rw [set_set_row] at h3 h4 s3 s4
        exact ⟨h4, GE.out.2.trans ((StepF.below _ hb5).trans (s3.trans s4))⟩)
      have H7 : Hid (∀ W, PBX W Q (.slice (some ⟨g, 0, none⟩) n c) (xs.set k (x2.put true m' q')) (xs.set k (x2.put true m' q')) → Calls Try.prog 36 #[.pointer (some ⟨g, k * 3, none⟩), .int .i64 t] W fun e w' => e = .returned (.tuple #[]) ∧ Hid (∃ y, PBX w' Q (.slice (some ⟨g, 0, none⟩) n c) (xs.set k y) (xs.set k y) ∧ y.pl = ⟨ins r1 t, q', x.s⟩ ∧ StepF W w' (foot Q (.slice (some ⟨g, 0, none⟩) n c) (xs.set k (x2.put true m' q'))) (foot Q (.slice (some ⟨g, 0, none⟩) n c) (xs.set k y)))) := Lib.hid (fun W hW => by
        have hx7 : (xs.set k (x2.put true m' q'))[k]? = some (x2.put true m' q') := List.getElem?_set_self HKL.out
        have er : (x2.put true m' q').r = r1 := HX3.out.2.2.1
        refine (run_im t W hW hx7 (by rw [er]; exact HR1.out.1) (by rw [er]; exact HT.out) (by rw [er]; exact HR1.out.2)).mono ?_
        rintro e w' ⟨rfl, H⟩
        obtain ⟨m, h1, h2⟩ := H.out
        rw [set_set_row, er] at h1 h2
        exact ⟨rfl, Lib.hid ⟨_, h1, by show (⟨ins r1 t, q', x2.s⟩ : Ln) = _; rw [HX3.out.2.2.2.2], h2⟩⟩)
      have hqp : (0 : Int) < (qn : Int) := by omega
      have hqz : ((qn : Int) == 0) = false := beq_eq_false_iff_ne.2 (by omega)
      have hq0 : 0 < qn := by omega
      clear hb5 P5 hrow5 hbk hat hrow' hown' ha hqu hu hx5 HF HFW
      go_wp2_with fail
      refine (H7.out _ H6.out.1).mono ?_
      rintro e w7 ⟨rfl, H8⟩
      have HEND : Hid (∃ y, PBX w7 Q (.slice (some ⟨g, 0, none⟩) n c) (xs.set k y) (xs.set k y) ∧ y.pl = A ∧ StepF w w7 (foot Q (.slice (some ⟨g, 0, none⟩) n c) xs) (foot Q (.slice (some ⟨g, 0, none⟩) n c) (xs.set k y))) := Lib.hid (by
        obtain ⟨y, h1, h2, h3⟩ := H8.out
        exact ⟨y, h1, h2.trans (Prod.mk.inj HA.out).1.symm, H6.out.2.trans h3⟩)
      clear H8
      go_wp2_with fail
      go_ret
      exact ⟨by rw [(Prod.mk.inj HA.out).2]; rfl, HEND⟩
end Go.Proofs.Ytokkefokodcphaa.Bay
